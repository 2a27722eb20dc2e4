/- TailTrue's walk. -/
import Derived.Test.YtmgkkoajjdgmbaaGreatDoorPart45
import Derived.Test.YtmgkkoajjdgmbaaGreatDoorPart44
import Derived.Test.YtmgkkoajjdgmbaaGreatDoorPart41
import Derived.StillTailTactics
import Derived.Deep.RegionHeld3
import Derived.Deep.RegionHeldLaw
namespace Go.Proofs.YtmgkkoajjdgmbaaGreatDoor
open Go.RowKit Go.Shelf Sm Wr _root_.Go.Proofs.YtmgkkoajjdgmbaaGreatDoor.Nm
set_option linter.unusedVariables false
theorem gQ_may (N p : Nat) (h1 : 1 ≤ N) (h2 : N ≤ 6) (h3 : p < N) : (gQ N p).may = true := (gQ N p).may_iff.2 ⟨by show (1 : Int) ≤ N; omega, by show (N : Int) ≤ 12; omega, by show (0 : Int) ≤ p; omega, by show (p : Int) < N; omega, by show (2 : Int) ≤ 64; decide, by show (64 : Int) ≤ 512; decide, by show (138 : Int) ≤ 4096; decide, by show (10 : Int) + 2 * 64 ≤ 138; decide⟩
set_option maxHeartbeats 8000000 in
set_option maxRecDepth 100000 in
theorem tailTrue_walk (a0 a1 a2 : Int) (a3 : Option Addr) (len3 cap3 : Nat) (z3 : List TTrn) (w : World) (w0 : (Lit.int .u8 a0).wf = true) (w1 : (Lit.int .u8 a1).wf = true) (w2 : (Lit.int .u32 a2).wf = true) (w3 : IsTTurns w a3 len3 cap3 z3) :
    Calls Tryz.prog 7 #[.int .u8 a0, .int .u8 a1, .int .u32 a2, .slice a3 len3 cap3] w fun e w' => e = .returned (.bool true) ∧ Kept w w' := by
  have hb0 := bounds_u8 w0
  have hb1 := bounds_u8 w1
  have hb2 := bounds_u32 w2
  obtain ⟨hS, hl3, hm3⟩ := w3.trns
  obtain ⟨dn, rfl⟩ : ∃ m : Nat, a0 = m := ⟨a0.toNat, by omega⟩
  obtain ⟨pn, rfl⟩ : ∃ m : Nat, a1 = m := ⟨a1.toNat, by omega⟩
  obtain ⟨gen, rfl⟩ : ∃ m : Nat, a2 = m := ⟨a2.toNat, by omega⟩
  have hg4 : gen ≤ 4294967295 := by omega
  have HAL := Lib.hid (fun W => alive_any W)
  have HS := Lib.hid hS
  have HL3 := Lib.hid hl3
  have hm3' : len3 ≤ 9223372036854775807 := by unfold maxLen at hm3; exact hm3
  clear hS hl3 hm3 w0 w1 w2 w3
  have r1 : IntKind.i64.wrap (dn : Int) = (dn : Int) := IntWalk.i64_in _ (by omega)
  obtain ⟨N, hN⟩ : ∃ N : Nat, 1 + (dn : Int) % 6 = N := ⟨1 + dn % 6, by omega⟩
  have hN1 : 1 ≤ N := by omega
  have hN6 : N ≤ 6 := by omega
  have r2 : IntKind.i64.wrap (pn : Int) = (pn : Int) := IntWalk.i64_in _ (by omega)
  obtain ⟨p, hp⟩ : ∃ p : Nat, p = pn % N := ⟨_, rfl⟩
  have hpN : p < N := by rw [hp]; exact Nat.mod_lt _ (by omega)
  have r3 : Int.tmod (pn : Int) (N : Int) = (p : Int) := by rw [Int.tmod_eq_emod_of_nonneg (by omega), hp]; exact (Int.natCast_emod pn N).symm
  have r4 : (pn : Int) % (N : Int) = (p : Int) := by rw [hp]; exact (Int.natCast_emod pn N).symm
  have r5 : IntKind.i64.wrap (p : Int) = (p : Int) := IntWalk.i64_in _ (by omega)
  have r6 : ((N : Int) == 0) = false := by rw [beq_eq_false_iff_ne]; omega
  clear hp
  go_enter Tryz.func7, Tryz.ntmps7
  by_cases hb4 : 60 < len3
  · have d1 : decide ((60 : Int) < (len3 : Int)) = true := decide_eq_true (by omega)
    have f1 : decide (60 < len3) = true := decide_eq_true hb4
    go_wp2_with (go_at_call 9; refine (HAL.out _).mono ?_; rintro e u9 ⟨rfl, k9⟩)
    go_ret
    exact ⟨rfl, k9⟩
  have d1 : decide ((60 : Int) < (len3 : Int)) = false := decide_eq_false (by omega)
  have f1 : decide (60 < len3) = false := decide_eq_false hb4
  by_cases hg0 : gen = 0
  · have e1 : ((gen : Int) == 0) = true := by rw [hg0]; rfl
    go_wp2_with (go_at_call 9; refine (HAL.out _).mono ?_; rintro e u9 ⟨rfl, k9⟩)
    go_ret
    exact ⟨rfl, k9⟩
  have e1 : ((gen : Int) == 0) = false := by rw [beq_eq_false_iff_ne]; omega
  have hn60 : len3 ≤ 60 := by omega
  have HOK : Hid (gOk (gQ N p) gen) := ⟨gQ_may N p hN1 hN6 hpN, by omega, by omega⟩
  have q1 : IntKind.u64.wrap (gen : Int) = (gen : Int) := IntWalk.u64_in _ (by omega)
  go_upto_region 4 with fail
  (try rw [hN])
  have HMK := fun W => make_bools N (by omega) W
  go_region
  clear HMK
  have TA := Lib.hid (tru_laid w N p gen)
  have hG : w.heap.size + 1 < ((w.alloc (.cells (madeCells #[.bool false] N) 4)).alloc (.cells #[.pointer none, .int .i64 (N : Nat), .int .i64 (p : Nat), .int .i64 138, .int .i64 64, .int .u64 (gen : Nat), .pointer none, .slice none 0 0, .slice none 0 0, .slice (some ⟨w.heap.size, 0, none⟩) N N, .int .i64 0] 64)).drew.heap.size := TA.out.lt
  generalize ((w.alloc (.cells (madeCells #[.bool false] N) 4)).alloc (.cells #[.pointer none, .int .i64 (N : Nat), .int .i64 (p : Nat), .int .i64 138, .int .i64 64, .int .u64 (gen : Nat), .pointer none, .slice none 0 0, .slice none 0 0, .slice (some ⟨w.heap.size, 0, none⟩) N N, .int .i64 0] 64)).drew = u1 at *
  have HN7 := Lib.hid (pNew_ok N 138 (by omega) (by omega) (by decide) (by decide) u1)
  generalize u1.heap.size = G at *
  have HG := Lib.hid hG
  clear hG
  clear r1 r2 r3 r4 r5 r6 d1 f1 e1 hN q1
  generalize hxb : w.heap.size + 1 = xb at *
  go_upto_region 6 with (go_at_call 11; refine HN7.out.mono ?_; rintro e u3 ⟨rfl, hk3, hr3, hs3⟩; have K3 := Lib.hid hk3; have R3 := Lib.hid hr3; clear hk3 hr3 hs3)
  have HCE : Hid (∀ W', TruA w N p gen W' → W'.cell? ⟨xb, 1, none⟩ = some (.int .i64 (N : Nat)) ∧ W'.cell? ⟨xb, 2, none⟩ = some (.int .i64 (p : Nat)) ∧ W'.cell? ⟨xb, 3, none⟩ = some (.int .i64 138) ∧ W'.cell? ⟨xb, 4, none⟩ = some (.int .i64 64) ∧ W'.cell? ⟨xb, 5, none⟩ = some (.int .u64 (gen : Nat))) := fun W' t => by
    have z := t.tz
    rw [hxb] at z
    exact ⟨z.c1, z.c2, z.c3, z.c4, z.c5⟩
  have HBG : Hid (∀ W', Kept u3 W' → Calls Tryz.prog 12 #[.pointer (some ⟨G + 1, 0, none⟩), .agg #[.int .i64 (N : Nat), .int .i64 (p : Nat), .int .i64 138, .int .i64 64], .int .u64 (gen : Nat)] W' fun r w' => ∃ (tb : Nat) (v : Value) (s' : RSt), r = .returned (.tuple #[.pointer (some ⟨tb, 0, none⟩), .int .i64 0]) ∧ ∃ W0, Hid (TruA w N p gen W0 ∧ BegS G (gQ N p) gen (rack0 N 138) s' tb v W0 w') ∧ TruA w N p gen w') := fun W' k => by
    have tk := (TA.out.kept K3.out).kept k
    refine (begin_sit G (rack0 N 138) (gQ N p) gen W' (R3.out.kept k) (new_zero HOK.out N 138 rfl rfl) rfl).mono ?_
    rintro r w' ⟨tb, v, s', rfl, hb⟩
    exact ⟨tb, v, s', rfl, W', ⟨tk, hb⟩, tk.only (by rw [hxb]; exact HG.out) hb.on⟩
  go_wp2_with fail
  go_region_held3 (fun W' => W'.cell? ⟨xb, 1, none⟩ = some (.int .i64 (N : Nat)) ∧ W'.cell? ⟨xb, 2, none⟩ = some (.int .i64 (p : Nat)) ∧ W'.cell? ⟨xb, 3, none⟩ = some (.int .i64 138) ∧ W'.cell? ⟨xb, 4, none⟩ = some (.int .i64 64) ∧ W'.cell? ⟨xb, 5, none⟩ = some (.int .u64 (gen : Nat))) (first | exact HCE.out _ (TA.out.kept (K3.out.trans ((Kept.refl _).drewN _))) | exact HCE.out _ (TA.out.kept K3.out) | exact HCE.out _ TA4 | exact HCE.out _ (TA4.kept ((Kept.refl _).drewN _))) (first | (go_at_call 12; refine (HBG.out _ ((Kept.refl _).drewN _)).mono ?_; rintro e u4 ⟨tb, v4, s4, rfl, U0, hb4, TA4⟩))
  have B4 := Lib.hid hb4.out.2
  have T3 := Lib.hid hb4.out.1
  have A4 := Lib.hid TA4
  clear hb4 TA4 HBG HCE
  have HT0 : Hid (TruE w xb G N p gen ((u4.setCell ⟨xb, 0, none⟩ (.pointer (some ⟨G + 1, 0, none⟩))).setCell ⟨xb, 6, none⟩ (.pointer (some ⟨tb, 0, none⟩)))) := by
    have h := tru_start T3.out (by rw [hxb]; exact HG.out) rfl B4.out
    rw [hxb] at h
    exact ⟨_, _, _, _, _, _, _, _, _, _, _, _, _, _, _, h, fun _ => ⟨rfl, rfl⟩⟩
  have hz0 := A4.out.tz
  rw [hxb] at hz0
  have HZ := Lib.hid hz0
  have c0 := hz0.c0
  have f0 := hz0.ty.free 0
  clear hz0
  go_upto_region 10 with fail
  clear c0 f0
  have hz6 := HZ.out.set0 (.pointer (some ⟨G + 1, 0, none⟩))
  generalize u4.setCell ⟨xb, 0, none⟩ (.pointer (some ⟨G + 1, 0, none⟩)) = u5 at *
  have c6 := hz6.c6
  have f6 := hz6.ty.free 6
  clear hz6
  go_upto_region 11 with fail
  clear c6 f6 HZ
  generalize u5.setCell ⟨xb, 6, none⟩ (.pointer (some ⟨tb, 0, none⟩)) = u6 at *
  go_upto_region 13 with fail
  clear A4 B4 T3 K3 R3 TA HN7
  go_loopg [15, 16] len3 (fun gh cv iv wr => ∃ (k : Nat) (c : Int), k + gh = len3 ∧ iv = .int .i64 (k : Nat) ∧ cv = .int .i64 c ∧ -1 ≤ c ∧ c ≤ 100 ∧ Hid (TruE w xb G N p gen wr))
  case atStart => exact ⟨0, -1, by omega, rfl, rfl, by omega, by omega, HT0.out⟩
  case round =>
    clear HT0
    obtain ⟨k, c, hkn, rfl, rfl, hc1, hc2, HR⟩ := hrel
    cases gk with
    | zero =>
      obtain rfl : k = len3 := by omega
      have b1 : decide ((k : Int) < (k : Int)) = false := decide_eq_false (by omega)
      have b1N : decide (k < k) = false := decide_eq_false (by omega)
      have HT9 := Lib.hid HR.out
      clear HR HS HL3 hc1 hc2
      go_upto_region 37 with fail
      clear b1 b1N
      go_loopg [21] 2 (fun gh iv wr => ∃ r : Nat, r + gh = 2 ∧ iv = .int .i64 (r : Nat) ∧ Hid (TruE w xb G N p gen wr))
      case atStart => exact ⟨0, by omega, rfl, HT9.out⟩
      case round =>
        clear HT9
        obtain ⟨r, hrn, rfl, HR⟩ := hrel
        obtain ⟨S, R, h, s, tb1, B1, v1, L, br, sa, sc, ml, ma, mc, qh, ht, hbr⟩ := HR.out
        have HT := Lib.hid ht
        have kwr := Lib.hid ht.kp
        clear ht hbr HR
        cases gk with
        | zero =>
          obtain rfl : r = 2 := by omega
          have b1 : decide (((2 : Nat) : Int) < 2) = false := by decide
          go_wp2_with (go_at_call 9; refine (HAL.out _).mono ?_; rintro e u9 ⟨rfl, k9⟩)
          go_ret
          exact ⟨rfl, kwr.out.trans k9⟩
        | succ gh =>
          have hlt : r < 2 := by omega
          have b1 : decide ((r : Int) < 2) = true := decide_eq_true (by omega)
          have hkw : IntKind.i64.wrap ((r : Int) + 1) = ((r + 1 : Nat) : Int) := by rw [IntWalk.i64_in _ (by omega)]; omega
          have HLD := Lib.hid (loaded_any HT.out hN1 hN6 hpN (-1) (by omega) (by omega))
          go_upto_region 40 with (go_at_call 23; refine HLD.out.mono ?_; rintro e u7 ⟨ov, rfl, k7, hto⟩; have K7 := Lib.hid k7; have HTO := Lib.hid hto; clear k7 hto)
          cases ov with
          | true =>
            go_wp2_with (go_at_call 9; refine (HAL.out _).mono ?_; rintro e u9 ⟨rfl, k9⟩)
            go_ret
            exact ⟨rfl, K7.out.trans k9⟩
          | false =>
            have HT7 := Lib.hid (HTO.out rfl)
            go_wp2_with fail
            go_roundg gh
            all_goals first | omega | exact ⟨r + 1, by omega, by go_num, HT7.out⟩
    | succ gh =>
      have hlt : k < len3 := by omega
      have b1 : decide ((k : Int) < (len3 : Int)) = true := decide_eq_true (by omega)
      have b1N : decide (k < len3) = true := decide_eq_true hlt
      have hkw : IntKind.i64.wrap ((k : Int) + 1) = ((k + 1 : Nat) : Int) := by rw [IntWalk.i64_in _ (by omega)]; omega
      have xi1 : (k : Int) < (len3 : Int) := by omega
      have xi0 : (0 : Int) ≤ (k : Int) := by omega
      have hwi : ((k : Int)).toNat = k := by omega
      rcases HS.out with h0 | ⟨zb, zo, rfl, hzc⟩
      · have := HL3.out
        rw [h0] at this
        exact absurd hlt (by rw [← this]; simp)
      · have hkz : k < z3.length := by rw [HL3.out]; exact hlt
        have HST := Lib.hid (fun W (kk : Kept w W) => (hzc k hkz).kept kk)
        have HBO := Lib.hid ((hzc k hkz).bo)
        have HBN := Lib.hid ((hzc k hkz).bn)
        have HBA := Lib.hid ((hzc k hkz).ba)
        generalize z3[k] = st at *
        clear hzc
        obtain ⟨op, x, n, at'⟩ := st
        have hop : op ≤ 255 := HBO.out
        have hn : n ≤ 255 := HBN.out
        have ha : at' ≤ 255 := HBA.out
        have HCE : Hid (∀ W, Kept w W → W.cell? ⟨zb, zo + k * 4, none⟩ = some (.int .u8 (op : Nat)) ∧ W.cell? ⟨zb, zo + k * 4 + 1, none⟩ = some (.string x) ∧ W.cell? ⟨zb, zo + k * 4 + 2, none⟩ = some (.int .u8 (n : Nat)) ∧ W.cell? ⟨zb, zo + k * 4 + 3, none⟩ = some (.int .u8 (at' : Nat))) := fun W kk => ⟨(HST.out W kk).c0, (HST.out W kk).c1, (HST.out W kk).c2, (HST.out W kk).c3⟩
        clear HBO HBN HBA HST
        obtain ⟨S, R, h, s, tb1, B1, v1, L, br, sa, sc, ml, ma, mc, qh, ht, hbr⟩ := HR.out
        have HT := Lib.hid ht
        have HBR := Lib.hid hbr
        have kwr := Lib.hid ht.kp
        clear ht hbr HR
        obtain ⟨o0, o1, o2, o3⟩ := HCE.out wr kwr.out
        by_cases hx : 1024 < x.size
        · have d2 : decide ((1024 : Int) < (x.size : Int)) = true := decide_eq_true (by omega)
          have d2N : decide (1024 < x.size) = true := decide_eq_true hx
          go_wp2_with (go_at_call 9; refine (HAL.out _).mono ?_; rintro e u9 ⟨rfl, k9⟩)
          go_ret
          exact ⟨rfl, kwr.out.trans k9⟩
        have d2 : decide ((1024 : Int) < (x.size : Int)) = false := decide_eq_false (by omega)
        have d2N : decide (1024 < x.size) = false := decide_eq_false hx
        have hx4 : x.size ≤ 1024 := by omega
        obtain ⟨o8, ho8⟩ : ∃ o8 : Nat, o8 = op % 8 := ⟨_, rfl⟩
        have r1 : Int.tmod (op : Int) 8 = (o8 : Int) := by rw [Int.tmod_eq_emod_of_nonneg (by omega)]; omega
        have r2 : (op : Int) % 8 = (o8 : Int) := by omega
        have r3 : IntKind.u8.wrap (o8 : Int) = (o8 : Int) := IntWalk.u8_in _ (by omega)
        have hz : (o8 = 3 ∨ o8 = 4) ∨ (o8 = 5 ∨ o8 = 6) ∨ o8 = 7 ∨ o8 < 3 := by omega
        clear ho8
        rcases hz with hz | hz | hz | hz
        · have HLD := Lib.hid (loaded_any HT.out hN1 hN6 hpN c hc1 hc2)
          have HL4 : Hid (o8 = 3 ∨ o8 = 4) := hz
          clear hz
          go_upto_if 147 with fail
          go_cut [147] from 147 to 149 (fun bv wx => bv = .bool true ∧ wx = wr)
          case first =>
            rcases HL4.out with hz | hz
            all_goals
              subst hz
              go_wp2_with fail
              go_meet
              case rel => exact ⟨rfl, rfl⟩
          case rest =>
            obtain ⟨rfl, rfl⟩ := hcut
            clear r1 r2 r3
            go_upto_region 27 with (go_at_call 23; refine HLD.out.mono ?_; rintro e u7 ⟨ov, rfl, k7, hto⟩; have K7 := Lib.hid k7; have HTO := Lib.hid hto; clear k7 hto)
            cases ov with
            | true =>
              go_wp2_with (go_at_call 9; refine (HAL.out _).mono ?_; rintro e u9 ⟨rfl, k9⟩)
              go_ret
              exact ⟨rfl, K7.out.trans k9⟩
            | false =>
              have HT7 := Lib.hid (HTO.out rfl)
              go_wp2_with fail
              go_roundg gh
              all_goals first | omega | exact ⟨k + 1, -1, by omega, by go_num, rfl, by omega, by omega, HT7.out⟩
        · have HLO := Lib.hid (lost_any HT.out hN1 hN6 hpN op n at' x hop hn ha)
          have e3 : ((o8 : Int) == 3) = false := by rw [beq_eq_false_iff_ne]; omega
          have e4 : ((o8 : Int) == 4) = false := by rw [beq_eq_false_iff_ne]; omega
          have HL5 : Hid (o8 = 5 ∨ o8 = 6) := hz
          clear hz
          go_upto_if 165 with fail
          go_cut [165] from 165 to 167 (fun bv wx => bv = .bool true ∧ wx = wr)
          case first =>
            rcases HL5.out with hz | hz
            all_goals
              subst hz
              go_wp2_with fail
              go_meet
              case rel => exact ⟨rfl, rfl⟩
          case rest =>
            obtain ⟨rfl, rfl⟩ := hcut
            clear r1 r2 r3
            go_wp2_with (go_at_call 24; refine HLO.out.mono ?_; rintro e u7 ⟨rfl, h', s', t7, hc7⟩; have HT7 : Hid (TruE w xb G N p gen u7) := ⟨S, R, h', s', tb1, B1, v1, L, br, sa, sc, ml, ma, mc, qh, t7, HBR.out⟩; clear t7 hc7)
            go_roundg gh
            all_goals first | omega | exact ⟨k + 1, c, by omega, by go_num, rfl, hc1, hc2, HT7.out⟩
        · have e7 : ((o8 : Int) == 7) = true := by rw [hz]; rfl
          have e3 : ((o8 : Int) == 3) = false := by rw [beq_eq_false_iff_ne]; omega
          have e4 : ((o8 : Int) == 4) = false := by rw [beq_eq_false_iff_ne]; omega
          have e5 : ((o8 : Int) == 5) = false := by rw [beq_eq_false_iff_ne]; omega
          have e6 : ((o8 : Int) == 6) = false := by rw [beq_eq_false_iff_ne]; omega
          have s1 : IntKind.i64.wrap (n : Int) = (n : Int) := IntWalk.i64_in _ (by omega)
          obtain ⟨m20, hm⟩ : ∃ m : Nat, m = n % 20 := ⟨_, rfl⟩
          have s2 : Int.tmod (n : Int) 20 = (m20 : Int) := by rw [Int.tmod_eq_emod_of_nonneg (by omega)]; omega
          have s4 : (n : Int) % 20 = (m20 : Int) := by omega
          have hm20 : m20 ≤ 19 := by omega
          have s3 : IntKind.i64.wrap (m20 : Int) = (m20 : Int) := IntWalk.i64_in _ (by omega)
          have c0 := HT.out.cs.c0
          have HCU := Lib.hid (cut_any G s (m20 : Int) (by omega) (by omega) wr HT.out.st.rk)
          clear hz hm
          go_wp2_with (go_at_call 13; refine HCU.out.mono ?_; rintro e u7 ⟨rfl, hr4, ho4⟩; have HT7 : Hid (TruE w xb G N p gen u7) := ⟨S, R, h, _, tb1, B1, v1, L, br, sa, sc, ml, ma, mc, qh, HT.out.rack hr4 ho4 (HT.out.st.ti.cuts _) (cut_sn _ _), HBR.out⟩; clear hr4 ho4)
          go_roundg gh
          all_goals first | omega | exact ⟨k + 1, (m20 : Int), by omega, by go_num, rfl, by omega, by omega, HT7.out⟩
        · have e3 : ((o8 : Int) == 3) = false := by rw [beq_eq_false_iff_ne]; omega
          have e4 : ((o8 : Int) == 4) = false := by rw [beq_eq_false_iff_ne]; omega
          have e5 : ((o8 : Int) == 5) = false := by rw [beq_eq_false_iff_ne]; omega
          have e6 : ((o8 : Int) == 6) = false := by rw [beq_eq_false_iff_ne]; omega
          have e7 : ((o8 : Int) == 7) = false := by rw [beq_eq_false_iff_ne]; omega
          clear hz
          have c6 := HT.out.cs.c6
          have HAP := Lib.hid ((HT.out.kept ((Kept.refl wr).drew)).append HBR.out x hx4)
          go_upto_region 18 with fail
          clear r1 r2 r3 e3 e4 e5 e6 e7
          go_still_tail 9, (by kernel_rfl)
          change wpList _ _ _ _ _ wr.drew
          go_upto_region 19 with (first | (go_at_call 14; refine HAP.out.mono ?_; rintro e u6 ⟨e8, rfl, ha8⟩; have A8 := Lib.hid ha8; clear ha8))
          clear c6 o0 o1 o2 o3 HAP
          have K6 := Lib.hid A8.out.kp
          have HV : Hid (∀ W', Kept u6 W' → (W'.cell? ⟨xb, 7, none⟩ = some (.slice sa S.length sc) ∧ W'.cell? ⟨zb, zo + k * 4 + 1, none⟩ = some (.string x)) ∧ TruC xb G N p gen (.pointer (some ⟨tb1, 0, none⟩)) (.slice sa S.length sc) (.slice ma ml mc) (.slice (some ⟨qh, 0, none⟩) N N) (cntB h (p + 1)) W' ∧ Strs W' sa S) := fun W' k => by
            have t := HT.out.kept ((Kept.refl wr).drew)
            have hx := t.ax.1
            have h6 := A8.out.size
            have cc := (t.cs.frame (A8.out.block xb t.ax)).frame (k.block xb (by omega))
            exact ⟨⟨cc.c7, (HCE.out W' (K6.out.trans k)).2.1⟩, cc, (strs_blk t.ss fun q o e => A8.out.block q (t.asr q o e).1).kept k⟩
          have HSL : Hid (S.length ≤ 1000) := by
            have h4 : lenT S ≤ 64 := HT.out.st.ti.lenS
            have h6 := len_le S
            show _ ≤ _
            omega
          go_wp2_with fail
          go_cut [20] from 114 to 126 (fun mv wx => ∃ (am : Option Addr) (cm : Nat), mv = .slice am (S.length + 1) cm ∧ Hid (Kept u6 wx ∧ RowN u6.heap.size wx am (S ++ [x])))
          case first =>
            have HE : Hid (Gat u6.heap.size (.slice (some ⟨u6.heap.size, 0, none⟩) 0 0) [] (u6.alloc (.cells #[] 9)).drew ∧ Kept u6 (u6.alloc (.cells #[] 9)).drew) := ⟨(Gat.made (Kept.refl u6)).kept (Kept.refl _).drew, ((Kept.refl u6).alloc _).drew⟩
            have HET : Hid (Gat u6.heap.size (.slice (some ⟨u6.heap.size, 0, none⟩) 0 0) [] ((u6.alloc (.cells #[] 9)).alloc (.cells #[.string x] 9)).drew ∧ Kept u6 ((u6.alloc (.cells #[] 9)).alloc (.cells #[.string x] 9)).drew ∧ ((u6.alloc (.cells #[] 9)).alloc (.cells #[.string x] 9)).drew.cell? ⟨u6.heap.size + 1, 0, none⟩ = some (.string x)) := by
              refine ⟨((Gat.made (Kept.refl u6)).kept ((Kept.refl _).alloc _)).kept (Kept.refl _).drew, (((Kept.refl u6).alloc _).alloc _).drew, ?_⟩
              have h := newT_cell (u6.alloc (.cells #[] 9)) #[.string x] 9 0 _ _ rfl rfl
              rw [size_alloc] at h
              exact cell_keptT h (Kept.refl _).drew
            have HTE : Hid (Gat u6.heap.size (.slice (some ⟨u6.heap.size + 1, 0, none⟩) 0 0) [] ((u6.alloc (.cells #[.string x] 9)).alloc (.cells #[] 9)).drew ∧ Kept u6 ((u6.alloc (.cells #[.string x] 9)).alloc (.cells #[] 9)).drew ∧ ((u6.alloc (.cells #[.string x] 9)).alloc (.cells #[] 9)).drew.cell? ⟨u6.heap.size, 0, none⟩ = some (.string x)) := by
              refine ⟨?_, (((Kept.refl u6).alloc _).alloc _).drew, cell_keptT (newT_cell u6 #[.string x] 9 0 _ _ rfl rfl) (((Kept.refl _).alloc _).drew)⟩
              have h := Gat.made ((Kept.refl u6).alloc (.cells #[.string x] 9))
              rw [size_alloc] at h
              exact h.kept (Kept.refl _).drew
            have HAL1 : Hid (S.length ≤ 1000000) := by have := HSL.out; show _ ≤ _; omega
            go_region_held3 (fun W' => W'.cell? ⟨xb, 7, none⟩ = some (.slice sa S.length sc) ∧ W'.cell? ⟨zb, zo + k * 4 + 1, none⟩ = some (.string x))
              (first
                | exact (HV.out _ (Kept.refl _).drew).1
                | exact (HV.out _ ((Kept.refl _).alloc _).drew).1
                | exact (HV.out _ (((Kept.refl _).alloc _).alloc _).drew).1
                | exact (HV.out _ K9.out).1
                | exact (HV.out _ (K8.out.alloc _)).1
                | exact (HV.out _ K8.out).1
                | exact (HV.out _ (K8.out.drewN _)).1)
              (first
                | (refine step_copyS (u6.alloc (.cells #[] 9)).drew rfl (.tmp 114) (.tmp 118) rfl u6.heap.size HE.out.2.size u6.heap.size HE.out.1 sa sc S (by rfl) (by rfl) ((HV.out _ HE.out.2).2.2) HAL1.out ?_; intro v8 w8 H8; have K8 := Lib.hid (keptT_above HE.out.2 H8.out.2 (fun r hr => by have := Option.some.inj hr; omega)); have G8 := Lib.hid H8.out.1; clear H8)
                | (refine step_copyS ((u6.alloc (.cells #[] 9)).alloc (.cells #[.string x] 9)).drew rfl (.tmp 114) (.tmp 118) rfl u6.heap.size HET.out.2.1.size u6.heap.size HET.out.1 sa sc S (by rfl) (by rfl) ((HV.out _ HET.out.2.1).2.2) HAL1.out ?_; intro v8 w8 H8; have K8 := Lib.hid (keptT_above HET.out.2.1 H8.out.2 (fun r hr => by have := Option.some.inj hr; omega)); have G8 := Lib.hid H8.out.1; have cg : w8.cell? ⟨u6.heap.size + 1, 0, none⟩ = some (.string x) := (World.cell?_of_block (w := ((u6.alloc (.cells #[] 9)).alloc (.cells #[.string x] 9)).drew) (a := ⟨u6.heap.size + 1, 0, none⟩) (H8.out.2.block (u6.heap.size + 1) (block_lt_of_cell HET.out.2.2) (fun e => by have := Option.some.inj e; omega))).trans HET.out.2.2; clear H8)
                | (refine step_copyS ((u6.alloc (.cells #[.string x] 9)).alloc (.cells #[] 9)).drew rfl (.tmp 114) (.tmp 118) rfl u6.heap.size HTE.out.2.1.size (u6.heap.size + 1) HTE.out.1 sa sc S (by rfl) (by rfl) ((HV.out _ HTE.out.2.1).2.2) HAL1.out ?_; intro v8 w8 H8; have K8 := Lib.hid (keptT_above HTE.out.2.1 H8.out.2 (fun r hr => by have := Option.some.inj hr; omega)); have G8 := Lib.hid H8.out.1; have cg' : w8.cell? ⟨u6.heap.size, 0, none⟩ = some (.string x) := (World.cell?_of_block (w := ((u6.alloc (.cells #[.string x] 9)).alloc (.cells #[] 9)).drew) (a := ⟨u6.heap.size, 0, none⟩) (H8.out.2.block u6.heap.size (block_lt_of_cell HTE.out.2.2) (fun e => by have := Option.some.inj e; omega))).trans HTE.out.2.2; clear H8)
                | (refine step_gats rfl (.tmp 119) (.tmp 125) rfl u6.heap.size (K8.out.alloc _).size v8 S (by rfl) (G8.out.kept ((Kept.refl _).alloc _)) x w8.heap.size (by rfl) (by rw [World.cell?_alloc_mark]; rfl) HAL1.out ?_; intro v9 w9 hG9 hg9; have K9 := Lib.hid (keptT_above (K8.out.alloc _) hg9 (fun r hr => (G8.out.lt r hr).1)); have G9 := Lib.hid hG9; clear hG9 hg9)
                | (refine step_gats rfl (.tmp 119) (.tmp 125) rfl u6.heap.size K8.out.size v8 S (by rfl) G8.out x (u6.heap.size + 1) (by rfl) cg HAL1.out ?_; intro v9 w9 hG9 hg9; have K9 := Lib.hid (keptT_above K8.out hg9 (fun r hr => (G8.out.lt r hr).1)); have G9 := Lib.hid hG9; clear hG9 hg9)
                | (refine step_gats rfl (.tmp 119) (.tmp 125) rfl u6.heap.size K8.out.size v8 S (by rfl) G8.out x u6.heap.size (by rfl) cg' HAL1.out ?_; intro v9 w9 hG9 hg9; have K9 := Lib.hid (keptT_above K8.out hg9 (fun r hr => (G8.out.lt r hr).1)); have G9 := Lib.hid hG9; clear hG9 hg9))
            all_goals
              (try simp only [Act.put, List.getElem_toArray, List.getElem_cons_succ, List.getElem_cons_zero, List.setIfInBounds_toArray, List.set_cons_zero, List.set_cons_succ])
              go_wp2_with fail
              go_meet
              case rel =>
                obtain ⟨a9, c9, rfl, hs9⟩ := G9.out.strs
                have hl9 : (S ++ [x]).length = S.length + 1 := by simp
                have hlt9 := G9.out.lt
                rw [hl9]
                exact ⟨a9, c9, rfl, K9.out, hs9, fun q o e => hlt9 q (by rw [e]; rfl)⟩
          case rest =>
            obtain ⟨am, cm, rfl, HM⟩ := hcut
            have hl9 : (S ++ [x]).length = S.length + 1 := by simp
            have CC := Lib.hid ((HV.out wc HM.out.1).2.1)
            have hok := A8.out.ok
            rw [hl9] at hok
            clear hl9
            rcases hok with ⟨he, hto⟩ | ⟨he, hml, hto⟩ | ⟨he0, he1, hto⟩
            · subst he
              have HT8 := Lib.hid (hto wc am cm HM.out.1 HM.out.2)
              clear hto
              have c7 := CC.out.c7
              have f7 := CC.out.ty.free 7
              go_wp2_with fail
              go_roundg gh
              all_goals first | omega | exact ⟨k + 1, c, by omega, by go_num, rfl, hc1, hc2, HT8.out⟩
            · subst he
              subst hml
              have HT8 := Lib.hid (hto wc am cm HM.out.1 HM.out.2)
              clear hto
              have c8 := CC.out.c8
              have f8 := CC.out.ty.free 8
              go_wp2_with fail
              go_roundg gh
              all_goals first | omega | exact ⟨k + 1, c, by omega, by go_num, rfl, hc1, hc2, HT8.out⟩
            · have HT8 := Lib.hid (hto.kept HM.out.1)
              clear hto
              have g0 : ((e8 : Int) == 0) = false := by rw [beq_eq_false_iff_ne]; omega
              have g1 : ((e8 : Int) == 71) = false := by rw [beq_eq_false_iff_ne]; omega
              clear he0 he1
              go_wp2_with fail
              go_roundg gh
              all_goals first | omega | exact ⟨k + 1, c, by omega, by go_num, rfl, hc1, hc2, HT8.out⟩
end Go.Proofs.YtmgkkoajjdgmbaaGreatDoor
