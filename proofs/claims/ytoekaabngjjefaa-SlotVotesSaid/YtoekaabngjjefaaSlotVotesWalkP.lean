/- SlotVotes' walk. -/
import Derived.Test.YtoekaabngjjefaaPart27
import Derived.Test.YtoekaabngjjefaaPart24
import Derived.Test.YtoekaabngjjefaaPart25
import Derived.Deep.QuietTactic
import Derived.BigQuiet
import Derived.Deep.LoopGhost
namespace Go.Proofs.Ytoekaabngjjefaa
open Go.RowKit Go.ChangeShapes Go.WideShapes Sm Wr _root_.Go.Proofs.Ytoekaabngjjefaa.Nm
set_option linter.unusedVariables false
set_option linter.unusedSimpArgs false
theorem decV_two (o : Option Rt) : decV o = .tuple #[(o.getD Rt.none).val, .int .i64 ((if o.isNone then 8 else 0 : Nat) : Int)] := by cases o <;> rfl
set_option maxHeartbeats 16000000 in
set_option maxRecDepth 100000 in
theorem slotVotes_walk (a0 a1 : Int) (a2 : Option Addr) (len2 cap2 : Nat) (z2 : List Int) (a3 : Option Addr) (len3 cap3 : Nat) (z3 : List Int) (a4 : Int) (w : World) (w0 : (Lit.int .u8 a0).wf = true) (w1 : (Lit.int .u8 a1).wf = true) (w2 : IsRow .u8 w a2 len2 cap2 z2) (w3 : IsRow .u8 w a3 len3 cap3 z3) (w4 : (Lit.int .u32 a4).wf = true) :
    Calls Try.prog 4 #[.int .u8 a0, .int .u8 a1, .slice a2 len2 cap2, .slice a3 len3 cap3, .int .u32 a4] w fun e w' => e = .returned (.bool true) ∧ Kept w w' := by
  have hb0 := bounds_u8 w0
  have hb1 := bounds_u8 w1
  have hb4 := bounds_u32 w4
  obtain ⟨hI2, hzl2, hml2, hzw2⟩ := w2.ints
  obtain ⟨hI3, hzl3, hml3, hzw3⟩ := w3.ints
  have hm2 : len2 ≤ 9223372036854775807 := by unfold maxLen at hml2; exact hml2
  have hm3 : len3 ≤ 9223372036854775807 := by unfold maxLen at hml3; exact hml3
  obtain ⟨m, rfl⟩ : ∃ m : Nat, a0 = m := ⟨a0.toNat, by omega⟩
  obtain ⟨r, rfl⟩ : ∃ r : Nat, a1 = r := ⟨a1.toNat, by omega⟩
  obtain ⟨X, rfl⟩ : ∃ X : Nat, a4 = X := ⟨a4.toNat, by omega⟩
  have hwr : IntKind.i64.wrap (m : Int) = (m : Int) := IntWalk.i64_in _ (by omega)
  have hwr2 : IntKind.i64.wrap (r : Int) = (r : Int) := IntWalk.i64_in _ (by omega)
  obtain ⟨N, hN⟩ : ∃ N : Nat, 1 + (m : Int) % 7 = N := ⟨1 + m % 7, by omega⟩
  have hN1 : 1 ≤ N := by omega
  have hN7 : N ≤ 7 := by omega
  have hNz : ¬ (N : Int) = 0 := by omega
  have hNz2 : ((N : Int) == 0) = false := by rw [beq_eq_false_iff_ne]; omega
  obtain ⟨p, hpd⟩ : ∃ p : Nat, p = r % N := ⟨_, rfl⟩
  have hpN : p < N := by rw [hpd]; exact Nat.mod_lt _ (by omega)
  have hp1 : (r : Int) % (N : Int) = (p : Int) := by rw [hpd]; rfl
  have hp2 : (r : Int).tmod (N : Int) = (p : Int) := by rw [Int.tmod_eq_emod_of_nonneg (by omega)]; exact hp1
  have HAL := Lib.hid (fun W => alive_any W)
  have HI2 := Lib.hid hI2
  have HZL2 := Lib.hid hzl2
  have HZW2 := Lib.hid hzw2
  have HI3 := Lib.hid hI3
  have HZL3 := Lib.hid hzl3
  have HZW3 := Lib.hid hzw3
  clear hI2 hzl2 hzw2 hI3 hzl3 hzw3 w3 w0 w1 w2 w4 hml2 hml3 hpd
  generalize z2.take len2 = zs2 at *
  generalize z3.take len3 = zs3 at *
  have K : Hid (Kept w w) := Kept.refl w
  have bad : Hid (∀ f : Bool, True) := fun _ => trivial
  clear bad
  go_enter Try.func4, Try.ntmps4
  by_cases hl2 : 30 < len2
  · have b1 : decide ((30 : Int) < (len2 : Int)) = true := decide_eq_true (by omega)
    have b0 : decide (30 < len2) = true := decide_eq_true hl2
    go_wp2_with fail
    refine (HAL.out _).mono ?_
    rintro e u9 ⟨rfl, hk⟩
    replace K := Lib.hid (K.out.trans hk)
    clear hk
    go_wp2_with fail
    go_ret
    exact ⟨rfl, K.out⟩
  have b1 : decide ((30 : Int) < (len2 : Int)) = false := decide_eq_false (by omega)
  have b0 : decide (30 < len2) = false := decide_eq_false hl2
  by_cases hl3 : 30 < len3
  · have b3 : decide ((30 : Int) < (len3 : Int)) = true := decide_eq_true (by omega)
    have b4 : decide (30 < len3) = true := decide_eq_true hl3
    go_wp2_with fail
    refine (HAL.out _).mono ?_
    rintro e u9 ⟨rfl, hk⟩
    replace K := Lib.hid (K.out.trans hk)
    clear hk
    go_wp2_with fail
    go_ret
    exact ⟨rfl, K.out⟩
  have b3 : decide ((30 : Int) < (len3 : Int)) = false := decide_eq_false (by omega)
  have b4 : decide (30 < len3) = false := decide_eq_false hl3
  by_cases hX : X = 0
  · have e1 : ((X : Int) == 0) = true := by rw [hX]; rfl
    go_wp2_with fail
    refine (HAL.out _).mono ?_
    rintro e u9 ⟨rfl, hk⟩
    replace K := Lib.hid (K.out.trans hk)
    clear hk
    go_wp2_with fail
    go_ret
    exact ⟨rfl, K.out⟩
  have e1 : ((X : Int) == 0) = false := by rw [beq_eq_false_iff_ne]; omega
  have HNEW : Hid (∀ W, Calls Try.prog 13 #[.int .i64 (N : Int), .int .i64 24] W fun r w' => r = .returned (.tuple #[.pointer (some ⟨W.heap.size + 1, 0, none⟩), .int .i64 0]) ∧ Kept W w' ∧ RackAt W.heap.size (rack0 N 24) w' ∧ w'.heap.size = W.heap.size + 2 + N) := fun W => pNew_ok N 24 hN1 (by omega) (by decide) (by decide) W
  clear K
  have K := Lib.hid ((Kept.refl w).alloc (.cells #[.int .i64 (N : Int), .int .i64 (p : Int), .int .i64 24, .int .i64 2] 41))
  have GG : Hid (GeoAt (w.alloc (.cells #[.int .i64 (N : Int), .int .i64 (p : Int), .int .i64 24, .int .i64 2] 41)) w.heap.size ⟨N, p, 24, 2⟩) := GeoAt.laid w 41 ⟨N, p, 24, 2⟩
  go_upto_region 5 with fail
  generalize w.alloc (.cells #[.int .i64 (N : Int), .int .i64 (p : Int), .int .i64 24, .int .i64 2] 41) = u0 at *
  have HNN := Lib.hid hN
  clear hN hwr hwr2 hp1 hp2
  go_wp2_with fail
  refine (HNEW.out _).mono ?_
  rintro e u1 ⟨rfl, hk, hR, hsz⟩
  have hBg : w.heap.size < u0.heap.size := GG.out.lt
  replace K := Lib.hid (K.out.trans hk)
  replace GG := Lib.hid (GG.out.kept hk)
  have RR := Lib.hid hR
  generalize u0.heap.size = g at *
  have HSZ : Hid (g + 2 + N ≤ u1.heap.size) := by show _ ≤ _; omega
  clear hk hR hsz HNEW e1 b1 b0 b3 b4
  obtain ⟨xx, hx⟩ : ∃ x : Rt, x = ⟨1, X, 0, 0, 0⟩ := ⟨_, rfl⟩
  have hxm : xx.may = true := by rw [hx, Rt.may_bool]; dsimp only; omega
  have HXI : Hid (xx.gen = 1 ∧ xx.nxt = X) := by show _; rw [hx]; exact ⟨rfl, rfl⟩
  have HOK := Lib.hid (okfor_write (s := rack0 N 24) (n := N) (z := xx) rfl rfl rfl hxm (fun d hd => okfor_zero (fun _ => rfl) (fun _ => rfl) (by rw [hx]; exact Nat.le_refl _)))
  have HFX : Geo.fits ⟨N, p, 24, 2⟩ (rack0 N 24) = true := geo_fits N p _ hN1 (by omega) hpN rfl rfl
  have HWX := Lib.hid (fun W (h : RackAt g (rack0 N 24) W) => pWriteR_any g (rack0 N 24) ⟨N, p, 24, 2⟩ xx W h)
  rw [docW_is HFX hxm, HOK.out.1] at HWX
  have HWX : Hid (∀ W, RackAt g (rack0 N 24) W → Calls Try.prog 14 #[.pointer (some ⟨g + 1, 0, none⟩), Geo.val ⟨N, p, 24, 2⟩, xx.val] W fun r w' => r = .returned (.int .i64 0) ∧ RackAt g (wrK (rack0 N 24) xx N) w' ∧ Only g (g + 2 + N) W w') := HWX.out
  have HS0 := Lib.hid HOK.out.2
  have HXC : Hid (∀ W : World, W.alloc (.cells #[.int .u64 1, .int .u64 (X : Int), .int .i64 0, .int .u64 0, .int .i64 0] 26) = W.alloc (.cells #[.int .u64 (xx.gen : Nat), .int .u64 (xx.nxt : Nat), .int .i64 xx.row, .int .u64 (xx.st : Nat), .int .i64 xx.len] 26)) := fun W => by rw [hx]; rfl
  have hw1 : IntKind.u64.wrap (X : Int) = (X : Int) := IntWalk.u64_in _ (by omega)
  clear hx hxm HOK HFX
  unfold Geo.val Rt.val at HWX
  generalize wrK (rack0 N 24) xx N = s0 at *
  go_upto_region 7 with fail
  rw [HXC.out]
  have hk : Kept u1 (u1.alloc (.cells #[.int .u64 (xx.gen : Nat), .int .u64 (xx.nxt : Nat), .int .i64 xx.row, .int .u64 (xx.st : Nat), .int .i64 xx.len] 26)) := (Kept.refl _).alloc _
  have XX := Lib.hid (RtAt.laid u1 26 xx)
  have HXB : Hid (g + 2 + N ≤ u1.heap.size) := HSZ.out
  replace K := Lib.hid (K.out.trans hk)
  replace GG := Lib.hid (GG.out.kept hk)
  replace RR := Lib.hid (RR.out.kept hk)
  replace HSZ : Hid (g + 2 + N ≤ (u1.alloc (.cells #[.int .u64 (xx.gen : Nat), .int .u64 (xx.nxt : Nat), .int .i64 xx.row, .int .u64 (xx.st : Nat), .int .i64 xx.len] 26)).heap.size) := Nat.le_trans HSZ.out hk.size
  clear hk HXC hw1
  generalize u1.alloc (.cells #[.int .u64 (xx.gen : Nat), .int .u64 (xx.nxt : Nat), .int .i64 xx.row, .int .u64 (xx.st : Nat), .int .i64 xx.len] 26) = u2 at *
  generalize u1.heap.size = BX at *
  have g0 := GG.out.c0
  have g1 := GG.out.c1
  have g2 := GG.out.c2
  have g3 := GG.out.c3
  dsimp only at g0 g1 g2 g3
  obtain ⟨x0, x1, x2, x3, x4, _, _, _, _, _⟩ := XX.out
  go_wp2_with fail
  refine (HWX.out _ RR.out).mono ?_
  rintro e u3 ⟨rfl, hR, hO⟩
  replace K := Lib.hid (Only.kept K.out (by omega) hO)
  replace GG := Lib.hid (GG.out.onlyLo hO hBg)
  replace XX := Lib.hid (XX.out.only hO HXB.out)
  replace RR := Lib.hid hR
  replace HSZ : Hid (g + 2 + N ≤ u3.heap.size) := Nat.le_trans HSZ.out hO.size
  clear hR hO HWX g0 g1 g2 g3 x0 x1 x2 x3 x4
  have HMK := make_bools N (by omega) u3
  have HH := Lib.hid (HitAt.made u3 N 4)
  have hk : Kept u3 (u3.alloc (.cells (madeCells #[.bool false] N) 4)) := (Kept.refl _).alloc _
  have HQB : Hid (g + 2 + N ≤ u3.heap.size) := HSZ.out
  replace K := Lib.hid (K.out.trans hk)
  replace GG := Lib.hid (GG.out.kept hk)
  replace RR := Lib.hid (RR.out.kept hk)
  replace XX := Lib.hid (XX.out.kept hk)
  clear hk HSZ
  go_upto_region 10 with fail
  generalize u3.alloc (.cells (madeCells #[.bool false] N) 4) = u4 at *
  clear HMK
  generalize u3.heap.size = q0 at *
  go_upto_region 12 with fail
  go_loopg [16, 17, 18] len2 (fun gh hv gv i wr => ∃ (k : Nat) (x : Rt) (s : RSt) (q : Nat), k + gh = len2 ∧ i = .int .i64 k ∧ gv = .int .i64 0 ∧ hv = .slice (some ⟨q, 0, none⟩) N N ∧ Hid (Kept w wr ∧ GeoAt wr w.heap.size ⟨N, p, 24, 2⟩ ∧ RackAt g s wr ∧ Held s N x ∧ RtAt wr BX x ∧ HitAt wr q N (fun _ => false) ∧ g + 2 + N ≤ q ∧ x.gen ≤ 1 + k ∧ x.nxt ≤ 4294967295 + k))
  case atStart => exact ⟨0, xx, s0, q0, by omega, rfl, rfl, rfl, K.out, GG.out, RR.out, HS0.out, XX.out, HH.out, HQB.out, by have := HXI.out.1; omega, by have := HXI.out.2; omega⟩
  case round =>
    obtain ⟨k, x, s, q, hkl, rfl, rfl, rfl, HR⟩ := hrel
    replace K := Lib.hid HR.out.1
    replace GG := Lib.hid HR.out.2.1
    replace RR := Lib.hid HR.out.2.2.1
    have HS := Lib.hid HR.out.2.2.2.1
    replace XX := Lib.hid HR.out.2.2.2.2.1
    replace HH := Lib.hid HR.out.2.2.2.2.2.1
    replace HQB := Lib.hid HR.out.2.2.2.2.2.2.1
    have hxg := HR.out.2.2.2.2.2.2.2.1
    have hxn := HR.out.2.2.2.2.2.2.2.2
    clear HR HS0 HXI
    cases gk with
    | zero =>
      have b2 : decide ((k : Int) < (len2 : Int)) = false := decide_eq_false (by omega)
      have b3 : decide (k < len2) = false := decide_eq_false (by omega)
      go_wp2_with fail
      refine (HAL.out _).mono ?_
      rintro e u9 ⟨rfl, hk⟩
      replace K := Lib.hid (K.out.trans hk)
      clear hk
      go_wp2_with fail
      go_ret
      exact ⟨rfl, K.out⟩
    | succ gh =>
      have b2 : decide ((k : Int) < (len2 : Int)) = true := decide_eq_true (by omega)
      have b3 : decide (k < len2) = true := decide_eq_true (by omega)
      have hkl1 : (k : Int) < (len2 : Int) := by omega
      have hkl2 : k < len2 := by omega
      have hk30 : k < 30 := by omega
      obtain ⟨b, o, hat⟩ := ints_at (HI2.out.kept K.out)
      obtain ⟨rfl, hcell⟩ := hat (by rw [HZL2.out]; omega)
      have HCK : Hid (∀ W, Kept w W → W.cell? ⟨b, o + k, none⟩ = some (.int .u8 (nthI zs2 k))) := fun W kw => by
        obtain ⟨b', o', hat'⟩ := ints_at (HI2.out.kept kw)
        obtain ⟨e, hc⟩ := hat' (by rw [HZL2.out]; omega)
        injection e with e
        injection e with e1 e2
        subst e1 e2
        exact hc k (by rw [HZL2.out]; omega)
      have hbz := bounds_u8 (HZW2.out (zs2[k]'(by rw [HZL2.out]; omega)) (List.getElem_mem _))
      rw [nthI_get] at hbz
      obtain ⟨Z, hZ⟩ : ∃ Z : Nat, nthI zs2 k = Z := ⟨(nthI zs2 k).toNat, by omega⟩
      rw [hZ] at HCK hbz
      clear hat hcell hZ
      have hwz : IntKind.i64.wrap (Z : Int) = (Z : Int) := IntWalk.i64_in _ (by omega)
      obtain ⟨kc, hkc⟩ : ∃ kc : Nat, kc = Z % (N + 2) := ⟨_, rfl⟩
      have hkc1 : (Z : Int) % ((N : Int) + 2) = (kc : Int) := by rw [hkc]; rfl
      have hkc2 : (Z : Int).tmod ((N : Int) + 2) = (kc : Int) := by rw [Int.tmod_eq_emod_of_nonneg (by omega)]; exact hkc1
      have hkcl : kc < N + 2 := by rw [hkc]; exact Nat.mod_lt _ (by omega)
      have hN2z : ¬ (N : Int) + 2 = 0 := by omega
      have hN2z2 : ((N : Int) + 2 == 0) = false := by rw [beq_eq_false_iff_ne]; omega
      clear hkc
      obtain ⟨y, hy⟩ : ∃ y : Rt, y = ⟨x.gen + 1, x.nxt + 1, k, x.nxt, 1⟩ := ⟨_, rfl⟩
      have hxm := Rt.may_iff HS.out.hx
      have HYM : Hid (y.may = true) := by show _ = _; rw [hy, Rt.may_bool]; dsimp only; omega
      have HXY : Hid (x.gen + 1 = y.gen) := by show _ = _; rw [hy]
      have HYI : Hid (y.gen = x.gen + 1 ∧ y.nxt = x.nxt + 1) := by show _; rw [hy]; exact ⟨rfl, rfl⟩
      have HYC : Hid (∀ W : World, W.alloc (.cells #[.int .u64 ((x.gen : Int) + 1), .int .u64 ((x.nxt : Int) + 1), .int .i64 (k : Int), .int .u64 (x.nxt : Int), .int .i64 1] 26) = W.alloc (.cells #[.int .u64 (y.gen : Nat), .int .u64 (y.nxt : Nat), .int .i64 y.row, .int .u64 (y.st : Nat), .int .i64 y.len] 26)) := fun W => by rw [hy]; rfl
      have hw1 : IntKind.u64.wrap ((x.gen : Int) + 1) = (x.gen : Int) + 1 := IntWalk.u64_in _ (by omega)
      have hw2 : IntKind.u64.wrap ((x.nxt : Int) + 1) = (x.nxt : Int) + 1 := IntWalk.u64_in _ (by omega)
      clear hy hxm
      obtain ⟨x0, x1, x2, x3, x4, _, _, _, _, _⟩ := XX.out
      have hBX0 : Hid (BX < wr.heap.size) := XX.out.lt
      have HQY : Hid (q < wr.heap.size) := block_lt_of_cell (HH.out.cell 0 (by omega))
      go_upto_region 15 with fail
      rw [HYC.out]
      clear x0 x1 x2 x3 x4
      have hk : Kept wr (wr.alloc (.cells #[.int .u64 (y.gen : Nat), .int .u64 (y.nxt : Nat), .int .i64 y.row, .int .u64 (y.st : Nat), .int .i64 y.len] 26)) := (Kept.refl _).alloc _
      have YY := Lib.hid (RtAt.laid wr 26 y)
      have HYB : Hid (g + 2 + N ≤ wr.heap.size) := by have := HXB.out; have := hBX0.out; show _ ≤ _; omega
      have HSZ : Hid (g + 2 + N ≤ (wr.alloc (.cells #[.int .u64 (y.gen : Nat), .int .u64 (y.nxt : Nat), .int .i64 y.row, .int .u64 (y.st : Nat), .int .i64 y.len] 26)).heap.size) := Nat.le_trans HYB.out hk.size
      replace K := Lib.hid (K.out.trans hk)
      replace GG := Lib.hid (GG.out.kept hk)
      replace RR := Lib.hid (RR.out.kept hk)
      replace XX := Lib.hid (XX.out.kept hk)
      replace HH := Lib.hid (HH.out.kept hk)
      clear hk HYC hw1 hw2 hBX0
      generalize wr.alloc (.cells #[.int .u64 (y.gen : Nat), .int .u64 (y.nxt : Nat), .int .i64 y.row, .int .u64 (y.st : Nat), .int .i64 y.len] 26) = v1 at *
      generalize wr.heap.size = BY at *
      have hc := HCK.out _ K.out
      have HCUT : Hid (∀ W, RackAt g s W → Calls Try.prog 15 #[.pointer (some ⟨g + 1, 0, none⟩), .int .i64 (kc : Int)] W fun r w' => r = .returned (.int .i64 0) ∧ RackAt g (s.lim true kc) w' ∧ Only g (g + 2 + N) W w') := fun W h => by
        have := cut_any g s (kc : Int) (by omega) (by omega) W h
        rw [show RSt.cutE (kc : Int) = 0 from if_neg (by omega), show s.cutS (kc : Int) = s.lim true kc from by unfold RSt.cutS; rw [if_neg (by omega), Int.toNat_natCast], HS.out.hn] at this
        exact this
      go_wp2_with fail
      refine (HCUT.out _ RR.out).mono ?_
      rintro e v2 ⟨rfl, hR, hO⟩
      replace K := Lib.hid (Only.kept K.out (by omega) hO)
      replace GG := Lib.hid (GG.out.onlyLo hO hBg)
      replace XX := Lib.hid (XX.out.only hO HXB.out)
      replace YY := Lib.hid (YY.out.only hO HYB.out)
      replace HH := Lib.hid (HH.out.only hO HQB.out)
      replace RR := Lib.hid hR
      replace HSZ : Hid (g + 2 + N ≤ v2.heap.size) := Nat.le_trans HSZ.out hO.size
      clear hR hO HCUT hc hkc1 hkc2 hwz
      obtain ⟨E, hE⟩ := cut_write HS.out HYM.out HXY.out kc
      have HFY : Geo.fits ⟨N, p, 24, 2⟩ (s.lim true kc) = true := geo_fits N p _ hN1 (by omega) hpN HS.out.hn HS.out.hm
      have HWY := Lib.hid (fun W (h : RackAt g (s.lim true kc) W) => pWriteR_any g (s.lim true kc) ⟨N, p, 24, 2⟩ y W h)
      rw [docW_is HFY HYM.out, hE] at HWY
      have HWY : Hid (∀ W, RackAt g (s.lim true kc) W → Calls Try.prog 14 #[.pointer (some ⟨g + 1, 0, none⟩), Geo.val ⟨N, p, 24, 2⟩, y.val] W fun r w' => r = .returned (.int .i64 (E : Nat)) ∧ RackAt g (wrK (s.lim true kc) y (min kc N)) w' ∧ Only g (g + 2 + N) W w') := fun W h => by
        have := HWY.out W h
        rw [show (s.lim true kc).n = N from HS.out.hn] at this
        exact this
      have HLF : Hid (∀ W, RackAt g (wrK (s.lim true kc) y (min kc N)) W → Calls Try.prog 16 #[.pointer (some ⟨g + 1, 0, none⟩)] W fun r w' => r = .returned (.int .i64 0) ∧ RackAt g ((wrK (s.lim true kc) y (min kc N)).lim false 0) w' ∧ Only g (g + 2 + N) W w') := fun W h => by
        have := lift_any g (wrK (s.lim true kc) y (min kc N)) W h
        rw [show (wrK (s.lim true kc) y (min kc N)).n = N from HS.out.hn] at this
        exact this
      clear HFY hE
      unfold Geo.val Rt.val at HWY
      have g0 := GG.out.c0
      have g1 := GG.out.c1
      have g2 := GG.out.c2
      have g3 := GG.out.c3
      dsimp only at g0 g1 g2 g3
      obtain ⟨y0, y1, y2, y3, y4, _, _, _, _, _⟩ := YY.out
      go_wp2_with fail
      refine (HWY.out _ RR.out).mono ?_
      rintro e v3 ⟨rfl, hR, hO⟩
      replace K := Lib.hid (Only.kept K.out (by omega) hO)
      replace GG := Lib.hid (GG.out.onlyLo hO hBg)
      replace XX := Lib.hid (XX.out.only hO HXB.out)
      replace YY := Lib.hid (YY.out.only hO HYB.out)
      replace HH := Lib.hid (HH.out.only hO HQB.out)
      replace RR := Lib.hid hR
      replace HSZ : Hid (g + 2 + N ≤ v3.heap.size) := Nat.le_trans HSZ.out hO.size
      clear hR hO HWY g0 g1 g2 g3 y0 y1 y2 y3 y4
      go_wp2_with fail
      refine (HLF.out _ RR.out).mono ?_
      rintro e v4 ⟨rfl, hR, hO⟩
      replace K := Lib.hid (Only.kept K.out (by omega) hO)
      replace GG := Lib.hid (GG.out.onlyLo hO hBg)
      replace XX := Lib.hid (XX.out.only hO HXB.out)
      replace YY := Lib.hid (YY.out.only hO HYB.out)
      replace HH := Lib.hid (HH.out.only hO HQB.out)
      replace RR := Lib.hid hR
      replace HSZ : Hid (g + 2 + N ≤ v4.heap.size) := Nat.le_trans HSZ.out hO.size
      clear hR hO HLF
      have hlr : (s.lim true kc).n = N := HS.out.hn
      have HZT : Hid (∀ W, Kept w W → k < len3 → ∃ b3 o3 Z3, a3 = some ⟨b3, o3, none⟩ ∧ Z3 ≤ 255 ∧ W.cell? ⟨b3, o3 + k, none⟩ = some (.int .u8 (Z3 : Nat))) := fun W kw hk3 => by
        obtain ⟨b3, o3, hat3⟩ := ints_at (HI3.out.kept kw)
        obtain ⟨e3, hc3⟩ := hat3 (by rw [HZL3.out]; omega)
        have hb3 := bounds_u8 (HZW3.out (zs3[k]'(by rw [HZL3.out]; omega)) (List.getElem_mem _))
        rw [nthI_get] at hb3
        refine ⟨b3, o3, (nthI zs3 k).toNat, e3, by omega, ?_⟩
        rw [hc3 k (by rw [HZL3.out]; omega)]
        congr 2
        omega
      clear hlr
      go_upto_region 19 with fail
      obtain ⟨bb, hbb⟩ : ∃ bb : Bool, bb = (decide (k < len3) && decide (0 < p)) := ⟨_, rfl⟩
      have g1 := GG.out.c1
      dsimp only at g1
      go_cut [134] from 78 to 255 (fun v wx => v = .bool bb ∧ wx = v4)
      case first =>
        by_cases hk3 : k < len3
        · obtain ⟨b3, o3, Z3, rfl, hZ3, hc3⟩ := HZT.out _ K.out hk3
          as_aux_lemma =>
            have b5 : decide ((k : Int) < (len3 : Int)) = true := decide_eq_true (by omega)
            have b6 : decide (k < len3) = true := decide_eq_true hk3
            have hk3i : (k : Int) < (len3 : Int) := by omega
            by_cases hp0 : 0 < p
            · have b7 : decide ((0 : Int) < (p : Int)) = true := decide_eq_true (by omega)
              have b8 : decide (0 < p) = true := decide_eq_true hp0
              have hw3 : IntKind.i64.wrap (Z3 : Int) = (Z3 : Int) := IntWalk.i64_in _ (by omega)
              obtain ⟨d3, hd3⟩ : ∃ d3 : Nat, d3 = Z3 % N := ⟨_, rfl⟩
              have hd3N : d3 < N := by rw [hd3]; exact Nat.mod_lt _ (by omega)
              have hd3N2 : (d3 : Int) < (N : Int) := by omega
              have hm1 : (Z3 : Int) % (N : Int) = (d3 : Int) := by rw [hd3]; rfl
              have hm2' : (Z3 : Int).tmod (N : Int) = (d3 : Int) := by rw [Int.tmod_eq_emod_of_nonneg (by omega)]; exact hm1
              have hh3 := HH.out.cell d3 hd3N
              clear hd3
              rw [b6, b8] at hbb
              subst hbb
              go_wp2_with fail
              go_meet
              case rel => exact ⟨rfl, rfl⟩
            · have b7 : decide ((0 : Int) < (p : Int)) = false := decide_eq_false (by omega)
              have b8 : decide (0 < p) = false := decide_eq_false hp0
              rw [b6, b8] at hbb
              subst hbb
              go_wp2_with fail
              go_meet
              case rel => exact ⟨rfl, rfl⟩
        · have b5 : decide ((k : Int) < (len3 : Int)) = false := decide_eq_false (by omega)
          have b6 : decide (k < len3) = false := decide_eq_false hk3
          rw [b6] at hbb
          have hbb2 : bb = false := hbb
          clear hbb
          subst hbb2
          go_wp2_with fail
          go_meet
          case rel => exact ⟨rfl, rfl⟩
      case rest =>
        obtain ⟨rfl, rfl⟩ := hcut
        as_aux_lemma =>
          clear g1
          go_upto_if 134 with fail
          go_cut [17] from 78 to 255 (fun v wx => ∃ wp : Option Nat, (∀ e, wp = some e → e < N ∧ 2 ≤ N ∧ 1 ≤ p) ∧ Hid (Kept w wx ∧ GeoAt wx w.heap.size ⟨N, p, 24, 2⟩ ∧ RackAt g (cutS2 s y kc N wp) wx ∧ RtAt wx BX x ∧ RtAt wx BY y ∧ g + 2 + N ≤ wx.heap.size))
          case first =>
            cases hbv : bb with
            | false =>
              as_aux_lemma =>
                clear hbb hbv
                go_wp2_with fail
                go_meet
                case rel => exact ⟨none, fun e h => absurd h (by simp), K.out, GG.out, RR.out, XX.out, YY.out, HSZ.out⟩
            | true =>
              rw [hbv] at hbb
              as_aux_lemma =>
                have hk3 : k < len3 := by
                  by_cases h : k < len3
                  · exact h
                  · rw [decide_eq_false h] at hbb; cases hbb
                have hp0 : 0 < p := by
                  by_cases h : 0 < p
                  · exact h
                  · rw [decide_eq_false h, Bool.and_false] at hbb; cases hbb
                obtain ⟨b3, o3, Z3, rfl, hZ3, hc3⟩ := HZT.out _ K.out hk3
                have hk3i : (k : Int) < (len3 : Int) := by omega
                have hw3 : IntKind.i64.wrap (Z3 : Int) = (Z3 : Int) := IntWalk.i64_in _ (by omega)
                obtain ⟨d3, hd3⟩ : ∃ d3 : Nat, d3 = Z3 % N := ⟨_, rfl⟩
                have hd3N : d3 < N := by rw [hd3]; exact Nat.mod_lt _ (by omega)
                have hd3N2 : (d3 : Int) < (N : Int) := by omega
                have hm1 : (Z3 : Int) % (N : Int) = (d3 : Int) := by rw [hd3]; rfl
                have hm2' : (Z3 : Int).tmod (N : Int) = (d3 : Int) := by rw [Int.tmod_eq_emod_of_nonneg (by omega)]; exact hm1
                have hh3 := HH.out.cell d3 hd3N
                have hf3 := HH.out.free d3 hd3N
                clear hd3 hbb hbv
                have OQ : Only q (q + 1) wc (wc.setCell ⟨q, d3, none⟩ (.bool true)) := (Only.refl _ _ _).setCell _ _ (Nat.le_refl _) (Nat.lt_succ_self _)
                have HQBv := HQB.out
                have HQYv := HQY.out
                have hXQ : BX ≠ q := by
                  intro e
                  have h1 := XX.out.c0
                  rw [e] at h1
                  have h2 := HH.out.cell 0 (by omega)
                  rw [h1] at h2
                  cases h2
                have KW : Hid (Kept w (wc.setCell ⟨q, d3, none⟩ (.bool true))) := K.out.setCell (p := ⟨q, d3, none⟩) (by show _ ≤ q; omega) _
                have GW := Lib.hid (GG.out.onlyLo OQ (by omega))
                have RW := Lib.hid (RR.out.only OQ (.inr (by show g + 2 + s.n ≤ q; rw [HS.out.hn]; omega)))
                have XW : Hid (RtAt (wc.setCell ⟨q, d3, none⟩ (.bool true)) BX x) := XX.out.frame (OQ.block BX XX.out.lt (by omega))
                have YW : Hid (RtAt (wc.setCell ⟨q, d3, none⟩ (.bool true)) BY y) := YY.out.frame (OQ.block BY YY.out.lt (by omega))
                have HSW : Hid (g + 2 + N ≤ (wc.setCell ⟨q, d3, none⟩ (.bool true)).heap.size) := Nat.le_trans HSZ.out OQ.size
                have hc3' : (wc.setCell ⟨q, d3, none⟩ (.bool true)).cell? ⟨b3, o3 + k, none⟩ = some (.int .u8 (Z3 : Nat)) := by
                  obtain ⟨b4, o4, Z4, e4, _, hc4⟩ := HZT.out _ KW.out hk3
                  obtain ⟨b5, o5, Z5, e5, _, hc5⟩ := HZT.out w (Kept.refl w) hk3
                  injection e4 with e4
                  injection e4 with e4 e4'
                  injection e5 with e5
                  injection e5 with e5 e5'
                  subst e4 e4' e5 e5'
                  have h1 := Below.cell KW.out (p := ⟨b3, o3 + k, none⟩) (block_lt_of_cell hc5)
                  have h2 := Below.cell K.out (p := ⟨b3, o3 + k, none⟩) (block_lt_of_cell hc5)
                  rw [h1, ← h2, hc3]
                have HWP : Hid (∀ W, RackAt g ((wrK (s.lim true kc) y (min kc N)).lim false 0) W → Calls Try.prog 17 #[.pointer (some ⟨g + 1, 0, none⟩), .int .i64 (d3 : Int)] W fun r w' => r = .returned (.int .i64 0) ∧ RackAt g (cutS2 s y kc N (some d3)) w' ∧ Only g (g + 2 + N) W w') := fun W h => by
                  have := wipe_any g ((wrK (s.lim true kc) y (min kc N)).lim false 0) (d3 : Int) (by omega) (by omega) W h
                  have hdr : ((wrK (s.lim true kc) y (min kc N)).lim false 0).drive (d3 : Int) = true := by
                    unfold RSt.drive
                    exact decide_eq_true ⟨by omega, by show (d3 : Int) < (s.n : Nat); rw [HS.out.hn]; omega⟩
                  unfold RSt.wipeE RSt.wipeS at this
                  rw [hdr, if_pos rfl, if_pos rfl, Int.toNat_natCast] at this
                  have hn' : ((wrK (s.lim true kc) y (min kc N)).lim false 0).n = N := HS.out.hn
                  rw [hn'] at this
                  exact this
                go_wp2_with fail
                refine (HWP.out _ RW.out).mono ?_
                rintro e v5 ⟨rfl, hR, hO⟩
                have KX : Hid (Kept w v5) := Only.kept KW.out (by omega) hO
                have GX := Lib.hid (GW.out.onlyLo hO hBg)
                have RX := Lib.hid hR
                have XN := Lib.hid (XW.out.only hO HXB.out)
                have YN := Lib.hid (YW.out.only hO HYB.out)
                have HSX : Hid (g + 2 + N ≤ v5.heap.size) := Nat.le_trans HSW.out hO.size
                clear hR hO
                go_wp2_with fail
                go_meet
                case rel => exact ⟨some d3, fun e h => by injection h with h; subst h; exact ⟨hd3N, by omega, hp0⟩, KX.out, GX.out, RX.out, XN.out, YN.out, HSX.out⟩
          case rest =>
            obtain ⟨wp, hwp, HC⟩ := hcut
            as_aux_lemma =>
              clear K GG RR XX YY HH HSZ hbb HZT
              have K := Lib.hid HC.out.1
              have GG := Lib.hid HC.out.2.1
              have RR := Lib.hid HC.out.2.2.1
              have XX := Lib.hid HC.out.2.2.2.1
              have YY := Lib.hid HC.out.2.2.2.2.1
              have HSZ := Lib.hid HC.out.2.2.2.2.2
              clear HC
              have CS := Lib.hid (cut_size HS.out HYM.out HXY.out kc wp)
              have CR := Lib.hid (fun d hd => cut_read HS.out HYM.out HXY.out kc wp d hd)
              have HFW : Hid (Geo.fits ⟨N, p, 24, 2⟩ (cutS2 s y kc N wp) = true) := geo_fits N p _ hN1 (by omega) hpN CS.out.1 CS.out.2.1
              obtain ⟨has, CV, CL⟩ := cut_vote HS.out HYM.out HXY.out kc wp ⟨N, p, 24, 2⟩ p rfl HFW.out hN1 hwp
              obtain ⟨zr, hzr⟩ : ∃ zr : Rt, zr = if thr (min kc N) wp N = true then y else x := ⟨_, rfl⟩
              rw [← hzr] at CV
              have CA := Lib.hid (cut_again HS.out HYM.out HXY.out kc wp zr hzr)
              have HZE := Lib.hid hzr
              have HCL := Lib.hid CL
              have ZG1 : zr.gen ≤ 1 + (k + 1) := by rw [hzr]; have := HYI.out; split <;> omega
              have ZG2 : zr.nxt ≤ 4294967295 + (k + 1) := by rw [hzr]; have := HYI.out; split <;> omega
              have HVT := Lib.hid (fun W (h : RackAt g (cutS2 s y kc N wp) W) => pVote_any g (cutS2 s y kc N wp) ⟨N, p, 24, 2⟩ W h)
              rw [CV] at HVT
              clear hzr CL CV hwp
              generalize cutS2 s y kc N wp = sW at *
              generalize min kc N = j at *
              have hme := y.me_lt
              have hm1 : (y.gen : Int) % 2 = (y.me : Nat) := by unfold Rt.me; omega
              have hm2' : (y.gen : Int).tmod 2 = (y.me : Nat) := by unfold Rt.me; rw [Int.tmod_eq_emod_of_nonneg (by omega)]; omega
              have hm3' : IntKind.u64.wrap (y.me : Int) = (y.me : Int) := IntWalk.u64_in _ (by omega)
              have hm4 : IntKind.i64.wrap (y.me : Int) = (y.me : Int) := IntWalk.i64_in _ (by omega)
              go_upto_region 25 with fail
              go_loopg [21, 22] N (fun g2 tv t wy => ∃ d : Nat, d + g2 = N ∧ t = .int .i64 d ∧ tv = .bool (thr j wp d) ∧ Hid (Kept wc wy))
              case atStart => exact ⟨0, by omega, rfl, rfl, Kept.refl _⟩
              case round =>
                obtain ⟨d, hd, rfl, rfl, KL⟩ := hrel
                cases gk with
                | succ g2 =>
                  have b4 : decide ((d : Int) < (N : Int)) = true := decide_eq_true (by omega)
                  have b5 : decide (d < N) = true := decide_eq_true (by omega)
                  have hdN : d < N := by omega
                  have HRD := Lib.hid (fun W (h : RackAt g sW W) => read_any g sW d (y.me : Nat) (by omega) (by omega) (by omega) (by omega) W h)
                  have hsz := readT_64 sW RR.out.wf d (y.me : Nat) (CR.out d hdN).1
                  have HDC := Lib.hid (fun W => pDecode_any (sW.readT d (y.me : Nat)) W (by rw [hsz]; decide))
                  rw [(CR.out d hdN).1] at HRD
                  have HO := Lib.hid (CR.out d hdN).2
                  have HTH := Lib.hid (thr_next j wp d)
                  as_aux_lemma =>
                    generalize decR (sW.readT d (y.me : Nat)).data.toList = od at *
                    generalize sW.readT d (y.me : Nat) = T at *
                    rw [decV_two] at HDC
                    obtain ⟨zq, hzq⟩ : ∃ zq, zq = od.getD Rt.none := ⟨_, rfl⟩
                    obtain ⟨fe, hfe⟩ : ∃ fe : Nat, fe = if od.isNone then 8 else 0 := ⟨_, rfl⟩
                    rw [← hzq, ← hfe] at HDC
                    have HZQ := Lib.hid hzq
                    have HFE := Lib.hid hfe
                    clear hsz hzq hfe
                    obtain ⟨y0, y1, y2, y3, y4, _, _, _, _, _⟩ := YY.out.kept KL.out
                    go_wp2_with fail
                    refine (HRD.out _ (RR.out.kept KL.out)).mono ?_
                    rintro e c1 ⟨rfl, hk1⟩
                    have KM1 : Hid (Kept wc c1) := KL.out.trans hk1
                    clear hk1 HRD KL y0 y1 y2 y3 y4
                    go_wp2_with fail
                    refine (HDC.out _).mono ?_
                    rintro e c2 ⟨rfl, hk1⟩
                    have KM2 : Hid (Kept wc c2) := KM1.out.trans hk1
                    clear hk1 HDC KM1
                    unfold Rt.val
                    go_upto_region 29 with fail
                    have Z1 := Lib.hid (RtAt.laid c2 26 zq)
                    have KM3 : Hid (Kept wc (c2.alloc (.cells #[.int .u64 (zq.gen : Nat), .int .u64 (zq.nxt : Nat), .int .i64 zq.row, .int .u64 (zq.st : Nat), .int .i64 zq.len] 26))) := KM2.out.alloc _
                    clear KM2
                    generalize c2.alloc (.cells #[.int .u64 (zq.gen : Nat), .int .u64 (zq.nxt : Nat), .int .i64 zq.row, .int .u64 (zq.st : Nat), .int .i64 zq.len] 26) = c3 at *
                    generalize c2.heap.size = BC at *
                    obtain ⟨y0, y1, y2, y3, y4, _, _, _, _, _⟩ := YY.out.kept KM3.out
                    obtain ⟨d0, d1, d2, d3, d4, _, _, _, _, _⟩ := Z1.out
                    clear Z1
                    have HNT : Hid (∀ tb, thr j wp d = tb → ∀ bv : Bool, (bv = true ↔ tb = true ∨ od = some y) → Value.bool bv = Value.bool (thr j wp (d + 1))) := fun tb htb bv hbv => by
                      congr 1
                      rw [HTH.out, Bool.eq_iff_iff, hbv, Bool.or_eq_true, htb, ← HO.out]
                    cases htv : thr j wp d with
                    | true =>
                      have HTV := Lib.hid htv
                      clear htv
                      go_wp2_with fail
                      go_roundg g2
                      case measure => omega
                      case rel => exact ⟨d + 1, by omega, by go_num, HNT.out _ HTV.out _ (by simp), KM3.out⟩
                    | false =>
                      have HTV := Lib.hid htv
                      clear htv
                      by_cases hoy : od = some y
                      · have hq : zq = y := by rw [HZQ.out, hoy]; rfl
                        have hf : fe = 0 := by rw [HFE.out, hoy]; rfl
                        rw [hq] at d0 d1 d2 d3 d4
                        subst hf
                        have HOY := Lib.hid hoy
                        clear HZQ HFE hoy hq
                        go_wp2_with fail
                        go_roundg g2
                        case measure => omega
                        case rel => exact ⟨d + 1, by omega, by go_num, HNT.out _ HTV.out _ (by have := HOY.out; simp [this]), KM3.out⟩
                      · have HOY := Lib.hid hoy
                        cases hod : od with
                        | none =>
                          have hf : fe = 8 := by rw [HFE.out, hod]; rfl
                          subst hf
                          clear HZQ HFE hoy hod
                          go_wp2_with fail
                          go_roundg g2
                          case measure => omega
                          case rel => exact ⟨d + 1, by omega, by go_num, HNT.out _ HTV.out _ (by have := HOY.out; simp [this]), KM3.out⟩
                        | some zz =>
                          have hf : fe = 0 := by rw [HFE.out, hod]; rfl
                          have hq : zq = zz := by rw [HZQ.out, hod]; rfl
                          subst hf
                          have key : (((zq.gen : Int) = (y.gen : Int)) = False) ∨ (((zq.gen : Int) = (y.gen : Int)) = True ∧ ((zq.nxt : Int) = (y.nxt : Int)) = False) ∨ (((zq.gen : Int) = (y.gen : Int)) = True ∧ ((zq.nxt : Int) = (y.nxt : Int)) = True ∧ (zq.row = y.row) = False) ∨ (((zq.gen : Int) = (y.gen : Int)) = True ∧ ((zq.nxt : Int) = (y.nxt : Int)) = True ∧ (zq.row = y.row) = True ∧ ((zq.st : Int) = (y.st : Int)) = False) ∨ (((zq.gen : Int) = (y.gen : Int)) = True ∧ ((zq.nxt : Int) = (y.nxt : Int)) = True ∧ (zq.row = y.row) = True ∧ ((zq.st : Int) = (y.st : Int)) = True ∧ (zq.len = y.len) = False) := by
                            have hne : ¬ (zq.gen = y.gen ∧ zq.nxt = y.nxt ∧ zq.row = y.row ∧ zq.st = y.st ∧ zq.len = y.len) := fun h => hoy (by rw [hod, ← hq, Rt.eq_of h.1 h.2.1 h.2.2.1 h.2.2.2.1 h.2.2.2.2])
                            simp only [eq_iff_iff, iff_true, iff_false]
                            omega
                          clear HZQ HFE hoy hod hq
                          rcases key with k0 | ⟨k0, k1⟩ | ⟨k0, k1, k2⟩ | ⟨k0, k1, k2, k3⟩ | ⟨k0, k1, k2, k3, k4⟩
                          all_goals
                            go_wp2_with fail
                            go_roundg g2
                            case measure => omega
                            case rel => exact ⟨d + 1, by omega, by go_num, HNT.out _ HTV.out _ (by have := HOY.out; simp [this]), KM3.out⟩
                | zero =>
                  have b4 : decide ((d : Int) < (N : Int)) = false := decide_eq_false (by omega)
                  have b5 : decide (d < N) = false := decide_eq_false (by omega)
                  obtain rfl : N = d := by omega
                  replace K := Lib.hid (K.out.trans KL.out)
                  replace GG := Lib.hid (GG.out.kept KL.out)
                  replace RR := Lib.hid (RR.out.kept KL.out)
                  replace XX := Lib.hid (XX.out.kept KL.out)
                  replace YY := Lib.hid (YY.out.kept KL.out)
                  replace HSZ : Hid (g + 2 + N ≤ wr.heap.size) := Nat.le_trans HSZ.out KL.out.size
                  clear KL hm1 hm2' hm3' hm4
                  unfold Geo.val Rt.val at HVT
                  have g0 := GG.out.c0
                  have g1 := GG.out.c1
                  have g2 := GG.out.c2
                  have g3 := GG.out.c3
                  dsimp only at g0 g1 g2 g3 HVT
                  go_wp2_with fail
                  refine (HVT.out _ RR.out).mono ?_
                  rintro e t1 ⟨⟨hv, rfl, hGB⟩, hk⟩
                  replace K := Lib.hid (K.out.trans hk)
                  replace GG := Lib.hid (GG.out.kept hk)
                  replace RR := Lib.hid (RR.out.kept hk)
                  replace XX := Lib.hid (XX.out.kept hk)
                  replace YY := Lib.hid (YY.out.kept hk)
                  replace HSZ : Hid (g + 2 + N ≤ t1.heap.size) := Nat.le_trans HSZ.out hk.size
                  obtain ⟨ha', hc', rfl, _⟩ := hGB.bls
                  rw [HCL.out]
                  clear hk hGB HVT g0 g1 g2 g3
                  go_upto_region 31 with fail
                  have ZZ := Lib.hid (RtAt.laid t1 26 zr)
                  have hk : Kept t1 (t1.alloc (.cells #[.int .u64 (zr.gen : Nat), .int .u64 (zr.nxt : Nat), .int .i64 zr.row, .int .u64 (zr.st : Nat), .int .i64 zr.len] 26)) := (Kept.refl _).alloc _
                  replace K := Lib.hid (K.out.trans hk)
                  replace GG := Lib.hid (GG.out.kept hk)
                  replace RR := Lib.hid (RR.out.kept hk)
                  replace XX := Lib.hid (XX.out.kept hk)
                  replace YY := Lib.hid (YY.out.kept hk)
                  replace HSZ : Hid (g + 2 + N ≤ (t1.alloc (.cells #[.int .u64 (zr.gen : Nat), .int .u64 (zr.nxt : Nat), .int .i64 zr.row, .int .u64 (zr.st : Nat), .int .i64 zr.len] 26)).heap.size) := Nat.le_trans HSZ.out hk.size
                  clear hk
                  generalize t1.alloc (.cells #[.int .u64 (zr.gen : Nat), .int .u64 (zr.nxt : Nat), .int .i64 zr.row, .int .u64 (zr.st : Nat), .int .i64 zr.len] 26) = v7 at *
                  generalize t1.heap.size = BQ at *
                  go_cut [21, 216] from 78 to 255 (fun _ v wx => v = .bool false ∧ wx = v7)
                  case first =>
                    as_aux_lemma =>
                      obtain ⟨x0, x1, x2, x3, x4, _, _, _, _, _⟩ := XX.out
                      obtain ⟨y0, y1, y2, y3, y4, _, _, _, _, _⟩ := YY.out
                      obtain ⟨d0, d1, d2, d3, d4, _, _, _, _, _⟩ := ZZ.out
                      cases hth : thr j wp N with
                      | true =>
                        have hz : zr = y := by rw [HZE.out, hth, if_pos rfl]
                        rw [hz] at d0 d1 d2 d3 d4
                        clear hz hth
                        go_wp2_with fail
                        go_meet
                        case rel => exact ⟨rfl, rfl⟩
                      | false =>
                        have hz : zr = x := by rw [HZE.out, hth, if_neg (by decide)]
                        rw [hz] at d0 d1 d2 d3 d4
                        clear hz hth
                        go_wp2_with fail
                        go_meet
                        case rel => exact ⟨rfl, rfl⟩
                  case rest =>
                    obtain ⟨rfl, rfl⟩ := hcut
                    as_aux_lemma =>
                      have HWZ := Lib.hid (fun W (h : RackAt g sW W) => pWriteR_any g sW ⟨N, p, 24, 2⟩ zr W h)
                      have HZM : Hid (zr.may = true) := CA.out.2.hx
                      rw [docW_is HFW.out HZM.out, CA.out.1] at HWZ
                      have HWZ : Hid (∀ W, RackAt g sW W → Calls Try.prog 14 #[.pointer (some ⟨g + 1, 0, none⟩), Geo.val ⟨N, p, 24, 2⟩, zr.val] W fun r w' => r = .returned (.int .i64 0) ∧ RackAt g (wrK sW zr N) w' ∧ Only g (g + 2 + N) W w') := fun W h => by
                        have := HWZ.out W h
                        rw [CS.out.1] at this
                        exact this
                      have HVA := Lib.hid (fun W (h : RackAt g (wrK sW zr N) W) => pVote_any g (wrK sW zr N) ⟨N, p, 24, 2⟩ W h)
                      rw [voteR_all (wrK sW zr N) ⟨N, p, 24, 2⟩ zr (geo_fits N p _ hN1 (by omega) hpN CA.out.2.hn CA.out.2.hm) (by show (0 : Int) ≤ (p : Int); omega) HZM.out (by rw [CA.out.2.hn]; exact hN1) (by rw [CA.out.2.hm]; decide) (by unfold RSt.down; rw [CA.out.2.cut]; rfl) (fun d hd => CA.out.2.all d (by rw [← CA.out.2.hn]; exact hd))] at HVA
                      rw [CA.out.2.hn] at HVA
                      have HSN := Lib.hid CA.out.2
                      have hsw : sW.n = N := CS.out.1
                      clear CA CR HZE HFW CS
                      generalize wrK sW zr N = s3 at *
                      have HP := Lib.hid (XX.out.put zr)
                      have HKP := Lib.hid (putRt_kept K.out BX zr (by have := HXB.out; omega))
                      have BP := putRt_but wc BX zr
                      have hBX := HXB.out
                      have GP := Lib.hid (GG.out.frame (BP.block w.heap.size GG.out.lt (by omega)))
                      have OP : Only BX (BX + 1) wc (putRt wc BX zr) := ⟨BP.os, BP.tape, BP.output, BP.size, fun b hb hn => BP.block b hb (by omega)⟩
                      have RP := Lib.hid (RR.out.only OP (.inr (by rw [hsw]; omega)))
                      have SP : Hid (g + 2 + N ≤ (putRt wc BX zr).heap.size) := Nat.le_trans HSZ.out OP.size
                      obtain ⟨p0, p1, p2, p3, p4, f0, f1, f2, f3, f4⟩ := XX.out
                      obtain ⟨d0, d1, d2, d3, d4, _, _, _, _, _⟩ := ZZ.out
                      unfold putRt at HP HKP GP RP SP
                      clear BP OP K XX YY ZZ GG RR HSZ hsw
                      go_upto_region 34 with fail
                      clear p0 p1 p2 p3 p4 f0 f1 f2 f3 f4 d0 d1 d2 d3 d4
                      generalize ((((wc.setCell ⟨BX, 0, none⟩ (.int .u64 (zr.gen : Nat))).setCell ⟨BX, 1, none⟩ (.int .u64 (zr.nxt : Nat))).setCell ⟨BX, 2, none⟩ (.int .i64 zr.row)).setCell ⟨BX, 3, none⟩ (.int .u64 (zr.st : Nat))).setCell ⟨BX, 4, none⟩ (.int .i64 zr.len) = v8 at *
                      have g0 := GP.out.c0
                      have g1 := GP.out.c1
                      have g2 := GP.out.c2
                      have g3 := GP.out.c3
                      dsimp only at g0 g1 g2 g3
                      obtain ⟨x0, x1, x2, x3, x4, _, _, _, _, _⟩ := HP.out
                      unfold Geo.val Rt.val at HWZ HVA
                      dsimp only at HWZ HVA
                      go_wp2_with fail
                      refine (HWZ.out _ RP.out).mono ?_
                      rintro e v9 ⟨rfl, hR, hO⟩
                      have K9 := Lib.hid (Only.kept HKP.out (by omega) hO)
                      have G9 := Lib.hid (GP.out.onlyLo hO hBg)
                      have X9 := Lib.hid (HP.out.only hO HXB.out)
                      have R9 := Lib.hid hR
                      have S9 : Hid (g + 2 + N ≤ v9.heap.size) := Nat.le_trans SP.out hO.size
                      clear hR hO HWZ g0 g1 g2 g3 x0 x1 x2 x3 x4 SP HP HKP GP RP
                      have HMK := make_bools N (by omega) v9
                      have H9 := Lib.hid (HitAt.made v9 N 4)
                      have hk : Kept v9 (v9.alloc (.cells (madeCells #[.bool false] N) 4)) := (Kept.refl _).alloc _
                      replace K9 := Lib.hid (K9.out.trans hk)
                      replace G9 := Lib.hid (G9.out.kept hk)
                      replace R9 := Lib.hid (R9.out.kept hk)
                      replace X9 := Lib.hid (X9.out.kept hk)
                      clear hk
                      go_upto_region 37 with fail
                      generalize v9.alloc (.cells (madeCells #[.bool false] N) 4) = v10 at *
                      clear HMK
                      generalize v9.heap.size = qn at *
                      have g0 := G9.out.c0
                      have g1 := G9.out.c1
                      have g2 := G9.out.c2
                      have g3 := G9.out.c3
                      dsimp only at g0 g1 g2 g3
                      go_wp2_with fail
                      refine (HVA.out _ R9.out).mono ?_
                      rintro e v11 ⟨⟨hv, rfl, hGB⟩, hk⟩
                      replace K9 := Lib.hid (K9.out.trans hk)
                      replace G9 := Lib.hid (G9.out.kept hk)
                      replace R9 := Lib.hid (R9.out.kept hk)
                      replace X9 := Lib.hid (X9.out.kept hk)
                      replace H9 := Lib.hid (H9.out.kept hk)
                      have hBl := hGB.bls
                      clear hk hGB HVA g0 g1 g2 g3
                      go_upto_region 39 with fail
                      have Z1 := Lib.hid (RtAt.laid v11 26 zr)
                      have hk : Kept v11 (v11.alloc (.cells #[.int .u64 (zr.gen : Nat), .int .u64 (zr.nxt : Nat), .int .i64 zr.row, .int .u64 (zr.st : Nat), .int .i64 zr.len] 26)) := (Kept.refl _).alloc _
                      replace K9 := Lib.hid (K9.out.trans hk)
                      replace G9 := Lib.hid (G9.out.kept hk)
                      replace R9 := Lib.hid (R9.out.kept hk)
                      replace X9 := Lib.hid (X9.out.kept hk)
                      replace H9 := Lib.hid (H9.out.kept hk)
                      obtain ⟨ha', hc', rfl, hcl'⟩ := hBl.kept hk
                      obtain ⟨qv, rfl, hcv⟩ := hcl' (by rw [List.length_replicate]; omega)
                      rw [List.length_replicate]
                      have HCV : Hid (∀ j, j < N → (v11.alloc (.cells #[.int .u64 (zr.gen : Nat), .int .u64 (zr.nxt : Nat), .int .i64 zr.row, .int .u64 (zr.st : Nat), .int .i64 zr.len] 26)).cell? ⟨qv, j, none⟩ = some (.bool true)) := fun j hj => by
                        have := hcv j (by rw [List.length_replicate]; exact hj)
                        rw [this]
                        congr 2
                        simp [hj]
                      clear hk hBl hcl' hcv
                      generalize v11.alloc (.cells #[.int .u64 (zr.gen : Nat), .int .u64 (zr.nxt : Nat), .int .i64 zr.row, .int .u64 (zr.st : Nat), .int .i64 zr.len] 26) = v12 at *
                      generalize v11.heap.size = BZ at *
                      go_upto_region 40 with fail
                      go_loopg [31] N (fun g2 t wy => ∃ d : Nat, d + g2 = N ∧ t = .int .i64 d ∧ Hid (Kept v12 wy))
                      case atStart => exact ⟨0, by omega, rfl, Kept.refl _⟩
                      case round =>
                        obtain ⟨d, hd, rfl, KL⟩ := hrel
                        cases gk with
                        | succ g2 =>
                          have b4 : decide ((d : Int) < (N : Int)) = true := decide_eq_true (by omega)
                          have b5 : decide (d < N) = true := decide_eq_true (by omega)
                          have hdN : d < N := by omega
                          have hdN2 : (d : Int) < (N : Int) := by omega
                          have h1 := HCV.out d hdN
                          rw [← Below.cell KL.out (p := ⟨qv, d, none⟩) (block_lt_of_cell h1)] at h1
                          go_wp2_with fail
                          go_roundg g2
                          case measure => omega
                          case rel => exact ⟨d + 1, by omega, by go_num, KL.out⟩
                        | zero =>
                          have b4 : decide ((d : Int) < (N : Int)) = false := decide_eq_false (by omega)
                          have b5 : decide (d < N) = false := decide_eq_false (by omega)
                          replace K9 := Lib.hid (K9.out.trans KL.out)
                          replace G9 := Lib.hid (G9.out.kept KL.out)
                          replace R9 := Lib.hid (R9.out.kept KL.out)
                          replace X9 := Lib.hid (X9.out.kept KL.out)
                          replace H9 := Lib.hid (H9.out.kept KL.out)
                          obtain ⟨x0, x1, x2, x3, x4, _, _, _, _, _⟩ := X9.out
                          obtain ⟨d0, d1, d2, d3, d4, _, _, _, _, _⟩ := Z1.out.kept KL.out
                          go_wp2_with fail
                          go_roundg gh
                          case measure => omega
                          case rel => exact ⟨k + 1, zr, s3, qn, by omega, by go_num, rfl, rfl, K9.out, G9.out, R9.out, HSN.out, X9.out, H9.out, S9.out, ZG1, ZG2⟩
end Go.Proofs.Ytoekaabngjjefaa
