/- SlotSpoilt's walk. -/
import Derived.Test.YtoekaabngjjefaaPart27
import Derived.Test.YtoekaabngjjefaaPart24
import Derived.Test.YtoekaabngjjefaaPart25
import Derived.Deep.QuietTactic
import Derived.BigQuiet
import Derived.Deep.LoopGhost
namespace Go.Proofs.Ytoekaabngjjefaa
open Go.RowKit Go.ChangeShapes Go.WideShapes Sm Wr _root_.Go.Proofs.Ytoekaabngjjefaa.Nm
set_option linter.unusedVariables false
set_option linter.unusedSimpArgs false
set_option maxHeartbeats 8000000 in
set_option maxRecDepth 100000 in
theorem slotSpoilt_true (a0 a1 a2 : Int) (a3 : Option Addr) (len3 cap3 : Nat) (z3 : List Int) (w : World) (w0 : (Lit.int .u8 a0).wf = true) (w1 : (Lit.int .u8 a1).wf = true) (w2 : (Lit.int .u32 a2).wf = true) (w3 : IsRow .u8 w a3 len3 cap3 z3) :
    Calls Try.prog 6 #[.int .u8 a0, .int .u8 a1, .int .u32 a2, .slice a3 len3 cap3, .bool true] w fun e w' => e = .returned (.bool true) ∧ Kept w w' := by
  have hb0 := bounds_u8 w0
  have hb1 := bounds_u8 w1
  have hb2 := bounds_u32 w2
  obtain ⟨hI, hzl, hml, hzw⟩ := w3.ints
  have hml2 : len3 ≤ 9223372036854775807 := by unfold maxLen at hml; exact hml
  obtain ⟨m, rfl⟩ : ∃ m : Nat, a0 = m := ⟨a0.toNat, by omega⟩
  obtain ⟨r, rfl⟩ : ∃ r : Nat, a1 = r := ⟨a1.toNat, by omega⟩
  obtain ⟨G, rfl⟩ : ∃ G : Nat, a2 = G := ⟨a2.toNat, by omega⟩
  have hwr : IntKind.i64.wrap (m : Int) = (m : Int) := IntWalk.i64_in _ (by omega)
  have hwr2 : IntKind.i64.wrap (r : Int) = (r : Int) := IntWalk.i64_in _ (by omega)
  obtain ⟨N, hN⟩ : ∃ N : Nat, 1 + (m : Int) % 7 = N := ⟨1 + m % 7, by omega⟩
  have hN1 : 1 ≤ N := by omega
  have hN7 : N ≤ 7 := by omega
  have hNz : ¬ (N : Int) = 0 := by omega
  have hNz2 : ((N : Int) == 0) = false := by rw [beq_eq_false_iff_ne]; omega
  obtain ⟨p, hpd⟩ : ∃ p : Nat, p = r % N := ⟨_, rfl⟩
  have hpN : p < N := by rw [hpd]; exact Nat.mod_lt _ (by omega)
  have hp1 : (r : Int) % (N : Int) = (p : Int) := by rw [hpd]; rfl
  have hp2 : (r : Int).tmod (N : Int) = (p : Int) := by rw [Int.tmod_eq_emod_of_nonneg (by omega)]; exact hp1
  have HAL := Lib.hid (fun W => alive_any W)
  have HI := Lib.hid hI
  have HZL := Lib.hid hzl
  have HZW := Lib.hid hzw
  clear hI hzl hzw w3 w0 w1 w2 hml hpd
  generalize z3.take len3 = zs at *
  have K := Lib.hid ((Kept.refl w).alloc (.cells #[.int .i64 (N : Int), .int .i64 (p : Int), .int .i64 24, .int .i64 2] 41))
  have GG : Hid (GeoAt (w.alloc (.cells #[.int .i64 (N : Int), .int .i64 (p : Int), .int .i64 24, .int .i64 2] 41)) w.heap.size ⟨N, p, 24, 2⟩) := GeoAt.laid w 41 ⟨N, p, 24, 2⟩
  go_enter Try.func6, Try.ntmps6
  go_upto_region 3 with fail
  generalize w.alloc (.cells #[.int .i64 (N : Int), .int .i64 (p : Int), .int .i64 24, .int .i64 2] 41) = u0 at *
  have HNN := Lib.hid hN
  clear hN hwr hwr2 hp1 hp2
  by_cases hG : G = 0
  · have e1 : ((G : Int) == 0) = true := by rw [hG]; rfl
    go_wp2_with fail
    refine (HAL.out _).mono ?_
    rintro e u9 ⟨rfl, hk⟩
    replace K := Lib.hid (K.out.trans hk)
    clear hk
    go_wp2_with fail
    go_ret
    exact ⟨rfl, K.out⟩
  · have e1 : ((G : Int) == 0) = false := by rw [beq_eq_false_iff_ne]; omega
    by_cases hlong : 30 < len3
    · have b1 : decide ((30 : Int) < (len3 : Int)) = true := decide_eq_true (by omega)
      have b0 : decide (30 < len3) = true := decide_eq_true hlong
      go_wp2_with fail
      refine (HAL.out _).mono ?_
      rintro e u9 ⟨rfl, hk⟩
      replace K := Lib.hid (K.out.trans hk)
      clear hk
      go_wp2_with fail
      go_ret
      exact ⟨rfl, K.out⟩
    · have b1 : decide ((30 : Int) < (len3 : Int)) = false := decide_eq_false (by omega)
      have b0 : decide (30 < len3) = false := decide_eq_false hlong
      have HNEW : Hid (∀ W, Calls Try.prog 13 #[.int .i64 (N : Int), .int .i64 24] W fun r w' => r = .returned (.tuple #[.pointer (some ⟨W.heap.size + 1, 0, none⟩), .int .i64 0]) ∧ Kept W w' ∧ RackAt W.heap.size (rack0 N 24) w' ∧ w'.heap.size = W.heap.size + 2 + N) := fun W => pNew_ok N 24 hN1 (by omega) (by decide) (by decide) W
      go_wp2_with fail
      refine (HNEW.out _).mono ?_
      rintro e u1 ⟨rfl, hk, hR, hsz⟩
      have hBg : w.heap.size < u0.heap.size := GG.out.lt
      replace K := Lib.hid (K.out.trans hk)
      replace GG := Lib.hid (GG.out.kept hk)
      have RR := Lib.hid hR
      generalize u0.heap.size = g at *
      have HSZ : Hid (g + 2 + N ≤ u1.heap.size) := by show _ ≤ _; omega
      clear hk hR hsz HNEW e1 b1 b0
      obtain ⟨x, hx⟩ : ∃ x : Rt, x = ⟨G, 7, 0, 0, 0⟩ := ⟨_, rfl⟩
      obtain ⟨y, hy⟩ : ∃ y : Rt, y = ⟨G + 1, 9, 0, 0, 0⟩ := ⟨_, rfl⟩
      have hxm : x.may = true := by rw [hx, Rt.may_bool]; dsimp only; omega
      have hym : y.may = true := by rw [hy, Rt.may_bool]; dsimp only; omega
      have hxg : x.gen = G := by rw [hx]
      have hyg : y.gen = G + 1 := by rw [hy]
      have HTX := Lib.hid ((Turned.start N G).next x hxm (by rw [hxg]; rfl) (by omega) (by decide))
      have HTY := Lib.hid (HTX.out.2.next y hym (by rw [hyg]; rfl) (by omega) (by simp))
      have HFX : Geo.fits ⟨N, p, 24, 2⟩ (rack0 N 24) = true := geo_fits N p _ hN1 (by omega) hpN rfl rfl
      have HFY : Geo.fits ⟨N, p, 24, 2⟩ (wrK (rack0 N 24) x N) = true := geo_fits N p _ hN1 (by omega) hpN rfl rfl
      have HWX := Lib.hid (fun W (h : RackAt g (rack0 N 24) W) => pWriteR_any g (rack0 N 24) ⟨N, p, 24, 2⟩ x W h)
      rw [docW_is HFX hxm, HTX.out.1] at HWX
      have HWY := Lib.hid (fun W (h : RackAt g (wrK (rack0 N 24) x N) W) => pWriteR_any g (wrK (rack0 N 24) x N) ⟨N, p, 24, 2⟩ y W h)
      rw [docW_is HFY hym, HTY.out.1] at HWY
      have HWX : Hid (∀ W, RackAt g (rack0 N 24) W → Calls Try.prog 14 #[.pointer (some ⟨g + 1, 0, none⟩), Geo.val ⟨N, p, 24, 2⟩, x.val] W fun r w' => r = .returned (.int .i64 0) ∧ RackAt g (wrK (rack0 N 24) x N) w' ∧ Only g (g + 2 + N) W w') := HWX.out
      have HWY : Hid (∀ W, RackAt g (wrK (rack0 N 24) x N) W → Calls Try.prog 14 #[.pointer (some ⟨g + 1, 0, none⟩), Geo.val ⟨N, p, 24, 2⟩, y.val] W fun r w' => r = .returned (.int .i64 0) ∧ RackAt g (wrK (wrK (rack0 N 24) x N) y N) w' ∧ Only g (g + 2 + N) W w') := HWY.out
      have HSP := Lib.hid (fun a => Spt.start (xs := [x]) (y := y) HTY.out.2 a)
      unfold Geo.val Rt.val at HWX HWY
      have HYM := Lib.hid hym
      have HXG := Lib.hid hxg
      have HYG := Lib.hid hyg
      have HXC : Hid (∀ W : World, W.alloc (.cells #[.int .u64 (G : Int), .int .u64 7, .int .i64 0, .int .u64 0, .int .i64 0] 26) = W.alloc (.cells #[.int .u64 (x.gen : Nat), .int .u64 (x.nxt : Nat), .int .i64 x.row, .int .u64 (x.st : Nat), .int .i64 x.len] 26)) := fun W => by rw [hx]; rfl
      have HYC : Hid (∀ W : World, W.alloc (.cells #[.int .u64 ((G : Int) + 1), .int .u64 9, .int .i64 0, .int .u64 0, .int .i64 0] 26) = W.alloc (.cells #[.int .u64 (y.gen : Nat), .int .u64 (y.nxt : Nat), .int .i64 y.row, .int .u64 (y.st : Nat), .int .i64 y.len] 26)) := fun W => by rw [hy]; rfl
      have hw1 : IntKind.u64.wrap (G : Int) = (G : Int) := IntWalk.u64_in _ (by omega)
      have hw2 : IntKind.u64.wrap ((G : Int) + 1) = (G : Int) + 1 := IntWalk.u64_in _ (by omega)
      clear hx hy hxm hym hxg hyg HTX HTY HFX HFY
      generalize wrK (wrK (rack0 N 24) x N) y N = s2 at *
      generalize wrK (rack0 N 24) x N = s1 at *
      go_upto_region 7 with fail
      rw [HXC.out]
      have hk : Kept u1 (u1.alloc (.cells #[.int .u64 (x.gen : Nat), .int .u64 (x.nxt : Nat), .int .i64 x.row, .int .u64 (x.st : Nat), .int .i64 x.len] 26)) := (Kept.refl _).alloc _
      have XX := Lib.hid (RtAt.laid u1 26 x)
      have HXB : Hid (g + 2 + N ≤ u1.heap.size) := HSZ.out
      replace K := Lib.hid (K.out.trans hk)
      replace GG := Lib.hid (GG.out.kept hk)
      replace RR := Lib.hid (RR.out.kept hk)
      replace HSZ : Hid (g + 2 + N ≤ (u1.alloc (.cells #[.int .u64 (x.gen : Nat), .int .u64 (x.nxt : Nat), .int .i64 x.row, .int .u64 (x.st : Nat), .int .i64 x.len] 26)).heap.size) := Nat.le_trans HSZ.out hk.size
      clear hk HXC
      generalize u1.alloc (.cells #[.int .u64 (x.gen : Nat), .int .u64 (x.nxt : Nat), .int .i64 x.row, .int .u64 (x.st : Nat), .int .i64 x.len] 26) = u2 at *
      generalize u1.heap.size = BX at *
      go_upto_region 8 with fail
      rw [HYC.out]
      have hk : Kept u2 (u2.alloc (.cells #[.int .u64 (y.gen : Nat), .int .u64 (y.nxt : Nat), .int .i64 y.row, .int .u64 (y.st : Nat), .int .i64 y.len] 26)) := (Kept.refl _).alloc _
      have YY := Lib.hid (RtAt.laid u2 26 y)
      have HYB : Hid (g + 2 + N ≤ u2.heap.size) := HSZ.out
      replace K := Lib.hid (K.out.trans hk)
      replace GG := Lib.hid (GG.out.kept hk)
      replace RR := Lib.hid (RR.out.kept hk)
      replace XX := Lib.hid (XX.out.kept hk)
      replace HSZ : Hid (g + 2 + N ≤ (u2.alloc (.cells #[.int .u64 (y.gen : Nat), .int .u64 (y.nxt : Nat), .int .i64 y.row, .int .u64 (y.st : Nat), .int .i64 y.len] 26)).heap.size) := Nat.le_trans HSZ.out hk.size
      clear hk HYC hw1 hw2
      generalize u2.alloc (.cells #[.int .u64 (y.gen : Nat), .int .u64 (y.nxt : Nat), .int .i64 y.row, .int .u64 (y.st : Nat), .int .i64 y.len] 26) = u3 at *
      generalize u2.heap.size = BY at *
      have g0 := GG.out.c0
      have g1 := GG.out.c1
      have g2 := GG.out.c2
      have g3 := GG.out.c3
      dsimp only at g0 g1 g2 g3
      obtain ⟨x0, x1, x2, x3, x4, _, _, _, _, _⟩ := XX.out
      go_wp2_with fail
      refine (HWX.out _ RR.out).mono ?_
      rintro e u4 ⟨rfl, hR, hO⟩
      replace K := Lib.hid (Only.kept K.out (by omega) hO)
      replace GG := Lib.hid (GG.out.onlyLo hO hBg)
      replace XX := Lib.hid (XX.out.only hO HXB.out)
      replace YY := Lib.hid (YY.out.only hO HYB.out)
      replace RR := Lib.hid hR
      replace HSZ : Hid (g + 2 + N ≤ u4.heap.size) := Nat.le_trans HSZ.out hO.size
      clear hR hO HWX g0 g1 g2 g3 x0 x1 x2 x3 x4
      have g0 := GG.out.c0
      have g1 := GG.out.c1
      have g2 := GG.out.c2
      have g3 := GG.out.c3
      dsimp only at g0 g1 g2 g3
      obtain ⟨y0, y1, y2, y3, y4, _, _, _, _, _⟩ := YY.out
      go_wp2_with fail
      refine (HWY.out _ RR.out).mono ?_
      rintro e u5 ⟨rfl, hR, hO⟩
      replace K := Lib.hid (Only.kept K.out (by omega) hO)
      replace GG := Lib.hid (GG.out.onlyLo hO hBg)
      replace XX := Lib.hid (XX.out.only hO HXB.out)
      replace YY := Lib.hid (YY.out.only hO HYB.out)
      replace RR := Lib.hid hR
      replace HSZ : Hid (g + 2 + N ≤ u5.heap.size) := Nat.le_trans HSZ.out hO.size
      clear hR hO HWY g0 g1 g2 g3 y0 y1 y2 y3 y4
      have HXQ : Hid (BX < u5.heap.size) := XX.out.lt
      have HYQ : Hid (BY < u5.heap.size) := YY.out.lt
      have HMK := make_bools N (by omega) u5
      have HH := Lib.hid (HitAt.made u5 N 4)
      have hk : Kept u5 (u5.alloc (.cells (madeCells #[.bool false] N) 4)) := (Kept.refl _).alloc _
      have HQB : Hid (g + 2 + N ≤ u5.heap.size) := HSZ.out
      replace K := Lib.hid (K.out.trans hk)
      replace GG := Lib.hid (GG.out.kept hk)
      replace RR := Lib.hid (RR.out.kept hk)
      replace XX := Lib.hid (XX.out.kept hk)
      replace YY := Lib.hid (YY.out.kept hk)
      clear hk HSZ
      obtain ⟨a, ha⟩ : ∃ a : Nat, a = x.me := ⟨_, rfl⟩
      have HA : Hid (a < 2) := by show _ < _; rw [ha]; exact x.me_lt
      have HAD := Lib.hid ha
      clear ha
      go_upto_region 11 with fail
      generalize u5.alloc (.cells (madeCells #[.bool false] N) 4) = u6 at *
      clear HMK
      generalize u5.heap.size = q at *
      go_upto_region 13 with fail
      have HZH : Hid (hits (fun _ => false) N = 0) := hits_none N
      go_loopg [18, 19] len3 (fun gh c i wr => ∃ (k : Nat) (hit : Nat → Bool) (s : RSt), k + gh = len3 ∧ i = .int .i64 k ∧ c = .int .i64 (hits hit N : Nat) ∧ Hid (Kept w wr ∧ GeoAt wr w.heap.size ⟨N, p, 24, 2⟩ ∧ RackAt g s wr ∧ Spt s N y a hit ∧ HitAt wr q N hit ∧ RtAt wr BX x ∧ RtAt wr BY y))
      case atStart => exact ⟨0, fun _ => false, s2, by omega, rfl, by rw [HZH.out]; rfl, K.out, GG.out, RR.out, HSP.out a, HH.out, XX.out, YY.out⟩
      case round =>
        obtain ⟨k, hit, s, hkl, rfl, rfl, HR⟩ := hrel
        replace K := Lib.hid HR.out.1
        replace GG := Lib.hid HR.out.2.1
        replace RR := Lib.hid HR.out.2.2.1
        have HS := Lib.hid HR.out.2.2.2.1
        replace HH := Lib.hid HR.out.2.2.2.2.1
        replace XX := Lib.hid HR.out.2.2.2.2.2.1
        replace YY := Lib.hid HR.out.2.2.2.2.2.2
        clear HR HZH
        have hcl := hits_le hit N
        cases gk with
        | succ gh =>
          have b2 : decide ((k : Int) < (len3 : Int)) = true := decide_eq_true (by omega)
          have b3 : decide (k < len3) = true := decide_eq_true (by omega)
          have hkl1 : (k : Int) < (len3 : Int) := by omega
          have hkl2 : k < len3 := by omega
          have hz := (HI.out.kept K.out)
          obtain ⟨b, o, hat⟩ := ints_at hz
          obtain ⟨rfl, hcell⟩ := hat (by rw [HZL.out]; omega)
          have hc := hcell k (by rw [HZL.out]; omega)
          have hbz := bounds_u8 (HZW.out (zs[k]'(by rw [HZL.out]; omega)) (List.getElem_mem _))
          rw [nthI_get] at hbz
          obtain ⟨Z, hZ⟩ : ∃ Z : Nat, nthI zs k = Z := ⟨(nthI zs k).toNat, by omega⟩
          rw [hZ] at hc hbz
          clear hz hat hcell hZ
          have hwz : IntKind.i64.wrap (Z : Int) = (Z : Int) := IntWalk.i64_in _ (by omega)
          obtain ⟨d, hdd⟩ : ∃ d : Nat, d = Z % N := ⟨_, rfl⟩
          have hdN : d < N := by rw [hdd]; exact Nat.mod_lt _ (by omega)
          have hdN2 : (d : Int) < (N : Int) := by omega
          have hd1 : (Z : Int) % (N : Int) = (d : Int) := by rw [hdd]; rfl
          have hd2 : (Z : Int).tmod (N : Int) = (d : Int) := by rw [Int.tmod_eq_emod_of_nonneg (by omega)]; exact hd1
          clear hdd
          have hcd := HH.out.cell d hdN
          have hfd := HH.out.free d hdN
          have HHT := Lib.hid (HS.out.hit d hdN HA.out)
          have HST := Lib.hid (HH.out.set d hdN)
          cases hhd : hit d with
          | true =>
            rw [hhd] at hcd
            go_wp2_with fail
            go_roundg gh
            case measure => omega
            case rel => exact ⟨k + 1, hit, s, by omega, by go_num, rfl, K.out, GG.out, RR.out, HS.out, HH.out, XX.out, YY.out⟩
          | false =>
            rw [hhd] at hcd
            have HAD2 := Lib.hid (hits_add hit d hhd N hdN)
            clear hhd
            have KW : Hid (Kept w (wr.setCell ⟨q, d, none⟩ (.bool true))) := K.out.setCell (p := ⟨q, d, none⟩) (by have := HQB.out; show _ ≤ q; omega) _
            have OQ : Hid (Only q (q + 1) wr (wr.setCell ⟨q, d, none⟩ (.bool true))) := (Only.refl _ _ _).setCell _ _ (Nat.le_refl _) (Nat.lt_succ_self _)
            have HQBv := HQB.out
            have hrn : s.n = N := HS.out.hn
            replace RR := Lib.hid (RR.out.only OQ.out (.inr (by rw [hrn]; omega)))
            replace GG := Lib.hid (GG.out.onlyLo OQ.out (by omega))
            have HSPN := Lib.hid (fun W (h : RackAt g s W) => spoil_any g s d a (by omega) (by omega) (by omega) (by have := HA.out; omega) W h)
            rw [HHT.out.1] at HSPN
            rw [hrn] at HSPN
            have XQ : Hid (RtAt (wr.setCell ⟨q, d, none⟩ (.bool true)) BX x) := XX.out.frame (OQ.out.block BX XX.out.lt (by have := HXQ.out; omega))
            have YQ : Hid (RtAt (wr.setCell ⟨q, d, none⟩ (.bool true)) BY y) := YY.out.frame (OQ.out.block BY YY.out.lt (by have := HYQ.out; omega))
            have x0 := XQ.out.c0
            have y0 := YQ.out.c0
            have hg1 : (x.gen : Int) % 2 = (x.me : Nat) := by unfold Rt.me; omega
            have hg2 : (y.gen : Int) % 2 = (y.me : Nat) := by unfold Rt.me; omega
            have hm3 : IntKind.u64.wrap (x.me : Int) = (x.me : Int) := IntWalk.u64_in _ (by have := x.me_lt; omega)
            have hm4 : IntKind.i64.wrap (x.me : Int) = (x.me : Int) := IntWalk.i64_in _ (by have := x.me_lt; omega)
            have hm5 : IntKind.u64.wrap (y.me : Int) = (y.me : Int) := IntWalk.u64_in _ (by have := y.me_lt; omega)
            have hm6 : IntKind.i64.wrap (y.me : Int) = (y.me : Int) := IntWalk.i64_in _ (by have := y.me_lt; omega)
            have haa : a = x.me := HAD.out
            rw [haa] at HSPN
            go_wp2_with fail
            refine (HSPN.out _ RR.out).mono ?_
            rintro e v1 ⟨rfl, hR, hO⟩
            have hqg : g + 2 + N ≤ q := by have := HQB.out; omega
            have KX : Hid (Kept w v1) := Only.kept KW.out (by omega) hO
            have GX := Lib.hid (GG.out.onlyLo hO hBg)
            have RX := Lib.hid hR
            have HX := Lib.hid (HST.out.only hO hqg)
            have XN := Lib.hid (XQ.out.only hO HXB.out)
            have YN := Lib.hid (YQ.out.only hO HYB.out)
            clear hR hO
            go_wp2_with fail
            go_roundg gh
            case measure => omega
            case rel => exact ⟨k + 1, _, _, by omega, by go_num, by rw [HAD2.out]; rfl, KX.out, GX.out, by rw [haa]; exact RX.out, HHT.out.2, HX.out, XN.out, YN.out⟩
        | zero =>
          have b2 : decide ((k : Int) < (len3 : Int)) = false := decide_eq_false (by omega)
          have b3 : decide (k < len3) = false := decide_eq_false (by omega)
          have HVT := Lib.hid (fun W (h : RackAt g s W) => pVote_any g s ⟨N, p, 24, 2⟩ W h)
          have HSV := Lib.hid (HS.out.vote ⟨N, p, 24, 2⟩ p rfl (geo_fits N p s hN1 (by omega) hpN HS.out.hn HS.out.hm) HYM.out HA.out hpN)
          have g0 := GG.out.c0
          have g1 := GG.out.c1
          have g2 := GG.out.c2
          have g3 := GG.out.c3
          dsimp only at g0 g1 g2 g3
          by_cases hlost : p < hits hit N
          · rw [HSV.out.1 hlost] at HVT
            have b4 : decide ((p : Int) < ((hits hit N : Nat) : Int)) = true := decide_eq_true (by omega)
            have b5 : decide (p < hits hit N) = true := decide_eq_true hlost
            unfold Geo.val Rt.val at HVT
            dsimp only [Rt.none] at HVT
            go_wp2_with fail
            refine (HVT.out _ RR.out).mono ?_
            rintro e v1 ⟨⟨hv, rfl, hGB⟩, hk1⟩
            replace K := Lib.hid (K.out.trans hk1)
            replace GG := Lib.hid (GG.out.kept hk1)
            obtain ⟨ha', hc', rfl, _⟩ := hGB.bls
            clear hk1 hGB HVT g0 g1 g2 g3
            go_upto_region 24 with fail
            have Y1 := Lib.hid (RtAt.new v1 26)
            have hk1 : Kept v1 (v1.alloc (.cells #[.int .u64 0, .int .u64 0, .int .i64 0, .int .u64 0, .int .i64 0] 26)) := (Kept.refl _).alloc _
            replace K := Lib.hid (K.out.trans hk1)
            replace GG := Lib.hid (GG.out.kept hk1)
            clear hk1
            generalize v1.alloc (.cells #[.int .u64 0, .int .u64 0, .int .i64 0, .int .u64 0, .int .i64 0] 26) = v2 at *
            generalize v1.heap.size = BZ at *
            have g1 := GG.out.c1
            obtain ⟨d0, d1, d2, d3, d4, _, _, _, _, _⟩ := Y1.out
            dsimp only [Rt.none] at d0 d1 d2 d3 d4 g1
            go_wp2_with fail
            refine (HAL.out _).mono ?_
            rintro e u9 ⟨rfl, hk⟩
            replace K := Lib.hid (K.out.trans hk)
            clear hk
            go_wp2_with fail
            go_ret
            exact ⟨rfl, K.out⟩
          · rw [HSV.out.2 hlost] at HVT
            have b4 : decide ((p : Int) < ((hits hit N : Nat) : Int)) = false := decide_eq_false (by omega)
            have b5 : decide (p < hits hit N) = false := decide_eq_false hlost
            unfold Geo.val Rt.val at HVT
            dsimp only at HVT
            go_wp2_with fail
            refine (HVT.out _ RR.out).mono ?_
            rintro e v1 ⟨⟨hv, rfl, hGB⟩, hk1⟩
            replace K := Lib.hid (K.out.trans hk1)
            replace GG := Lib.hid (GG.out.kept hk1)
            replace YY := Lib.hid (YY.out.kept hk1)
            replace HH := Lib.hid (HH.out.kept hk1)
            have hBl := hGB.bls
            clear hk1 hGB HVT g0 g1 g2 g3
            go_upto_region 24 with fail
            have Z1 := Lib.hid (RtAt.laid v1 26 y)
            have hk1 : Kept v1 (v1.alloc (.cells #[.int .u64 (y.gen : Nat), .int .u64 (y.nxt : Nat), .int .i64 y.row, .int .u64 (y.st : Nat), .int .i64 y.len] 26)) := (Kept.refl _).alloc _
            replace K := Lib.hid (K.out.trans hk1)
            replace GG := Lib.hid (GG.out.kept hk1)
            replace YY := Lib.hid (YY.out.kept hk1)
            replace HH := Lib.hid (HH.out.kept hk1)
            obtain ⟨ha', hc', rfl, hcl'⟩ := hBl.kept hk1
            obtain ⟨qv, rfl, hcv⟩ := hcl' (by simp; omega)
            rw [List.length_map, List.length_range]
            have HCV : Hid (∀ j, j < N → (v1.alloc (.cells #[.int .u64 (y.gen : Nat), .int .u64 (y.nxt : Nat), .int .i64 y.row, .int .u64 (y.st : Nat), .int .i64 y.len] 26)).cell? ⟨qv, j, none⟩ = some (.bool (!hit j))) := fun j hj => by
              have := hcv j (by simpa using hj)
              rw [this]
              congr 2
              simp [hj]
            clear hk1 hBl hcl' hcv
            generalize v1.alloc (.cells #[.int .u64 (y.gen : Nat), .int .u64 (y.nxt : Nat), .int .i64 y.row, .int .u64 (y.st : Nat), .int .i64 y.len] 26) = v2 at *
            generalize v1.heap.size = BZ at *
            have g1 := GG.out.c1
            dsimp only at g1
            go_upto_region 27 with fail
            clear g1 b4 b5
            go_loopg [25] N (fun gh i wy => ∃ d : Nat, d + gh = N ∧ i = .int .i64 d ∧ Hid (Kept v2 wy))
            case atStart => exact ⟨0, by omega, rfl, Kept.refl _⟩
            case round =>
              obtain ⟨d, hd, rfl, KL⟩ := hrel
              cases gk with
              | succ gh =>
                have b4 : decide ((d : Int) < (N : Int)) = true := decide_eq_true (by omega)
                have b5 : decide (d < N) = true := decide_eq_true (by omega)
                have hdN : d < N := by omega
                have hdN2 : (d : Int) < (N : Int) := by omega
                have h1 : wr.cell? ⟨qv, d, none⟩ = some (.bool (!hit d)) := by rw [Below.cell KL.out (p := ⟨qv, d, none⟩) (block_lt_of_cell (HCV.out d hdN))]; exact HCV.out d hdN
                have h2 := (HH.out.kept KL.out).cell d hdN
                generalize hit d = hd' at *
                cases hd' with
                | true =>
                  have h1 : wr.cell? ⟨qv, d, none⟩ = some (.bool false) := h1
                  go_upto_region 29 with fail
                  go_quiet (fail)
                  go_wp2_with fail
                  go_roundg gh
                  case measure => omega
                  case rel => exact ⟨d + 1, by omega, by go_num, KL.out.drewN _⟩
                | false =>
                  have h1 : wr.cell? ⟨qv, d, none⟩ = some (.bool true) := h1
                  go_upto_region 29 with fail
                  go_quiet (fail)
                  go_wp2_with fail
                  go_roundg gh
                  case measure => omega
                  case rel => exact ⟨d + 1, by omega, by go_num, KL.out.drewN _⟩
              | zero =>
                have b4 : decide ((d : Int) < (N : Int)) = false := decide_eq_false (by omega)
                have b5 : decide (d < N) = false := decide_eq_false (by omega)
                replace K := Lib.hid (K.out.trans KL.out)
                obtain ⟨y0, y1, y2, y3, y4, _, _, _, _, _⟩ := YY.out.kept KL.out
                obtain ⟨d0, d1, d2, d3, d4, _, _, _, _, _⟩ := Z1.out.kept KL.out
                go_wp2_with fail
                refine (HAL.out _).mono ?_
                rintro e u9 ⟨rfl, hk⟩
                replace K := Lib.hid (K.out.trans hk)
                clear hk
                go_wp2_with fail
                go_ret
                exact ⟨rfl, K.out⟩
set_option maxHeartbeats 8000000 in
set_option maxRecDepth 100000 in
theorem slotSpoilt_false (a0 a1 a2 : Int) (a3 : Option Addr) (len3 cap3 : Nat) (z3 : List Int) (w : World) (w0 : (Lit.int .u8 a0).wf = true) (w1 : (Lit.int .u8 a1).wf = true) (w2 : (Lit.int .u32 a2).wf = true) (w3 : IsRow .u8 w a3 len3 cap3 z3) :
    Calls Try.prog 6 #[.int .u8 a0, .int .u8 a1, .int .u32 a2, .slice a3 len3 cap3, .bool false] w fun e w' => e = .returned (.bool true) ∧ Kept w w' := by
  have hb0 := bounds_u8 w0
  have hb1 := bounds_u8 w1
  have hb2 := bounds_u32 w2
  obtain ⟨hI, hzl, hml, hzw⟩ := w3.ints
  have hml2 : len3 ≤ 9223372036854775807 := by unfold maxLen at hml; exact hml
  obtain ⟨m, rfl⟩ : ∃ m : Nat, a0 = m := ⟨a0.toNat, by omega⟩
  obtain ⟨r, rfl⟩ : ∃ r : Nat, a1 = r := ⟨a1.toNat, by omega⟩
  obtain ⟨G, rfl⟩ : ∃ G : Nat, a2 = G := ⟨a2.toNat, by omega⟩
  have hwr : IntKind.i64.wrap (m : Int) = (m : Int) := IntWalk.i64_in _ (by omega)
  have hwr2 : IntKind.i64.wrap (r : Int) = (r : Int) := IntWalk.i64_in _ (by omega)
  obtain ⟨N, hN⟩ : ∃ N : Nat, 1 + (m : Int) % 7 = N := ⟨1 + m % 7, by omega⟩
  have hN1 : 1 ≤ N := by omega
  have hN7 : N ≤ 7 := by omega
  have hNz : ¬ (N : Int) = 0 := by omega
  have hNz2 : ((N : Int) == 0) = false := by rw [beq_eq_false_iff_ne]; omega
  obtain ⟨p, hpd⟩ : ∃ p : Nat, p = r % N := ⟨_, rfl⟩
  have hpN : p < N := by rw [hpd]; exact Nat.mod_lt _ (by omega)
  have hp1 : (r : Int) % (N : Int) = (p : Int) := by rw [hpd]; rfl
  have hp2 : (r : Int).tmod (N : Int) = (p : Int) := by rw [Int.tmod_eq_emod_of_nonneg (by omega)]; exact hp1
  have HAL := Lib.hid (fun W => alive_any W)
  have HI := Lib.hid hI
  have HZL := Lib.hid hzl
  have HZW := Lib.hid hzw
  clear hI hzl hzw w3 w0 w1 w2 hml hpd
  generalize z3.take len3 = zs at *
  have K := Lib.hid ((Kept.refl w).alloc (.cells #[.int .i64 (N : Int), .int .i64 (p : Int), .int .i64 24, .int .i64 2] 41))
  have GG : Hid (GeoAt (w.alloc (.cells #[.int .i64 (N : Int), .int .i64 (p : Int), .int .i64 24, .int .i64 2] 41)) w.heap.size ⟨N, p, 24, 2⟩) := GeoAt.laid w 41 ⟨N, p, 24, 2⟩
  go_enter Try.func6, Try.ntmps6
  go_upto_region 3 with fail
  generalize w.alloc (.cells #[.int .i64 (N : Int), .int .i64 (p : Int), .int .i64 24, .int .i64 2] 41) = u0 at *
  have HNN := Lib.hid hN
  clear hN hwr hwr2 hp1 hp2
  by_cases hG : G = 0
  · have e1 : ((G : Int) == 0) = true := by rw [hG]; rfl
    go_wp2_with fail
    refine (HAL.out _).mono ?_
    rintro e u9 ⟨rfl, hk⟩
    replace K := Lib.hid (K.out.trans hk)
    clear hk
    go_wp2_with fail
    go_ret
    exact ⟨rfl, K.out⟩
  · have e1 : ((G : Int) == 0) = false := by rw [beq_eq_false_iff_ne]; omega
    by_cases hlong : 30 < len3
    · have b1 : decide ((30 : Int) < (len3 : Int)) = true := decide_eq_true (by omega)
      have b0 : decide (30 < len3) = true := decide_eq_true hlong
      go_wp2_with fail
      refine (HAL.out _).mono ?_
      rintro e u9 ⟨rfl, hk⟩
      replace K := Lib.hid (K.out.trans hk)
      clear hk
      go_wp2_with fail
      go_ret
      exact ⟨rfl, K.out⟩
    · have b1 : decide ((30 : Int) < (len3 : Int)) = false := decide_eq_false (by omega)
      have b0 : decide (30 < len3) = false := decide_eq_false hlong
      have HNEW : Hid (∀ W, Calls Try.prog 13 #[.int .i64 (N : Int), .int .i64 24] W fun r w' => r = .returned (.tuple #[.pointer (some ⟨W.heap.size + 1, 0, none⟩), .int .i64 0]) ∧ Kept W w' ∧ RackAt W.heap.size (rack0 N 24) w' ∧ w'.heap.size = W.heap.size + 2 + N) := fun W => pNew_ok N 24 hN1 (by omega) (by decide) (by decide) W
      go_wp2_with fail
      refine (HNEW.out _).mono ?_
      rintro e u1 ⟨rfl, hk, hR, hsz⟩
      have hBg : w.heap.size < u0.heap.size := GG.out.lt
      replace K := Lib.hid (K.out.trans hk)
      replace GG := Lib.hid (GG.out.kept hk)
      have RR := Lib.hid hR
      generalize u0.heap.size = g at *
      have HSZ : Hid (g + 2 + N ≤ u1.heap.size) := by show _ ≤ _; omega
      clear hk hR hsz HNEW e1 b1 b0
      obtain ⟨x, hx⟩ : ∃ x : Rt, x = ⟨G, 7, 0, 0, 0⟩ := ⟨_, rfl⟩
      obtain ⟨y, hy⟩ : ∃ y : Rt, y = ⟨G + 1, 9, 0, 0, 0⟩ := ⟨_, rfl⟩
      have hxm : x.may = true := by rw [hx, Rt.may_bool]; dsimp only; omega
      have hym : y.may = true := by rw [hy, Rt.may_bool]; dsimp only; omega
      have hxg : x.gen = G := by rw [hx]
      have hyg : y.gen = G + 1 := by rw [hy]
      have HTX := Lib.hid ((Turned.start N G).next x hxm (by rw [hxg]; rfl) (by omega) (by decide))
      have HTY := Lib.hid (HTX.out.2.next y hym (by rw [hyg]; rfl) (by omega) (by simp))
      have HFX : Geo.fits ⟨N, p, 24, 2⟩ (rack0 N 24) = true := geo_fits N p _ hN1 (by omega) hpN rfl rfl
      have HFY : Geo.fits ⟨N, p, 24, 2⟩ (wrK (rack0 N 24) x N) = true := geo_fits N p _ hN1 (by omega) hpN rfl rfl
      have HWX := Lib.hid (fun W (h : RackAt g (rack0 N 24) W) => pWriteR_any g (rack0 N 24) ⟨N, p, 24, 2⟩ x W h)
      rw [docW_is HFX hxm, HTX.out.1] at HWX
      have HWY := Lib.hid (fun W (h : RackAt g (wrK (rack0 N 24) x N) W) => pWriteR_any g (wrK (rack0 N 24) x N) ⟨N, p, 24, 2⟩ y W h)
      rw [docW_is HFY hym, HTY.out.1] at HWY
      have HWX : Hid (∀ W, RackAt g (rack0 N 24) W → Calls Try.prog 14 #[.pointer (some ⟨g + 1, 0, none⟩), Geo.val ⟨N, p, 24, 2⟩, x.val] W fun r w' => r = .returned (.int .i64 0) ∧ RackAt g (wrK (rack0 N 24) x N) w' ∧ Only g (g + 2 + N) W w') := HWX.out
      have HWY : Hid (∀ W, RackAt g (wrK (rack0 N 24) x N) W → Calls Try.prog 14 #[.pointer (some ⟨g + 1, 0, none⟩), Geo.val ⟨N, p, 24, 2⟩, y.val] W fun r w' => r = .returned (.int .i64 0) ∧ RackAt g (wrK (wrK (rack0 N 24) x N) y N) w' ∧ Only g (g + 2 + N) W w') := HWY.out
      have HSP := Lib.hid (fun a => Spt.start (xs := [x]) (y := y) HTY.out.2 a)
      unfold Geo.val Rt.val at HWX HWY
      have HYM := Lib.hid hym
      have HXG := Lib.hid hxg
      have HYG := Lib.hid hyg
      have HXC : Hid (∀ W : World, W.alloc (.cells #[.int .u64 (G : Int), .int .u64 7, .int .i64 0, .int .u64 0, .int .i64 0] 26) = W.alloc (.cells #[.int .u64 (x.gen : Nat), .int .u64 (x.nxt : Nat), .int .i64 x.row, .int .u64 (x.st : Nat), .int .i64 x.len] 26)) := fun W => by rw [hx]; rfl
      have HYC : Hid (∀ W : World, W.alloc (.cells #[.int .u64 ((G : Int) + 1), .int .u64 9, .int .i64 0, .int .u64 0, .int .i64 0] 26) = W.alloc (.cells #[.int .u64 (y.gen : Nat), .int .u64 (y.nxt : Nat), .int .i64 y.row, .int .u64 (y.st : Nat), .int .i64 y.len] 26)) := fun W => by rw [hy]; rfl
      have hw1 : IntKind.u64.wrap (G : Int) = (G : Int) := IntWalk.u64_in _ (by omega)
      have hw2 : IntKind.u64.wrap ((G : Int) + 1) = (G : Int) + 1 := IntWalk.u64_in _ (by omega)
      clear hx hy hxm hym hxg hyg HTX HTY HFX HFY
      generalize wrK (wrK (rack0 N 24) x N) y N = s2 at *
      generalize wrK (rack0 N 24) x N = s1 at *
      go_upto_region 7 with fail
      rw [HXC.out]
      have hk : Kept u1 (u1.alloc (.cells #[.int .u64 (x.gen : Nat), .int .u64 (x.nxt : Nat), .int .i64 x.row, .int .u64 (x.st : Nat), .int .i64 x.len] 26)) := (Kept.refl _).alloc _
      have XX := Lib.hid (RtAt.laid u1 26 x)
      have HXB : Hid (g + 2 + N ≤ u1.heap.size) := HSZ.out
      replace K := Lib.hid (K.out.trans hk)
      replace GG := Lib.hid (GG.out.kept hk)
      replace RR := Lib.hid (RR.out.kept hk)
      replace HSZ : Hid (g + 2 + N ≤ (u1.alloc (.cells #[.int .u64 (x.gen : Nat), .int .u64 (x.nxt : Nat), .int .i64 x.row, .int .u64 (x.st : Nat), .int .i64 x.len] 26)).heap.size) := Nat.le_trans HSZ.out hk.size
      clear hk HXC
      generalize u1.alloc (.cells #[.int .u64 (x.gen : Nat), .int .u64 (x.nxt : Nat), .int .i64 x.row, .int .u64 (x.st : Nat), .int .i64 x.len] 26) = u2 at *
      generalize u1.heap.size = BX at *
      go_upto_region 8 with fail
      rw [HYC.out]
      have hk : Kept u2 (u2.alloc (.cells #[.int .u64 (y.gen : Nat), .int .u64 (y.nxt : Nat), .int .i64 y.row, .int .u64 (y.st : Nat), .int .i64 y.len] 26)) := (Kept.refl _).alloc _
      have YY := Lib.hid (RtAt.laid u2 26 y)
      have HYB : Hid (g + 2 + N ≤ u2.heap.size) := HSZ.out
      replace K := Lib.hid (K.out.trans hk)
      replace GG := Lib.hid (GG.out.kept hk)
      replace RR := Lib.hid (RR.out.kept hk)
      replace XX := Lib.hid (XX.out.kept hk)
      replace HSZ : Hid (g + 2 + N ≤ (u2.alloc (.cells #[.int .u64 (y.gen : Nat), .int .u64 (y.nxt : Nat), .int .i64 y.row, .int .u64 (y.st : Nat), .int .i64 y.len] 26)).heap.size) := Nat.le_trans HSZ.out hk.size
      clear hk HYC hw1 hw2
      generalize u2.alloc (.cells #[.int .u64 (y.gen : Nat), .int .u64 (y.nxt : Nat), .int .i64 y.row, .int .u64 (y.st : Nat), .int .i64 y.len] 26) = u3 at *
      generalize u2.heap.size = BY at *
      have g0 := GG.out.c0
      have g1 := GG.out.c1
      have g2 := GG.out.c2
      have g3 := GG.out.c3
      dsimp only at g0 g1 g2 g3
      obtain ⟨x0, x1, x2, x3, x4, _, _, _, _, _⟩ := XX.out
      go_wp2_with fail
      refine (HWX.out _ RR.out).mono ?_
      rintro e u4 ⟨rfl, hR, hO⟩
      replace K := Lib.hid (Only.kept K.out (by omega) hO)
      replace GG := Lib.hid (GG.out.onlyLo hO hBg)
      replace XX := Lib.hid (XX.out.only hO HXB.out)
      replace YY := Lib.hid (YY.out.only hO HYB.out)
      replace RR := Lib.hid hR
      replace HSZ : Hid (g + 2 + N ≤ u4.heap.size) := Nat.le_trans HSZ.out hO.size
      clear hR hO HWX g0 g1 g2 g3 x0 x1 x2 x3 x4
      have g0 := GG.out.c0
      have g1 := GG.out.c1
      have g2 := GG.out.c2
      have g3 := GG.out.c3
      dsimp only at g0 g1 g2 g3
      obtain ⟨y0, y1, y2, y3, y4, _, _, _, _, _⟩ := YY.out
      go_wp2_with fail
      refine (HWY.out _ RR.out).mono ?_
      rintro e u5 ⟨rfl, hR, hO⟩
      replace K := Lib.hid (Only.kept K.out (by omega) hO)
      replace GG := Lib.hid (GG.out.onlyLo hO hBg)
      replace XX := Lib.hid (XX.out.only hO HXB.out)
      replace YY := Lib.hid (YY.out.only hO HYB.out)
      replace RR := Lib.hid hR
      replace HSZ : Hid (g + 2 + N ≤ u5.heap.size) := Nat.le_trans HSZ.out hO.size
      clear hR hO HWY g0 g1 g2 g3 y0 y1 y2 y3 y4
      have HXQ : Hid (BX < u5.heap.size) := XX.out.lt
      have HYQ : Hid (BY < u5.heap.size) := YY.out.lt
      have HMK := make_bools N (by omega) u5
      have HH := Lib.hid (HitAt.made u5 N 4)
      have hk : Kept u5 (u5.alloc (.cells (madeCells #[.bool false] N) 4)) := (Kept.refl _).alloc _
      have HQB : Hid (g + 2 + N ≤ u5.heap.size) := HSZ.out
      replace K := Lib.hid (K.out.trans hk)
      replace GG := Lib.hid (GG.out.kept hk)
      replace RR := Lib.hid (RR.out.kept hk)
      replace XX := Lib.hid (XX.out.kept hk)
      replace YY := Lib.hid (YY.out.kept hk)
      clear hk HSZ
      obtain ⟨a, ha⟩ : ∃ a : Nat, a = y.me := ⟨_, rfl⟩
      have HA : Hid (a < 2) := by show _ < _; rw [ha]; exact y.me_lt
      have HAD := Lib.hid ha
      clear ha
      go_upto_region 11 with fail
      generalize u5.alloc (.cells (madeCells #[.bool false] N) 4) = u6 at *
      clear HMK
      generalize u5.heap.size = q at *
      go_upto_region 13 with fail
      have HZH : Hid (hits (fun _ => false) N = 0) := hits_none N
      go_loopg [18, 19] len3 (fun gh c i wr => ∃ (k : Nat) (hit : Nat → Bool) (s : RSt), k + gh = len3 ∧ i = .int .i64 k ∧ c = .int .i64 (hits hit N : Nat) ∧ Hid (Kept w wr ∧ GeoAt wr w.heap.size ⟨N, p, 24, 2⟩ ∧ RackAt g s wr ∧ Spt s N y a hit ∧ HitAt wr q N hit ∧ RtAt wr BX x ∧ RtAt wr BY y))
      case atStart => exact ⟨0, fun _ => false, s2, by omega, rfl, by rw [HZH.out]; rfl, K.out, GG.out, RR.out, HSP.out a, HH.out, XX.out, YY.out⟩
      case round =>
        obtain ⟨k, hit, s, hkl, rfl, rfl, HR⟩ := hrel
        replace K := Lib.hid HR.out.1
        replace GG := Lib.hid HR.out.2.1
        replace RR := Lib.hid HR.out.2.2.1
        have HS := Lib.hid HR.out.2.2.2.1
        replace HH := Lib.hid HR.out.2.2.2.2.1
        replace XX := Lib.hid HR.out.2.2.2.2.2.1
        replace YY := Lib.hid HR.out.2.2.2.2.2.2
        clear HR HZH
        have hcl := hits_le hit N
        cases gk with
        | succ gh =>
          have b2 : decide ((k : Int) < (len3 : Int)) = true := decide_eq_true (by omega)
          have b3 : decide (k < len3) = true := decide_eq_true (by omega)
          have hkl1 : (k : Int) < (len3 : Int) := by omega
          have hkl2 : k < len3 := by omega
          have hz := (HI.out.kept K.out)
          obtain ⟨b, o, hat⟩ := ints_at hz
          obtain ⟨rfl, hcell⟩ := hat (by rw [HZL.out]; omega)
          have hc := hcell k (by rw [HZL.out]; omega)
          have hbz := bounds_u8 (HZW.out (zs[k]'(by rw [HZL.out]; omega)) (List.getElem_mem _))
          rw [nthI_get] at hbz
          obtain ⟨Z, hZ⟩ : ∃ Z : Nat, nthI zs k = Z := ⟨(nthI zs k).toNat, by omega⟩
          rw [hZ] at hc hbz
          clear hz hat hcell hZ
          have hwz : IntKind.i64.wrap (Z : Int) = (Z : Int) := IntWalk.i64_in _ (by omega)
          obtain ⟨d, hdd⟩ : ∃ d : Nat, d = Z % N := ⟨_, rfl⟩
          have hdN : d < N := by rw [hdd]; exact Nat.mod_lt _ (by omega)
          have hdN2 : (d : Int) < (N : Int) := by omega
          have hd1 : (Z : Int) % (N : Int) = (d : Int) := by rw [hdd]; rfl
          have hd2 : (Z : Int).tmod (N : Int) = (d : Int) := by rw [Int.tmod_eq_emod_of_nonneg (by omega)]; exact hd1
          clear hdd
          have hcd := HH.out.cell d hdN
          have hfd := HH.out.free d hdN
          have HHT := Lib.hid (HS.out.hit d hdN HA.out)
          have HST := Lib.hid (HH.out.set d hdN)
          cases hhd : hit d with
          | true =>
            rw [hhd] at hcd
            go_wp2_with fail
            go_roundg gh
            case measure => omega
            case rel => exact ⟨k + 1, hit, s, by omega, by go_num, rfl, K.out, GG.out, RR.out, HS.out, HH.out, XX.out, YY.out⟩
          | false =>
            rw [hhd] at hcd
            have HAD2 := Lib.hid (hits_add hit d hhd N hdN)
            clear hhd
            have KW : Hid (Kept w (wr.setCell ⟨q, d, none⟩ (.bool true))) := K.out.setCell (p := ⟨q, d, none⟩) (by have := HQB.out; show _ ≤ q; omega) _
            have OQ : Hid (Only q (q + 1) wr (wr.setCell ⟨q, d, none⟩ (.bool true))) := (Only.refl _ _ _).setCell _ _ (Nat.le_refl _) (Nat.lt_succ_self _)
            have HQBv := HQB.out
            have hrn : s.n = N := HS.out.hn
            replace RR := Lib.hid (RR.out.only OQ.out (.inr (by rw [hrn]; omega)))
            replace GG := Lib.hid (GG.out.onlyLo OQ.out (by omega))
            have HSPN := Lib.hid (fun W (h : RackAt g s W) => spoil_any g s d a (by omega) (by omega) (by omega) (by have := HA.out; omega) W h)
            rw [HHT.out.1] at HSPN
            rw [hrn] at HSPN
            have XQ : Hid (RtAt (wr.setCell ⟨q, d, none⟩ (.bool true)) BX x) := XX.out.frame (OQ.out.block BX XX.out.lt (by have := HXQ.out; omega))
            have YQ : Hid (RtAt (wr.setCell ⟨q, d, none⟩ (.bool true)) BY y) := YY.out.frame (OQ.out.block BY YY.out.lt (by have := HYQ.out; omega))
            have x0 := XQ.out.c0
            have y0 := YQ.out.c0
            have hg1 : (x.gen : Int) % 2 = (x.me : Nat) := by unfold Rt.me; omega
            have hg2 : (y.gen : Int) % 2 = (y.me : Nat) := by unfold Rt.me; omega
            have hm3 : IntKind.u64.wrap (x.me : Int) = (x.me : Int) := IntWalk.u64_in _ (by have := x.me_lt; omega)
            have hm4 : IntKind.i64.wrap (x.me : Int) = (x.me : Int) := IntWalk.i64_in _ (by have := x.me_lt; omega)
            have hm5 : IntKind.u64.wrap (y.me : Int) = (y.me : Int) := IntWalk.u64_in _ (by have := y.me_lt; omega)
            have hm6 : IntKind.i64.wrap (y.me : Int) = (y.me : Int) := IntWalk.i64_in _ (by have := y.me_lt; omega)
            have haa : a = y.me := HAD.out
            rw [haa] at HSPN
            go_wp2_with fail
            refine (HSPN.out _ RR.out).mono ?_
            rintro e v1 ⟨rfl, hR, hO⟩
            have hqg : g + 2 + N ≤ q := by have := HQB.out; omega
            have KX : Hid (Kept w v1) := Only.kept KW.out (by omega) hO
            have GX := Lib.hid (GG.out.onlyLo hO hBg)
            have RX := Lib.hid hR
            have HX := Lib.hid (HST.out.only hO hqg)
            have XN := Lib.hid (XQ.out.only hO HXB.out)
            have YN := Lib.hid (YQ.out.only hO HYB.out)
            clear hR hO
            go_wp2_with fail
            go_roundg gh
            case measure => omega
            case rel => exact ⟨k + 1, _, _, by omega, by go_num, by rw [HAD2.out]; rfl, KX.out, GX.out, by rw [haa]; exact RX.out, HHT.out.2, HX.out, XN.out, YN.out⟩
        | zero =>
          have b2 : decide ((k : Int) < (len3 : Int)) = false := decide_eq_false (by omega)
          have b3 : decide (k < len3) = false := decide_eq_false (by omega)
          have HVT := Lib.hid (fun W (h : RackAt g s W) => pVote_any g s ⟨N, p, 24, 2⟩ W h)
          have HSV := Lib.hid (HS.out.vote ⟨N, p, 24, 2⟩ p rfl (geo_fits N p s hN1 (by omega) hpN HS.out.hn HS.out.hm) HYM.out HA.out hpN)
          have g0 := GG.out.c0
          have g1 := GG.out.c1
          have g2 := GG.out.c2
          have g3 := GG.out.c3
          dsimp only at g0 g1 g2 g3
          by_cases hlost : p < hits hit N
          · rw [HSV.out.1 hlost] at HVT
            have b4 : decide ((p : Int) < ((hits hit N : Nat) : Int)) = true := decide_eq_true (by omega)
            have b5 : decide (p < hits hit N) = true := decide_eq_true hlost
            unfold Geo.val Rt.val at HVT
            dsimp only [Rt.none] at HVT
            go_wp2_with fail
            refine (HVT.out _ RR.out).mono ?_
            rintro e v1 ⟨⟨hv, rfl, hGB⟩, hk1⟩
            replace K := Lib.hid (K.out.trans hk1)
            replace GG := Lib.hid (GG.out.kept hk1)
            obtain ⟨ha', hc', rfl, _⟩ := hGB.bls
            clear hk1 hGB HVT g0 g1 g2 g3
            go_upto_region 24 with fail
            have Y1 := Lib.hid (RtAt.new v1 26)
            have hk1 : Kept v1 (v1.alloc (.cells #[.int .u64 0, .int .u64 0, .int .i64 0, .int .u64 0, .int .i64 0] 26)) := (Kept.refl _).alloc _
            replace K := Lib.hid (K.out.trans hk1)
            replace GG := Lib.hid (GG.out.kept hk1)
            clear hk1
            generalize v1.alloc (.cells #[.int .u64 0, .int .u64 0, .int .i64 0, .int .u64 0, .int .i64 0] 26) = v2 at *
            generalize v1.heap.size = BZ at *
            have g1 := GG.out.c1
            obtain ⟨d0, d1, d2, d3, d4, _, _, _, _, _⟩ := Y1.out
            dsimp only [Rt.none] at d0 d1 d2 d3 d4 g1
            go_wp2_with fail
            refine (HAL.out _).mono ?_
            rintro e u9 ⟨rfl, hk⟩
            replace K := Lib.hid (K.out.trans hk)
            clear hk
            go_wp2_with fail
            go_ret
            exact ⟨rfl, K.out⟩
          · rw [HSV.out.2 hlost] at HVT
            have b4 : decide ((p : Int) < ((hits hit N : Nat) : Int)) = false := decide_eq_false (by omega)
            have b5 : decide (p < hits hit N) = false := decide_eq_false hlost
            unfold Geo.val Rt.val at HVT
            dsimp only at HVT
            go_wp2_with fail
            refine (HVT.out _ RR.out).mono ?_
            rintro e v1 ⟨⟨hv, rfl, hGB⟩, hk1⟩
            replace K := Lib.hid (K.out.trans hk1)
            replace GG := Lib.hid (GG.out.kept hk1)
            replace YY := Lib.hid (YY.out.kept hk1)
            replace HH := Lib.hid (HH.out.kept hk1)
            have hBl := hGB.bls
            clear hk1 hGB HVT g0 g1 g2 g3
            go_upto_region 24 with fail
            have Z1 := Lib.hid (RtAt.laid v1 26 y)
            have hk1 : Kept v1 (v1.alloc (.cells #[.int .u64 (y.gen : Nat), .int .u64 (y.nxt : Nat), .int .i64 y.row, .int .u64 (y.st : Nat), .int .i64 y.len] 26)) := (Kept.refl _).alloc _
            replace K := Lib.hid (K.out.trans hk1)
            replace GG := Lib.hid (GG.out.kept hk1)
            replace YY := Lib.hid (YY.out.kept hk1)
            replace HH := Lib.hid (HH.out.kept hk1)
            obtain ⟨ha', hc', rfl, hcl'⟩ := hBl.kept hk1
            obtain ⟨qv, rfl, hcv⟩ := hcl' (by simp; omega)
            rw [List.length_map, List.length_range]
            have HCV : Hid (∀ j, j < N → (v1.alloc (.cells #[.int .u64 (y.gen : Nat), .int .u64 (y.nxt : Nat), .int .i64 y.row, .int .u64 (y.st : Nat), .int .i64 y.len] 26)).cell? ⟨qv, j, none⟩ = some (.bool (!hit j))) := fun j hj => by
              have := hcv j (by simpa using hj)
              rw [this]
              congr 2
              simp [hj]
            clear hk1 hBl hcl' hcv
            generalize v1.alloc (.cells #[.int .u64 (y.gen : Nat), .int .u64 (y.nxt : Nat), .int .i64 y.row, .int .u64 (y.st : Nat), .int .i64 y.len] 26) = v2 at *
            generalize v1.heap.size = BZ at *
            have g1 := GG.out.c1
            dsimp only at g1
            go_upto_region 27 with fail
            clear g1 b4 b5
            go_loopg [25] N (fun gh i wy => ∃ d : Nat, d + gh = N ∧ i = .int .i64 d ∧ Hid (Kept v2 wy))
            case atStart => exact ⟨0, by omega, rfl, Kept.refl _⟩
            case round =>
              obtain ⟨d, hd, rfl, KL⟩ := hrel
              cases gk with
              | succ gh =>
                have b4 : decide ((d : Int) < (N : Int)) = true := decide_eq_true (by omega)
                have b5 : decide (d < N) = true := decide_eq_true (by omega)
                have hdN : d < N := by omega
                have hdN2 : (d : Int) < (N : Int) := by omega
                have h1 : wr.cell? ⟨qv, d, none⟩ = some (.bool (!hit d)) := by rw [Below.cell KL.out (p := ⟨qv, d, none⟩) (block_lt_of_cell (HCV.out d hdN))]; exact HCV.out d hdN
                have h2 := (HH.out.kept KL.out).cell d hdN
                generalize hit d = hd' at *
                cases hd' with
                | true =>
                  have h1 : wr.cell? ⟨qv, d, none⟩ = some (.bool false) := h1
                  go_upto_region 29 with fail
                  go_quiet (fail)
                  go_wp2_with fail
                  go_roundg gh
                  case measure => omega
                  case rel => exact ⟨d + 1, by omega, by go_num, KL.out.drewN _⟩
                | false =>
                  have h1 : wr.cell? ⟨qv, d, none⟩ = some (.bool true) := h1
                  go_upto_region 29 with fail
                  go_quiet (fail)
                  go_wp2_with fail
                  go_roundg gh
                  case measure => omega
                  case rel => exact ⟨d + 1, by omega, by go_num, KL.out.drewN _⟩
              | zero =>
                have b4 : decide ((d : Int) < (N : Int)) = false := decide_eq_false (by omega)
                have b5 : decide (d < N) = false := decide_eq_false (by omega)
                replace K := Lib.hid (K.out.trans KL.out)
                obtain ⟨y0, y1, y2, y3, y4, _, _, _, _, _⟩ := YY.out.kept KL.out
                obtain ⟨d0, d1, d2, d3, d4, _, _, _, _, _⟩ := Z1.out.kept KL.out
                go_wp2_with fail
                refine (HAL.out _).mono ?_
                rintro e u9 ⟨rfl, hk⟩
                replace K := Lib.hid (K.out.trans hk)
                clear hk
                go_wp2_with fail
                go_ret
                exact ⟨rfl, K.out⟩
theorem slotSpoilt_walk (a0 a1 a2 : Int) (a3 : Option Addr) (len3 cap3 : Nat) (z3 : List Int) (a4 : Bool) (w : World) (w0 : (Lit.int .u8 a0).wf = true) (w1 : (Lit.int .u8 a1).wf = true) (w2 : (Lit.int .u32 a2).wf = true) (w3 : IsRow .u8 w a3 len3 cap3 z3) :
    Calls Try.prog 6 #[.int .u8 a0, .int .u8 a1, .int .u32 a2, .slice a3 len3 cap3, .bool a4] w fun e w' => e = .returned (.bool true) ∧ Kept w w' := by
  cases a4
  · exact slotSpoilt_false a0 a1 a2 a3 len3 cap3 z3 w w0 w1 w2 w3
  · exact slotSpoilt_true a0 a1 a2 a3 len3 cap3 z3 w w0 w1 w2 w3
end Go.Proofs.Ytoekaabngjjefaa
