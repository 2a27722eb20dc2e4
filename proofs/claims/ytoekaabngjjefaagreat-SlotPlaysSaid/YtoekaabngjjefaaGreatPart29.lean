/- SlotFits, SlotW. -/
import Derived.Test.YtoekaabngjjefaaGreatPart28
import Derived.Test.YtoekaabngjjefaaGreatPart25
import Derived.Deep.QuietTactic
import Derived.BigQuiet
import Derived.Deep.RegionHeld3
/- The document's geo: which may be; does a rack fit it. -/
namespace Go.Proofs.YtoekaabngjjefaaGreat
open Go.RowKit Sm Wr _root_.Go.Proofs.YtoekaabngjjefaaGreat.Nm
set_option linter.unusedVariables false
set_option linter.unusedSimpArgs false
set_option maxRecDepth 100000 in
theorem gMay_any (g : Geo) (w : World) :
    Calls Tryz.prog 59 #[g.val] w fun e w' => e = .returned (.bool g.may) ∧ Kept w w' := by
  have fin : ∀ r : Bool, (r = true ↔ g.may = true) → Ending.returned (.bool r) = Ending.returned (.bool g.may) := fun r h => by rw [Bool.eq_iff_iff.2 h]
  have HM := Lib.hid g.may_iff
  have HF := Lib.hid fin
  clear fin
  obtain ⟨a, b, c, d⟩ := g
  unfold Geo.val
  dsimp only at *
  generalize Geo.may ⟨a, b, c, d⟩ = mb at *
  by_cases ht : 2 ≤ d ∧ d ≤ 512
  · obtain ⟨t1, t2⟩ := ht
    go_enter Tryz.func59, Tryz.ntmps59
    go_wp2_with fail
    all_goals
      go_ret
      refine ⟨HF.out _ ?_, (Kept.refl _).alloc _⟩
      rw [HM.out]
      clear HF HM
      simp only [decide_eq_true_eq, Bool.false_eq_true, false_iff, true_iff]
      omega
  · go_enter Tryz.func59, Tryz.ntmps59
    go_wp2_with fail
    all_goals
      go_ret
      refine ⟨HF.out _ ?_, (Kept.refl _).alloc _⟩
      rw [HM.out]
      clear HF HM
      simp only [decide_eq_true_eq, Bool.false_eq_true, false_iff, true_iff]
      omega
theorem wp_quietC {P : Program} {C : World → Prop} {id : Nat} {Q : Exit → Act → World → Prop} {a : Act} {w : World} {l : List Oper} (hm : P.follows .mixedOrders = true) (hB : Region.lexB .any l.toArray = true) (hC : C w.drew)
    (h : wpQuiet P l.toArray C (fun a' => ∀ w', C w' → Q .normal a' w') l a) : (Code.region id l.toArray true).wp P Q a w :=
  wp_region_quiet (C := C) hm hB hC (by simpa using h)
set_option maxHeartbeats 1000000 in
set_option maxRecDepth 100000 in
theorem gFits_any (L : DLay) (lo hi : Nat) (s : RSt) (g : Geo) (w : World) (hD : DocAt L lo hi s w) :
    Calls Tryz.prog 27 #[.pointer (some ⟨L.x, 0, none⟩), g.val] w fun e w' => e = .returned (.bool (g.fits s)) ∧ Kept w w' := by
  have HM := Lib.hid (fun W => gMay_any g W)
  have HF : Hid (g.fits s = (g.may && decide ((s.n : Int) = g.n) && decide ((s.m : Int) = g.m))) := rfl
  have hn1 : 1 ≤ s.n := hD.wf.n1
  have HDC : Hid (∀ W, Kept w W → W.cell? ⟨L.x, 0, none⟩ = some (.slice (some ⟨L.sb, 0, none⟩) s.n L.cs) ∧ W.cell? ⟨L.sb, 0, none⟩ = some (.slice (some ⟨L.T 0, 0, none⟩) s.m (L.ct 0))) := fun W k =>
    ⟨(hD.kept k).ox.cell 0 (by decide), (hD.kept k).os.cell 0 (by omega)⟩
  clear hD
  obtain ⟨a, b, c, d⟩ := g
  unfold Geo.val at *
  dsimp only at *
  generalize Geo.fits ⟨a, b, c, d⟩ s = fb at *
  generalize Geo.may ⟨a, b, c, d⟩ = mb at *
  have HCL : Hid (∀ W, Kept (w.alloc (.cells #[.int .i64 a, .int .i64 b, .int .i64 c, .int .i64 d] 23)) W → W.cell? ⟨w.heap.size, 0, none⟩ = some (.int .i64 a) ∧ W.cell? ⟨w.heap.size, 1, none⟩ = some (.int .i64 b) ∧ W.cell? ⟨w.heap.size, 2, none⟩ = some (.int .i64 c) ∧ W.cell? ⟨w.heap.size, 3, none⟩ = some (.int .i64 d)) := fun W k =>
    ⟨cellR_kept (newR_cell w _ _ 0 _ rfl) k, cellR_kept (newR_cell w _ _ 1 _ rfl) k, cellR_kept (newR_cell w _ _ 2 _ rfl) k, cellR_kept (newR_cell w _ _ 3 _ rfl) k⟩
  have HK0 : Hid (Kept w (w.alloc (.cells #[.int .i64 a, .int .i64 b, .int .i64 c, .int .i64 d] 23))) := (Kept.refl _).alloc _
  have hsn : ((s.n : Nat) : Int) ≤ 9223372036854775807 ∨ True := .inr trivial
  clear hsn
  go_enter Tryz.func27, Tryz.ntmps27
  go_wp2_with fail
  generalize w.alloc (.cells #[.int .i64 a, .int .i64 b, .int .i64 c, .int .i64 d] 23) = w1 at *
  have hlt : decide ((0 : Int) < (s.n : Int)) = true := decide_eq_true (by omega)
  have hlt2 : (0 : Int) < (s.n : Int) := by omega
  cases mb with
  | false =>
    refine wp_quietC (C := fun W => Kept w1 W) (by kernel_rfl) (by kernel_rfl) ((Kept.refl w1).drew) ?_
    go_big_quiet_want
    refine ⟨.agg #[.int .i64 a, .int .i64 b, .int .i64 c, .int .i64 d], fun W hW => ?_, ?_⟩
    · obtain ⟨c0, c1, c2, c3⟩ := HCL.out W hW
      obtain ⟨d0, d1⟩ := HDC.out W (HK0.out.trans hW)
      unfold Oper.quietAt
      go_simp
    go_simp
    go_big_quiet_on
    go_big_quiet_want
    refine ⟨.bool false, fun W hW => ?_, ?_⟩
    · unfold Oper.quietAt
      go_simp
      exact (HM.out W).mono fun e w' h => ⟨h.1, hW.trans h.2⟩
    go_simp
    go_big_quiet_on
    go_big_quiet_want
    refine ⟨.bool false, fun W hW => ?_, ?_⟩
    · obtain ⟨c0, c1, c2, c3⟩ := HCL.out W hW
      obtain ⟨d0, d1⟩ := HDC.out W (HK0.out.trans hW)
      unfold Oper.quietAt
      go_simp
    go_simp
    go_big_quiet_on
    go_big_quiet_skip
    go_big_quiet_skip
    go_big_quiet_skip
    go_big_quiet_skip
    go_big_quiet_skip
    go_big_quiet_skip
    go_big_quiet_skip
    go_big_quiet_skip
    go_big_quiet_want
    refine ⟨.bool false, fun W hW => ?_, ?_⟩
    · obtain ⟨c0, c1, c2, c3⟩ := HCL.out W hW
      obtain ⟨d0, d1⟩ := HDC.out W (HK0.out.trans hW)
      unfold Oper.quietAt
      go_simp
    go_simp
    go_big_quiet_on
    go_big_quiet_want
    refine ⟨.bool false, fun W hW => ?_, ?_⟩
    · obtain ⟨c0, c1, c2, c3⟩ := HCL.out W hW
      obtain ⟨d0, d1⟩ := HDC.out W (HK0.out.trans hW)
      unfold Oper.quietAt
      go_simp
    go_simp
    go_big_quiet_on
    go_big_quiet_skip
    go_big_quiet_skip
    go_big_quiet_skip
    go_big_quiet_skip
    go_big_quiet_skip
    go_big_quiet_skip
    go_big_quiet_skip
    go_big_quiet_skip
    go_big_quiet_skip
    go_big_quiet_skip
    go_big_quiet_want
    refine ⟨.bool false, fun W hW => ?_, ?_⟩
    · obtain ⟨c0, c1, c2, c3⟩ := HCL.out W hW
      obtain ⟨d0, d1⟩ := HDC.out W (HK0.out.trans hW)
      unfold Oper.quietAt
      go_simp
    go_simp
    go_big_quiet_on
    go_big_quiet_want
    refine ⟨.bool false, fun W hW => ?_, ?_⟩
    · obtain ⟨c0, c1, c2, c3⟩ := HCL.out W hW
      obtain ⟨d0, d1⟩ := HDC.out W (HK0.out.trans hW)
      unfold Oper.quietAt
      go_simp
    go_simp
    go_big_quiet_on
    refine wpQuiet_nil ?_
    intro W hW
    have HKW : Hid (Kept w W) := HK0.out.trans hW
    clear hW
    go_wp2_with fail
    go_ret
    refine ⟨?_, HKW.out⟩
    rw [HF.out]
    rfl
  | true =>
    by_cases hn : (s.n : Int) = a
    · have e1 : ((s.n : Int) == a) = true := by rw [beq_iff_eq]; exact hn
      have hlt3 : (0 : Int) < a := by omega
      refine wp_quietC (C := fun W => Kept w1 W) (by kernel_rfl) (by kernel_rfl) ((Kept.refl w1).drew) ?_
      go_big_quiet_want
      refine ⟨.agg #[.int .i64 a, .int .i64 b, .int .i64 c, .int .i64 d], fun W hW => ?_, ?_⟩
      · obtain ⟨c0, c1, c2, c3⟩ := HCL.out W hW
        obtain ⟨d0, d1⟩ := HDC.out W (HK0.out.trans hW)
        unfold Oper.quietAt
        go_simp
      go_simp
      go_big_quiet_on
      go_big_quiet_want
      refine ⟨.bool true, fun W hW => ?_, ?_⟩
      · unfold Oper.quietAt
        go_simp
        exact (HM.out W).mono fun e w' h => ⟨h.1, hW.trans h.2⟩
      go_simp
      go_big_quiet_on
      go_big_quiet_want
      refine ⟨.bool true, fun W hW => ?_, ?_⟩
      · obtain ⟨c0, c1, c2, c3⟩ := HCL.out W hW
        obtain ⟨d0, d1⟩ := HDC.out W (HK0.out.trans hW)
        unfold Oper.quietAt
        go_simp
      go_simp
      go_big_quiet_on
      go_big_quiet_want
      refine ⟨.pointer (some ⟨L.x, 0, none⟩), fun W hW => ?_, ?_⟩
      · obtain ⟨c0, c1, c2, c3⟩ := HCL.out W hW
        obtain ⟨d0, d1⟩ := HDC.out W (HK0.out.trans hW)
        unfold Oper.quietAt
        go_simp
      go_simp
      go_big_quiet_on
      go_big_quiet_want
      refine ⟨.pointer (some ⟨L.x, 0, none⟩), fun W hW => ?_, ?_⟩
      · obtain ⟨c0, c1, c2, c3⟩ := HCL.out W hW
        obtain ⟨d0, d1⟩ := HDC.out W (HK0.out.trans hW)
        unfold Oper.quietAt
        go_simp
      go_simp
      go_big_quiet_on
      go_big_quiet_want
      refine ⟨.pointer (some ⟨L.x, 0, none⟩), fun W hW => ?_, ?_⟩
      · obtain ⟨c0, c1, c2, c3⟩ := HCL.out W hW
        obtain ⟨d0, d1⟩ := HDC.out W (HK0.out.trans hW)
        unfold Oper.quietAt
        go_simp
      go_simp
      go_big_quiet_on
      go_big_quiet_want
      refine ⟨.slice (some ⟨L.sb, 0, none⟩) s.n L.cs, fun W hW => ?_, ?_⟩
      · obtain ⟨c0, c1, c2, c3⟩ := HCL.out W hW
        obtain ⟨d0, d1⟩ := HDC.out W (HK0.out.trans hW)
        unfold Oper.quietAt
        go_simp
      go_simp
      go_big_quiet_on
      go_big_quiet_want
      refine ⟨.int .i64 (s.n : Nat), fun W hW => ?_, ?_⟩
      · obtain ⟨c0, c1, c2, c3⟩ := HCL.out W hW
        obtain ⟨d0, d1⟩ := HDC.out W (HK0.out.trans hW)
        unfold Oper.quietAt
        go_simp
      go_simp
      go_big_quiet_on
      go_big_quiet_want
      refine ⟨.pointer (some ⟨w.heap.size, 0, none⟩), fun W hW => ?_, ?_⟩
      · obtain ⟨c0, c1, c2, c3⟩ := HCL.out W hW
        obtain ⟨d0, d1⟩ := HDC.out W (HK0.out.trans hW)
        unfold Oper.quietAt
        go_simp
      go_simp
      go_big_quiet_on
      go_big_quiet_want
      refine ⟨.int .i64 a, fun W hW => ?_, ?_⟩
      · obtain ⟨c0, c1, c2, c3⟩ := HCL.out W hW
        obtain ⟨d0, d1⟩ := HDC.out W (HK0.out.trans hW)
        unfold Oper.quietAt
        go_simp
      go_simp
      go_big_quiet_on
      go_big_quiet_want
      refine ⟨.bool true, fun W hW => ?_, ?_⟩
      · obtain ⟨c0, c1, c2, c3⟩ := HCL.out W hW
        obtain ⟨d0, d1⟩ := HDC.out W (HK0.out.trans hW)
        unfold Oper.quietAt
        go_simp
      go_simp
      go_big_quiet_on
      go_big_quiet_want
      refine ⟨.bool true, fun W hW => ?_, ?_⟩
      · obtain ⟨c0, c1, c2, c3⟩ := HCL.out W hW
        obtain ⟨d0, d1⟩ := HDC.out W (HK0.out.trans hW)
        unfold Oper.quietAt
        go_simp
      go_simp
      go_big_quiet_on
      go_big_quiet_want
      refine ⟨.bool true, fun W hW => ?_, ?_⟩
      · obtain ⟨c0, c1, c2, c3⟩ := HCL.out W hW
        obtain ⟨d0, d1⟩ := HDC.out W (HK0.out.trans hW)
        unfold Oper.quietAt
        go_simp
      go_simp
      go_big_quiet_on
      go_big_quiet_want
      refine ⟨.pointer (some ⟨L.x, 0, none⟩), fun W hW => ?_, ?_⟩
      · obtain ⟨c0, c1, c2, c3⟩ := HCL.out W hW
        obtain ⟨d0, d1⟩ := HDC.out W (HK0.out.trans hW)
        unfold Oper.quietAt
        go_simp
      go_simp
      go_big_quiet_on
      go_big_quiet_want
      refine ⟨.pointer (some ⟨L.x, 0, none⟩), fun W hW => ?_, ?_⟩
      · obtain ⟨c0, c1, c2, c3⟩ := HCL.out W hW
        obtain ⟨d0, d1⟩ := HDC.out W (HK0.out.trans hW)
        unfold Oper.quietAt
        go_simp
      go_simp
      go_big_quiet_on
      go_big_quiet_want
      refine ⟨.pointer (some ⟨L.x, 0, none⟩), fun W hW => ?_, ?_⟩
      · obtain ⟨c0, c1, c2, c3⟩ := HCL.out W hW
        obtain ⟨d0, d1⟩ := HDC.out W (HK0.out.trans hW)
        unfold Oper.quietAt
        go_simp
      go_simp
      go_big_quiet_on
      go_big_quiet_want
      refine ⟨.slice (some ⟨L.sb, 0, none⟩) s.n L.cs, fun W hW => ?_, ?_⟩
      · obtain ⟨c0, c1, c2, c3⟩ := HCL.out W hW
        obtain ⟨d0, d1⟩ := HDC.out W (HK0.out.trans hW)
        unfold Oper.quietAt
        go_simp
      go_simp
      go_big_quiet_on
      go_big_quiet_want
      refine ⟨.pointer (some ⟨L.sb, 0, none⟩), fun W hW => ?_, ?_⟩
      · obtain ⟨c0, c1, c2, c3⟩ := HCL.out W hW
        obtain ⟨d0, d1⟩ := HDC.out W (HK0.out.trans hW)
        unfold Oper.quietAt
        go_simp
      go_simp
      go_big_quiet_on
      go_big_quiet_want
      refine ⟨.slice (some ⟨L.T 0, 0, none⟩) s.m (L.ct 0), fun W hW => ?_, ?_⟩
      · obtain ⟨c0, c1, c2, c3⟩ := HCL.out W hW
        obtain ⟨d0, d1⟩ := HDC.out W (HK0.out.trans hW)
        unfold Oper.quietAt
        go_simp
      go_simp
      go_big_quiet_on
      go_big_quiet_want
      refine ⟨.int .i64 (s.m : Nat), fun W hW => ?_, ?_⟩
      · obtain ⟨c0, c1, c2, c3⟩ := HCL.out W hW
        obtain ⟨d0, d1⟩ := HDC.out W (HK0.out.trans hW)
        unfold Oper.quietAt
        go_simp
      go_simp
      go_big_quiet_on
      go_big_quiet_want
      refine ⟨.pointer (some ⟨w.heap.size, 2, none⟩), fun W hW => ?_, ?_⟩
      · obtain ⟨c0, c1, c2, c3⟩ := HCL.out W hW
        obtain ⟨d0, d1⟩ := HDC.out W (HK0.out.trans hW)
        unfold Oper.quietAt
        go_simp
      go_simp
      go_big_quiet_on
      go_big_quiet_want
      refine ⟨.int .i64 c, fun W hW => ?_, ?_⟩
      · obtain ⟨c0, c1, c2, c3⟩ := HCL.out W hW
        obtain ⟨d0, d1⟩ := HDC.out W (HK0.out.trans hW)
        unfold Oper.quietAt
        go_simp
      go_simp
      go_big_quiet_on
      go_big_quiet_want
      refine ⟨.bool ((s.m : Int) == c), fun W hW => ?_, ?_⟩
      · obtain ⟨c0, c1, c2, c3⟩ := HCL.out W hW
        obtain ⟨d0, d1⟩ := HDC.out W (HK0.out.trans hW)
        unfold Oper.quietAt
        go_simp
      go_simp
      go_big_quiet_on
      go_big_quiet_want
      refine ⟨.bool ((s.m : Int) == c), fun W hW => ?_, ?_⟩
      · obtain ⟨c0, c1, c2, c3⟩ := HCL.out W hW
        obtain ⟨d0, d1⟩ := HDC.out W (HK0.out.trans hW)
        unfold Oper.quietAt
        go_simp
      go_simp
      go_big_quiet_on
      go_big_quiet_want
      refine ⟨.bool ((s.m : Int) == c), fun W hW => ?_, ?_⟩
      · obtain ⟨c0, c1, c2, c3⟩ := HCL.out W hW
        obtain ⟨d0, d1⟩ := HDC.out W (HK0.out.trans hW)
        unfold Oper.quietAt
        go_simp
      go_simp
      go_big_quiet_on
      refine wpQuiet_nil ?_
      intro W hW
      have HKW : Hid (Kept w W) := HK0.out.trans hW
      clear hW
      go_wp2_with fail
      go_ret
      refine ⟨?_, HKW.out⟩
      rw [HF.out]
      rw [decide_eq_true hn]
      rfl
    · have e1 : ((s.n : Int) == a) = false := by rw [beq_eq_false_iff_ne]; exact hn
      refine wp_quietC (C := fun W => Kept w1 W) (by kernel_rfl) (by kernel_rfl) ((Kept.refl w1).drew) ?_
      go_big_quiet_want
      refine ⟨.agg #[.int .i64 a, .int .i64 b, .int .i64 c, .int .i64 d], fun W hW => ?_, ?_⟩
      · obtain ⟨c0, c1, c2, c3⟩ := HCL.out W hW
        obtain ⟨d0, d1⟩ := HDC.out W (HK0.out.trans hW)
        unfold Oper.quietAt
        go_simp
      go_simp
      go_big_quiet_on
      go_big_quiet_want
      refine ⟨.bool true, fun W hW => ?_, ?_⟩
      · unfold Oper.quietAt
        go_simp
        exact (HM.out W).mono fun e w' h => ⟨h.1, hW.trans h.2⟩
      go_simp
      go_big_quiet_on
      go_big_quiet_want
      refine ⟨.bool true, fun W hW => ?_, ?_⟩
      · obtain ⟨c0, c1, c2, c3⟩ := HCL.out W hW
        obtain ⟨d0, d1⟩ := HDC.out W (HK0.out.trans hW)
        unfold Oper.quietAt
        go_simp
      go_simp
      go_big_quiet_on
      go_big_quiet_want
      refine ⟨.pointer (some ⟨L.x, 0, none⟩), fun W hW => ?_, ?_⟩
      · obtain ⟨c0, c1, c2, c3⟩ := HCL.out W hW
        obtain ⟨d0, d1⟩ := HDC.out W (HK0.out.trans hW)
        unfold Oper.quietAt
        go_simp
      go_simp
      go_big_quiet_on
      go_big_quiet_want
      refine ⟨.pointer (some ⟨L.x, 0, none⟩), fun W hW => ?_, ?_⟩
      · obtain ⟨c0, c1, c2, c3⟩ := HCL.out W hW
        obtain ⟨d0, d1⟩ := HDC.out W (HK0.out.trans hW)
        unfold Oper.quietAt
        go_simp
      go_simp
      go_big_quiet_on
      go_big_quiet_want
      refine ⟨.pointer (some ⟨L.x, 0, none⟩), fun W hW => ?_, ?_⟩
      · obtain ⟨c0, c1, c2, c3⟩ := HCL.out W hW
        obtain ⟨d0, d1⟩ := HDC.out W (HK0.out.trans hW)
        unfold Oper.quietAt
        go_simp
      go_simp
      go_big_quiet_on
      go_big_quiet_want
      refine ⟨.slice (some ⟨L.sb, 0, none⟩) s.n L.cs, fun W hW => ?_, ?_⟩
      · obtain ⟨c0, c1, c2, c3⟩ := HCL.out W hW
        obtain ⟨d0, d1⟩ := HDC.out W (HK0.out.trans hW)
        unfold Oper.quietAt
        go_simp
      go_simp
      go_big_quiet_on
      go_big_quiet_want
      refine ⟨.int .i64 (s.n : Nat), fun W hW => ?_, ?_⟩
      · obtain ⟨c0, c1, c2, c3⟩ := HCL.out W hW
        obtain ⟨d0, d1⟩ := HDC.out W (HK0.out.trans hW)
        unfold Oper.quietAt
        go_simp
      go_simp
      go_big_quiet_on
      go_big_quiet_want
      refine ⟨.pointer (some ⟨w.heap.size, 0, none⟩), fun W hW => ?_, ?_⟩
      · obtain ⟨c0, c1, c2, c3⟩ := HCL.out W hW
        obtain ⟨d0, d1⟩ := HDC.out W (HK0.out.trans hW)
        unfold Oper.quietAt
        go_simp
      go_simp
      go_big_quiet_on
      go_big_quiet_want
      refine ⟨.int .i64 a, fun W hW => ?_, ?_⟩
      · obtain ⟨c0, c1, c2, c3⟩ := HCL.out W hW
        obtain ⟨d0, d1⟩ := HDC.out W (HK0.out.trans hW)
        unfold Oper.quietAt
        go_simp
      go_simp
      go_big_quiet_on
      go_big_quiet_want
      refine ⟨.bool false, fun W hW => ?_, ?_⟩
      · obtain ⟨c0, c1, c2, c3⟩ := HCL.out W hW
        obtain ⟨d0, d1⟩ := HDC.out W (HK0.out.trans hW)
        unfold Oper.quietAt
        go_simp
      go_simp
      go_big_quiet_on
      go_big_quiet_want
      refine ⟨.bool false, fun W hW => ?_, ?_⟩
      · obtain ⟨c0, c1, c2, c3⟩ := HCL.out W hW
        obtain ⟨d0, d1⟩ := HDC.out W (HK0.out.trans hW)
        unfold Oper.quietAt
        go_simp
      go_simp
      go_big_quiet_on
      go_big_quiet_want
      refine ⟨.bool false, fun W hW => ?_, ?_⟩
      · obtain ⟨c0, c1, c2, c3⟩ := HCL.out W hW
        obtain ⟨d0, d1⟩ := HDC.out W (HK0.out.trans hW)
        unfold Oper.quietAt
        go_simp
      go_simp
      go_big_quiet_on
      go_big_quiet_skip
      go_big_quiet_skip
      go_big_quiet_skip
      go_big_quiet_skip
      go_big_quiet_skip
      go_big_quiet_skip
      go_big_quiet_skip
      go_big_quiet_skip
      go_big_quiet_skip
      go_big_quiet_skip
      go_big_quiet_want
      refine ⟨.bool false, fun W hW => ?_, ?_⟩
      · obtain ⟨c0, c1, c2, c3⟩ := HCL.out W hW
        obtain ⟨d0, d1⟩ := HDC.out W (HK0.out.trans hW)
        unfold Oper.quietAt
        go_simp
      go_simp
      go_big_quiet_on
      go_big_quiet_want
      refine ⟨.bool false, fun W hW => ?_, ?_⟩
      · obtain ⟨c0, c1, c2, c3⟩ := HCL.out W hW
        obtain ⟨d0, d1⟩ := HDC.out W (HK0.out.trans hW)
        unfold Oper.quietAt
        go_simp
      go_simp
      go_big_quiet_on
      refine wpQuiet_nil ?_
      intro W hW
      have HKW : Hid (Kept w W) := HK0.out.trans hW
      clear hW
      go_wp2_with fail
      go_ret
      refine ⟨?_, HKW.out⟩
      rw [HF.out]
      rw [decide_eq_false hn]
      rfl
end Go.Proofs.YtoekaabngjjefaaGreat

/- What the document's own Write of a root answers and leaves. -/
namespace Go.Proofs.YtoekaabngjjefaaGreat
open Go.RowKit Sm Wr _root_.Go.Proofs.YtoekaabngjjefaaGreat.Nm
set_option linter.unusedVariables false
theorem none64_size : none64.size = 64 := rfl
theorem none64_write (s : RSt) (d i : Int) : s.writeE d i none64 = s.writeE d i ⟨#[]⟩ ∧ s.writeS d i none64 = s.writeS d i ⟨#[]⟩ := by
  have e : s.writeE d i none64 = s.writeE d i ⟨#[]⟩ := by
    unfold RSt.writeE
    rw [none64_size, if_neg (show ¬ 64 < 64 by decide), if_neg (show ¬ 64 < (⟨#[]⟩ : ByteArray).size by decide)]
  refine ⟨e, ?_⟩
  unfold RSt.writeS
  rw [e]
  rfl
set_option maxHeartbeats 4000000 in
set_option maxRecDepth 100000 in
theorem rWrite_any (L : DLay) (lo hi : Nat) (s : RSt) (g : Geo) (x : Rt) (w : World) (hx : x.Wf) (hhi : hi ≤ w.heap.size) (hD : DocAt L lo hi s w) :
    Calls Tryz.prog 9 #[.pointer (some ⟨L.x, 0, none⟩), g.val, x.val] w fun r w' => r = .returned (.int .i64 ((docW s g x).1 : Nat)) ∧ DocAt L lo hi (docW s g x).2 w' ∧ Only lo hi w w' := by
  have HFI := Lib.hid (fun S W h => gFits_any L lo hi S g W h)
  have HMY := Lib.hid (fun W => rMay_any x W)
  have G0 := Lib.hid (GeoAt.laid w 23 g)
  have X0 := Lib.hid (fun W => RtAt.laid W 38 x)
  have HW1 : Hid (∀ W : World, Kept W (W.alloc (.cells #[.int .i64 g.n, .int .i64 g.p, .int .i64 g.m, .int .i64 g.t] 23))) := fun W => (Kept.refl _).alloc _
  have HW2 : Hid (∀ W : World, Kept W (W.alloc (.cells #[.int .u64 (x.gen : Nat), .int .u64 (x.nxt : Nat), .int .i64 x.row, .int .u64 (x.st : Nat), .int .i64 x.len] 38))) := fun W => (Kept.refl _).alloc _
  have HHI : Hid (hi ≤ w.heap.size) := hhi
  replace hD := Lib.hid hD
  have HDO : Hid (docW s g x = if g.fits s = true ∧ x.may = true then wrTo s x s.n else (2, s)) := rfl
  unfold Geo.val Rt.val at *
  generalize docW s g x = rs at *
  clear hhi
  have HX0 : Hid (RtAt ((w.alloc (.cells #[.int .i64 g.n, .int .i64 g.p, .int .i64 g.m, .int .i64 g.t] 23)).alloc (.cells #[.int .u64 (x.gen : Nat), .int .u64 (x.nxt : Nat), .int .i64 x.row, .int .u64 (x.st : Nat), .int .i64 x.len] 38)) (w.heap.size + 1) x) := by
    have := X0.out (w.alloc (.cells #[.int .i64 g.n, .int .i64 g.p, .int .i64 g.m, .int .i64 g.t] 23))
    rw [size_alloc] at this
    exact this
  have HX0 : Hid (RtAt ((w.alloc (.cells #[.int .i64 g.n, .int .i64 g.p, .int .i64 g.m, .int .i64 g.t] 23)).alloc (.cells #[.int .u64 (x.gen : Nat), .int .u64 (x.nxt : Nat), .int .i64 x.row, .int .u64 (x.st : Nat), .int .i64 x.len] 38)) (w.heap.size + 1) x) := by
    have := X0.out (w.alloc (.cells #[.int .i64 g.n, .int .i64 g.p, .int .i64 g.m, .int .i64 g.t] 23))
    rw [size_alloc] at this
    exact this
  have HX0 : Hid (RtAt ((w.alloc (.cells #[.int .i64 g.n, .int .i64 g.p, .int .i64 g.m, .int .i64 g.t] 23)).alloc (.cells #[.int .u64 (x.gen : Nat), .int .u64 (x.nxt : Nat), .int .i64 x.row, .int .u64 (x.st : Nat), .int .i64 x.len] 38)) (w.heap.size + 1) x) := by
    have := X0.out (w.alloc (.cells #[.int .i64 g.n, .int .i64 g.p, .int .i64 g.m, .int .i64 g.t] 23))
    rw [size_alloc] at this
    exact this
  have HX0 : Hid (RtAt ((w.alloc (.cells #[.int .i64 g.n, .int .i64 g.p, .int .i64 g.m, .int .i64 g.t] 23)).alloc (.cells #[.int .u64 (x.gen : Nat), .int .u64 (x.nxt : Nat), .int .i64 x.row, .int .u64 (x.st : Nat), .int .i64 x.len] 38)) (w.heap.size + 1) x) := by
    have := X0.out (w.alloc (.cells #[.int .i64 g.n, .int .i64 g.p, .int .i64 g.m, .int .i64 g.t] 23))
    rw [size_alloc] at this
    exact this
  have HX0 : Hid (RtAt ((w.alloc (.cells #[.int .i64 g.n, .int .i64 g.p, .int .i64 g.m, .int .i64 g.t] 23)).alloc (.cells #[.int .u64 (x.gen : Nat), .int .u64 (x.nxt : Nat), .int .i64 x.row, .int .u64 (x.st : Nat), .int .i64 x.len] 38)) (w.heap.size + 1) x) := by
    have := X0.out (w.alloc (.cells #[.int .i64 g.n, .int .i64 g.p, .int .i64 g.m, .int .i64 g.t] 23))
    rw [size_alloc] at this
    exact this
  have HX0 : Hid (RtAt ((w.alloc (.cells #[.int .i64 g.n, .int .i64 g.p, .int .i64 g.m, .int .i64 g.t] 23)).alloc (.cells #[.int .u64 (x.gen : Nat), .int .u64 (x.nxt : Nat), .int .i64 x.row, .int .u64 (x.st : Nat), .int .i64 x.len] 38)) (w.heap.size + 1) x) := by
    have := X0.out (w.alloc (.cells #[.int .i64 g.n, .int .i64 g.p, .int .i64 g.m, .int .i64 g.t] 23))
    rw [size_alloc] at this
    exact this
  go_enter Tryz.func9, Tryz.ntmps9
  go_wp2_with fail
  refine (HFI.out s _ (hD.out.kept ((HW1.out w).trans (HW2.out _)))).mono ?_
  rintro e u1 ⟨rfl, hk⟩
  have K1 : Hid (Kept w u1) := ((HW1.out w).trans (HW2.out _)).trans hk
  have G1 := Lib.hid ((G0.out.kept (HW2.out _)).kept hk)
  have X1 := Lib.hid (HX0.out.kept hk)
  have D1 := Lib.hid (hD.out.kept K1.out)
  clear hk HFI G0 X0 HX0 hD HW1 HW2
  cases hf : g.fits s with
  | false =>
    have hrs : rs = (2, s) := by rw [HDO.out, hf, if_neg]; simp
    clear HDO hf HMY G1 X1
    go_wp2_with fail
    go_ret
    rw [hrs]
    exact ⟨rfl, D1.out, K1.out.only _ _⟩
  | true =>
    rw [hf] at HDO
    have hgn : (s.n : Int) = g.n := by
      unfold Geo.fits at hf
      simp only [Bool.and_eq_true, decide_eq_true_eq] at hf
      exact hf.1.2
    have x0 := X1.out.c0
    have x1 := X1.out.c1
    have x2 := X1.out.c2
    have x3 := X1.out.c3
    have x4 := X1.out.c4
    clear hf
    go_wp2_with fail
    refine (HMY.out _).mono ?_
    rintro e u2 ⟨rfl, hk⟩
    have K2 : Hid (Kept w u2) := K1.out.trans hk
    have G2 := Lib.hid (G1.out.kept hk)
    have X2 := Lib.hid (X1.out.kept hk)
    have D2 := Lib.hid (D1.out.kept hk)
    clear hk K1 G1 X1 D1 HMY x0 x1 x2 x3 x4
    cases hm : x.may with
    | false =>
      have hrs : rs = (2, s) := by rw [HDO.out, hm, if_neg]; simp
      clear HDO hm G2 X2
      go_wp2_with fail
      go_ret
      rw [hrs]
      exact ⟨rfl, D2.out, K2.out.only _ _⟩
    | true =>
      have HRS : Hid (rs = wrTo s x s.n) := by show _ = _; rw [HDO.out, hm, if_pos (by simp)]
      have HRW := Lib.hid (fun W => rRaw_any x W hm)
      have HTZ : Hid (x.txt.size = 64) := Rt.txt_size hm
      unfold Rt.val at HRW
      have hn12 : s.n ≤ 12 := D2.out.wf.n2
      clear HDO hm
      go_wp2_with fail
      go_loopw [7] (fun i wr => ∃ d : Nat, d ≤ s.n ∧ i = .int .i64 d ∧ Hid ((wrTo s x d).1 = 0 ∧ Only lo hi w wr ∧ DocAt L lo hi (wrTo s x d).2 wr ∧ GeoAt wr w.heap.size g ∧ RtAt wr (w.heap.size + 1) x)) (fun i _ => s.n - (intOf i).toNat)
      case atStart => exact ⟨0, Nat.zero_le _, rfl, ⟨rfl, K2.out.only _ _, D2.out, G2.out, X2.out⟩⟩
      case round =>
        obtain ⟨d, hd, rfl, HI⟩ := hrel
        have g0 := HI.out.2.2.2.1.c0
        by_cases hlt : d < s.n
        · have b1 : decide ((d : Int) < g.n) = true := decide_eq_true (by omega)
          have x0 := HI.out.2.2.2.2.c0
          have HLT := Lib.hid hlt
          go_upto_region 7 with fail
          have ho : (1 : Int) - (x.gen : Int) % 2 = (x.oth : Nat) := by unfold Rt.oth; omega
          rw [ho]
          have HST : Hid (wrTo s x (d + 1) = wrD (wrTo s x d).2 x d) := by
            show (if (wrTo s x d).1 = 0 then _ else _) = _
            rw [if_pos HI.out.1]
          have HER : Hid ((wrTo s x (d + 1)).1 ≠ 0 → rs = wrTo s x (d + 1)) := fun hne => by
            rw [HRS.out]; exact wrTo_err s x (d + 1) hne s.n (by omega)
          have HO := Lib.hid HI.out.2.1
          have HD := Lib.hid HI.out.2.2.1
          have HG := Lib.hid HI.out.2.2.2.1
          have HX := Lib.hid HI.out.2.2.2.2
          clear HI x0 g0
          generalize (wrTo s x d).2 = S at *
          have HRD := Lib.hid (dRead_any L lo hi S d x.oth wr HD.out)
          have HTS : Hid ((S.readT d x.oth).size ≤ maxLen) := by
            show _ ≤ _
            unfold maxLen
            by_cases hz : S.readE d x.oth = 0
            · have := readT_64 S HD.out.wf d x.oth hz; omega
            · unfold RSt.readT; rw [if_neg hz]; decide
          have HWD : Hid (wrD S x d = if S.readE d x.oth = 71 then (71, S) else if newer S x d = true then if S.writeE d x.oth ⟨#[]⟩ ≠ 0 then (S.writeE d x.oth ⟨#[]⟩, S.writeS d x.oth ⟨#[]⟩) else ((S.writeS d x.oth ⟨#[]⟩).writeE d x.me x.txt, (S.writeS d x.oth ⟨#[]⟩).writeS d x.me x.txt) else (S.writeE d x.me x.txt, S.writeS d x.me x.txt)) := rfl
          have HNW : Hid (newer S x d = (decide (S.readE d x.oth = 0) && newR (S.readT d x.oth).data.toList x)) := rfl
          generalize S.readT d x.oth = T at *
          generalize S.readE d x.oth = E at *
          generalize wrD S x d = r1 at *
          generalize newer S x d = nw at *
          go_wp2_with fail
          refine HRD.out.mono ?_
          rintro e wr2 ⟨rfl, rfl⟩
          clear HRD
          by_cases h71 : E = 71
          · have e1 : ((E : Int) == 71) = true := by rw [beq_iff_eq]; omega
            have hr1 : r1 = (71, S) := by rw [HWD.out, if_pos h71]
            have hrs : rs = (71, S) := by
              have := HER.out
              rw [HST.out, hr1] at this
              exact this (show (71 : Nat) ≠ 0 by decide)
            clear HWD HNW HER HST hr1
            go_wp2_with fail
            go_ret
            rw [hrs]
            exact ⟨rfl, HD.out, HO.out⟩
          · have e1 : ((E : Int) == 71) = false := by rw [beq_eq_false_iff_ne]; omega
            rw [if_neg h71] at HWD
            go_wp2_with fail
            refine (rDecode_any T _ HTS.out).mono ?_
            rintro e v1 ⟨rfl, hk⟩
            have HO1 : Hid (Only lo hi w v1) := HO.out.trans (hk.only _ _)
            have HD1 := Lib.hid (HD.out.kept hk)
            have HG1 := Lib.hid (HG.out.kept hk)
            have HX1 := Lib.hid (HX.out.kept hk)
            clear hk HO HD HG HX HTS
            cases hdc : decR T.data.toList with
            | none =>
              have hnw : nw = false := by rw [HNW.out]; unfold newR; rw [hdc]; simp
              rw [hnw, if_neg (by decide)] at HWD
              unfold decV Rt.val Rt.none
              dsimp only
              clear HNW hnw hdc
              have HAL : Hid (Kept v1 (v1.alloc (.cells #[.int .u64 0, .int .u64 0, .int .i64 0, .int .u64 0, .int .i64 0] 38))) := (Kept.refl _).alloc _
              by_cases hE : E = 0
              · have e2 : ((E : Int) == 0) = true := by rw [beq_iff_eq]; omega
                go_upto_region 15 with fail
                generalize v1.alloc (.cells #[.int .u64 0, .int .u64 0, .int .i64 0, .int .u64 0, .int .i64 0] 38) = W at *
                have HO2 : Hid (Only lo hi w W) := HO1.out.trans (HAL.out.only _ _)
                have HD2 := Lib.hid (HD1.out.kept HAL.out)
                have HG2 := Lib.hid (HG1.out.kept HAL.out)
                have HX2 := Lib.hid (HX1.out.kept HAL.out)
                clear HO1 HD1 HG1 HX1 HAL
                have HN : Hid (wrTo s x (d + 1) = ((S).writeE d x.me x.txt, (S).writeS d x.me x.txt)) := by show _ = _; rw [HST.out, HWD.out]
                have HWR := Lib.hid (fun W h => dWrite_any L lo hi (S) d x.me x.txt (by rw [HTZ.out]; decide) W h)
                have HKEEP : Hid (∀ W', Kept W W' → W'.cell? ⟨w.heap.size + 1, 0, none⟩ = some (.int .u64 (x.gen : Nat)) ∧ W'.cell? ⟨w.heap.size + 1, 1, none⟩ = some (.int .u64 (x.nxt : Nat)) ∧ W'.cell? ⟨w.heap.size + 1, 2, none⟩ = some (.int .i64 x.row) ∧ W'.cell? ⟨w.heap.size + 1, 3, none⟩ = some (.int .u64 (x.st : Nat)) ∧ W'.cell? ⟨w.heap.size + 1, 4, none⟩ = some (.int .i64 x.len)) := fun W' k => ⟨(HX2.out.kept k).c0, (HX2.out.kept k).c1, (HX2.out.kept k).c2, (HX2.out.kept k).c3, (HX2.out.kept k).c4⟩
                have HKEEP2 : Hid (∀ W1 W', Kept W W1 → Only lo hi W1 W' → W'.cell? ⟨w.heap.size + 1, 0, none⟩ = some (.int .u64 (x.gen : Nat)) ∧ W'.cell? ⟨w.heap.size + 1, 1, none⟩ = some (.int .u64 (x.nxt : Nat)) ∧ W'.cell? ⟨w.heap.size + 1, 2, none⟩ = some (.int .i64 x.row) ∧ W'.cell? ⟨w.heap.size + 1, 3, none⟩ = some (.int .u64 (x.st : Nat)) ∧ W'.cell? ⟨w.heap.size + 1, 4, none⟩ = some (.int .i64 x.len)) := fun W1 W' k o => ⟨((HX2.out.kept k).only o (by have := HHI.out; omega)).c0, ((HX2.out.kept k).only o (by have := HHI.out; omega)).c1, ((HX2.out.kept k).only o (by have := HHI.out; omega)).c2, ((HX2.out.kept k).only o (by have := HHI.out; omega)).c3, ((HX2.out.kept k).only o (by have := HHI.out; omega)).c4⟩
                have HKD : Hid (Kept W W.drew) := (Kept.refl _).drew
                generalize (S).writeE d x.me x.txt = E2 at *
                generalize (S).writeS d x.me x.txt = S2 at *
                have ht1 : (x.gen : Int).tmod 2 = (x.me : Nat) := by unfold Rt.me; rw [Int.tmod_eq_emod_of_nonneg (by omega)]; omega
                have ht2 : IntKind.u64.wrap (x.me : Int) = (x.me : Int) := IntWalk.u64_in _ (by have := x.me_lt; omega)
                have ht3 : IntKind.i64.wrap (x.me : Int) = (x.me : Int) := IntWalk.i64_in _ (by have := x.me_lt; omega)
                clear hlt hd h71
                (try clear hE)
                (try clear hp)
                (try clear hq)
                go_region_held3 (fun W' => W'.cell? ⟨w.heap.size + 1, 0, none⟩ = some (.int .u64 (x.gen : Nat)) ∧ W'.cell? ⟨w.heap.size + 1, 1, none⟩ = some (.int .u64 (x.nxt : Nat)) ∧ W'.cell? ⟨w.heap.size + 1, 2, none⟩ = some (.int .i64 x.row) ∧ W'.cell? ⟨w.heap.size + 1, 3, none⟩ = some (.int .u64 (x.st : Nat)) ∧ W'.cell? ⟨w.heap.size + 1, 4, none⟩ = some (.int .i64 x.len)) (first | exact HKEEP.out _ (Kept.refl _) | exact HKEEP.out _ HKD.out | exact HKEEP.out _ (HKD.out.trans hkA) | exact HKEEP2.out _ _ (HKD.out.trans hkA) hOB)
                  (first
                    | (go_at_call 32; refine (HRW.out _).mono ?_; rintro e wA ⟨rfl, hkA⟩)
                    | (go_at_call 31; refine (HWR.out _ (HD2.out.kept (HKD.out.trans hkA))).mono ?_; rintro e wB ⟨rfl, hDB, hOB⟩))
                clear ht1 ht2 ht3
                have HOB : Hid (Only lo hi w wB) := HO2.out.trans (((HKD.out.trans hkA).only _ _).trans hOB)
                have HGB := Lib.hid ((HG2.out.kept (HKD.out.trans hkA)).only hOB HHI.out)
                have HXB := Lib.hid ((HX2.out.kept (HKD.out.trans hkA)).only hOB (by have := HHI.out; omega))
                have HDB := Lib.hid hDB
                clear hkA hDB hOB HKEEP HKEEP2 HKD HO2 HD2 HG2 HX2 HWR
                by_cases h2 : E2 = 0
                · have e5 : ((E2 : Int) != 0) = false := by rw [h2]; rfl
                  have HF : Hid ((wrTo s x (d + 1)).1 = 0 ∧ Only lo hi w wB ∧ DocAt L lo hi (wrTo s x (d + 1)).2 wB ∧ GeoAt wB w.heap.size g ∧ RtAt wB (w.heap.size + 1) x) := ⟨by rw [HN.out]; exact h2, HOB.out, by rw [HN.out]; exact HDB.out, HGB.out, HXB.out⟩
                  clear h2
                  have hdl := HLT.out
                  go_wp2_with fail
                  exact ⟨⟨d + 1, by have := HLT.out; omega, by go_num, HF.out⟩, by have := HLT.out; simp [intOf]; omega⟩
                · have e5 : ((E2 : Int) != 0) = true := by rw [bne_iff_ne]; omega
                  have hrs := HER.out (by rw [HN.out]; exact h2)
                  rw [HN.out] at hrs
                  clear h2
                  go_wp2_with fail
                  go_ret
                  rw [hrs]
                  exact ⟨rfl, HDB.out, HOB.out⟩
              · have e2 : ((E : Int) == 0) = false := by rw [beq_eq_false_iff_ne]; omega
                go_upto_region 15 with fail
                generalize v1.alloc (.cells #[.int .u64 0, .int .u64 0, .int .i64 0, .int .u64 0, .int .i64 0] 38) = W at *
                have HO2 : Hid (Only lo hi w W) := HO1.out.trans (HAL.out.only _ _)
                have HD2 := Lib.hid (HD1.out.kept HAL.out)
                have HG2 := Lib.hid (HG1.out.kept HAL.out)
                have HX2 := Lib.hid (HX1.out.kept HAL.out)
                clear HO1 HD1 HG1 HX1 HAL
                have HN : Hid (wrTo s x (d + 1) = ((S).writeE d x.me x.txt, (S).writeS d x.me x.txt)) := by show _ = _; rw [HST.out, HWD.out]
                have HWR := Lib.hid (fun W h => dWrite_any L lo hi (S) d x.me x.txt (by rw [HTZ.out]; decide) W h)
                have HKEEP : Hid (∀ W', Kept W W' → W'.cell? ⟨w.heap.size + 1, 0, none⟩ = some (.int .u64 (x.gen : Nat)) ∧ W'.cell? ⟨w.heap.size + 1, 1, none⟩ = some (.int .u64 (x.nxt : Nat)) ∧ W'.cell? ⟨w.heap.size + 1, 2, none⟩ = some (.int .i64 x.row) ∧ W'.cell? ⟨w.heap.size + 1, 3, none⟩ = some (.int .u64 (x.st : Nat)) ∧ W'.cell? ⟨w.heap.size + 1, 4, none⟩ = some (.int .i64 x.len)) := fun W' k => ⟨(HX2.out.kept k).c0, (HX2.out.kept k).c1, (HX2.out.kept k).c2, (HX2.out.kept k).c3, (HX2.out.kept k).c4⟩
                have HKEEP2 : Hid (∀ W1 W', Kept W W1 → Only lo hi W1 W' → W'.cell? ⟨w.heap.size + 1, 0, none⟩ = some (.int .u64 (x.gen : Nat)) ∧ W'.cell? ⟨w.heap.size + 1, 1, none⟩ = some (.int .u64 (x.nxt : Nat)) ∧ W'.cell? ⟨w.heap.size + 1, 2, none⟩ = some (.int .i64 x.row) ∧ W'.cell? ⟨w.heap.size + 1, 3, none⟩ = some (.int .u64 (x.st : Nat)) ∧ W'.cell? ⟨w.heap.size + 1, 4, none⟩ = some (.int .i64 x.len)) := fun W1 W' k o => ⟨((HX2.out.kept k).only o (by have := HHI.out; omega)).c0, ((HX2.out.kept k).only o (by have := HHI.out; omega)).c1, ((HX2.out.kept k).only o (by have := HHI.out; omega)).c2, ((HX2.out.kept k).only o (by have := HHI.out; omega)).c3, ((HX2.out.kept k).only o (by have := HHI.out; omega)).c4⟩
                have HKD : Hid (Kept W W.drew) := (Kept.refl _).drew
                generalize (S).writeE d x.me x.txt = E2 at *
                generalize (S).writeS d x.me x.txt = S2 at *
                have ht1 : (x.gen : Int).tmod 2 = (x.me : Nat) := by unfold Rt.me; rw [Int.tmod_eq_emod_of_nonneg (by omega)]; omega
                have ht2 : IntKind.u64.wrap (x.me : Int) = (x.me : Int) := IntWalk.u64_in _ (by have := x.me_lt; omega)
                have ht3 : IntKind.i64.wrap (x.me : Int) = (x.me : Int) := IntWalk.i64_in _ (by have := x.me_lt; omega)
                clear hlt hd h71
                (try clear hE)
                (try clear hp)
                (try clear hq)
                go_region_held3 (fun W' => W'.cell? ⟨w.heap.size + 1, 0, none⟩ = some (.int .u64 (x.gen : Nat)) ∧ W'.cell? ⟨w.heap.size + 1, 1, none⟩ = some (.int .u64 (x.nxt : Nat)) ∧ W'.cell? ⟨w.heap.size + 1, 2, none⟩ = some (.int .i64 x.row) ∧ W'.cell? ⟨w.heap.size + 1, 3, none⟩ = some (.int .u64 (x.st : Nat)) ∧ W'.cell? ⟨w.heap.size + 1, 4, none⟩ = some (.int .i64 x.len)) (first | exact HKEEP.out _ (Kept.refl _) | exact HKEEP.out _ HKD.out | exact HKEEP.out _ (HKD.out.trans hkA) | exact HKEEP2.out _ _ (HKD.out.trans hkA) hOB)
                  (first
                    | (go_at_call 32; refine (HRW.out _).mono ?_; rintro e wA ⟨rfl, hkA⟩)
                    | (go_at_call 31; refine (HWR.out _ (HD2.out.kept (HKD.out.trans hkA))).mono ?_; rintro e wB ⟨rfl, hDB, hOB⟩))
                clear ht1 ht2 ht3
                have HOB : Hid (Only lo hi w wB) := HO2.out.trans (((HKD.out.trans hkA).only _ _).trans hOB)
                have HGB := Lib.hid ((HG2.out.kept (HKD.out.trans hkA)).only hOB HHI.out)
                have HXB := Lib.hid ((HX2.out.kept (HKD.out.trans hkA)).only hOB (by have := HHI.out; omega))
                have HDB := Lib.hid hDB
                clear hkA hDB hOB HKEEP HKEEP2 HKD HO2 HD2 HG2 HX2 HWR
                by_cases h2 : E2 = 0
                · have e5 : ((E2 : Int) != 0) = false := by rw [h2]; rfl
                  have HF : Hid ((wrTo s x (d + 1)).1 = 0 ∧ Only lo hi w wB ∧ DocAt L lo hi (wrTo s x (d + 1)).2 wB ∧ GeoAt wB w.heap.size g ∧ RtAt wB (w.heap.size + 1) x) := ⟨by rw [HN.out]; exact h2, HOB.out, by rw [HN.out]; exact HDB.out, HGB.out, HXB.out⟩
                  clear h2
                  have hdl := HLT.out
                  go_wp2_with fail
                  exact ⟨⟨d + 1, by have := HLT.out; omega, by go_num, HF.out⟩, by have := HLT.out; simp [intOf]; omega⟩
                · have e5 : ((E2 : Int) != 0) = true := by rw [bne_iff_ne]; omega
                  have hrs := HER.out (by rw [HN.out]; exact h2)
                  rw [HN.out] at hrs
                  clear h2
                  go_wp2_with fail
                  go_ret
                  rw [hrs]
                  exact ⟨rfl, HDB.out, HOB.out⟩
            | some y =>
              have hym := (decR_some hdc).1
              obtain ⟨y1, y2, _⟩ := Rt.may_iff hym
              clear hym
              unfold decV Rt.val
              dsimp only
              have HAL : Hid (Kept v1 (v1.alloc (.cells #[.int .u64 (y.gen : Nat), .int .u64 (y.nxt : Nat), .int .i64 y.row, .int .u64 (y.st : Nat), .int .i64 y.len] 38))) := (Kept.refl _).alloc _
              by_cases hE : E = 0
              · have e2 : ((E : Int) == 0) = true := by rw [beq_iff_eq]; omega
                by_cases hp : y.gen % 2 = x.oth
                · have e3 : ((y.gen : Int) % 2 == (x.oth : Int)) = true := by rw [beq_iff_eq]; omega
                  by_cases hq : x.gen < y.gen
                  · have e4 : decide ((x.gen : Int) < (y.gen : Int)) = true := decide_eq_true (by omega)
                    have x0 := HX1.out.c0
                    have hx0 : (v1.alloc (.cells #[.int .u64 (y.gen : Nat), .int .u64 (y.nxt : Nat), .int .i64 y.row, .int .u64 (y.st : Nat), .int .i64 y.len] 38)).cell? ⟨w.heap.size + 1, 0, none⟩ = some (.int .u64 (x.gen : Nat)) := (HX1.out.kept HAL.out).c0
                    have hnw : nw = true := by rw [HNW.out]; unfold newR; rw [hdc, decide_eq_true hE]; simp [hp, hq]
                    rw [hnw, if_pos rfl] at HWD
                    clear HNW hnw hdc
                    go_upto_region 12 with fail
                    generalize v1.alloc (.cells #[.int .u64 (y.gen : Nat), .int .u64 (y.nxt : Nat), .int .i64 y.row, .int .u64 (y.st : Nat), .int .i64 y.len] 38) = W at *
                    have HO2 : Hid (Only lo hi w W) := HO1.out.trans (HAL.out.only _ _)
                    have HD2 := Lib.hid (HD1.out.kept HAL.out)
                    have HG2 := Lib.hid (HG1.out.kept HAL.out)
                    have HX2 := Lib.hid (HX1.out.kept HAL.out)
                    clear HO1 HD1 HG1 HX1 HAL x0 hx0
                    obtain ⟨M, hM, hMC⟩ := mk64
                    have hMw := hM W
                    have hMcw := hMC W
                    have HWC := Lib.hid (fun W' h => dWrite_any L lo hi S d x.oth none64 (by rw [none64_size]; decide) W' h)
                    rw [(none64_write S d x.oth).1, (none64_write S d x.oth).2] at HWC
                    generalize S.writeE d x.oth ⟨#[]⟩ = E1 at *
                    generalize S.writeS d x.oth ⟨#[]⟩ = S1 at *
                    have hkm : Kept W (W.alloc (.cells M 5)) := (Kept.refl _).alloc _
                    have HKM := Lib.hid hkm
                    clear hM hMC hkm
                    go_wp2_with fail
                    refine (HWC.out _ (HD2.out.kept HKM.out)).mono ?_
                    rintro e v2 ⟨rfl, hd3, hO3⟩
                    have HO3 : Hid (Only lo hi w v2) := HO2.out.trans ((HKM.out.only _ _).trans hO3)
                    have HD3 := Lib.hid hd3
                    have HG3 := Lib.hid ((HG2.out.kept HKM.out).only hO3 HHI.out)
                    have HX3 := Lib.hid ((HX2.out.kept HKM.out).only hO3 (by have := HHI.out; omega))
                    clear hd3 hO3 HO2 HD2 HG2 HX2 HKM HWC hMw hMcw
                    by_cases h1 : E1 = 0
                    · have e6 : ((E1 : Int) != 0) = false := by rw [h1]; rfl
                      rw [if_neg (by omega)] at HWD
                      clear h1
                      go_upto_region 15 with fail
                      have HN : Hid (wrTo s x (d + 1) = ((S1).writeE d x.me x.txt, (S1).writeS d x.me x.txt)) := by show _ = _; rw [HST.out, HWD.out]
                      have HWR := Lib.hid (fun W h => dWrite_any L lo hi (S1) d x.me x.txt (by rw [HTZ.out]; decide) W h)
                      have HKEEP : Hid (∀ W', Kept v2 W' → W'.cell? ⟨w.heap.size + 1, 0, none⟩ = some (.int .u64 (x.gen : Nat)) ∧ W'.cell? ⟨w.heap.size + 1, 1, none⟩ = some (.int .u64 (x.nxt : Nat)) ∧ W'.cell? ⟨w.heap.size + 1, 2, none⟩ = some (.int .i64 x.row) ∧ W'.cell? ⟨w.heap.size + 1, 3, none⟩ = some (.int .u64 (x.st : Nat)) ∧ W'.cell? ⟨w.heap.size + 1, 4, none⟩ = some (.int .i64 x.len)) := fun W' k => ⟨(HX3.out.kept k).c0, (HX3.out.kept k).c1, (HX3.out.kept k).c2, (HX3.out.kept k).c3, (HX3.out.kept k).c4⟩
                      have HKEEP2 : Hid (∀ W1 W', Kept v2 W1 → Only lo hi W1 W' → W'.cell? ⟨w.heap.size + 1, 0, none⟩ = some (.int .u64 (x.gen : Nat)) ∧ W'.cell? ⟨w.heap.size + 1, 1, none⟩ = some (.int .u64 (x.nxt : Nat)) ∧ W'.cell? ⟨w.heap.size + 1, 2, none⟩ = some (.int .i64 x.row) ∧ W'.cell? ⟨w.heap.size + 1, 3, none⟩ = some (.int .u64 (x.st : Nat)) ∧ W'.cell? ⟨w.heap.size + 1, 4, none⟩ = some (.int .i64 x.len)) := fun W1 W' k o => ⟨((HX3.out.kept k).only o (by have := HHI.out; omega)).c0, ((HX3.out.kept k).only o (by have := HHI.out; omega)).c1, ((HX3.out.kept k).only o (by have := HHI.out; omega)).c2, ((HX3.out.kept k).only o (by have := HHI.out; omega)).c3, ((HX3.out.kept k).only o (by have := HHI.out; omega)).c4⟩
                      have HKD : Hid (Kept v2 v2.drew) := (Kept.refl _).drew
                      generalize (S1).writeE d x.me x.txt = E2 at *
                      generalize (S1).writeS d x.me x.txt = S2 at *
                      have ht1 : (x.gen : Int).tmod 2 = (x.me : Nat) := by unfold Rt.me; rw [Int.tmod_eq_emod_of_nonneg (by omega)]; omega
                      have ht2 : IntKind.u64.wrap (x.me : Int) = (x.me : Int) := IntWalk.u64_in _ (by have := x.me_lt; omega)
                      have ht3 : IntKind.i64.wrap (x.me : Int) = (x.me : Int) := IntWalk.i64_in _ (by have := x.me_lt; omega)
                      clear hlt hd h71
                      (try clear hE)
                      (try clear hp)
                      (try clear hq)
                      go_region_held3 (fun W' => W'.cell? ⟨w.heap.size + 1, 0, none⟩ = some (.int .u64 (x.gen : Nat)) ∧ W'.cell? ⟨w.heap.size + 1, 1, none⟩ = some (.int .u64 (x.nxt : Nat)) ∧ W'.cell? ⟨w.heap.size + 1, 2, none⟩ = some (.int .i64 x.row) ∧ W'.cell? ⟨w.heap.size + 1, 3, none⟩ = some (.int .u64 (x.st : Nat)) ∧ W'.cell? ⟨w.heap.size + 1, 4, none⟩ = some (.int .i64 x.len)) (first | exact HKEEP.out _ (Kept.refl _) | exact HKEEP.out _ HKD.out | exact HKEEP.out _ (HKD.out.trans hkA) | exact HKEEP2.out _ _ (HKD.out.trans hkA) hOB)
                        (first
                          | (go_at_call 32; refine (HRW.out _).mono ?_; rintro e wA ⟨rfl, hkA⟩)
                          | (go_at_call 31; refine (HWR.out _ (HD3.out.kept (HKD.out.trans hkA))).mono ?_; rintro e wB ⟨rfl, hDB, hOB⟩))
                      clear ht1 ht2 ht3
                      have HOB : Hid (Only lo hi w wB) := HO3.out.trans (((HKD.out.trans hkA).only _ _).trans hOB)
                      have HGB := Lib.hid ((HG3.out.kept (HKD.out.trans hkA)).only hOB HHI.out)
                      have HXB := Lib.hid ((HX3.out.kept (HKD.out.trans hkA)).only hOB (by have := HHI.out; omega))
                      have HDB := Lib.hid hDB
                      clear hkA hDB hOB HKEEP HKEEP2 HKD HO3 HD3 HG3 HX3 HWR
                      by_cases h2 : E2 = 0
                      · have e5 : ((E2 : Int) != 0) = false := by rw [h2]; rfl
                        have HF : Hid ((wrTo s x (d + 1)).1 = 0 ∧ Only lo hi w wB ∧ DocAt L lo hi (wrTo s x (d + 1)).2 wB ∧ GeoAt wB w.heap.size g ∧ RtAt wB (w.heap.size + 1) x) := ⟨by rw [HN.out]; exact h2, HOB.out, by rw [HN.out]; exact HDB.out, HGB.out, HXB.out⟩
                        clear h2
                        have hdl := HLT.out
                        go_wp2_with fail
                        exact ⟨⟨d + 1, by have := HLT.out; omega, by go_num, HF.out⟩, by have := HLT.out; simp [intOf]; omega⟩
                      · have e5 : ((E2 : Int) != 0) = true := by rw [bne_iff_ne]; omega
                        have hrs := HER.out (by rw [HN.out]; exact h2)
                        rw [HN.out] at hrs
                        clear h2
                        go_wp2_with fail
                        go_ret
                        rw [hrs]
                        exact ⟨rfl, HDB.out, HOB.out⟩
                    · have e6 : ((E1 : Int) != 0) = true := by rw [bne_iff_ne]; omega
                      rw [if_pos h1] at HWD
                      have hrs := HER.out (by rw [HST.out, HWD.out]; exact h1)
                      rw [HST.out, HWD.out] at hrs
                      clear h1
                      go_wp2_with fail
                      go_ret
                      rw [hrs]
                      exact ⟨rfl, HD3.out, HO3.out⟩
                  · have e4 : decide ((x.gen : Int) < (y.gen : Int)) = false := decide_eq_false (by omega)
                    have x0 := HX1.out.c0
                    have hx0 : (v1.alloc (.cells #[.int .u64 (y.gen : Nat), .int .u64 (y.nxt : Nat), .int .i64 y.row, .int .u64 (y.st : Nat), .int .i64 y.len] 38)).cell? ⟨w.heap.size + 1, 0, none⟩ = some (.int .u64 (x.gen : Nat)) := (HX1.out.kept HAL.out).c0
                    have hnw : nw = false := by rw [HNW.out]; unfold newR; rw [hdc]; simp [hq]
                    rw [hnw, if_neg (by decide)] at HWD
                    clear HNW hnw hdc
                    go_upto_region 15 with fail
                    generalize v1.alloc (.cells #[.int .u64 (y.gen : Nat), .int .u64 (y.nxt : Nat), .int .i64 y.row, .int .u64 (y.st : Nat), .int .i64 y.len] 38) = W at *
                    have HO2 : Hid (Only lo hi w W) := HO1.out.trans (HAL.out.only _ _)
                    have HD2 := Lib.hid (HD1.out.kept HAL.out)
                    have HG2 := Lib.hid (HG1.out.kept HAL.out)
                    have HX2 := Lib.hid (HX1.out.kept HAL.out)
                    clear HO1 HD1 HG1 HX1 HAL
                    have HN : Hid (wrTo s x (d + 1) = ((S).writeE d x.me x.txt, (S).writeS d x.me x.txt)) := by show _ = _; rw [HST.out, HWD.out]
                    have HWR := Lib.hid (fun W h => dWrite_any L lo hi (S) d x.me x.txt (by rw [HTZ.out]; decide) W h)
                    have HKEEP : Hid (∀ W', Kept W W' → W'.cell? ⟨w.heap.size + 1, 0, none⟩ = some (.int .u64 (x.gen : Nat)) ∧ W'.cell? ⟨w.heap.size + 1, 1, none⟩ = some (.int .u64 (x.nxt : Nat)) ∧ W'.cell? ⟨w.heap.size + 1, 2, none⟩ = some (.int .i64 x.row) ∧ W'.cell? ⟨w.heap.size + 1, 3, none⟩ = some (.int .u64 (x.st : Nat)) ∧ W'.cell? ⟨w.heap.size + 1, 4, none⟩ = some (.int .i64 x.len)) := fun W' k => ⟨(HX2.out.kept k).c0, (HX2.out.kept k).c1, (HX2.out.kept k).c2, (HX2.out.kept k).c3, (HX2.out.kept k).c4⟩
                    have HKEEP2 : Hid (∀ W1 W', Kept W W1 → Only lo hi W1 W' → W'.cell? ⟨w.heap.size + 1, 0, none⟩ = some (.int .u64 (x.gen : Nat)) ∧ W'.cell? ⟨w.heap.size + 1, 1, none⟩ = some (.int .u64 (x.nxt : Nat)) ∧ W'.cell? ⟨w.heap.size + 1, 2, none⟩ = some (.int .i64 x.row) ∧ W'.cell? ⟨w.heap.size + 1, 3, none⟩ = some (.int .u64 (x.st : Nat)) ∧ W'.cell? ⟨w.heap.size + 1, 4, none⟩ = some (.int .i64 x.len)) := fun W1 W' k o => ⟨((HX2.out.kept k).only o (by have := HHI.out; omega)).c0, ((HX2.out.kept k).only o (by have := HHI.out; omega)).c1, ((HX2.out.kept k).only o (by have := HHI.out; omega)).c2, ((HX2.out.kept k).only o (by have := HHI.out; omega)).c3, ((HX2.out.kept k).only o (by have := HHI.out; omega)).c4⟩
                    have HKD : Hid (Kept W W.drew) := (Kept.refl _).drew
                    generalize (S).writeE d x.me x.txt = E2 at *
                    generalize (S).writeS d x.me x.txt = S2 at *
                    have ht1 : (x.gen : Int).tmod 2 = (x.me : Nat) := by unfold Rt.me; rw [Int.tmod_eq_emod_of_nonneg (by omega)]; omega
                    have ht2 : IntKind.u64.wrap (x.me : Int) = (x.me : Int) := IntWalk.u64_in _ (by have := x.me_lt; omega)
                    have ht3 : IntKind.i64.wrap (x.me : Int) = (x.me : Int) := IntWalk.i64_in _ (by have := x.me_lt; omega)
                    clear hlt hd h71
                    (try clear hE)
                    (try clear hp)
                    (try clear hq)
                    go_region_held3 (fun W' => W'.cell? ⟨w.heap.size + 1, 0, none⟩ = some (.int .u64 (x.gen : Nat)) ∧ W'.cell? ⟨w.heap.size + 1, 1, none⟩ = some (.int .u64 (x.nxt : Nat)) ∧ W'.cell? ⟨w.heap.size + 1, 2, none⟩ = some (.int .i64 x.row) ∧ W'.cell? ⟨w.heap.size + 1, 3, none⟩ = some (.int .u64 (x.st : Nat)) ∧ W'.cell? ⟨w.heap.size + 1, 4, none⟩ = some (.int .i64 x.len)) (first | exact HKEEP.out _ (Kept.refl _) | exact HKEEP.out _ HKD.out | exact HKEEP.out _ (HKD.out.trans hkA) | exact HKEEP2.out _ _ (HKD.out.trans hkA) hOB)
                      (first
                        | (go_at_call 32; refine (HRW.out _).mono ?_; rintro e wA ⟨rfl, hkA⟩)
                        | (go_at_call 31; refine (HWR.out _ (HD2.out.kept (HKD.out.trans hkA))).mono ?_; rintro e wB ⟨rfl, hDB, hOB⟩))
                    clear ht1 ht2 ht3
                    have HOB : Hid (Only lo hi w wB) := HO2.out.trans (((HKD.out.trans hkA).only _ _).trans hOB)
                    have HGB := Lib.hid ((HG2.out.kept (HKD.out.trans hkA)).only hOB HHI.out)
                    have HXB := Lib.hid ((HX2.out.kept (HKD.out.trans hkA)).only hOB (by have := HHI.out; omega))
                    have HDB := Lib.hid hDB
                    clear hkA hDB hOB HKEEP HKEEP2 HKD HO2 HD2 HG2 HX2 HWR
                    by_cases h2 : E2 = 0
                    · have e5 : ((E2 : Int) != 0) = false := by rw [h2]; rfl
                      have HF : Hid ((wrTo s x (d + 1)).1 = 0 ∧ Only lo hi w wB ∧ DocAt L lo hi (wrTo s x (d + 1)).2 wB ∧ GeoAt wB w.heap.size g ∧ RtAt wB (w.heap.size + 1) x) := ⟨by rw [HN.out]; exact h2, HOB.out, by rw [HN.out]; exact HDB.out, HGB.out, HXB.out⟩
                      clear h2
                      have hdl := HLT.out
                      go_wp2_with fail
                      exact ⟨⟨d + 1, by have := HLT.out; omega, by go_num, HF.out⟩, by have := HLT.out; simp [intOf]; omega⟩
                    · have e5 : ((E2 : Int) != 0) = true := by rw [bne_iff_ne]; omega
                      have hrs := HER.out (by rw [HN.out]; exact h2)
                      rw [HN.out] at hrs
                      clear h2
                      go_wp2_with fail
                      go_ret
                      rw [hrs]
                      exact ⟨rfl, HDB.out, HOB.out⟩
                · have e3 : ((y.gen : Int) % 2 == (x.oth : Int)) = false := by rw [beq_eq_false_iff_ne]; omega
                  have hnw : nw = false := by rw [HNW.out]; unfold newR; rw [hdc]; simp [hp]
                  rw [hnw, if_neg (by decide)] at HWD
                  clear HNW hnw hdc
                  go_upto_region 15 with fail
                  generalize v1.alloc (.cells #[.int .u64 (y.gen : Nat), .int .u64 (y.nxt : Nat), .int .i64 y.row, .int .u64 (y.st : Nat), .int .i64 y.len] 38) = W at *
                  have HO2 : Hid (Only lo hi w W) := HO1.out.trans (HAL.out.only _ _)
                  have HD2 := Lib.hid (HD1.out.kept HAL.out)
                  have HG2 := Lib.hid (HG1.out.kept HAL.out)
                  have HX2 := Lib.hid (HX1.out.kept HAL.out)
                  clear HO1 HD1 HG1 HX1 HAL
                  have HN : Hid (wrTo s x (d + 1) = ((S).writeE d x.me x.txt, (S).writeS d x.me x.txt)) := by show _ = _; rw [HST.out, HWD.out]
                  have HWR := Lib.hid (fun W h => dWrite_any L lo hi (S) d x.me x.txt (by rw [HTZ.out]; decide) W h)
                  have HKEEP : Hid (∀ W', Kept W W' → W'.cell? ⟨w.heap.size + 1, 0, none⟩ = some (.int .u64 (x.gen : Nat)) ∧ W'.cell? ⟨w.heap.size + 1, 1, none⟩ = some (.int .u64 (x.nxt : Nat)) ∧ W'.cell? ⟨w.heap.size + 1, 2, none⟩ = some (.int .i64 x.row) ∧ W'.cell? ⟨w.heap.size + 1, 3, none⟩ = some (.int .u64 (x.st : Nat)) ∧ W'.cell? ⟨w.heap.size + 1, 4, none⟩ = some (.int .i64 x.len)) := fun W' k => ⟨(HX2.out.kept k).c0, (HX2.out.kept k).c1, (HX2.out.kept k).c2, (HX2.out.kept k).c3, (HX2.out.kept k).c4⟩
                  have HKEEP2 : Hid (∀ W1 W', Kept W W1 → Only lo hi W1 W' → W'.cell? ⟨w.heap.size + 1, 0, none⟩ = some (.int .u64 (x.gen : Nat)) ∧ W'.cell? ⟨w.heap.size + 1, 1, none⟩ = some (.int .u64 (x.nxt : Nat)) ∧ W'.cell? ⟨w.heap.size + 1, 2, none⟩ = some (.int .i64 x.row) ∧ W'.cell? ⟨w.heap.size + 1, 3, none⟩ = some (.int .u64 (x.st : Nat)) ∧ W'.cell? ⟨w.heap.size + 1, 4, none⟩ = some (.int .i64 x.len)) := fun W1 W' k o => ⟨((HX2.out.kept k).only o (by have := HHI.out; omega)).c0, ((HX2.out.kept k).only o (by have := HHI.out; omega)).c1, ((HX2.out.kept k).only o (by have := HHI.out; omega)).c2, ((HX2.out.kept k).only o (by have := HHI.out; omega)).c3, ((HX2.out.kept k).only o (by have := HHI.out; omega)).c4⟩
                  have HKD : Hid (Kept W W.drew) := (Kept.refl _).drew
                  generalize (S).writeE d x.me x.txt = E2 at *
                  generalize (S).writeS d x.me x.txt = S2 at *
                  have ht1 : (x.gen : Int).tmod 2 = (x.me : Nat) := by unfold Rt.me; rw [Int.tmod_eq_emod_of_nonneg (by omega)]; omega
                  have ht2 : IntKind.u64.wrap (x.me : Int) = (x.me : Int) := IntWalk.u64_in _ (by have := x.me_lt; omega)
                  have ht3 : IntKind.i64.wrap (x.me : Int) = (x.me : Int) := IntWalk.i64_in _ (by have := x.me_lt; omega)
                  clear hlt hd h71
                  (try clear hE)
                  (try clear hp)
                  (try clear hq)
                  go_region_held3 (fun W' => W'.cell? ⟨w.heap.size + 1, 0, none⟩ = some (.int .u64 (x.gen : Nat)) ∧ W'.cell? ⟨w.heap.size + 1, 1, none⟩ = some (.int .u64 (x.nxt : Nat)) ∧ W'.cell? ⟨w.heap.size + 1, 2, none⟩ = some (.int .i64 x.row) ∧ W'.cell? ⟨w.heap.size + 1, 3, none⟩ = some (.int .u64 (x.st : Nat)) ∧ W'.cell? ⟨w.heap.size + 1, 4, none⟩ = some (.int .i64 x.len)) (first | exact HKEEP.out _ (Kept.refl _) | exact HKEEP.out _ HKD.out | exact HKEEP.out _ (HKD.out.trans hkA) | exact HKEEP2.out _ _ (HKD.out.trans hkA) hOB)
                    (first
                      | (go_at_call 32; refine (HRW.out _).mono ?_; rintro e wA ⟨rfl, hkA⟩)
                      | (go_at_call 31; refine (HWR.out _ (HD2.out.kept (HKD.out.trans hkA))).mono ?_; rintro e wB ⟨rfl, hDB, hOB⟩))
                  clear ht1 ht2 ht3
                  have HOB : Hid (Only lo hi w wB) := HO2.out.trans (((HKD.out.trans hkA).only _ _).trans hOB)
                  have HGB := Lib.hid ((HG2.out.kept (HKD.out.trans hkA)).only hOB HHI.out)
                  have HXB := Lib.hid ((HX2.out.kept (HKD.out.trans hkA)).only hOB (by have := HHI.out; omega))
                  have HDB := Lib.hid hDB
                  clear hkA hDB hOB HKEEP HKEEP2 HKD HO2 HD2 HG2 HX2 HWR
                  by_cases h2 : E2 = 0
                  · have e5 : ((E2 : Int) != 0) = false := by rw [h2]; rfl
                    have HF : Hid ((wrTo s x (d + 1)).1 = 0 ∧ Only lo hi w wB ∧ DocAt L lo hi (wrTo s x (d + 1)).2 wB ∧ GeoAt wB w.heap.size g ∧ RtAt wB (w.heap.size + 1) x) := ⟨by rw [HN.out]; exact h2, HOB.out, by rw [HN.out]; exact HDB.out, HGB.out, HXB.out⟩
                    clear h2
                    have hdl := HLT.out
                    go_wp2_with fail
                    exact ⟨⟨d + 1, by have := HLT.out; omega, by go_num, HF.out⟩, by have := HLT.out; simp [intOf]; omega⟩
                  · have e5 : ((E2 : Int) != 0) = true := by rw [bne_iff_ne]; omega
                    have hrs := HER.out (by rw [HN.out]; exact h2)
                    rw [HN.out] at hrs
                    clear h2
                    go_wp2_with fail
                    go_ret
                    rw [hrs]
                    exact ⟨rfl, HDB.out, HOB.out⟩
              · have e2 : ((E : Int) == 0) = false := by rw [beq_eq_false_iff_ne]; omega
                have hnw : nw = false := by rw [HNW.out, decide_eq_false hE]; rfl
                rw [hnw, if_neg (by decide)] at HWD
                clear HNW hnw hdc
                go_upto_region 15 with fail
                generalize v1.alloc (.cells #[.int .u64 (y.gen : Nat), .int .u64 (y.nxt : Nat), .int .i64 y.row, .int .u64 (y.st : Nat), .int .i64 y.len] 38) = W at *
                have HO2 : Hid (Only lo hi w W) := HO1.out.trans (HAL.out.only _ _)
                have HD2 := Lib.hid (HD1.out.kept HAL.out)
                have HG2 := Lib.hid (HG1.out.kept HAL.out)
                have HX2 := Lib.hid (HX1.out.kept HAL.out)
                clear HO1 HD1 HG1 HX1 HAL
                have HN : Hid (wrTo s x (d + 1) = ((S).writeE d x.me x.txt, (S).writeS d x.me x.txt)) := by show _ = _; rw [HST.out, HWD.out]
                have HWR := Lib.hid (fun W h => dWrite_any L lo hi (S) d x.me x.txt (by rw [HTZ.out]; decide) W h)
                have HKEEP : Hid (∀ W', Kept W W' → W'.cell? ⟨w.heap.size + 1, 0, none⟩ = some (.int .u64 (x.gen : Nat)) ∧ W'.cell? ⟨w.heap.size + 1, 1, none⟩ = some (.int .u64 (x.nxt : Nat)) ∧ W'.cell? ⟨w.heap.size + 1, 2, none⟩ = some (.int .i64 x.row) ∧ W'.cell? ⟨w.heap.size + 1, 3, none⟩ = some (.int .u64 (x.st : Nat)) ∧ W'.cell? ⟨w.heap.size + 1, 4, none⟩ = some (.int .i64 x.len)) := fun W' k => ⟨(HX2.out.kept k).c0, (HX2.out.kept k).c1, (HX2.out.kept k).c2, (HX2.out.kept k).c3, (HX2.out.kept k).c4⟩
                have HKEEP2 : Hid (∀ W1 W', Kept W W1 → Only lo hi W1 W' → W'.cell? ⟨w.heap.size + 1, 0, none⟩ = some (.int .u64 (x.gen : Nat)) ∧ W'.cell? ⟨w.heap.size + 1, 1, none⟩ = some (.int .u64 (x.nxt : Nat)) ∧ W'.cell? ⟨w.heap.size + 1, 2, none⟩ = some (.int .i64 x.row) ∧ W'.cell? ⟨w.heap.size + 1, 3, none⟩ = some (.int .u64 (x.st : Nat)) ∧ W'.cell? ⟨w.heap.size + 1, 4, none⟩ = some (.int .i64 x.len)) := fun W1 W' k o => ⟨((HX2.out.kept k).only o (by have := HHI.out; omega)).c0, ((HX2.out.kept k).only o (by have := HHI.out; omega)).c1, ((HX2.out.kept k).only o (by have := HHI.out; omega)).c2, ((HX2.out.kept k).only o (by have := HHI.out; omega)).c3, ((HX2.out.kept k).only o (by have := HHI.out; omega)).c4⟩
                have HKD : Hid (Kept W W.drew) := (Kept.refl _).drew
                generalize (S).writeE d x.me x.txt = E2 at *
                generalize (S).writeS d x.me x.txt = S2 at *
                have ht1 : (x.gen : Int).tmod 2 = (x.me : Nat) := by unfold Rt.me; rw [Int.tmod_eq_emod_of_nonneg (by omega)]; omega
                have ht2 : IntKind.u64.wrap (x.me : Int) = (x.me : Int) := IntWalk.u64_in _ (by have := x.me_lt; omega)
                have ht3 : IntKind.i64.wrap (x.me : Int) = (x.me : Int) := IntWalk.i64_in _ (by have := x.me_lt; omega)
                clear hlt hd h71
                (try clear hE)
                (try clear hp)
                (try clear hq)
                go_region_held3 (fun W' => W'.cell? ⟨w.heap.size + 1, 0, none⟩ = some (.int .u64 (x.gen : Nat)) ∧ W'.cell? ⟨w.heap.size + 1, 1, none⟩ = some (.int .u64 (x.nxt : Nat)) ∧ W'.cell? ⟨w.heap.size + 1, 2, none⟩ = some (.int .i64 x.row) ∧ W'.cell? ⟨w.heap.size + 1, 3, none⟩ = some (.int .u64 (x.st : Nat)) ∧ W'.cell? ⟨w.heap.size + 1, 4, none⟩ = some (.int .i64 x.len)) (first | exact HKEEP.out _ (Kept.refl _) | exact HKEEP.out _ HKD.out | exact HKEEP.out _ (HKD.out.trans hkA) | exact HKEEP2.out _ _ (HKD.out.trans hkA) hOB)
                  (first
                    | (go_at_call 32; refine (HRW.out _).mono ?_; rintro e wA ⟨rfl, hkA⟩)
                    | (go_at_call 31; refine (HWR.out _ (HD2.out.kept (HKD.out.trans hkA))).mono ?_; rintro e wB ⟨rfl, hDB, hOB⟩))
                clear ht1 ht2 ht3
                have HOB : Hid (Only lo hi w wB) := HO2.out.trans (((HKD.out.trans hkA).only _ _).trans hOB)
                have HGB := Lib.hid ((HG2.out.kept (HKD.out.trans hkA)).only hOB HHI.out)
                have HXB := Lib.hid ((HX2.out.kept (HKD.out.trans hkA)).only hOB (by have := HHI.out; omega))
                have HDB := Lib.hid hDB
                clear hkA hDB hOB HKEEP HKEEP2 HKD HO2 HD2 HG2 HX2 HWR
                by_cases h2 : E2 = 0
                · have e5 : ((E2 : Int) != 0) = false := by rw [h2]; rfl
                  have HF : Hid ((wrTo s x (d + 1)).1 = 0 ∧ Only lo hi w wB ∧ DocAt L lo hi (wrTo s x (d + 1)).2 wB ∧ GeoAt wB w.heap.size g ∧ RtAt wB (w.heap.size + 1) x) := ⟨by rw [HN.out]; exact h2, HOB.out, by rw [HN.out]; exact HDB.out, HGB.out, HXB.out⟩
                  clear h2
                  have hdl := HLT.out
                  go_wp2_with fail
                  exact ⟨⟨d + 1, by have := HLT.out; omega, by go_num, HF.out⟩, by have := HLT.out; simp [intOf]; omega⟩
                · have e5 : ((E2 : Int) != 0) = true := by rw [bne_iff_ne]; omega
                  have hrs := HER.out (by rw [HN.out]; exact h2)
                  rw [HN.out] at hrs
                  clear h2
                  go_wp2_with fail
                  go_ret
                  rw [hrs]
                  exact ⟨rfl, HDB.out, HOB.out⟩
        · have b1 : decide ((d : Int) < g.n) = false := decide_eq_false (by omega)
          obtain rfl : d = s.n := by omega
          go_wp2_with fail
          go_ret
          rw [HRS.out, HI.out.1]
          exact ⟨rfl, HI.out.2.2.1, HI.out.2.1⟩
end Go.Proofs.YtoekaabngjjefaaGreat

