/- A key in memory: five cells; and which fields a kind has: four. -/
import Derived.Test.YtccpbgkaeldlaaaNySmall
import Derived.Test.YtccpbgkaeldlaaaBut
namespace Go.Proofs.Ytccpbgkaeldlaaa
open Go.RowKit _root_.Go.Proofs.Ytccpbgkaeldlaaa.Nm Ny
set_option linter.unusedVariables false
set_option linter.unusedSimpArgs false
structure KyAt (w : World) (g : Nat) (x : Key) : Prop where
  c0 : w.cell? ⟨g, 0, none⟩ = some (.int .u8 (x.kd : Nat))
  c1 : w.cell? ⟨g, 1, none⟩ = some (.string x.bk)
  c2 : w.cell? ⟨g, 2, none⟩ = some (.string x.nm)
  c3 : w.cell? ⟨g, 3, none⟩ = some (.int .u64 (x.n : Nat))
  c4 : w.cell? ⟨g, 4, none⟩ = some (.int .i64 x.pt)
  f0 : w.frozen? ⟨g, 0, none⟩ = false
  f1 : w.frozen? ⟨g, 1, none⟩ = false
  f2 : w.frozen? ⟨g, 2, none⟩ = false
  f3 : w.frozen? ⟨g, 3, none⟩ = false
  f4 : w.frozen? ⟨g, 4, none⟩ = false
theorem KyAt.lt {w : World} {g : Nat} {x : Key} (h : KyAt w g x) : g < w.heap.size := block_lt_of_cell h.c0
theorem KyAt.frame {w w' : World} {g : Nat} {x : Key} (h : KyAt w g x) (e : w'.heap[g]? = w.heap[g]?) : KyAt w' g x := by
  have hc : ∀ o, w'.cell? ⟨g, o, none⟩ = w.cell? ⟨g, o, none⟩ := fun o => World.cell?_of_block (w := w) (a := ⟨g, o, none⟩) e
  have hf : ∀ o, w'.frozen? ⟨g, o, none⟩ = w.frozen? ⟨g, o, none⟩ := fun o => World.frozen?_of_block (w := w) (a := ⟨g, o, none⟩) e
  exact ⟨(hc 0).trans h.c0, (hc 1).trans h.c1, (hc 2).trans h.c2, (hc 3).trans h.c3, (hc 4).trans h.c4, (hf 0).trans h.f0, (hf 1).trans h.f1, (hf 2).trans h.f2, (hf 3).trans h.f3, (hf 4).trans h.f4⟩
theorem KyAt.kept {w w' : World} {g : Nat} {x : Key} (h : KyAt w g x) (k : Kept w w') : KyAt w' g x := h.frame (k.block g h.lt)
theorem KyAt.below {B : Nat} {w w' : World} {g : Nat} {x : Key} (h : KyAt w g x) (k : Below B w w') (hg : g < B) : KyAt w' g x := h.frame (k.block g hg)
theorem KyAt.laid (w : World) (T : TypeId) (x : Key) : KyAt (w.alloc (.cells #[.int .u8 (x.kd : Nat), .string x.bk, .string x.nm, .int .u64 (x.n : Nat), .int .i64 x.pt] T)) w.heap.size x := by
  refine ⟨?_, ?_, ?_, ?_, ?_, ?_, ?_, ?_, ?_, ?_⟩
  all_goals first | (rw [World.cell?_alloc_mark]; rfl) | (rw [World.frozen?_alloc_mark]; simp)
theorem KyAt.new (w : World) (T : TypeId) : KyAt (w.alloc (.cells #[.int .u8 0, .string ⟨#[]⟩, .string ⟨#[]⟩, .int .u64 0, .int .i64 0] T)) w.heap.size Key.none := KyAt.laid w T Key.none
theorem KyAt.set0 {w : World} {g : Nat} {x : Key} (h : KyAt w g x) (v : Nat) : KyAt (w.setCell ⟨g, 0, none⟩ (.int .u8 (v : Nat))) g { x with kd := v } := by
  refine ⟨?_, ?_, ?_, ?_, ?_, ?_, ?_, ?_, ?_, ?_⟩
  · exact World.cell?_setCell_same _ _ _ h.c0
  · rw [World.cell?_setCell_other _ _ _ _ (by simp)]; exact h.c1
  · rw [World.cell?_setCell_other _ _ _ _ (by simp)]; exact h.c2
  · rw [World.cell?_setCell_other _ _ _ _ (by simp)]; exact h.c3
  · rw [World.cell?_setCell_other _ _ _ _ (by simp)]; exact h.c4
  · rw [World.frozen?_setCell]; exact h.f0
  · rw [World.frozen?_setCell]; exact h.f1
  · rw [World.frozen?_setCell]; exact h.f2
  · rw [World.frozen?_setCell]; exact h.f3
  · rw [World.frozen?_setCell]; exact h.f4
theorem KyAt.set1 {w : World} {g : Nat} {x : Key} (h : KyAt w g x) (v : ByteArray) : KyAt (w.setCell ⟨g, 1, none⟩ (.string v)) g { x with bk := v } := by
  refine ⟨?_, ?_, ?_, ?_, ?_, ?_, ?_, ?_, ?_, ?_⟩
  · rw [World.cell?_setCell_other _ _ _ _ (by simp)]; exact h.c0
  · exact World.cell?_setCell_same _ _ _ h.c1
  · rw [World.cell?_setCell_other _ _ _ _ (by simp)]; exact h.c2
  · rw [World.cell?_setCell_other _ _ _ _ (by simp)]; exact h.c3
  · rw [World.cell?_setCell_other _ _ _ _ (by simp)]; exact h.c4
  · rw [World.frozen?_setCell]; exact h.f0
  · rw [World.frozen?_setCell]; exact h.f1
  · rw [World.frozen?_setCell]; exact h.f2
  · rw [World.frozen?_setCell]; exact h.f3
  · rw [World.frozen?_setCell]; exact h.f4
theorem KyAt.set2 {w : World} {g : Nat} {x : Key} (h : KyAt w g x) (v : ByteArray) : KyAt (w.setCell ⟨g, 2, none⟩ (.string v)) g { x with nm := v } := by
  refine ⟨?_, ?_, ?_, ?_, ?_, ?_, ?_, ?_, ?_, ?_⟩
  · rw [World.cell?_setCell_other _ _ _ _ (by simp)]; exact h.c0
  · rw [World.cell?_setCell_other _ _ _ _ (by simp)]; exact h.c1
  · exact World.cell?_setCell_same _ _ _ h.c2
  · rw [World.cell?_setCell_other _ _ _ _ (by simp)]; exact h.c3
  · rw [World.cell?_setCell_other _ _ _ _ (by simp)]; exact h.c4
  · rw [World.frozen?_setCell]; exact h.f0
  · rw [World.frozen?_setCell]; exact h.f1
  · rw [World.frozen?_setCell]; exact h.f2
  · rw [World.frozen?_setCell]; exact h.f3
  · rw [World.frozen?_setCell]; exact h.f4
theorem KyAt.set3 {w : World} {g : Nat} {x : Key} (h : KyAt w g x) (v : Nat) : KyAt (w.setCell ⟨g, 3, none⟩ (.int .u64 (v : Nat))) g { x with n := v } := by
  refine ⟨?_, ?_, ?_, ?_, ?_, ?_, ?_, ?_, ?_, ?_⟩
  · rw [World.cell?_setCell_other _ _ _ _ (by simp)]; exact h.c0
  · rw [World.cell?_setCell_other _ _ _ _ (by simp)]; exact h.c1
  · rw [World.cell?_setCell_other _ _ _ _ (by simp)]; exact h.c2
  · exact World.cell?_setCell_same _ _ _ h.c3
  · rw [World.cell?_setCell_other _ _ _ _ (by simp)]; exact h.c4
  · rw [World.frozen?_setCell]; exact h.f0
  · rw [World.frozen?_setCell]; exact h.f1
  · rw [World.frozen?_setCell]; exact h.f2
  · rw [World.frozen?_setCell]; exact h.f3
  · rw [World.frozen?_setCell]; exact h.f4
theorem KyAt.set4 {w : World} {g : Nat} {x : Key} (h : KyAt w g x) (v : Int) : KyAt (w.setCell ⟨g, 4, none⟩ (.int .i64 v)) g { x with pt := v } := by
  refine ⟨?_, ?_, ?_, ?_, ?_, ?_, ?_, ?_, ?_, ?_⟩
  · rw [World.cell?_setCell_other _ _ _ _ (by simp)]; exact h.c0
  · rw [World.cell?_setCell_other _ _ _ _ (by simp)]; exact h.c1
  · rw [World.cell?_setCell_other _ _ _ _ (by simp)]; exact h.c2
  · rw [World.cell?_setCell_other _ _ _ _ (by simp)]; exact h.c3
  · exact World.cell?_setCell_same _ _ _ h.c4
  · rw [World.frozen?_setCell]; exact h.f0
  · rw [World.frozen?_setCell]; exact h.f1
  · rw [World.frozen?_setCell]; exact h.f2
  · rw [World.frozen?_setCell]; exact h.f3
  · rw [World.frozen?_setCell]; exact h.f4
def putKy (w : World) (g : Nat) (x : Key) : World := ((((w.setCell ⟨g, 0, none⟩ (.int .u8 (x.kd : Nat))).setCell ⟨g, 1, none⟩ (.string x.bk)).setCell ⟨g, 2, none⟩ (.string x.nm)).setCell ⟨g, 3, none⟩ (.int .u64 (x.n : Nat))).setCell ⟨g, 4, none⟩ (.int .i64 x.pt)
theorem KyAt.put {w : World} {g : Nat} {y : Key} (h : KyAt w g y) (x : Key) : KyAt (putKy w g x) g x := ((((h.set0 x.kd).set1 x.bk).set2 x.nm).set3 x.n).set4 x.pt
theorem putKy_kept {w0 w : World} (h : Kept w0 w) (g : Nat) (x : Key) (hg : w0.heap.size ≤ g) : Kept w0 (putKy w g x) :=
  ((((h.setCell (p := ⟨g, 0, none⟩) hg _).setCell (p := ⟨g, 1, none⟩) hg _).setCell (p := ⟨g, 2, none⟩) hg _).setCell (p := ⟨g, 3, none⟩) hg _).setCell (p := ⟨g, 4, none⟩) hg _
theorem putKy_but (w : World) (g : Nat) (x : Key) : But g w (putKy w g x) := (((((But.refl g w).setCell 0 _).setCell 1 _).setCell 2 _).setCell 3 _).setCell 4 _
/-- Which fields a kind has. -/
structure FdAt (w : World) (g : Nat) (kd : Nat) : Prop where
  c0 : w.cell? ⟨g, 0, none⟩ = some (.bool (hasB kd))
  c1 : w.cell? ⟨g, 1, none⟩ = some (.bool (hasM kd))
  c2 : w.cell? ⟨g, 2, none⟩ = some (.bool (hasN kd))
  c3 : w.cell? ⟨g, 3, none⟩ = some (.bool (hasP kd))
theorem FdAt.lt {w : World} {g : Nat} {kd : Nat} (h : FdAt w g kd) : g < w.heap.size := block_lt_of_cell h.c0
theorem FdAt.frame {w w' : World} {g : Nat} {kd : Nat} (h : FdAt w g kd) (e : w'.heap[g]? = w.heap[g]?) : FdAt w' g kd := by
  have hc : ∀ o, w'.cell? ⟨g, o, none⟩ = w.cell? ⟨g, o, none⟩ := fun o => World.cell?_of_block (w := w) (a := ⟨g, o, none⟩) e
  exact ⟨(hc 0).trans h.c0, (hc 1).trans h.c1, (hc 2).trans h.c2, (hc 3).trans h.c3⟩
theorem FdAt.kept {w w' : World} {g : Nat} {kd : Nat} (h : FdAt w g kd) (k : Kept w w') : FdAt w' g kd := h.frame (k.block g h.lt)
theorem FdAt.below {B : Nat} {w w' : World} {g : Nat} {kd : Nat} (h : FdAt w g kd) (k : Below B w w') (hg : g < B) : FdAt w' g kd := h.frame (k.block g hg)
theorem FdAt.but {w w' : World} {g b : Nat} {kd : Nat} (h : FdAt w g kd) (k : But b w w') (hg : g ≠ b) : FdAt w' g kd := h.frame (k.block g h.lt hg)
theorem FdAt.laid (w : World) (T : TypeId) (kd : Nat) : FdAt (w.alloc (.cells #[.bool (hasB kd), .bool (hasM kd), .bool (hasN kd), .bool (hasP kd)] T)) w.heap.size kd := by
  refine ⟨?_, ?_, ?_, ?_⟩
  all_goals (rw [World.cell?_alloc_mark]; rfl)
def fdV (kd : Nat) : Value := .agg #[.bool (hasB kd), .bool (hasM kd), .bool (hasN kd), .bool (hasP kd)]
theorem has_1 (w : World) :
    Calls Try.prog 25 #[.int .u8 1] w fun e w' => e = .returned (.tuple #[.agg #[.bool false, .bool false, .bool false, .bool false], .bool true]) ∧ Kept w w' := by
  go_enter Try.func25, Try.ntmps25
  go_wp2_with fail
  exact bodyPost_ret (v := .tuple #[.agg #[.bool false, .bool false, .bool false, .bool false], .bool true]) (by simp [results, Try.results25, go_sem]) rfl ⟨rfl, (Kept.refl _).alloc _⟩
theorem has_2 (w : World) :
    Calls Try.prog 25 #[.int .u8 2] w fun e w' => e = .returned (.tuple #[.agg #[.bool true, .bool false, .bool false, .bool false], .bool true]) ∧ Kept w w' := by
  go_enter Try.func25, Try.ntmps25
  go_wp2_with fail
  exact bodyPost_ret (v := .tuple #[.agg #[.bool true, .bool false, .bool false, .bool false], .bool true]) (by simp [results, Try.results25, go_sem]) rfl ⟨rfl, (Kept.refl _).alloc _⟩
theorem has_3 (w : World) :
    Calls Try.prog 25 #[.int .u8 3] w fun e w' => e = .returned (.tuple #[.agg #[.bool true, .bool true, .bool true, .bool false], .bool true]) ∧ Kept w w' := by
  go_enter Try.func25, Try.ntmps25
  go_wp2_with fail
  exact bodyPost_ret (v := .tuple #[.agg #[.bool true, .bool true, .bool true, .bool false], .bool true]) (by simp [results, Try.results25, go_sem]) rfl ⟨rfl, (Kept.refl _).alloc _⟩
theorem has_4 (w : World) :
    Calls Try.prog 25 #[.int .u8 4] w fun e w' => e = .returned (.tuple #[.agg #[.bool true, .bool false, .bool true, .bool false], .bool true]) ∧ Kept w w' := by
  go_enter Try.func25, Try.ntmps25
  go_wp2_with fail
  exact bodyPost_ret (v := .tuple #[.agg #[.bool true, .bool false, .bool true, .bool false], .bool true]) (by simp [results, Try.results25, go_sem]) rfl ⟨rfl, (Kept.refl _).alloc _⟩
theorem has_5 (w : World) :
    Calls Try.prog 25 #[.int .u8 5] w fun e w' => e = .returned (.tuple #[.agg #[.bool true, .bool false, .bool true, .bool true], .bool true]) ∧ Kept w w' := by
  go_enter Try.func25, Try.ntmps25
  go_wp2_with fail
  exact bodyPost_ret (v := .tuple #[.agg #[.bool true, .bool false, .bool true, .bool true], .bool true]) (by simp [results, Try.results25, go_sem]) rfl ⟨rfl, (Kept.refl _).alloc _⟩
theorem has_6 (w : World) :
    Calls Try.prog 25 #[.int .u8 6] w fun e w' => e = .returned (.tuple #[.agg #[.bool false, .bool false, .bool true, .bool false], .bool true]) ∧ Kept w w' := by
  go_enter Try.func25, Try.ntmps25
  go_wp2_with fail
  exact bodyPost_ret (v := .tuple #[.agg #[.bool false, .bool false, .bool true, .bool false], .bool true]) (by simp [results, Try.results25, go_sem]) rfl ⟨rfl, (Kept.refl _).alloc _⟩
theorem has_no (kd : Int) (h1 : (kd == 1) = false) (h2 : (kd == 2) = false) (h3 : (kd == 3) = false) (h4 : (kd == 4) = false) (h5 : (kd == 5) = false) (h6 : (kd == 6) = false) (w : World) :
    Calls Try.prog 25 #[.int .u8 kd] w fun e w' => e = .returned (.tuple #[.agg #[.bool false, .bool false, .bool false, .bool false], .bool false]) ∧ Kept w w' := by
  go_enter Try.func25, Try.ntmps25
  go_wp2_with fail
  exact bodyPost_ret (v := .tuple #[.agg #[.bool false, .bool false, .bool false, .bool false], .bool false]) (by simp [results, Try.results25, go_sem]) rfl ⟨rfl, (Kept.refl _).alloc _⟩
theorem has_any (kd : Nat) (w : World) :
    Calls Try.prog 25 #[.int .u8 (kd : Nat)] w fun e w' => e = .returned (.tuple #[fdV kd, .bool (isK kd)]) ∧ Kept w w' := by
  by_cases h1 : kd = 1
  · subst h1; exact has_1 w
  by_cases h2 : kd = 2
  · subst h2; exact has_2 w
  by_cases h3 : kd = 3
  · subst h3; exact has_3 w
  by_cases h4 : kd = 4
  · subst h4; exact has_4 w
  by_cases h5 : kd = 5
  · subst h5; exact has_5 w
  by_cases h6 : kd = 6
  · subst h6; exact has_6 w
  have e1 : hasB kd = false := by unfold hasB; simp; omega
  have e2 : hasM kd = false := by unfold hasM; simp; omega
  have e3 : hasN kd = false := by unfold hasN; simp; omega
  have e4 : hasP kd = false := by unfold hasP; simp; omega
  have e5 : isK kd = false := by unfold isK; simp; omega
  unfold fdV
  rw [e1, e2, e3, e4, e5]
  exact has_no kd (beq_eq_false_iff_ne.2 (by omega)) (beq_eq_false_iff_ne.2 (by omega)) (beq_eq_false_iff_ne.2 (by omega)) (beq_eq_false_iff_ne.2 (by omega)) (beq_eq_false_iff_ne.2 (by omega)) (beq_eq_false_iff_ne.2 (by omega)) w
end Go.Proofs.Ytccpbgkaeldlaaa
