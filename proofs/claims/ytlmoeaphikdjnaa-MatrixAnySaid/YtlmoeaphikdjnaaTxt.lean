/- A block of texts told by a function, made by the call itself. -/
import Derived.Test.YtlmoeaphikdjnaaFieldSum
import Derived.Test.YtlmoeaphikdjnaaGat
import Derived.Test.YtlmoeaphikdjnaaBut
namespace Go.Proofs.Ytlmoeaphikdjnaa
open Go.RowKit
set_option linter.unusedVariables false
/-- n texts told by a function lie in block g, and may be written. -/
structure Txt (g n : Nat) (f : Nat → ByteArray) (w : World) : Prop where
  cell : ∀ j, j < n → w.cell? ⟨g, j, none⟩ = some (.string (f j))
  free : ∀ j, j < n → w.frozen? ⟨g, j, none⟩ = false
def updT (f : Nat → ByteArray) (k : Nat) (v : ByteArray) (j : Nat) : ByteArray := if j = k then v else f j
theorem Txt.lt {g n : Nat} {f : Nat → ByteArray} {w : World} (h : Txt g n f w) (h0 : 0 < n) : g < w.heap.size := block_lt_of_cell (h.cell 0 h0)
theorem Txt.drewN {g n : Nat} {f : Nat → ByteArray} {w : World} (h : Txt g n f w) (m : Nat) : Txt g n f (w.drewN m) := ⟨h.cell, h.free⟩
theorem Txt.keptBut {g n : Nat} {f : Nat → ByteArray} {w w' : World} (h : Txt g n f w) {b : Nat} (k : But b w w') (hb : g ≠ b) : Txt g n f w' :=
  ⟨fun j hj => by rw [k.cell (p := ⟨g, j, none⟩) (block_lt_of_cell (h.cell j hj)) hb]; exact h.cell j hj, fun j hj => by rw [k.frozen (p := ⟨g, j, none⟩) (block_lt_of_cell (h.cell j hj)) hb]; exact h.free j hj⟩
theorem Txt.kept {g n : Nat} {f : Nat → ByteArray} {w w' : World} (h : Txt g n f w) (k : Kept w w') : Txt g n f w' :=
  ⟨fun j hj => by rw [(k.but w.heap.size).cell (p := ⟨g, j, none⟩) (block_lt_of_cell (h.cell j hj)) (Nat.ne_of_lt (block_lt_of_cell (h.cell j hj)))]; exact h.cell j hj,
   fun j hj => by rw [(k.but w.heap.size).frozen (p := ⟨g, j, none⟩) (block_lt_of_cell (h.cell j hj)) (Nat.ne_of_lt (block_lt_of_cell (h.cell j hj)))]; exact h.free j hj⟩
theorem Txt.set {g n : Nat} {f : Nat → ByteArray} {w : World} (h : Txt g n f w) (k : Nat) (hk : k < n) (v : ByteArray) : Txt g n (updT f k v) (w.setCell ⟨g, k, none⟩ (.string v)) := by
  refine ⟨fun j hj => ?_, fun j hj => by rw [World.frozen?_setCell]; exact h.free j hj⟩
  unfold updT
  by_cases e : j = k
  · subst e
    rw [if_pos rfl, World.cell?_setCell_same _ _ _ (h.cell j hj)]
  · rw [if_neg e, World.cell?_setCell_other _ _ _ _ (fun h => e (by injection h with _ e2; exact e2.symm)), h.cell j hj]
theorem Txt.congr {g n : Nat} {f f' : Nat → ByteArray} {w : World} (h : Txt g n f w) (e : ∀ j, j < n → f' j = f j) : Txt g n f' w :=
  ⟨fun j hj => by rw [e j hj]; exact h.cell j hj, h.free⟩
theorem made_none (n : Nat) : madeCells #[Value.string ByteArray.empty] n = row n fun _ => .string ByteArray.empty := by
  apply Array.ext'
  rw [toList_madeCells_one]
  unfold row
  simp
  apply List.ext_getElem?
  intro i
  by_cases h : i < n <;> simp [h]
theorem Txt.made (w : World) (n : Nat) : Txt w.heap.size n (fun _ => ByteArray.empty) (w.alloc (.cells (row n fun _ => .string ByteArray.empty) 9)) := by
  refine ⟨fun j hj => ?_, fun j hj => ?_⟩
  · rw [World.cell?_alloc_mark, row_get _ _ j hj]
  · rw [World.frozen?_alloc_mark]; simp
/-- The texts, as a slice. -/
theorem Txt.strs {g n : Nat} {f : Nat → ByteArray} {w : World} (h : Txt g n f w) (ss : List ByteArray) (hl : ss.length = n) (e : ∀ i, i < n → nth ss i = f i) : Strs w (some ⟨g, 0, none⟩) ss := by
  refine .inr ⟨g, 0, rfl, fun i hi => ?_⟩
  have hi' : i < n := by omega
  rw [Nat.zero_add, h.cell i hi', ← e i hi']
  rfl
end Go.Proofs.Ytlmoeaphikdjnaa
