/- A block's cells told by a function. -/
import Derived.Test.YtccpbgkaeldlaaaKept
import Derived.Deep.WholeRow
import Derived.Laws.IdiomStrings
namespace Go.Proofs.Ytccpbgkaeldlaaa
open Go.RowKit
/-- n cells told by a function. -/
def row (n : Nat) (g : Nat → Value) : Array Value := Array.ofFn (n := n) fun j => g j.val
theorem row_get (n : Nat) (g : Nat → Value) (j : Nat) (h : j < n) : (row n g)[j]? = some (g j) := by
  unfold row
  rw [Array.getElem?_ofFn, dif_pos h]
theorem row_size (n : Nat) (g : Nat → Value) : (row n g).size = n := by simp [row]
theorem row_set (n : Nat) (g h : Nat → Value) (k : Nat) (v : Value) (hk : k < n) (e : ∀ j, j < n → h j = if j = k then v else g j) : (row n g).setIfInBounds k v = row n h := by
  apply Array.ext_getElem?
  intro i
  rw [Array.getElem?_setIfInBounds]
  by_cases hi : i < n
  · rw [row_get _ h i hi, e i hi]
    by_cases hik : i = k
    · subst hik
      rw [if_pos rfl, if_pos (by rw [row_size]; omega), if_pos rfl]
    · rw [if_neg (by omega), row_get _ g i hi, if_neg hik]
  · rw [if_neg (by omega), Array.getElem?_eq_none (by rw [row_size]; omega), Array.getElem?_eq_none (by rw [row_size]; omega)]
theorem row_congr (n : Nat) (g h : Nat → Value) (e : ∀ j, j < n → g j = h j) : row n g = row n h := by
  apply Array.ext_getElem?
  intro i
  by_cases hi : i < n
  · rw [row_get _ g i hi, row_get _ h i hi, e i hi]
  · rw [Array.getElem?_eq_none (by rw [row_size]; omega), Array.getElem?_eq_none (by rw [row_size]; omega)]
theorem row_one (n : Nat) (k : IntKind) (f : Nat → Int) : (row n fun j => Value.int k (f j)).all (·.oneCell') = true := by
  rw [Array.all_eq_true]
  intro i hi
  simp [row]
  rfl
theorem add_at (b j : Nat) : (⟨b, 0, none⟩ : Addr).add j = ⟨b, j, none⟩ := by
  unfold Addr.add
  split
  · rename_i h0; subst h0; rfl
  · simp
theorem setRow_at (w : World) (g : Nat) (cs old : Array Value) (t : TypeId) (h : w.heap[g]? = some (.cells old t (0, 0))) : (w.setRow g cs).heap[g]? = some (.cells cs t (0, 0)) := by
  show (w.heap.modify g _)[g]? = _
  rw [Array.getElem?_modify, if_pos rfl, h]
  rfl
theorem Kept.setRow {a w : World} (h : Kept a w) (g : Nat) (cs : Array Value) (hg : a.heap.size ≤ g) : Kept a (w.setRow g cs) :=
  Below.trans h ⟨rfl, rfl, rfl, by rw [size_setRow]; exact Nat.le_refl _, fun k hk => by
    show (w.heap.modify g _)[k]? = _
    rw [Array.getElem?_modify, if_neg (by omega)]⟩
end Go.Proofs.Ytccpbgkaeldlaaa
