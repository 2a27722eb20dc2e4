/- RowOf, But. -/
import Derived.Test.YtmgkkoajjdgmbaaGreatDoorPart0
import Derived.Deep.WholeRow
import Derived.Laws.IdiomStrings
set_option linter.unusedVariables false
set_option linter.unusedSimpArgs false
set_option linter.unusedSectionVars false
set_option linter.unnecessarySimpa false
set_option linter.deprecated false
/- A block's cells told by a function. -/
namespace Go.Proofs.YtmgkkoajjdgmbaaGreatDoor
open Go.RowKit
/-- n cells told by a function. -/
def row (n : Nat) (g : Nat → Value) : Array Value := Array.ofFn (n := n) fun j => g j.val
theorem row_get (n : Nat) (g : Nat → Value) (j : Nat) (h : j < n) : (row n g)[j]? = some (g j) := by
  unfold row
  rw [Array.getElem?_ofFn, dif_pos h]
theorem row_size (n : Nat) (g : Nat → Value) : (row n g).size = n := by simp [row]
theorem row_set (n : Nat) (g h : Nat → Value) (k : Nat) (v : Value) (hk : k < n) (e : ∀ j, j < n → h j = if j = k then v else g j) : (row n g).setIfInBounds k v = row n h := by
  apply Array.ext_getElem?
  intro i
  rw [Array.getElem?_setIfInBounds]
  by_cases hi : i < n
  · rw [row_get _ h i hi, e i hi]
    by_cases hik : i = k
    · subst hik
      rw [if_pos rfl, if_pos (by rw [row_size]; omega), if_pos rfl]
    · rw [if_neg (by omega), row_get _ g i hi, if_neg hik]
  · rw [if_neg (by omega), Array.getElem?_eq_none (by rw [row_size]; omega), Array.getElem?_eq_none (by rw [row_size]; omega)]
theorem row_congr (n : Nat) (g h : Nat → Value) (e : ∀ j, j < n → g j = h j) : row n g = row n h := by
  apply Array.ext_getElem?
  intro i
  by_cases hi : i < n
  · rw [row_get _ g i hi, row_get _ h i hi, e i hi]
  · rw [Array.getElem?_eq_none (by rw [row_size]; omega), Array.getElem?_eq_none (by rw [row_size]; omega)]
theorem row_one (n : Nat) (k : IntKind) (f : Nat → Int) : (row n fun j => Value.int k (f j)).all (·.oneCell') = true := by
  rw [Array.all_eq_true]
  intro i hi
  simp [row]
  rfl
theorem add_at (b j : Nat) : (⟨b, 0, none⟩ : Addr).add j = ⟨b, j, none⟩ := by
  unfold Addr.add
  split
  · rename_i h0; subst h0; rfl
  · simp
theorem setRow_at (w : World) (g : Nat) (cs old : Array Value) (t : TypeId) (h : w.heap[g]? = some (.cells old t (0, 0))) : (w.setRow g cs).heap[g]? = some (.cells cs t (0, 0)) := by
  show (w.heap.modify g _)[g]? = _
  rw [Array.getElem?_modify, if_pos rfl, h]
  rfl
theorem Kept.setRow {a w : World} (h : Kept a w) (g : Nat) (cs : Array Value) (hg : a.heap.size ≤ g) : Kept a (w.setRow g cs) :=
  Below.trans h ⟨rfl, rfl, rfl, by rw [size_setRow]; exact Nat.le_refl _, fun k hk => by
    show (w.heap.modify g _)[k]? = _
    rw [Array.getElem?_modify, if_neg (by omega)]⟩
end Go.Proofs.YtmgkkoajjdgmbaaGreatDoor

/- What a call leaves that writes to one block of old memory: all the rest is as it was. -/
namespace Go.Proofs.YtmgkkoajjdgmbaaGreatDoor
open Go.RowKit
/-- All that was there, block b aside, is as it was; there may be more. -/
structure But (b : Nat) (w w' : World) : Prop where
  os : w'.os = w.os
  tape : w'.tape = w.tape
  output : w'.output = w.output
  size : w.heap.size ≤ w'.heap.size
  block : ∀ k, k < w.heap.size → k ≠ b → w'.heap[k]? = w.heap[k]?
theorem But.refl (b : Nat) (w : World) : But b w w := ⟨rfl, rfl, rfl, Nat.le_refl _, fun _ _ _ => rfl⟩
theorem But.trans {b : Nat} {u v w : World} (h : But b u v) (k : But b v w) : But b u w :=
  ⟨k.os.trans h.os, k.tape.trans h.tape, k.output.trans h.output, Nat.le_trans h.size k.size, fun i hi hb => (k.block i (Nat.lt_of_lt_of_le hi h.size) hb).trans (h.block i hi hb)⟩
theorem Kept.but {w w' : World} (h : Kept w w') (b : Nat) : But b w w' := ⟨h.os, h.tape, h.output, h.size, fun k hk _ => h.block k hk⟩
theorem But.setCell {b : Nat} {u w : World} (h : But b u w) (o : Nat) (v : Value) : But b u (w.setCell ⟨b, o, none⟩ v) :=
  h.trans ⟨rfl, rfl, rfl, by simp [World.setCell], fun k hk hb => Below.heap_setCell _ _ _ _ hb⟩
theorem But.kept {b : Nat} {u w w' : World} (h : Kept u w) (hb : u.heap.size ≤ b) (k : But b w w') : Kept u w' :=
  Below.trans h ⟨k.os, k.tape, k.output, k.size, fun i hi => k.block i (Nat.lt_of_lt_of_le hi h.size) (by omega)⟩
theorem But.cell {b : Nat} {w w' : World} (h : But b w w') {p : Addr} (hp : p.block < w.heap.size) (hb : p.block ≠ b) : w'.cell? p = w.cell? p := World.cell?_of_block (w := w) (h.block p.block hp hb)
theorem But.frozen {b : Nat} {w w' : World} (h : But b w w') {p : Addr} (hp : p.block < w.heap.size) (hb : p.block ≠ b) : w'.frozen? p = w.frozen? p := World.frozen?_of_block (w := w) (h.block p.block hp hb)
end Go.Proofs.YtmgkkoajjdgmbaaGreatDoor

