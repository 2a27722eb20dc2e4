/- The program's map lies in two blocks: itself, and its rows. -/
import Derived.Test.YtleohicgbpebnaaAllocMath
import Derived.Test.YtleohicgbpebnaaBut
import Derived.Test.YtleohicgbpebnaaRowOf
namespace Go.Proofs.Ytleohicgbpebnaa
open Go.RowKit
set_option linter.unusedVariables false
/-- All that was there, the blocks g and c aside, is as it was; there may be more. -/
structure Upd (g c : Nat) (w w' : World) : Prop where
  os : w'.os = w.os
  tape : w'.tape = w.tape
  output : w'.output = w.output
  size : w.heap.size ≤ w'.heap.size
  block : ∀ k, k < w.heap.size → k ≠ g → k ≠ c → w'.heap[k]? = w.heap[k]?
theorem Upd.refl (g c : Nat) (w : World) : Upd g c w w := ⟨rfl, rfl, rfl, Nat.le_refl _, fun _ _ _ _ => rfl⟩
theorem Upd.trans {g c : Nat} {u v w : World} (h : Upd g c u v) (k : Upd g c v w) : Upd g c u w :=
  ⟨k.os.trans h.os, k.tape.trans h.tape, k.output.trans h.output, Nat.le_trans h.size k.size, fun i hi h1 h2 => (k.block i (Nat.lt_of_lt_of_le hi h.size) h1 h2).trans (h.block i hi h1 h2)⟩
/-- A further change, to a block that was not there. -/
theorem Upd.more {g c c' : Nat} {u v w : World} (h : Upd g c u v) (k : Upd g c' v w) (hc : c' = c ∨ u.heap.size ≤ c') : Upd g c u w :=
  ⟨k.os.trans h.os, k.tape.trans h.tape, k.output.trans h.output, Nat.le_trans h.size k.size, fun i hi h1 h2 => (k.block i (Nat.lt_of_lt_of_le hi h.size) h1 (by rcases hc with rfl | hc <;> omega)).trans (h.block i hi h1 h2)⟩
theorem Kept.upd {w w' : World} (h : Kept w w') (g c : Nat) : Upd g c w w' := ⟨h.os, h.tape, h.output, h.size, fun k hk _ _ => h.block k hk⟩
theorem But.upd1 {g : Nat} {w w' : World} (h : But g w w') (c : Nat) : Upd g c w w' := ⟨h.os, h.tape, h.output, h.size, fun k hk h1 _ => h.block k hk h1⟩
theorem But.upd2 {c : Nat} {w w' : World} (h : But c w w') (g : Nat) : Upd g c w w' := ⟨h.os, h.tape, h.output, h.size, fun k hk _ h2 => h.block k hk h2⟩
theorem Upd.kept {g c : Nat} {u w w' : World} (h : Kept u w) (hg : u.heap.size ≤ g) (hc : u.heap.size ≤ c) (k : Upd g c w w') : Kept u w' :=
  Below.trans h ⟨k.os, k.tape, k.output, k.size, fun i hi => k.block i (Nat.lt_of_lt_of_le hi h.size) (by omega) (by omega)⟩
theorem Upd.cell {g c : Nat} {w w' : World} (h : Upd g c w w') {p : Addr} (hp : p.block < w.heap.size) (h1 : p.block ≠ g) (h2 : p.block ≠ c) : w'.cell? p = w.cell? p := World.cell?_of_block (w := w) (h.block p.block hp h1 h2)
theorem Upd.frozen {g c : Nat} {w w' : World} (h : Upd g c w w') {p : Addr} (hp : p.block < w.heap.size) (h1 : p.block ≠ g) (h2 : p.block ≠ c) : w'.frozen? p = w.frozen? p := World.frozen?_of_block (w := w) (h.block p.block hp h1 h2)
/-- n rows told by a function lie in block c, and may be written. -/
structure RowsT (c n : Nat) (f : Nat → Nat) (w : World) : Prop where
  cell : ∀ j, j < n → w.cell? ⟨c, j, none⟩ = some (.int .u8 (f j : Nat))
  free : ∀ j, j < n → w.frozen? ⟨c, j, none⟩ = false
theorem RowsT.congr {c n : Nat} {f f' : Nat → Nat} {w : World} (h : RowsT c n f w) (e : ∀ j, j < n → f' j = f j) : RowsT c n f' w :=
  ⟨fun j hj => by rw [e j hj]; exact h.cell j hj, h.free⟩
theorem RowsT.set {c n : Nat} {f : Nat → Nat} {w : World} (h : RowsT c n f w) (k : Nat) (hk : k < n) (v : Nat) : RowsT c n (fun j => if j = k then v else f j) (w.setCell ⟨c, k, none⟩ (.int .u8 (v : Nat))) := by
  refine ⟨fun j hj => ?_, fun j hj => by rw [World.frozen?_setCell]; exact h.free j hj⟩
  by_cases e : j = k
  · subst e
    simp only [if_pos]
    rw [World.cell?_setCell_same _ _ _ (h.cell j hj)]
  · simp only [if_neg e]
    rw [World.cell?_setCell_other _ _ _ _ (fun h => e (by injection h with _ e2; exact e2.symm)), h.cell j hj]
theorem RowsT.block {c n : Nat} {f : Nat → Nat} {w w' : World} (h : RowsT c n f w) (e : w'.heap[c]? = w.heap[c]?) : RowsT c n f w' :=
  ⟨fun j hj => by rw [World.cell?_of_block (w := w) (a := ⟨c, j, none⟩) e]; exact h.cell j hj, fun j hj => by rw [World.frozen?_of_block (w := w) (a := ⟨c, j, none⟩) e]; exact h.free j hj⟩
/-- The program's map: itself in block g, its n rows, told by a function, in block c. -/
structure MapAt (g c n cap : Nat) (f : Nat → Nat) (w : World) : Prop where
  made : w.cell? ⟨g, 0, none⟩ = some (.bool true)
  hd : w.cell? ⟨g, 1, none⟩ = some (.slice (some ⟨c, 0, none⟩) n cap)
  fh : w.frozen? ⟨g, 1, none⟩ = false
  rows : RowsT c n f w
  wf : ∀ j, j < n → 1 ≤ f j ∧ f j ≤ 3
  nm : n ≤ 4096
  nc : n ≤ cap
  ne : c ≠ g
  lt : c < w.heap.size
theorem MapAt.glt {g c n cap : Nat} {f : Nat → Nat} {w : World} (h : MapAt g c n cap f w) : g < w.heap.size := block_lt_of_cell h.made
theorem MapAt.frame {g c n cap : Nat} {f : Nat → Nat} {w w' : World} (h : MapAt g c n cap f w) (e1 : w'.heap[g]? = w.heap[g]?) (e2 : w'.heap[c]? = w.heap[c]?) (hs : w.heap.size ≤ w'.heap.size) : MapAt g c n cap f w' :=
  ⟨by rw [World.cell?_of_block (w := w) (a := ⟨g, 0, none⟩) e1]; exact h.made, by rw [World.cell?_of_block (w := w) (a := ⟨g, 1, none⟩) e1]; exact h.hd, by rw [World.frozen?_of_block (w := w) (a := ⟨g, 1, none⟩) e1]; exact h.fh, h.rows.block e2, h.wf, h.nm, h.nc, h.ne, Nat.lt_of_lt_of_le h.lt hs⟩
theorem MapAt.kept {g c n cap : Nat} {f : Nat → Nat} {w w' : World} (h : MapAt g c n cap f w) (k : Kept w w') : MapAt g c n cap f w' :=
  h.frame (k.block g h.glt) (k.block c h.lt) k.size
/-- Another map was changed. -/
theorem MapAt.other {g c n cap : Nat} {f : Nat → Nat} {w w' : World} (h : MapAt g c n cap f w) {g' c' : Nat} (k : Upd g' c' w w') (h1 : g ≠ g') (h2 : g ≠ c') (h3 : c ≠ g') (h4 : c ≠ c') : MapAt g c n cap f w' :=
  h.frame (k.block g h.glt h1 h2) (k.block c h.lt h3 h4) k.size
theorem MapAt.congr {g c n cap : Nat} {f f' : Nat → Nat} {w : World} (h : MapAt g c n cap f w) (e : ∀ j, j < n → f' j = f j) : MapAt g c n cap f' w :=
  { h with rows := h.rows.congr e, wf := fun j hj => by rw [e j hj]; exact h.wf j hj }
theorem MapAt.set {g c n cap : Nat} {f : Nat → Nat} {w : World} (h : MapAt g c n cap f w) (k : Nat) (hk : k < n) (v : Nat) (hv : 1 ≤ v ∧ v ≤ 3) : MapAt g c n cap (fun j => if j = k then v else f j) (w.setCell ⟨c, k, none⟩ (.int .u8 (v : Nat))) := by
  have hne : ∀ o, (⟨c, k, none⟩ : Addr) ≠ ⟨g, o, none⟩ := fun o e => h.ne (by injection e)
  refine ⟨?_, ?_, ?_, h.rows.set k hk v, fun j hj => ?_, h.nm, h.nc, h.ne, by simp [World.setCell]; exact h.lt⟩
  · rw [World.cell?_setCell_other _ _ _ _ (hne 0)]; exact h.made
  · rw [World.cell?_setCell_other _ _ _ _ (hne 1)]; exact h.hd
  · rw [World.frozen?_setCell]; exact h.fh
  · show 1 ≤ (if j = k then v else f j) ∧ (if j = k then v else f j) ≤ 3
    split
    · exact hv
    · exact h.wf j hj
/-- What a call leaves that makes the rows of the map in g to be told by f. -/
def Left (g c n : Nat) (f : Nat → Nat) (w w' : World) : Prop := ∃ c' cap', (c' = c ∨ w.heap.size ≤ c') ∧ MapAt g c' n cap' f w' ∧ Upd g c w w'
theorem MapAt.left {g c n cap : Nat} {f : Nat → Nat} {w w' : World} (h : MapAt g c n cap f w') (k : Upd g c w w') : Left g c n f w w' := ⟨c, cap, .inl rfl, h, k⟩
end Go.Proofs.Ytleohicgbpebnaa
