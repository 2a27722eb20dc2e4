/- What a call leaves that writes to old memory within a stretch of blocks alone: all the rest is as it was. -/
import Derived.Test.YtmgkkoajjdgmbaaGreatDoorPart2
import Derived.Deep.MidRow
set_option linter.unusedVariables false
set_option linter.unusedSimpArgs false
set_option linter.unusedSectionVars false
set_option linter.unnecessarySimpa false
set_option linter.deprecated false
namespace Go.Proofs.YtmgkkoajjdgmbaaGreatDoor
open Go.RowKit
set_option linter.unusedVariables false
/-- All that was there, the blocks from lo on below hi aside, is as it was; there may be more. -/
structure Only (lo hi : Nat) (w w' : World) : Prop where
  os : w'.os = w.os
  tape : w'.tape = w.tape
  output : w'.output = w.output
  size : w.heap.size ≤ w'.heap.size
  block : ∀ k, k < w.heap.size → (k < lo ∨ hi ≤ k) → w'.heap[k]? = w.heap[k]?
theorem Only.refl (lo hi : Nat) (w : World) : Only lo hi w w := ⟨rfl, rfl, rfl, Nat.le_refl _, fun _ _ _ => rfl⟩
theorem Only.trans {lo hi : Nat} {u v w : World} (h : Only lo hi u v) (k : Only lo hi v w) : Only lo hi u w :=
  ⟨k.os.trans h.os, k.tape.trans h.tape, k.output.trans h.output, Nat.le_trans h.size k.size, fun i hi hb => (k.block i (Nat.lt_of_lt_of_le hi h.size) hb).trans (h.block i hi hb)⟩
theorem Only.wider {lo hi lo' hi' : Nat} {u v : World} (h : Only lo hi u v) (a : lo' ≤ lo) (b : hi ≤ hi') : Only lo' hi' u v :=
  ⟨h.os, h.tape, h.output, h.size, fun i hi hb => h.block i hi (by omega)⟩
theorem Kept.only {w w' : World} (h : Kept w w') (lo hi : Nat) : Only lo hi w w' := ⟨h.os, h.tape, h.output, h.size, fun k hk _ => h.block k hk⟩
theorem Only.setCell {lo hi : Nat} {u w : World} (h : Only lo hi u w) (a : Addr) (v : Value) (h1 : lo ≤ a.block) (h2 : a.block < hi) : Only lo hi u (w.setCell a v) :=
  h.trans ⟨rfl, rfl, rfl, by simp [World.setCell], fun k hk hb => Below.heap_setCell _ _ _ _ (by omega)⟩
theorem Only.setCells {lo hi : Nat} {u : World} (b : Nat) (h1 : lo ≤ b) (h2 : b < hi) : ∀ (vs : List Value) (o : Nat) {w : World}, Only lo hi u w → Only lo hi u (w.setCells b o vs)
  | [], _, _, h => h
  | v :: r, o, w, h => Only.setCells b h1 h2 r (o + 1) (h.setCell ⟨b, o, none⟩ v h1 h2)
theorem Only.kept {lo hi : Nat} {u w w' : World} (h : Kept u w) (hb : u.heap.size ≤ lo) (k : Only lo hi w w') : Kept u w' :=
  Below.trans h ⟨k.os, k.tape, k.output, k.size, fun i hi => k.block i (Nat.lt_of_lt_of_le hi h.size) (by omega)⟩
theorem Only.cell {lo hi : Nat} {w w' : World} (h : Only lo hi w w') {p : Addr} (hp : p.block < w.heap.size) (hb : p.block < lo ∨ hi ≤ p.block) : w'.cell? p = w.cell? p := World.cell?_of_block (w := w) (h.block p.block hp hb)
theorem Only.frozen {lo hi : Nat} {w w' : World} (h : Only lo hi w w') {p : Addr} (hp : p.block < w.heap.size) (hb : p.block < lo ∨ hi ≤ p.block) : w'.frozen? p = w.frozen? p := World.frozen?_of_block (w := w) (h.block p.block hp hb)
/-- A range lies there still, where its block was not written. -/
theorem range_of_block {w w' : World} {b o : Nat} {cs : List Value} (h : w.rangeAt b o cs) (e : w'.heap[b]? = w.heap[b]?) : w'.rangeAt b o cs := fun j v hv => by
  rw [World.cell?_of_block (w := w) (a := ⟨b, o + j, none⟩) e]; exact h j v hv
theorem there_of_block {w w' : World} {b o n : Nat} (h : w.there b o n) (e : w'.heap[b]? = w.heap[b]?) : w'.there b o n := fun j hj => by
  rw [World.cell?_of_block (w := w) (a := ⟨b, o + j, none⟩) e, World.frozen?_of_block (w := w) (a := ⟨b, o + j, none⟩) e]; exact h j hj
theorem size_setCells (b : Nat) : ∀ (vs : List Value) (o : Nat) (w : World), (w.setCells b o vs).heap.size = w.heap.size
  | [], _, _ => rfl
  | v :: r, o, w => by rw [World.setCells, size_setCells b r]; simp [World.setCell]
end Go.Proofs.YtmgkkoajjdgmbaaGreatDoor
