/- What a rack is, by the document: sectors, which of them are spoilt, how many writes were done, what the cut still allows. -/
import Derived.Test.YtmgkkoajjdgmbaaGreatDoorPart3
import Derived.Test.YtmgkkoajjdgmbaaGreatDoorPart2
set_option linter.unusedVariables false
set_option linter.unusedSimpArgs false
set_option linter.unusedSectionVars false
set_option linter.unnecessarySimpa false
set_option linter.deprecated false
namespace Go.Proofs.YtmgkkoajjdgmbaaGreatDoor
open Go.RowKit
set_option linter.unusedVariables false
/-- A rack of n drives, each of m sectors. -/
structure RSt where
  n : Nat
  m : Nat
  T : Nat → Nat → List UInt8
  bad : Nat → Nat → Bool
  cnt : Nat → Nat
  cut : Bool
  left : Nat
def zero64 : List UInt8 := List.replicate 64 0
theorem zero64_length : zero64.length = 64 := by simp [zero64]
namespace RSt
def shown (s : RSt) (d i : Nat) : List UInt8 := if s.bad d i then zero64 else s.T d i
def there (s : RSt) (d i : Int) : Bool := decide (0 ≤ d ∧ d < s.n ∧ 0 ≤ i ∧ i < s.m)
def drive (s : RSt) (d : Int) : Bool := decide (0 ≤ d ∧ d < s.n)
def down (s : RSt) : Bool := s.cut && s.left == 0
end RSt
def padL (t : ByteArray) : List UInt8 := t.data.toList ++ List.replicate (64 - t.size) 0
theorem padL_length (t : ByteArray) (h : t.size ≤ 64) : (padL t).length = 64 := by
  have : t.data.toList.length = t.size := by simp
  unfold padL
  rw [List.length_append, List.length_replicate]; omega
def up2 {α : Type} (f : Nat → Nat → α) (d i : Nat) (v : α) (d' i' : Nat) : α := if d' = d ∧ i' = i then v else f d' i'
namespace RSt
def put (s : RSt) (d i : Nat) (l : List UInt8) (b : Bool) : RSt := { s with T := up2 s.T d i l, bad := up2 s.bad d i b }
def inc (s : RSt) (d : Nat) : RSt := { s with cnt := fun d' => if d' = d then (s.cnt d + 1) % 18446744073709551616 else s.cnt d' }
def lim (s : RSt) (c : Bool) (k : Nat) : RSt := { s with cut := c, left := k }
def spoil (s : RSt) (d i : Nat) : RSt := s.put d i (s.T d i) true
def wr (s : RSt) (d i : Nat) (l : List UInt8) : RSt := ((s.put d i l false).inc d).lim s.cut (if s.cut then s.left - 1 else s.left)
def wipe (s : RSt) (d : Nat) : RSt := { s with T := fun d' i => if d' = d then zero64 else s.T d' i, bad := fun d' i => if d' = d then false else s.bad d' i }
/-- What Write answers, and leaves. -/
def writeE (s : RSt) (d i : Int) (t : ByteArray) : Nat := if s.there d i = false then 70 else if 64 < t.size then 4 else if s.down then 71 else 0
def writeS (s : RSt) (d i : Int) (t : ByteArray) : RSt := if s.writeE d i t = 0 then s.wr d.toNat i.toNat (padL t) else s
def readE (s : RSt) (d i : Int) : Nat := if s.down then 71 else if s.there d i = false then 70 else if s.bad d.toNat i.toNat then 72 else 0
def readT (s : RSt) (d i : Int) : ByteArray := if s.readE d i = 0 then ⟨(s.T d.toNat i.toNat).toArray⟩ else ByteArray.empty
def cutE (k : Int) : Nat := if k < 0 then 2 else 0
def cutS (s : RSt) (k : Int) : RSt := if k < 0 then s else s.lim true k.toNat
def liftS (s : RSt) : RSt := s.lim false 0
def wipeE (s : RSt) (d : Int) : Nat := if s.drive d then 0 else 70
def wipeS (s : RSt) (d : Int) : RSt := if s.drive d then s.wipe d.toNat else s
def spoilE (s : RSt) (d i : Int) : Nat := if s.there d i then 0 else 70
def spoilS (s : RSt) (d i : Int) : RSt := if s.there d i then s.spoil d.toNat i.toNat else s
def writes (s : RSt) (d : Int) : Nat := if s.drive d then s.cnt d.toNat else 0
/-- The first k sectors of a drive, one behind the other. -/
def allTo (s : RSt) (d : Nat) : Nat → List UInt8
  | 0 => []
  | k + 1 => s.allTo d k ++ s.shown d k
def all (s : RSt) (d : Int) : ByteArray := if s.drive d then ⟨(s.allTo d.toNat s.m).toArray⟩ else ByteArray.empty
structure Wf (s : RSt) : Prop where
  n1 : 1 ≤ s.n
  n2 : s.n ≤ 12
  m1 : 1 ≤ s.m
  m2 : s.m ≤ 4096
  len : ∀ d i, d < s.n → i < s.m → (s.T d i).length = 64
  cnt : ∀ d, s.cnt d < 18446744073709551616
  left : s.left ≤ 9223372036854775807
theorem Wf.shown {s : RSt} (h : s.Wf) {d i : Nat} (hd : d < s.n) (hi : i < s.m) : (s.shown d i).length = 64 := by
  unfold RSt.shown; split
  · exact zero64_length
  · exact h.len d i hd hi
theorem Wf.put {s : RSt} (h : s.Wf) (d i : Nat) (l : List UInt8) (b : Bool) (hl : l.length = 64) : (s.put d i l b).Wf :=
  ⟨h.n1, h.n2, h.m1, h.m2, fun d' i' hd hi => by show (up2 s.T d i l d' i').length = 64; unfold up2; split; exact hl; exact h.len d' i' hd hi, h.cnt, h.left⟩
theorem Wf.inc {s : RSt} (h : s.Wf) (d : Nat) : (s.inc d).Wf :=
  ⟨h.n1, h.n2, h.m1, h.m2, h.len, fun d' => by show (if d' = d then _ else _) < _; split; exact Nat.mod_lt _ (by decide); exact h.cnt d', h.left⟩
theorem Wf.lim {s : RSt} (h : s.Wf) (c : Bool) (k : Nat) (hk : k ≤ 9223372036854775807) : (s.lim c k).Wf := ⟨h.n1, h.n2, h.m1, h.m2, h.len, h.cnt, hk⟩
theorem Wf.wipe {s : RSt} (h : s.Wf) (d : Nat) : (s.wipe d).Wf :=
  ⟨h.n1, h.n2, h.m1, h.m2, fun d' i' hd hi => by show (if d' = d then _ else _ : List UInt8).length = 64; split; exact zero64_length; exact h.len d' i' hd hi, h.cnt, h.left⟩
theorem Wf.wr {s : RSt} (h : s.Wf) (d i : Nat) (l : List UInt8) (hl : l.length = 64) : (s.wr d i l).Wf :=
  ((h.put d i l false hl).inc d).lim _ _ (by have := h.left; split <;> omega)
theorem there_iff {s : RSt} {d i : Int} (h : s.there d i = true) : ∃ d' i' : Nat, d = d' ∧ i = i' ∧ d' < s.n ∧ i' < s.m := by
  unfold there at h
  have := of_decide_eq_true h
  exact ⟨d.toNat, i.toNat, by omega, by omega, by omega, by omega⟩
theorem drive_iff {s : RSt} {d : Int} (h : s.drive d = true) : ∃ d' : Nat, d = d' ∧ d' < s.n := by
  unfold drive at h
  have := of_decide_eq_true h
  exact ⟨d.toNat, by omega, by omega⟩
end RSt
/-- The cells of a sector. -/
def secL (l : List UInt8) (b : Bool) : List Value := l.map (fun x => Value.int .u8 (x.toNat : Int)) ++ [.bool b]
theorem secL_length (l : List UInt8) (b : Bool) (h : l.length = 64) : (secL l b).length = 65 := by simp [secL, h]
theorem secL_one (l : List UInt8) (b : Bool) : ∀ v ∈ secL l b, v.oneCell' = true := by
  intro v hv
  unfold secL at hv
  rcases List.mem_append.1 hv with h | h
  · obtain ⟨x, _, rfl⟩ := List.mem_map.1 h; rfl
  · simp at h; subst h; rfl
/-- The program's rack lies in the blocks from g on: its drives in g, itself in g + 1, the sectors of drive d in g + 2 + d. -/
structure RackAt (g : Nat) (s : RSt) (w : World) : Prop where
  wf : s.Wf
  c0 : w.cell? ⟨g + 1, 0, none⟩ = some (.slice (some ⟨g, 0, none⟩) s.n s.n)
  c1 : w.cell? ⟨g + 1, 1, none⟩ = some (.bool s.cut)
  c2 : w.cell? ⟨g + 1, 2, none⟩ = some (.int .i64 (s.left : Nat))
  f1 : w.frozen? ⟨g + 1, 1, none⟩ = false
  f2 : w.frozen? ⟨g + 1, 2, none⟩ = false
  ds : ∀ d, d < s.n → w.cell? ⟨g, d * 2, none⟩ = some (.slice (some ⟨g + 2 + d, 0, none⟩) s.m s.m)
  dw : ∀ d, d < s.n → w.cell? ⟨g, d * 2 + 1, none⟩ = some (.int .u64 (s.cnt d : Nat))
  fw : ∀ d, d < s.n → w.frozen? ⟨g, d * 2 + 1, none⟩ = false
  sr : ∀ d i, d < s.n → i < s.m → w.rangeAt (g + 2 + d) (i * 65) (secL (s.shown d i) (s.bad d i))
  st : ∀ d i, d < s.n → i < s.m → w.there (g + 2 + d) (i * 65) 65
theorem RackAt.lt {g : Nat} {s : RSt} {w : World} (h : RackAt g s w) : g + 2 + s.n ≤ w.heap.size := by
  have := h.wf.n1
  have hc := (h.st (s.n - 1) 0 (by omega) h.wf.m1 0 (by omega)).1
  obtain ⟨u, hu⟩ := Option.isSome_iff_exists.1 hc
  have := block_lt_of_cell hu
  simp at this
  omega
theorem RackAt.frame {g : Nat} {s : RSt} {w w' : World} (h : RackAt g s w) (e : ∀ k, g ≤ k → k < g + 2 + s.n → w'.heap[k]? = w.heap[k]?) : RackAt g s w' := by
  have n1 := h.wf.n1
  have ce : ∀ k o, g ≤ k → k < g + 2 + s.n → w'.cell? ⟨k, o, none⟩ = w.cell? ⟨k, o, none⟩ := fun k o h1 h2 => World.cell?_of_block (w := w) (a := ⟨k, o, none⟩) (e k h1 h2)
  have fe : ∀ k o, g ≤ k → k < g + 2 + s.n → w'.frozen? ⟨k, o, none⟩ = w.frozen? ⟨k, o, none⟩ := fun k o h1 h2 => World.frozen?_of_block (w := w) (a := ⟨k, o, none⟩) (e k h1 h2)
  refine ⟨h.wf, ?_, ?_, ?_, ?_, ?_, fun d hd => ?_, fun d hd => ?_, fun d hd => ?_, fun d i hd hi => ?_, fun d i hd hi => ?_⟩
  · rw [ce _ _ (by omega) (by omega)]; exact h.c0
  · rw [ce _ _ (by omega) (by omega)]; exact h.c1
  · rw [ce _ _ (by omega) (by omega)]; exact h.c2
  · rw [fe _ _ (by omega) (by omega)]; exact h.f1
  · rw [fe _ _ (by omega) (by omega)]; exact h.f2
  · rw [ce _ _ (by omega) (by omega)]; exact h.ds d hd
  · rw [ce _ _ (by omega) (by omega)]; exact h.dw d hd
  · rw [fe _ _ (by omega) (by omega)]; exact h.fw d hd
  · exact range_of_block (h.sr d i hd hi) (e _ (by omega) (by omega))
  · exact there_of_block (h.st d i hd hi) (e _ (by omega) (by omega))
theorem RackAt.kept {g : Nat} {s : RSt} {w w' : World} (h : RackAt g s w) (k : Kept w w') : RackAt g s w' :=
  h.frame fun j h1 h2 => k.block j (by have := h.lt; omega)
theorem RackAt.only {g : Nat} {s : RSt} {w w' : World} {lo hi : Nat} (h : RackAt g s w) (k : Only lo hi w w') (ha : hi ≤ g ∨ g + 2 + s.n ≤ lo) : RackAt g s w' :=
  h.frame fun j h1 h2 => k.block j (by have := h.lt; omega) (by omega)
theorem RackAt.drewN {g : Nat} {s : RSt} {w : World} (h : RackAt g s w) (m : Nat) : RackAt g s (w.drewN m) := h.frame fun _ _ _ => rfl
/-- One sector is stored. -/
theorem RackAt.put {g : Nat} {s : RSt} {w : World} (h : RackAt g s w) (d i : Nat) (l : List UInt8) (b : Bool) (hd : d < s.n) (hi : i < s.m) (hl : l.length = 64) (x : List UInt8) (hx : x = if b then zero64 else l) :
    RackAt g (s.put d i l b) (w.setCells (g + 2 + d) (i * 65) (secL x b)) := by
  have hx64 : x.length = 64 := by rw [hx]; split; exact zero64_length; exact hl
  have n1 := h.wf.n1
  have ce : ∀ k o, k < g + 2 → (w.setCells (g + 2 + d) (i * 65) (secL x b)).cell? ⟨k, o, none⟩ = w.cell? ⟨k, o, none⟩ := fun k o hk =>
    World.cell?_setCells_out _ _ _ _ ⟨k, o, none⟩ (fun hb _ => absurd hb (by simp; omega))
  refine ⟨h.wf.put d i l b hl, ?_, ?_, ?_, ?_, ?_, fun d' hd' => ?_, fun d' hd' => ?_, fun d' hd' => ?_, fun d' i' hd' hi' => ?_, fun d' i' hd' hi' => ?_⟩
  · rw [ce _ _ (by omega)]; exact h.c0
  · rw [ce _ _ (by omega)]; exact h.c1
  · rw [ce _ _ (by omega)]; exact h.c2
  · rw [World.frozen?_setCells]; exact h.f1
  · rw [World.frozen?_setCells]; exact h.f2
  · rw [ce _ _ (by omega)]; exact h.ds d' hd'
  · rw [ce _ _ (by omega)]; exact h.dw d' hd'
  · rw [World.frozen?_setCells]; exact h.fw d' hd'
  · show World.rangeAt _ _ _ (secL (if up2 s.bad d i b d' i' then zero64 else up2 s.T d i l d' i') (up2 s.bad d i b d' i'))
    by_cases e : d' = d ∧ i' = i
    · obtain ⟨rfl, rfl⟩ := e
      have e1 : up2 s.bad d' i' b d' i' = b := by simp [up2]
      have e2 : up2 s.T d' i' l d' i' = l := by simp [up2]
      rw [e1, e2, ← hx]
      exact World.rangeAt_setCells_same _ _ _ _ (by rw [secL_length _ _ hx64]; exact h.st d' i' hd' hi')
    · have e1 : up2 s.bad d i b d' i' = s.bad d' i' := by unfold up2; rw [if_neg e]
      have e2 : up2 s.T d i l d' i' = s.T d' i' := by unfold up2; rw [if_neg e]
      rw [e1, e2]
      refine World.rangeAt_setCells_apart (h.sr d' i' hd' hi') _ _ _ ?_
      rw [secL_length _ _ hx64, secL_length _ _ (h.wf.shown hd' hi')]
      by_cases e3 : d' = d
      · right
        have : i' ≠ i := fun e4 => e ⟨e3, e4⟩
        omega
      · left; omega
  · exact World.there_setCells (h.st d' i' hd' hi') _ _ _
/-- A drive's number of writes is stored. -/
theorem RackAt.inc {g : Nat} {s : RSt} {w : World} (h : RackAt g s w) (d : Nat) (hd : d < s.n) (v : Int) (hv : v = (((s.cnt d + 1) % 18446744073709551616 : Nat) : Int)) :
    RackAt g (s.inc d) (w.setCell ⟨g, d * 2 + 1, none⟩ (.int .u64 v)) := by
  have n1 := h.wf.n1
  have ce : ∀ k o, (k ≠ g ∨ o ≠ d * 2 + 1) → (w.setCell ⟨g, d * 2 + 1, none⟩ (.int .u64 v)).cell? ⟨k, o, none⟩ = w.cell? ⟨k, o, none⟩ := fun k o hk =>
    World.cell?_setCell_other _ _ _ _ (fun e => by injection e with e1 e2; rcases hk with hk | hk; exact hk e1.symm; exact hk e2.symm)
  refine ⟨h.wf.inc d, ?_, ?_, ?_, ?_, ?_, fun d' hd' => ?_, fun d' hd' => ?_, fun d' hd' => ?_, fun d' i' hd' hi' => fun j x hj => ?_, fun d' i' hd' hi' => fun j hj => ?_⟩
  · rw [ce _ _ (by omega)]; exact h.c0
  · rw [ce _ _ (by omega)]; exact h.c1
  · rw [ce _ _ (by omega)]; exact h.c2
  · rw [World.frozen?_setCell]; exact h.f1
  · rw [World.frozen?_setCell]; exact h.f2
  · rw [ce _ _ (by omega)]; exact h.ds d' hd'
  · show _ = some (Value.int .u64 ((if d' = d then (s.cnt d + 1) % 18446744073709551616 else s.cnt d' : Nat) : Int))
    by_cases e : d' = d
    · subst e
      rw [if_pos rfl, ← hv]
      exact World.cell?_setCell_same _ _ _ (h.dw d' hd')
    · rw [if_neg e, ce _ _ (by omega)]; exact h.dw d' hd'
  · rw [World.frozen?_setCell]; exact h.fw d' hd'
  · rw [ce _ _ (by omega)]; exact h.sr d' i' hd' hi' j x hj
  · rw [ce _ _ (by omega), World.frozen?_setCell]; exact h.st d' i' hd' hi' j hj
theorem RackAt.left {g : Nat} {s : RSt} {w : World} (h : RackAt g s w) (k : Nat) (hk : k ≤ 9223372036854775807) : RackAt g (s.lim s.cut k) (w.setCell ⟨g + 1, 2, none⟩ (.int .i64 (k : Nat))) := by
  have n1 := h.wf.n1
  have ce : ∀ b o, (b ≠ g + 1 ∨ o ≠ 2) → (w.setCell ⟨g + 1, 2, none⟩ (.int .i64 (k : Nat))).cell? ⟨b, o, none⟩ = w.cell? ⟨b, o, none⟩ := fun b o hk =>
    World.cell?_setCell_other _ _ _ _ (fun e => by injection e with e1 e2; rcases hk with hk | hk; exact hk e1.symm; exact hk e2.symm)
  refine ⟨h.wf.lim _ k hk, ?_, ?_, World.cell?_setCell_same _ _ _ h.c2, ?_, ?_, fun d' hd' => ?_, fun d' hd' => ?_, fun d' hd' => ?_, fun d' i' hd' hi' => fun j x hj => ?_, fun d' i' hd' hi' => fun j hj => ?_⟩
  · rw [ce _ _ (by omega)]; exact h.c0
  · rw [ce _ _ (by omega)]; exact h.c1
  · rw [World.frozen?_setCell]; exact h.f1
  · rw [World.frozen?_setCell]; exact h.f2
  · rw [ce _ _ (by omega)]; exact h.ds d' hd'
  · rw [ce _ _ (by omega)]; exact h.dw d' hd'
  · rw [World.frozen?_setCell]; exact h.fw d' hd'
  · rw [ce _ _ (by omega)]; exact h.sr d' i' hd' hi' j x hj
  · rw [ce _ _ (by omega), World.frozen?_setCell]; exact h.st d' i' hd' hi' j hj
theorem RackAt.cutTo {g : Nat} {s : RSt} {w : World} (h : RackAt g s w) (c : Bool) : RackAt g (s.lim c s.left) (w.setCell ⟨g + 1, 1, none⟩ (.bool c)) := by
  have n1 := h.wf.n1
  have ce : ∀ b o, (b ≠ g + 1 ∨ o ≠ 1) → (w.setCell ⟨g + 1, 1, none⟩ (.bool c)).cell? ⟨b, o, none⟩ = w.cell? ⟨b, o, none⟩ := fun b o hk =>
    World.cell?_setCell_other _ _ _ _ (fun e => by injection e with e1 e2; rcases hk with hk | hk; exact hk e1.symm; exact hk e2.symm)
  refine ⟨h.wf.lim _ _ h.wf.left, ?_, World.cell?_setCell_same _ _ _ h.c1, ?_, ?_, ?_, fun d' hd' => ?_, fun d' hd' => ?_, fun d' hd' => ?_, fun d' i' hd' hi' => fun j x hj => ?_, fun d' i' hd' hi' => fun j hj => ?_⟩
  · rw [ce _ _ (by omega)]; exact h.c0
  · rw [ce _ _ (by omega)]; exact h.c2
  · rw [World.frozen?_setCell]; exact h.f1
  · rw [World.frozen?_setCell]; exact h.f2
  · rw [ce _ _ (by omega)]; exact h.ds d' hd'
  · rw [ce _ _ (by omega)]; exact h.dw d' hd'
  · rw [World.frozen?_setCell]; exact h.fw d' hd'
  · rw [ce _ _ (by omega)]; exact h.sr d' i' hd' hi' j x hj
  · rw [ce _ _ (by omega), World.frozen?_setCell]; exact h.st d' i' hd' hi' j hj
end Go.Proofs.YtmgkkoajjdgmbaaGreatDoor
