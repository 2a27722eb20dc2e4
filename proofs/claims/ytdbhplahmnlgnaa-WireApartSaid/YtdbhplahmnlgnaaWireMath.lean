/- What the document says of bricks, and of a reader: plain. -/
import Derived.Test.YtdbhplahmnlgnaaRead
namespace Go.Proofs.Ytdbhplahmnlgnaa.Wr
open Nm
/-- A text's bytes. -/
def txt (l : List UInt8) : List UInt8 := up l.length ++ l
/-- What a reader has: what is left, and the fault. -/
structure St where
  l : List UInt8
  e : Nat
/-- A number is read. -/
def qNum (m : Nat) (s : St) : Nat × St :=
  if s.e ≠ 0 then (0, s)
  else if cd s.l ≠ 0 then (0, ⟨s.l, cd s.l⟩)
  else if m < rx s.l then (0, ⟨s.l, 9⟩)
  else (rx s.l, ⟨s.l.drop (rn s.l), 0⟩)
/-- A truth is read. -/
def qBool (s : St) : Bool × St :=
  if s.e ≠ 0 then (false, s)
  else match s.l with
    | [] => (false, ⟨s.l, 10⟩)
    | b :: t => if 1 < b.toNat then (false, ⟨s.l, 8⟩) else (b.toNat == 1, ⟨t, 0⟩)
/-- A count is read. -/
def qCount (m : Int) (s : St) : Nat × St :=
  if s.e ≠ 0 then (0, s)
  else if cd s.l ≠ 0 then (0, ⟨s.l, cd s.l⟩)
  else if m < 0 ∨ m < rx s.l then (0, ⟨s.l, 4⟩)
  else if (s.l.drop (rn s.l)).length < rx s.l then (0, ⟨s.l, 10⟩)
  else (rx s.l, ⟨s.l.drop (rn s.l), 0⟩)
/-- A text is read. -/
def qText (m : Int) (s : St) : List UInt8 × St :=
  (((qCount m s).2.l).take (qCount m s).1, ⟨((qCount m s).2.l).drop (qCount m s).1, (qCount m s).2.e⟩)
/-- All that is left. -/
def qRest (s : St) : List UInt8 × St := if s.e ≠ 0 then ([], s) else (s.l, ⟨[], 0⟩)
/-- The end. -/
def qEnd (s : St) : Nat × St := if s.e ≠ 0 then (s.e, s) else if s.l = [] then (0, s) else (8, ⟨s.l, 8⟩)
theorem qCount_le (m : Int) (s : St) : (qCount m s).1 ≤ (qCount m s).2.l.length := by
  unfold qCount
  split
  · simp
  · split
    · simp
    · split
      · simp
      · split
        · simp
        · simp; simp at *; omega
end Go.Proofs.Ytdbhplahmnlgnaa.Wr
