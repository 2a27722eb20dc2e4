/- What a call that only makes memory leaves: all that was there is as it was. -/
import Derived.Test.YtccpbgkaeldlaaaRows
import Derived.WalkKit
import Derived.WalkSmall
import Derived.Lib.Hide
namespace Go.Proofs.Ytccpbgkaeldlaaa
open Go.RowKit
/-- All that was there is as it was; there may be more. -/
def Kept (w w' : World) : Prop := Below w.heap.size w w'
theorem Kept.refl (w : World) : Kept w w := Below.refl _ _
theorem Kept.trans {a b c : World} (h : Kept a b) (k : Kept b c) : Kept a c := Below.trans h (Below.mono k h.size)
theorem Kept.alloc {a w : World} (h : Kept a w) (o : Obj) : Kept a (w.alloc o) := Below.alloc h h.size o
theorem Kept.drew {a w : World} (h : Kept a w) : Kept a w.drew := Below.drew h
theorem Kept.drewN {a w : World} (h : Kept a w) (n : Nat) : Kept a (w.drewN n) := below_drewN h n
theorem Kept.setCell {a w : World} (h : Kept a w) {p : Addr} (hp : a.heap.size ≤ p.block) (u : Value) : Kept a (w.setCell p u) := Below.setCell h hp u
theorem Kept.grown {a w w' : World} {g : Nat} (h : Kept a w) (hg : w.grownBy w' (some g)) (hr : a.heap.size ≤ g) : Kept a w' :=
  Below.grown h hg h.size (fun k hk => by cases hk; exact hr)
theorem Kept.grown0 {a w w' : World} (h : Kept a w) (hg : w.grownBy w' none) : Kept a w' :=
  Below.grown h hg h.size (fun k hk => by cases hk)
end Go.Proofs.Ytccpbgkaeldlaaa
