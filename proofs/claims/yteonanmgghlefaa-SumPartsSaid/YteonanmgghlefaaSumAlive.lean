/- That the known small cases come out: alive. -/
import Derived.Test.YteonanmgghlefaaSumCode2
namespace Go.Proofs.Yteonanmgghlefaa
open Go.RowKit Sm
set_option linter.unusedVariables false

/-- 'n' texts that were laid just now. -/
def Laid (w : World) (g : Nat) (ss : List ByteArray) : Prop := ∀ i, i < ss.length → w.cell? ⟨g, i, none⟩ = some (.string (ss.getD i ByteArray.empty))
theorem strs_new (w : World) (cs : Array Value) (t : TypeId) (ss : List ByteArray) (h : ∀ i, i < ss.length → cs[i]? = some (.string (ss.getD i ByteArray.empty))) : Strs (w.alloc (.cells cs t)) (some ⟨w.heap.size, 0, none⟩) ss := by
  refine .inr ⟨_, _, rfl, fun i hi => ?_⟩
  rw [Nat.zero_add, World.cell?_alloc_mark, h i hi]
theorem c0 : crc [] = 0 := by decide +kernel
theorem c9 : crc [49, 50, 51, 52, 53, 54, 55, 56, 57] = 3421780262 := by decide +kernel
theorem s9 : sealL [49, 50, 51, 52, 53, 54, 55, 56, 57] = [49, 50, 51, 52, 53, 54, 55, 56, 57, 203, 244, 57, 38] := by decide +kernel
theorem o9 : isSealed [49, 50, 51, 52, 53, 54, 55, 56, 57, 203, 244, 57, 38] = true := by decide +kernel
theorem o3 : isSealed [97, 98, 99] = false := by decide +kernel
theorem op9 : opened ⟨#[49, 50, 51, 52, 53, 54, 55, 56, 57, 203, 244, 57, 38]⟩ = ⟨#[49, 50, 51, 52, 53, 54, 55, 56, 57]⟩ := by decide +kernel
theorem c9p : crc (cat [⟨#[49, 50, 51, 52]⟩, ⟨#[]⟩, ⟨#[53, 54, 55, 56, 57]⟩]) = 3421780262 := c9
theorem b1 : b4 1 = [0, 0, 0, 1] := by decide +kernel

set_option maxHeartbeats 1000000 in
set_option maxRecDepth 100000 in
theorem sumAlive_any (w : World) : Calls Try.prog 6 #[] w fun e w' => e = .returned (.bool true) ∧ Kept w w' := by
  go_enter Try.func6, Try.ntmps6
  go_wp2_with fail
  refine (seal_any ⟨#[49, 50, 51, 52, 53, 54, 55, 56, 57]⟩ _ (by decide)).mono ?_
  rintro e w1 ⟨⟨r, rfl, hr, hz⟩, k1⟩
  obtain rfl : r = ⟨#[49, 50, 51, 52, 53, 54, 55, 56, 57, 203, 244, 57, 38]⟩ := str_ext (by rw [hr.out]; exact s9)
  clear hr hz
  go_wp2_with fail
  refine (open_any _ _ (by decide)).mono ?_
  rintro e w2 ⟨he, k2⟩
  rw [op9, show isSealed _ = true from o9] at he
  subst he
  go_wp2_with fail
  refine (open_any _ _ (by decide)).mono ?_
  rintro e w3 ⟨he, k3⟩
  rw [opened_no _ o3, show isSealed _ = false from o3] at he
  subst he
  go_wp2_with fail
  refine (of_any none 0 [] _ (.inl rfl) (by simp) (by simp)).mono ?_
  rintro e w4 ⟨he, k4⟩
  rw [show crc (cat []) = 0 from c0] at he
  subst he
  go_wp2_with fail
  refine (of_any _ 3 [⟨#[49, 50, 51, 52]⟩, ⟨#[]⟩, ⟨#[53, 54, 55, 56, 57]⟩] _ (strs_new _ _ _ _ ?_) (by simp) ?_).mono ?_
  · intro i hi
    match i, hi with
    | 0, _ => rfl
    | 1, _ => rfl
    | 2, _ => rfl
  · intro s hs
    simp at hs
    rcases hs with rfl | rfl | rfl <;> decide
  rintro e w5 ⟨he, k5⟩
  rw [c9p] at he
  subst he
  go_wp2_with fail
  refine (bytes_any 1 _ (by decide) (by decide)).mono ?_
  rintro e w6 ⟨rfl, k6⟩
  rw [show b4 (1 : Int).toNat = [0, 0, 0, 1] from b1]
  go_wp2_with fail
  go_ret
  exact ⟨rfl, k1.trans (k2.trans (k3.trans (k4.trans (((Kept.refl _).alloc _).trans (k5.trans k6)))))⟩
end Go.Proofs.Yteonanmgghlefaa
