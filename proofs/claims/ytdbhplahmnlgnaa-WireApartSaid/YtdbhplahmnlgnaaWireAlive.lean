/- That the known small cases come out: alive. -/
import Derived.Test.YtdbhplahmnlgnaaWireCode5
namespace Go.Proofs.Ytdbhplahmnlgnaa
open Go.RowKit _root_.Go.Proofs.Ytdbhplahmnlgnaa.Nm Wr
set_option linter.unusedVariables false
theorem strs_new (w : World) (cs : Array Value) (t : TypeId) (ss : List ByteArray) (h : ∀ i, i < ss.length → cs[i]? = some (.string (ss.getD i ByteArray.empty))) : Strs (w.alloc (.cells cs t)) (some ⟨w.heap.size, 0, none⟩) ss := by
  refine .inr ⟨_, _, rfl, fun i hi => ?_⟩
  rw [Nat.zero_add, World.cell?_alloc_mark, h i hi]
theorem wa1 : nums [5, 300] = [1, 5, 2, 1, 44] := by decide +kernel
theorem wa2 : texts [⟨#[97]⟩, ⟨#[]⟩] = [1, 1, 97, 0] := by decide +kernel
theorem wa3 : qNum (Int.toNat 5) ⟨[1, 5, 2, 1, 44, 1, 1, 97, 0, 1, 122], 0⟩ = (5, ⟨[2, 1, 44, 1, 1, 97, 0, 1, 122], 0⟩) := by with_unfolding_all rfl
theorem wa4 : qNum (Int.toNat 300) ⟨[2, 1, 44, 1, 1, 97, 0, 1, 122], 0⟩ = (300, ⟨[1, 1, 97, 0, 1, 122], 0⟩) := by with_unfolding_all rfl
theorem wa5 : qText 1 ⟨[1, 1, 97, 0, 1, 122], 0⟩ = ([97], ⟨[0, 1, 122], 0⟩) := by with_unfolding_all rfl
theorem wa6 : qText 0 ⟨[0, 1, 122], 0⟩ = ([], ⟨[1, 122], 0⟩) := by with_unfolding_all rfl
theorem wa7 : qBool ⟨[1, 122], 0⟩ = (true, ⟨[122], 0⟩) := by with_unfolding_all rfl
theorem wa8 : qRest ⟨[122], 0⟩ = ([122], ⟨[], 0⟩) := by with_unfolding_all rfl
theorem wa9 : qEnd ⟨[], 0⟩ = (0, ⟨[], 0⟩) := by with_unfolding_all rfl
theorem wa10 : qNum (Int.toNat 4) ⟨[1, 5], 0⟩ = (0, ⟨[1, 5], 9⟩) := by with_unfolding_all rfl
theorem wa11 : qEnd ⟨[1, 5], 9⟩ = (9, ⟨[1, 5], 9⟩) := by with_unfolding_all rfl
set_option maxHeartbeats 1000000 in
set_option maxRecDepth 100000 in
theorem wireAlive_any (w : World) : Calls Try.prog 8 #[] w fun e w' => e = .returned (.bool true) ∧ Kept w w' := by
  go_enter Try.func8, Try.ntmps8
  go_wp2_with fail
  refine (nums_any _ _ [5, 300] _ (u64s_new _ _ _ [5, 300] (fun i hi => by rcases i with _ | _ | i <;> first | rfl | (simp at hi; omega)) (by simp)) (by decide)).mono ?_
  rintro e w1 ⟨rfl, k1⟩
  rw [wa1]
  go_wp2_with fail
  refine (texts_any _ _ [⟨#[97]⟩, ⟨#[]⟩] _ (strs_new _ _ _ [⟨#[97]⟩, ⟨#[]⟩] (fun i hi => by rcases i with _ | _ | i <;> first | rfl | (simp at hi; omega))) (by decide) (by intro s hs; simp at hs; rcases hs with rfl | rfl <;> decide)).mono ?_
  rintro e w2 ⟨rfl, k2⟩
  rw [wa2]
  go_wp2_with fail
  refine (wbool_any true _).mono ?_
  rintro e w3 ⟨rfl, k3⟩
  go_wp2_with fail
  have hstr : ((⟨#[1, 5, 2, 1, 44]⟩ : ByteArray) ++ ⟨#[1, 1, 97, 0]⟩ ++ ⟨#[1]⟩ ++ ⟨#[122]⟩) = ⟨#[1, 5, 2, 1, 44, 1, 1, 97, 0, 1, 122]⟩ := by with_unfolding_all rfl
  rw [hstr]
  have K3 : Hid (Kept w w3) := ((((Kept.refl _).alloc _).trans k1).alloc _ |>.trans k2).trans k3
  clear hstr k1 k2 k3
  refine (new_any _ _ (by decide)).mono ?_
  rintro e w4 ⟨b, rfl, hb, hW4, k4⟩
  have hb0 : w.heap.size ≤ b := by have := K3.out.size; omega
  have K4 : Hid (Kept w w4) := K3.out.trans k4
  clear k4 K3
  go_wp2_with fail
  refine (num_any b _ 5 _ hW4 (by decide) (by decide)).mono ?_
  rintro e w5 ⟨he, hW5, hB⟩
  rw [show qNum _ _ = _ from wa3] at he hW5
  subst he
  have K5 : Hid (Kept w w5) := But.kept K4.out hb0 hB
  clear hB K4 hW4
  go_wp2_with fail
  refine (num_any b _ 300 _ hW5 (by decide) (by decide)).mono ?_
  rintro e w6 ⟨he, hW6, hB⟩
  rw [show qNum _ _ = _ from wa4] at he hW6
  subst he
  have K6 : Hid (Kept w w6) := But.kept K5.out hb0 hB
  clear hB K5 hW5
  go_wp2_with fail
  refine (text_any b _ 1 _ hW6 (by decide) (by decide)).mono ?_
  rintro e w7 ⟨he, hW7, hB⟩
  rw [show qText _ _ = _ from wa5] at he hW7
  subst he
  have K7 : Hid (Kept w w7) := But.kept K6.out hb0 hB
  clear hB K6 hW6
  go_wp2_with fail
  refine (text_any b _ 0 _ hW7 (by decide) (by decide)).mono ?_
  rintro e w8 ⟨he, hW8, hB⟩
  rw [show qText _ _ = _ from wa6] at he hW8
  subst he
  have K8 : Hid (Kept w w8) := But.kept K7.out hb0 hB
  clear hB K7 hW7
  go_wp2_with fail
  refine (bool_any b _ _ hW8).mono ?_
  rintro e w9 ⟨he, hW9, hB⟩
  rw [show qBool _ = _ from wa7] at he hW9
  subst he
  have K9 : Hid (Kept w w9) := But.kept K8.out hb0 hB
  clear hB K8 hW8
  go_wp2_with fail
  refine (rest_any b _ _ hW9).mono ?_
  rintro e w10 ⟨he, hW10, hB⟩
  rw [show qRest _ = _ from wa8] at he hW10
  subst he
  have K10 : Hid (Kept w w10) := But.kept K9.out hb0 hB
  clear hB K9 hW9
  go_wp2_with fail
  refine (end_any b _ _ hW10).mono ?_
  rintro e w11 ⟨he, hW11, hB⟩
  rw [show qEnd _ = _ from wa9] at he hW11
  subst he
  have K11 : Hid (Kept w w11) := But.kept K10.out hb0 hB
  clear hB K10 hW10 hW11
  go_wp2_with fail
  refine (new_any _ _ (by decide)).mono ?_
  rintro e w12 ⟨c, rfl, hc, hW12, k12⟩
  have hc0 : w.heap.size ≤ c := by have := K11.out.size; omega
  have K12 : Hid (Kept w w12) := K11.out.trans k12
  clear k12 K11
  go_wp2_with fail
  refine (num_any c _ 4 _ hW12 (by decide) (by decide)).mono ?_
  rintro e w13 ⟨he, hW13, hB⟩
  rw [show qNum _ _ = _ from wa10] at he hW13
  subst he
  have K13 : Hid (Kept w w13) := But.kept K12.out hc0 hB
  clear hB K12 hW12
  go_wp2_with fail
  refine (err_any c _ _ hW13).mono ?_
  rintro e w14 ⟨rfl, hB, hW14⟩
  have K14 : Hid (Kept w w14) := But.kept K13.out hc0 hB
  clear hB K13 hW13
  go_wp2_with fail
  refine (end_any c _ _ hW14).mono ?_
  rintro e w15 ⟨he, hW15, hB⟩
  rw [show qEnd _ = _ from wa11] at he hW15
  subst he
  have K15 : Hid (Kept w w15) := But.kept K14.out hc0 hB
  clear hB K14 hW14 hW15
  go_wp2_with fail
  go_ret
  exact ⟨rfl, K15.out⟩
end Go.Proofs.Ytdbhplahmnlgnaa
