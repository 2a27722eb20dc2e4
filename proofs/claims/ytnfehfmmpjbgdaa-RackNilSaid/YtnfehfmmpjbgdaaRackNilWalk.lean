/- RackNil's walk. -/
import Derived.Test.YtnfehfmmpjbgdaaRackAlive
import Derived.OpenShut
namespace Go.Proofs.Ytnfehfmmpjbgdaa
open Go.RowKit Go.ChangeShapes Go.WideShapes
set_option linter.unusedVariables false
set_option maxHeartbeats 2000000 in
set_option maxRecDepth 100000 in
theorem rackNil_walk (a0 a1 : Int) (a2 : ByteArray) (w : World) (w0 : (Lit.int .i64 a0).wf = true) (w1 : (Lit.int .i64 a1).wf = true) (w2 : a2.size ≤ maxLen) :
    Calls Try.prog 6 #[.int .i64 a0, .int .i64 a1, .string a2] w fun e w' => e = .returned (.bool true) ∧ Kept w w' := by
  obtain ⟨d1, d2⟩ := bounds_i64 w0
  obtain ⟨i1, i2⟩ := bounds_i64 w1
  have ht : a2.size ≤ 9223372036854775807 := by unfold maxLen at w2; exact w2
  clear w0 w1 w2
  have K0 : Hid (Kept w w) := Kept.refl _
  go_enter Try.func6, Try.ntmps6
  go_wp2_with fail
  refine (read_nil a0 a1 d1 d2 i1 i2 _).mono ?_
  rintro e w1 ⟨rfl, hk⟩
  have K1 : Hid (Kept w w1) := K0.out.trans hk
  clear hk
  go_wp2_with fail
  refine (write_nil a0 a1 d1 d2 i1 i2 a2 ht _).mono ?_
  rintro e w2 ⟨rfl, hk⟩
  have K2 : Hid (Kept w w2) := K1.out.trans hk
  clear hk
  go_wp2_with fail
  refine (cut_nil a1 i1 i2 _).mono ?_
  rintro e w3 ⟨rfl, hk⟩
  have K3 : Hid (Kept w w3) := K2.out.trans hk
  clear hk
  go_wp2_with fail
  refine (lift_nil _).mono ?_
  rintro e w4 ⟨rfl, hk⟩
  have K4 : Hid (Kept w w4) := K3.out.trans hk
  clear hk
  go_wp2_with fail
  refine (wipe_nil a0 d1 d2 _).mono ?_
  rintro e w5 ⟨rfl, hk⟩
  have K5 : Hid (Kept w w5) := K4.out.trans hk
  clear hk
  go_wp2_with fail
  refine (spoil_nil a0 a1 d1 d2 i1 i2 _).mono ?_
  rintro e w6 ⟨rfl, hk⟩
  have K6 : Hid (Kept w w6) := K5.out.trans hk
  clear hk
  go_wp2_with fail
  refine (drives_any none 0 _ (.inl ⟨rfl, rfl⟩)).mono ?_
  rintro e w7 ⟨rfl, hw⟩
  have K7 : Hid (Kept w w7) := by rw [hw]; exact K6.out
  clear hw
  go_wp2_with fail
  refine (sectors_nil _).mono ?_
  rintro e w8 ⟨rfl, hk⟩
  have K8 : Hid (Kept w w8) := K7.out.trans hk
  clear hk
  go_wp2_with fail
  refine (writes_nil a0 d1 d2 _).mono ?_
  rintro e w9 ⟨rfl, hk⟩
  have K9 : Hid (Kept w w9) := K8.out.trans hk
  clear hk
  go_wp2_with fail
  refine (all_nil a0 d1 d2 _).mono ?_
  rintro e w10 ⟨rfl, hk⟩
  have K10 : Hid (Kept w w10) := K9.out.trans hk
  clear hk
  go_wp2_with fail
  refine (alive_any _).mono ?_
  rintro e w11 ⟨rfl, hk⟩
  have K11 : Hid (Kept w w11) := K10.out.trans hk
  clear hk
  go_wp2_with fail
  go_ret
  exact ⟨rfl, K11.out⟩
end Go.Proofs.Ytnfehfmmpjbgdaa
