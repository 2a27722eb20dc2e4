/- The walk of SumOpens. -/
import Derived.Test.YteonanmgghlefaaSumAlive
namespace Go.Proofs.Yteonanmgghlefaa
open Go.RowKit Sm
set_option linter.unusedVariables false

theorem refseal_as (s r : ByteArray) (hr : r.data.toList = sealL s.data.toList) (w : World) (hs : s.size ≤ 1000000) :
    Calls Try.prog 14 #[.string s] w fun e w' => e = .returned (.string r) ∧ Kept w w' := by
  refine (refseal_any s w hs).mono ?_
  rintro e w' ⟨⟨r2, rfl, h2, _⟩, hk⟩
  obtain rfl : r2 = r := str_ext (by rw [h2.out, hr])
  exact ⟨rfl, hk⟩
set_option maxHeartbeats 1000000 in
set_option maxRecDepth 100000 in
theorem sumOpens_walk (a0 : ByteArray) (a1 : ByteArray) (w : World) (w0 : a0.size ≤ maxLen) (w1 : a1.size ≤ maxLen) :
    Calls Try.prog 4 #[.string a0, .string a1] w fun e w' => e = .returned (.bool true) ∧ Kept w w' := by
  clear w0 w1
  by_cases hz : 2048 < a0.size ∨ 2048 < a1.size
  · rcases Nat.lt_or_ge 2048 a0.size with h | h
    · go_enter Try.func4, Try.ntmps4
      go_wp2_with fail
      refine (sumAlive_any _).mono ?_
      rintro e w7 ⟨rfl, g7⟩
      go_wp2_with fail
      go_ret
      exact ⟨rfl, g7⟩
    · have h1 : 2048 < a1.size := by omega
      go_enter Try.func4, Try.ntmps4
      go_wp2_with fail
      refine (sumAlive_any _).mono ?_
      rintro e w7 ⟨rfl, g7⟩
      go_wp2_with fail
      go_ret
      exact ⟨rfl, g7⟩
  · have h0 : a0.size ≤ 2048 := by omega
    have h1 : a1.size ≤ 2048 := by omega
    clear hz
    go_enter Try.func4, Try.ntmps4
    go_wp2_with fail
    refine (open_any a1 _ (by omega)).mono ?_
    rintro e w1 ⟨rfl, k1⟩
    go_wp2_with fail
    refine (refopen_any a1 _ (by omega)).mono ?_
    rintro e w2 ⟨rfl, k2⟩
    go_wp2_with fail
    refine (seal_any a0 _ (by omega)).mono ?_
    rintro e w3 ⟨⟨r, rfl, hr, hz⟩, k3⟩
    go_wp2_with fail
    refine (refseal_as a0 r hr.out _ (by omega)).mono ?_
    rintro e w4 ⟨rfl, k4⟩
    go_wp2_with fail
    refine (sumAlive_any _).mono ?_
    rintro e w5 ⟨rfl, k5⟩
    go_wp2_with fail
    go_ret
    exact ⟨rfl, k1.trans (k2.trans (k3.trans (k4.trans k5)))⟩
end Go.Proofs.Yteonanmgghlefaa
