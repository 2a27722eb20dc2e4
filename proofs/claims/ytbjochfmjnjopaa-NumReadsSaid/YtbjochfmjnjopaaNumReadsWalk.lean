/- The walk of NumReads. -/
import Derived.Test.YtbjochfmjnjopaaRefRead
namespace Go.Proofs.Ytbjochfmjnjopaa
open Go.RowKit Nm
set_option linter.unusedVariables false

set_option maxRecDepth 100000 in
theorem numReads_walk (a0 : ByteArray) (w0 : a0.size ≤ maxLen) (w : World) :
    Calls Try.prog 4 #[.string a0] w fun e w' => e = .returned (.bool true) ∧ Kept w w' := by
  have H0 := Lib.hid w0
  clear w0
  rcases Nat.lt_or_ge 4096 a0.size with h | h
  · go_enter Try.func4, Try.ntmps4
    go_wp2_with fail
    refine (alive_any _).mono ?_
    rintro e w7 ⟨rfl, g7⟩
    go_wp2_with fail
    go_ret
    exact ⟨rfl, g7⟩
  · go_enter Try.func4, Try.ntmps4
    go_wp2_with fail
    refine (up_read _ _ H0.out).mono ?_
    rintro e w1 ⟨he, g1⟩
    unfold ReadOut at he
    subst he
    go_wp2_with fail
    refine (refread_any _ _ H0.out).mono ?_
    rintro e w2 ⟨he, g2⟩
    unfold ReadOut at he
    subst he
    go_wp2_with fail
    refine (down_read _ _ H0.out).mono ?_
    rintro e w3 ⟨he, g3⟩
    unfold ReadOut at he
    subst he
    go_wp2_with fail
    refine (refreaddown_any _ _ H0.out).mono ?_
    rintro e w4 ⟨he, g4⟩
    unfold ReadOut at he
    subst he
    go_wp2_with fail
    refine (alive_any _).mono ?_
    rintro e w7 ⟨rfl, g7⟩
    go_wp2_with fail
    go_ret
    exact ⟨rfl, g1.trans (g2.trans (g3.trans (g4.trans g7)))⟩
end Go.Proofs.Ytbjochfmjnjopaa
