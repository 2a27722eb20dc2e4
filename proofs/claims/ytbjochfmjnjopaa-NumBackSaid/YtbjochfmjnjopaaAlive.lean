/- That the known small cases come out: alive. -/
import Derived.Test.YtbjochfmjnjopaaRead
namespace Go.Proofs.Ytbjochfmjnjopaa
open Go.RowKit Nm
set_option linter.unusedVariables false

theorem up_read_c (s : ByteArray) (x n c : Int) (w : World) (hs : s.size ≤ maxLen) (h : ((rx s.data.toList : Nat) : Int) = x ∧ ((rn s.data.toList : Nat) : Int) = n ∧ ((cd s.data.toList : Nat) : Int) = c) :
    Calls Try.prog 14 #[.string s] w fun e w' => e = .returned (.tuple #[.int .u64 x, .int .i64 n, .int .i64 c]) ∧ Kept w w' := by
  obtain ⟨rfl, rfl, rfl⟩ := h
  exact up_read s w hs
theorem down_read_c (s : ByteArray) (x n c : Int) (w : World) (hs : s.size ≤ maxLen) (h : ((rx (turn 255 s.data.toList) : Nat) : Int) = x ∧ ((rn (turn 255 s.data.toList) : Nat) : Int) = n ∧ ((cd (turn 255 s.data.toList) : Nat) : Int) = c) :
    Calls Try.prog 16 #[.string s] w fun e w' => e = .returned (.tuple #[.int .u64 x, .int .i64 n, .int .i64 c]) ∧ Kept w w' := by
  obtain ⟨rfl, rfl, rfl⟩ := h
  exact down_read s w hs
theorem up_c (x : Int) (r : ByteArray) (w : World) (h0 : 0 ≤ x) (h1 : x ≤ 18446744073709551615) (h : (⟨(up x.toNat).toArray⟩ : ByteArray) = r) :
    Calls Try.prog 8 #[.int .u64 x] w fun e w' => e = .returned (.string r) ∧ Kept w w' := by
  subst h; exact up_any x w h0 h1
theorem down_c (x : Int) (r : ByteArray) (w : World) (h0 : 0 ≤ x) (h1 : x ≤ 18446744073709551615) (h : (⟨(turn 255 (up x.toNat)).toArray⟩ : ByteArray) = r) :
    Calls Try.prog 10 #[.int .u64 x] w fun e w' => e = .returned (.string r) ∧ Kept w w' := by
  subst h; exact down_any x w h0 h1
theorem k1 : ((rx [2, 1, 0, 122] : Nat) : Int) = 256 ∧ ((rn [2, 1, 0, 122] : Nat) : Int) = 3 ∧ ((cd [2, 1, 0, 122] : Nat) : Int) = 0 := by decide +kernel
theorem k2 : ((rx (turn 255 [253, 254, 255, 122]) : Nat) : Int) = 256 ∧ ((rn (turn 255 [253, 254, 255, 122]) : Nat) : Int) = 3 ∧ ((cd (turn 255 [253, 254, 255, 122]) : Nat) : Int) = 0 := by decide +kernel
theorem k3 : ((rx [9] : Nat) : Int) = 0 ∧ ((rn [9] : Nat) : Int) = 0 ∧ ((cd [9] : Nat) : Int) = 8 := by decide +kernel
theorem k4 : ((rx [1, 0] : Nat) : Int) = 0 ∧ ((rn [1, 0] : Nat) : Int) = 0 ∧ ((cd [1, 0] : Nat) : Int) = 8 := by decide +kernel
theorem k5 : ((rx [1] : Nat) : Int) = 0 ∧ ((rn [1] : Nat) : Int) = 0 ∧ ((cd [1] : Nat) : Int) = 10 := by decide +kernel
theorem u0 : (⟨(up (0 : Int).toNat).toArray⟩ : ByteArray) = ⟨#[0]⟩ := by decide +kernel
theorem u256 : (⟨(up (256 : Int).toNat).toArray⟩ : ByteArray) = ⟨#[2, 1, 0]⟩ := by decide +kernel
theorem d255 : (⟨(turn 255 (up (255 : Int).toNat)).toArray⟩ : ByteArray) = ⟨#[254, 0]⟩ := by decide +kernel
theorem n256 : nb (256 : Int).toNat = 2 := by decide +kernel

set_option maxRecDepth 100000 in
theorem alive_any (w : World) : Calls Try.prog 13 #[] w fun e w' => e = .returned (.bool true) ∧ Kept w w' := by
  go_enter Try.func13, Try.ntmps13
  go_wp2_with fail
  refine (up_read_c ⟨#[2, 1, 0, 122]⟩ 256 3 0 _ (by decide) k1).mono ?_
  rintro e w1 ⟨rfl, g1⟩
  go_wp2_with fail
  refine (down_read_c ⟨#[253, 254, 255, 122]⟩ 256 3 0 _ (by decide) k2).mono ?_
  rintro e w2 ⟨rfl, g2⟩
  go_wp2_with fail
  refine (up_read_c ⟨#[9]⟩ 0 0 8 _ (by decide) k3).mono ?_
  rintro e w3 ⟨rfl, g3⟩
  go_wp2_with fail
  refine (up_read_c ⟨#[1, 0]⟩ 0 0 8 _ (by decide) k4).mono ?_
  rintro e w4 ⟨rfl, g4⟩
  go_wp2_with fail
  refine (up_read_c ⟨#[1]⟩ 0 0 10 _ (by decide) k5).mono ?_
  rintro e w5 ⟨rfl, g5⟩
  go_wp2_with fail
  refine (up_c 0 ⟨#[0]⟩ _ (by decide) (by decide) u0).mono ?_
  rintro e w6 ⟨rfl, g6⟩
  go_wp2_with fail
  refine (up_c 256 ⟨#[2, 1, 0]⟩ _ (by decide) (by decide) u256).mono ?_
  rintro e w7 ⟨rfl, g7⟩
  go_wp2_with fail
  refine (down_c 255 ⟨#[254, 0]⟩ _ (by decide) (by decide) d255).mono ?_
  rintro e w8 ⟨rfl, g8⟩
  go_wp2_with fail
  refine (size_n 256 2 n256 _ (by decide) (by decide)).mono ?_
  rintro e w9 ⟨rfl, rfl⟩
  go_wp2_with fail
  go_ret
  exact ⟨rfl, g1.trans (g2.trans (g3.trans (g4.trans (g5.trans (g6.trans (g7.trans g8))))))⟩
end Go.Proofs.Ytbjochfmjnjopaa
