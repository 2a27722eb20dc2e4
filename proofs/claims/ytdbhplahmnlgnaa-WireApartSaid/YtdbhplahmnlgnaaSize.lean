/- What bits.Len64 and num.Size answer. -/
import Derived.Test.YtdbhplahmnlgnaaKept
import Derived.Test.YtdbhplahmnlgnaaMath
import Derived.WalkKit
import Derived.Lib.Hide
import Derived.WalkLawsBesides
import Derived.Lib.BitFns
namespace Go.Proofs.Ytdbhplahmnlgnaa
open Go.RowKit Nm
set_option linter.unusedVariables false

theorem bitLen_blen : ∀ n : Fin 256, Lib.bitLen n.val = blen n.val := by decide +kernel
/-- The table's byte, behind 'int(..)'. -/
theorem tab_blen (y : Int) (h0 : 0 ≤ y) (h1 : y < 256) (h : y.toNat < Lib.len8tab.size) : ((Lib.len8tab[y.toNat].toNat : Nat) : Int) = (blen y.toNat : Nat) ∧ blen y.toNat ≤ 8 := by
  have e := Lib.len8_of y h0 (by omega)
  have e2 := bitLen_blen ⟨y.toNat, by omega⟩
  simp only at e2
  have e3 : Lib.len8 y = ((Lib.len8tab[y.toNat].toNat : Nat) : Int) := by
    unfold Lib.len8
    rw [getElem?_pos Lib.len8tab y.toNat h]
    rfl
  rw [← e3, e, e2]
  exact ⟨rfl, (blen_le _ _).2 (by omega)⟩
/-- What a way comes to: c bits were shifted away. -/
theorem way (x y : Int) (c : Nat) (h0 : 0 ≤ x) (hy0 : 0 ≤ y) (hy1 : y < 256) (hc : c ≤ 56) (h : y.toNat < Lib.len8tab.size) (hx : 2 ^ c ≤ x.toNat ∨ c = 0) (hd : y.toNat = x.toNat / 2 ^ c) :
    wrap64 ((c : Int) + wrap64 ((Lib.len8tab[y.toNat].toNat : Nat) : Int)) = (blen x.toNat : Nat) := by
  obtain ⟨e, hb⟩ := tab_blen y hy0 hy1 h
  rw [e]
  have e1 : blen x.toNat = c + blen y.toNat := by
    rcases hx with hx | hx
    · rw [blen_shift x.toNat c hx, hd]
    · subst hx; rw [hd]; simp
  rw [e1, IntWalk.wrap64_in ((blen y.toNat : Nat) : Int) ⟨by omega, by omega⟩, IntWalk.wrap64_in _ ⟨by omega, by omega⟩]
  omega
set_option maxHeartbeats 4000000 in
set_option maxRecDepth 100000 in
theorem len64_any (x : Int) (w : World) (h0 : 0 ≤ x) (h1 : x ≤ 18446744073709551615) :
    Calls Try.prog 56 #[.int .u64 x] w fun e w' => e = .returned (.int .i64 (blen x.toNat : Nat)) ∧ w = w' := by
  have hs := Lib.len8tab_size
  go_enter Try.func56, Try.ntmps56
  go_wp2
  all_goals (go_ret; refine ⟨congrArg Ending.returned (congrArg (Value.int IntKind.i64) ?_), rfl⟩)
  · exact way x _ 56 h0 (by omega) (by omega) (by omega) _ (Or.inl (by omega)) (by omega)
  · exact way x _ 48 h0 (by omega) (by omega) (by omega) _ (Or.inl (by omega)) (by omega)
  · exact way x _ 40 h0 (by omega) (by omega) (by omega) _ (Or.inl (by omega)) (by omega)
  · exact way x _ 32 h0 (by omega) (by omega) (by omega) _ (Or.inl (by omega)) (by omega)
  · exact way x _ 24 h0 (by omega) (by omega) (by omega) _ (Or.inl (by omega)) (by omega)
  · exact way x _ 16 h0 (by omega) (by omega) (by omega) _ (Or.inl (by omega)) (by omega)
  · exact way x _ 8 h0 (by omega) (by omega) (by omega) _ (Or.inl (by omega)) (by omega)
  · have e := way x x 0 h0 h0 (by omega) (by omega) (by omega) (Or.inr rfl) (by simp)
    rw [← e]
    simp

set_option maxRecDepth 100000 in
theorem size_any (x : Int) (w : World) (h0 : 0 ≤ x) (h1 : x ≤ 18446744073709551615) :
    Calls Try.prog 54 #[.int .u64 x] w fun e w' => e = .returned (.int .i64 ((nb x.toNat + 1 : Nat) : Int)) ∧ w = w' := by
  have hb : blen x.toNat ≤ 64 := (blen_le _ _).2 (by omega)
  go_enter Try.func54, Try.ntmps54
  go_wp2_with (go_at_call 56; refine (len64_any x _ h0 h1).mono ?_; rintro e w' ⟨rfl, rfl⟩)
  go_ret
  exact ⟨congrArg Ending.returned (congrArg (Value.int IntKind.i64) (by unfold nb; omega)), rfl⟩
end Go.Proofs.Ytdbhplahmnlgnaa
