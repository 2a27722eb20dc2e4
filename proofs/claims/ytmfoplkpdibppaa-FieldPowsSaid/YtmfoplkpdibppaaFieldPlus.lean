/- What Plus answers. -/
import Derived.Test.YtmfoplkpdibppaaFieldRef3
import Derived.Test.YtmfoplkpdibppaaRepeat
namespace Go.Proofs.Ytmfoplkpdibppaa
open Go.RowKit Gf
set_option linter.unusedVariables false
def ones (n : Nat) : ByteArray := ⟨(List.replicate n 1).toArray⟩
theorem ones_size (n : Nat) : (ones n).size = n := by show ((List.replicate n (1 : UInt8)).toArray).size = n; simp
theorem ones_bt (n k : Nat) (h : k < n) : bt (ones n) k = 1 := by
  unfold bt ones
  simp [h]
theorem mb_one (x : UInt8) : mb (1 : UInt8).toNat x = x := by
  unfold mb
  rw [show (1 : UInt8).toNat = 1 from rfl, one_mul x.toNat_lt]
  simp
theorem acc_ones (n : Nat) (ss : List ByteArray) (k j : Nat) (h : k ≤ n) : acc (ones n) ss k j = xr ss k j := by
  induction k with
  | zero => rfl
  | succ k ih => rw [acc, xr, ih (by omega), ones_bt n k (by omega), mb_one]
theorem sum_ones (ss : List ByteArray) : sumS (ones ss.length) ss = plS ss ∧ sumE (ones ss.length) ss = plE ss := by
  unfold plS plE sumS sumE sumOk
  rw [ones_size]
  simp only [decide_true, Bool.true_and, and_true]
  rw [strOf_congr _ _ (xr ss ss.length) (fun j _ => acc_ones _ ss _ j (Nat.le_refl _))]
set_option maxRecDepth 100000 in
theorem plus_any (a : Option Addr) (cap : Nat) (ss : List ByteArray) (w : World) (hS : Strs w a ss) (hl : ss.length ≤ 100000000) (hz : ∀ s ∈ ss, s.size ≤ 100000000) :
    Calls Try.prog 19 #[.slice a ss.length cap] w fun e w' => e = .returned (.tuple #[.string (plS ss), .int .i64 (plE ss)]) ∧ Kept w w' := by
  have HS := Lib.hid hS
  have HZ := Lib.hid hz
  have HO := Lib.hid (sum_ones ss)
  clear hS hz
  go_enter Try.func19, Try.ntmps19
  go_wp2_with fail
  refine (repeat_any ⟨#[1]⟩ ss.length _ (by omega) (by rw [show (⟨#[1]⟩ : ByteArray).size = 1 from rfl]; omega)).mono ?_
  rintro e w1 ⟨rfl, k1⟩
  rw [show (⟨(Lib.repeatL (⟨#[1]⟩ : ByteArray).data.toList ss.length).toArray⟩ : ByteArray) = ones ss.length from by rw [show (⟨#[1]⟩ : ByteArray).data.toList = [1] from rfl, repeatL_one]; rfl]
  go_wp2_with fail
  refine (sum_any (ones ss.length) a cap ss _ (HS.out.kept k1) hl HZ.out (by rw [ones_size]; exact hl)).mono ?_
  rintro e w2 ⟨rfl, k2⟩
  rw [HO.out.1, HO.out.2]
  go_wp2_with fail
  go_ret2
  exact ⟨rfl, k1.trans k2⟩
end Go.Proofs.Ytmfoplkpdibppaa
