/- The bytes of many bricks, one behind the other. -/
import Derived.Test.YtdbhplahmnlgnaaWireMath
namespace Go.Proofs.Ytdbhplahmnlgnaa.Wr
open Nm
def nums (xs : List Nat) : List UInt8 := (xs.map up).flatten
def texts (ss : List ByteArray) : List UInt8 := (ss.map fun s => txt s.data.toList).flatten
theorem nums_take (xs : List Nat) (k : Nat) (h : k < xs.length) : nums (xs.take (k + 1)) = nums (xs.take k) ++ up xs[k] := by
  unfold nums
  rw [List.take_succ_eq_append_getElem h, List.map_append, List.flatten_append]
  simp
theorem texts_take (ss : List ByteArray) (k : Nat) (h : k < ss.length) : texts (ss.take (k + 1)) = texts (ss.take k) ++ txt ss[k].data.toList := by
  unfold texts
  rw [List.take_succ_eq_append_getElem h, List.map_append, List.flatten_append]
  simp
theorem nums_all (xs : List Nat) : nums (xs.take xs.length) = nums xs := by rw [List.take_length]
theorem texts_all (ss : List ByteArray) : texts (ss.take ss.length) = texts ss := by rw [List.take_length]
theorem up_le (x : Nat) (h : x < 18446744073709551616) : (up x).length ≤ 9 := by
  have h1 := up_length x
  have h2 : nb x ≤ 8 := nb_le8 (by omega)
  omega
theorem txt_le (l : List UInt8) (h : l.length < 18446744073709551616) : (txt l).length ≤ l.length + 9 := by
  have h1 := up_le l.length h
  unfold txt
  rw [List.length_append]
  omega
theorem nums_le (xs : List Nat) (h : ∀ x ∈ xs, x < 18446744073709551616) : (nums xs).length ≤ 9 * xs.length := by
  induction xs with
  | nil => simp [nums]
  | cons x xs ih =>
    have h1 := up_le x (h x (by simp))
    have h2 := ih (fun y hy => h y (by simp [hy]))
    have e : nums (x :: xs) = up x ++ nums xs := rfl
    rw [e, List.length_append, List.length_cons]
    omega
theorem texts_le (B : Nat) (hB : B < 1000000) (ss : List ByteArray) (h : ∀ s ∈ ss, s.size ≤ B) : (texts ss).length ≤ (B + 9) * ss.length := by
  induction ss with
  | nil => simp [texts]
  | cons s ss ih =>
    have h0 := h s (by simp)
    have hl : s.data.toList.length = s.size := by simp
    have h1 := txt_le s.data.toList (by omega)
    have h2 := ih (fun y hy => h y (by simp [hy]))
    have e : texts (s :: ss) = txt s.data.toList ++ texts ss := rfl
    rw [e, List.length_append, List.length_cons, Nat.mul_succ]
    omega
theorem lit_size (l : List UInt8) : (⟨l.toArray⟩ : ByteArray).size = l.length := by show l.toArray.size = _; rw [List.size_toArray]
end Go.Proofs.Ytdbhplahmnlgnaa.Wr
