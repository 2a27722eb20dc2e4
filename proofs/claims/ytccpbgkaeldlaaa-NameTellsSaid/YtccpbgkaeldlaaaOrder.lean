/- Plain facts: where the bytes of two numbers first differ. -/
import Derived.Test.YtccpbgkaeldlaaaMath
import GoSem.Op.String
namespace Go.Proofs.Ytccpbgkaeldlaaa.Nm
open Go

/-- Alike up to a place, and less there. -/
def Diff (a b : List UInt8) : Prop := ∃ p u v a' b', a = p ++ u :: a' ∧ b = p ++ v :: b' ∧ u < v
/-- Unlike at some place that both have. -/
def Apart (a b : List UInt8) : Prop := ∃ (i : Nat) (u v : UInt8), a[i]? = some u ∧ b[i]? = some v ∧ u ≠ v
theorem Apart.symm {a b : List UInt8} (h : Apart a b) : Apart b a := by
  obtain ⟨i, u, v, h1, h2, h3⟩ := h
  exact ⟨i, v, u, h2, h1, fun e => h3 e.symm⟩
theorem Diff.apart {a b : List UInt8} (h : Diff a b) : Apart a b := by
  obtain ⟨p, u, v, a', b', rfl, rfl, h⟩ := h
  exact ⟨p.length, u, v, by simp, by simp, fun e => by subst e; exact absurd h (UInt8.lt_irrefl _)⟩
theorem Diff.cons {a b : List UInt8} (h : Diff a b) (c : UInt8) : Diff (c :: a) (c :: b) := by
  obtain ⟨p, u, v, a', b', rfl, rfl, h⟩ := h
  exact ⟨c :: p, u, v, a', b', rfl, rfl, h⟩
theorem lt_of_nat {u v : UInt8} (h : u.toNat < v.toNat) : u < v := UInt8.lt_iff_toNat_lt.2 h

theorem be_diff (n x y : Nat) (h : x % 256 ^ n < y % 256 ^ n) : Diff (be n x) (be n y) := by
  induction n with
  | zero => simp [Nat.mod_one] at h
  | succ n ih =>
    rw [Nat.pow_succ, Nat.mod_mul, Nat.mod_mul] at h
    rw [be, be]
    have hp : 0 < 256 ^ n := Nat.pow_pos (by omega)
    have hx := Nat.mod_lt x hp
    have hy := Nat.mod_lt y hp
    rcases Nat.lt_trichotomy (x / 256 ^ n % 256) (y / 256 ^ n % 256) with h1 | h1 | h1
    · exact ⟨[], _, _, _, _, rfl, rfl, lt_of_nat (by rw [UInt8.toNat_ofNat', UInt8.toNat_ofNat']; exact h1)⟩
    · have e : UInt8.ofNat (x / 256 ^ n) = UInt8.ofNat (y / 256 ^ n) := by
        apply UInt8.toNat_inj.1
        rw [UInt8.toNat_ofNat', UInt8.toNat_ofNat']
        exact h1
      rw [e]
      rw [h1] at h
      exact (ih (by omega)).cons _
    · have := Nat.mul_le_mul_left (256 ^ n) (show y / 256 ^ n % 256 + 1 ≤ x / 256 ^ n % 256 from h1)
      rw [Nat.mul_add, Nat.mul_one] at this
      omega
theorem up_diff (x y : Nat) (hy : y < 2 ^ 64) (h : x < y) : Diff (up x) (up y) := by
  have h8 := nb_le8 hy
  have hm := nb_mono (Nat.le_of_lt h)
  unfold up
  rcases Nat.lt_or_ge (nb x) (nb y) with h1 | h1
  · exact ⟨[], _, _, _, _, rfl, rfl, lt_of_nat (by rw [UInt8.toNat_ofNat', UInt8.toNat_ofNat']; omega)⟩
  · have e : nb x = nb y := by omega
    rw [e]
    exact (be_diff _ x y (by rw [Nat.mod_eq_of_lt (e ▸ lt_nb x), Nat.mod_eq_of_lt (lt_nb y)]; exact h)).cons _
theorem Diff.turned {a b : List UInt8} (h : Diff a b) : Diff (turn 255 b) (turn 255 a) := by
  obtain ⟨p, u, v, a', b', rfl, rfl, h⟩ := h
  refine ⟨turn 255 p, v ^^^ 255, u ^^^ 255, turn 255 b', turn 255 a', by simp [turn], by simp [turn], ?_⟩
  rw [xor255, xor255]
  apply lt_of_nat
  have hu := u.toNat_lt
  have hv := v.toNat_lt
  have h2 := UInt8.lt_iff_toNat_lt.1 h
  rw [UInt8.toNat_sub_of_le _ _ (by rw [UInt8.le_iff_toNat_le]; show _ ≤ 255; omega), UInt8.toNat_sub_of_le _ _ (by rw [UInt8.le_iff_toNat_le]; show _ ≤ 255; omega)]
  show 255 - v.toNat < 255 - u.toNat
  omega
theorem Diff.less {a b : List UInt8} (h : Diff a b) (s t : List UInt8) : Op.bytesLess (a ++ s) (b ++ t) = true ∧ Op.bytesLess (b ++ t) (a ++ s) = false := by
  obtain ⟨p, u, v, a', b', rfl, rfl, h⟩ := h
  induction p with
  | nil =>
    have h2 : ¬ v < u := by
      have := UInt8.lt_iff_toNat_lt.1 h
      intro h3
      have := UInt8.lt_iff_toNat_lt.1 h3
      omega
    have h3 : v ≠ u := fun e => by subst e; exact h2 h
    constructor
    · simp [Op.bytesLess, h]
    · simp [Op.bytesLess, h2, h3]
  | cons c p ih =>
    simp only [List.cons_append, List.append_assoc] at ih ⊢
    constructor
    · simp [Op.bytesLess, ih.1]
    · simp [Op.bytesLess, ih.2]
theorem Apart.take {a b : List UInt8} (h : Apart a b) : a.take b.length ≠ b := by
  obtain ⟨i, u, v, h1, h2, h3⟩ := h
  intro e
  have hi : i < b.length := (List.getElem?_eq_some_iff.1 h2).1
  rw [← e, List.getElem?_take_of_lt hi, h1] at h2
  exact h3 (Option.some.inj h2)
end Go.Proofs.Ytccpbgkaeldlaaa.Nm
