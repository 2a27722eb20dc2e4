/- Plain facts: division in a row of bits comes to the same register. -/
import Derived.Test.YteonanmgghlefaaSumMath
namespace Go.Proofs.Yteonanmgghlefaa.Sm

/-- Bit j of a text (false behind its end). -/
def mbit (l : List UInt8) (j : Nat) : Bool := if j < 8 * l.length then (l[j / 8]!).toNat.testBit (j % 8) else false
/-- The register behind i bits. -/
def st (l : List UInt8) : Nat → Nat
  | 0 => 4294967295
  | i + 1 => step (st l i ^^^ (mbit l i).toNat)
theorem bool_lt (b : Bool) : b.toNat < 2 := by cases b <;> decide
theorem st_lt (l : List UInt8) (i : Nat) : st l i < 2 ^ 32 := by
  induction i with
  | zero => show (4294967295 : Nat) < 2 ^ 32; decide
  | succ i ih => exact step_lt _ (Nat.xor_lt_two_pow ih (by have := bool_lt (mbit l i); omega))

theorem step_steps (k c : Nat) : step (steps k c) = steps (k + 1) c := by
  induction k generalizing c with
  | zero => rfl
  | succ k ih => rw [steps, ih]; rfl
theorem steps_pow (k y : Nat) : steps k (2 ^ k * y) = y := by
  induction k with
  | zero => simp [steps]
  | succ k ih => rw [steps, Nat.pow_succ', Nat.mul_assoc, step_even, ih]
theorem mod_succ (b k : Nat) : b % 2 ^ (k + 1) = b % 2 ^ k ^^^ 2 ^ k * (b.testBit k).toNat := by
  apply Nat.eq_of_testBit_eq
  intro i
  rw [Nat.testBit_xor, Nat.testBit_mod_two_pow, Nat.testBit_mod_two_pow, Nat.testBit_two_pow_mul]
  rcases Nat.lt_trichotomy i k with h | h | h
  · simp [h, Nat.lt_succ_of_lt h, Nat.not_le.2 h]
  · subst h
    simp only [Nat.lt_succ_self, Nat.lt_irrefl, decide_true, decide_false, Bool.true_and, Bool.false_and, Nat.le_refl, Nat.sub_self, Bool.false_xor]
    cases b.testBit i <;> decide
  · have h1 : ¬ i < k + 1 := by omega
    have h2 : ¬ i < k := by omega
    have h3 : k ≤ i := by omega
    have h4 : (b.testBit k).toNat.testBit (i - k) = false := Nat.testBit_lt_two_pow (Nat.lt_of_lt_of_le (bool_lt _) (by
      have := Nat.pow_le_pow_right (show 0 < 2 by omega) (show 1 ≤ i - k by omega)
      omega))
    simp [h1, h2, h3, h4]
theorem mbit_old (l : List UInt8) (b : UInt8) (j : Nat) (h : j < 8 * l.length) : mbit (l ++ [b]) j = mbit l j := by
  unfold mbit
  rw [if_pos h, if_pos (by rw [List.length_append]; simp; omega)]
  have h2 : j / 8 < l.length := by omega
  rw [getElem!_pos (l ++ [b]) (j / 8) (by rw [List.length_append]; simp; omega), getElem!_pos l (j / 8) h2, List.getElem_append_left h2]
theorem mbit_new (l : List UInt8) (b : UInt8) (k : Nat) (h : k < 8) : mbit (l ++ [b]) (8 * l.length + k) = b.toNat.testBit k := by
  unfold mbit
  rw [if_pos (by rw [List.length_append]; simp; omega)]
  have e1 : (8 * l.length + k) / 8 = l.length := by omega
  have e2 : (8 * l.length + k) % 8 = k := by omega
  rw [e1, e2, getElem!_pos (l ++ [b]) l.length (by simp)]
  simp
theorem st_old (l : List UInt8) (b : UInt8) (i : Nat) (h : i ≤ 8 * l.length) : st (l ++ [b]) i = st l i := by
  induction i with
  | zero => rfl
  | succ i ih => rw [st, st, ih (by omega), mbit_old l b i (by omega)]
theorem st_new (l : List UInt8) (b : UInt8) (k : Nat) (h : k ≤ 8) : st (l ++ [b]) (8 * l.length + k) = steps k (st l (8 * l.length) ^^^ b.toNat % 2 ^ k) := by
  induction k with
  | zero => rw [Nat.add_zero, st_old l b _ (Nat.le_refl _), Nat.pow_zero, Nat.mod_one, Nat.xor_zero]; rfl
  | succ k ih =>
    rw [← Nat.add_assoc, st, ih (by omega), mbit_new l b k (by omega), mod_succ, ← Nat.xor_assoc, ← step_steps, steps_lin k _ (2 ^ k * _), steps_pow]
theorem snoc_ind {P : List UInt8 → Prop} (h0 : P []) (h1 : ∀ l b, P l → P (l ++ [b])) (l : List UInt8) : P l := by
  have h : ∀ r : List UInt8, P r.reverse := by
    intro r
    induction r with
    | nil => exact h0
    | cons b r ih => rw [List.reverse_cons]; exact h1 _ _ ih
  have := h l.reverse
  rwa [List.reverse_reverse] at this
theorem st_reg (l : List UInt8) : st l (8 * l.length) = reg l := by
  induction l using snoc_ind with
  | h0 => rfl
  | h1 l b ih =>
    have e : 8 * (l ++ [b]).length = 8 * l.length + 8 := by rw [List.length_append]; simp; omega
    rw [e, st_new l b 8 (Nat.le_refl _), ih]
    have er : reg (l ++ [b]) = byte (reg l) b := by unfold reg; rw [List.foldl_append, List.foldl_cons, List.foldl_nil]
    rw [er]
    unfold byte
    rw [Nat.mod_eq_of_lt (show b.toNat < 2 ^ 8 from b.toNat_lt)]

/-- The divisor's powers, but 32. -/
def pw : List Nat := [26, 23, 22, 16, 12, 11, 10, 8, 7, 5, 4, 2, 1, 0]
/-- What the first k powers turn, at place i: place j. -/
def fl (i k j : Nat) : Bool := (pw.take k).foldl (fun a p => a ^^ (j == i + 32 - p)) false
theorem fl_zero (i j : Nat) : fl i 0 j = false := rfl
theorem fl_step (i k j : Nat) (h : k < 14) : fl i (k + 1) j = (fl i k j ^^ (j == i + 32 - pw[k]!)) := by
  unfold fl
  rw [List.take_succ_eq_append_getElem (show k < pw.length from h), List.foldl_append, getElem!_pos pw k h]
  rfl
theorem shift_eq (i d p : Nat) (h : p ≤ 31) : ((i + 1 + d == i + 32 - p) : Bool) = (d == 31 - p) := by
  rw [Bool.eq_iff_iff, beq_iff_eq, beq_iff_eq]
  omega
theorem fl_all (i d : Nat) : fl i 14 (i + 1 + d) = (decide (d < 32) && poly.testBit d) := by
  have e : fl i 14 (i + 1 + d) = pw.foldl (fun a p => a ^^ (d == 31 - p)) false := by
    unfold fl pw
    simp only [List.take_succ_cons, List.take_nil, List.foldl_cons, List.foldl_nil, shift_eq i d _ (show 26 ≤ 31 by omega), shift_eq i d _ (show 23 ≤ 31 by omega), shift_eq i d _ (show 22 ≤ 31 by omega), shift_eq i d _ (show 16 ≤ 31 by omega), shift_eq i d _ (show 12 ≤ 31 by omega), shift_eq i d _ (show 11 ≤ 31 by omega), shift_eq i d _ (show 10 ≤ 31 by omega), shift_eq i d _ (show 8 ≤ 31 by omega), shift_eq i d _ (show 7 ≤ 31 by omega), shift_eq i d _ (show 5 ≤ 31 by omega), shift_eq i d _ (show 4 ≤ 31 by omega), shift_eq i d _ (show 2 ≤ 31 by omega), shift_eq i d _ (show 1 ≤ 31 by omega), shift_eq i d _ (show 0 ≤ 31 by omega)]
  rw [e]
  by_cases h : d < 32
  · have hd : ∀ d : Fin 32, pw.foldl (fun a p => a ^^ (d.val == 31 - p)) false = (decide (d.val < 32) && poly.testBit d.val) := by decide +kernel
    exact hd ⟨d, h⟩
  · have hb : ∀ p, ((d == 31 - p) : Bool) = false := fun p => by rw [beq_eq_false_iff_ne]; omega
    simp [pw, hb, h]
/-- The row of bits when i of them have been divided out: place j. -/
def win (l : List UInt8) (i j : Nat) : Bool := if j < i + 32 then (st l i).testBit (j - i) ^^ mbit l j else mbit l j
theorem bit0 (a : Nat) : a.testBit 0 = decide (a % 2 = 1) := by simp [Nat.testBit_zero]
theorem next (l : List UInt8) (i d : Nat) : (st l (i + 1)).testBit d = ((st l i).testBit (d + 1) ^^ (win l i i && poly.testBit d)) := by
  have ew : win l i i = decide ((st l i ^^^ (mbit l i).toNat) % 2 = 1) := by
    unfold win
    rw [if_pos (by omega), Nat.sub_self, ← bit0, Nat.testBit_xor]
    cases mbit l i <;> rfl
  have eh : (st l i ^^^ (mbit l i).toNat) / 2 = st l i / 2 := by
    rw [xor_half]
    have := bool_lt (mbit l i)
    rw [Nat.div_eq_of_lt this, Nat.xor_zero]
  rw [st, ew]
  unfold step
  rw [eh]
  by_cases h : (st l i ^^^ (mbit l i).toNat) % 2 = 1
  · rw [if_pos h, Nat.testBit_xor, Nat.testBit_div_two]
    simp [h]
  · rw [if_neg h, Nat.testBit_div_two]
    simp [h]
theorem win_on (l : List UInt8) (i j : Nat) (h : i + 1 ≤ j) : win l (i + 1) j = (win l i j ^^ (win l i i && fl i 14 j)) := by
  obtain ⟨d, rfl⟩ := Nat.exists_eq_add_of_le h
  rw [fl_all]
  have e1 : i + 1 + d - (i + 1) = d := by omega
  have e2 : i + 1 + d - i = d + 1 := by omega
  conv => lhs; unfold win
  conv => rhs; arg 1; unfold win
  rw [e1, e2, next]
  rcases Nat.lt_trichotomy d 31 with h1 | h1 | h1
  · rw [if_pos (by omega), if_pos (by omega)]
    have : d < 32 := by omega
    simp only [this, decide_true, Bool.true_and]
    cases (st l i).testBit (d + 1) <;> cases mbit l (i + 1 + d) <;> cases (win l i i && poly.testBit d) <;> rfl
  · subst h1
    rw [if_pos (by omega), if_neg (by omega), Nat.testBit_lt_two_pow (st_lt l i)]
    cases mbit l (i + 1 + 31) <;> cases (win l i i) <;> rfl
  · have : ¬ d < 32 := by omega
    rw [if_neg (by omega), if_neg (by omega)]
    simp [this]
theorem win_start (l : List UInt8) (j : Nat) : win l 0 j = if j < 32 then !mbit l j else mbit l j := by
  unfold win
  rw [Nat.zero_add, Nat.sub_zero]
  by_cases h : j < 32
  · rw [if_pos h, if_pos h]
    have e : (st l 0).testBit j = true := by
      have hd : ∀ d : Fin 32, (4294967295 : Nat).testBit d.val = true := by decide +kernel
      exact hd ⟨j, h⟩
    rw [e]
    cases mbit l j <;> rfl
  · rw [if_neg h, if_neg h]
theorem win_end (l : List UInt8) (j : Nat) (h : j < 32) : (!win l (8 * l.length) (8 * l.length + j)) = (crc l).testBit j := by
  have em : mbit l (8 * l.length + j) = false := by unfold mbit; rw [if_neg (by omega)]
  unfold win crc
  rw [if_pos (by omega), em, st_reg, Nat.testBit_xor]
  have e : (4294967295 : Nat).testBit j = true := by
    have hd : ∀ d : Fin 32, (4294967295 : Nat).testBit d.val = true := by decide +kernel
    exact hd ⟨j, h⟩
  have ej : 8 * l.length + j - 8 * l.length = j := by omega
  rw [e, ej]
  cases (reg l).testBit j <;> rfl
/-- A number made of its bits, from the highest down. -/
theorem made (v i : Nat) : v / 2 ^ i = 2 * (v / 2 ^ (i + 1)) + (v.testBit i).toNat := by
  rw [Nat.pow_succ, ← Nat.div_div_eq_div_mul, Nat.testBit_eq_decide_div_mod_eq]
  rcases Nat.mod_two_eq_zero_or_one (v / 2 ^ i) with h | h
  · rw [h]; simp; omega
  · rw [h]; simp; omega
end Go.Proofs.Yteonanmgghlefaa.Sm
