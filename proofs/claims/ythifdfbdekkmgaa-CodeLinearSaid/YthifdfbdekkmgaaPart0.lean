/- Plain facts: the field of 256 elements, as the document has it: bit by bit. Nothing here names the program. -/
namespace Go.Proofs.Ythifdfbdekkmgaa.Gf

/-- The product before the divisor counts: the first k bits of b. -/
def raw (a b : Nat) : Nat → Nat
  | 0 => 0
  | k + 1 => raw a b k ^^^ (if b.testBit k = true then a * 2 ^ k else 0)
def red1 (x i : Nat) : Nat := if x.testBit i = true then x ^^^ 285 * 2 ^ (i - 8) else x
/-- What is left when the k highest of the powers from 15 down have been divided out. -/
def red (x : Nat) : Nat → Nat
  | 0 => x
  | k + 1 => red1 (red x k) (15 - k)
def mul (a b : Nat) : Nat := red (raw a b 8) 8

theorem xor4 (a b c d : Nat) : (a ^^^ b) ^^^ (c ^^^ d) = (a ^^^ c) ^^^ (b ^^^ d) := by
  rw [Nat.xor_assoc, ← Nat.xor_assoc b, Nat.xor_comm b c, Nat.xor_assoc, ← Nat.xor_assoc]
theorem mul_pow_xor (a b k : Nat) : (a ^^^ b) * 2 ^ k = a * 2 ^ k ^^^ b * 2 ^ k := by
  rw [← Nat.shiftLeft_eq, ← Nat.shiftLeft_eq, ← Nat.shiftLeft_eq, Nat.shiftLeft_xor_distrib]
theorem raw_left (a a' b k : Nat) : raw (a ^^^ a') b k = raw a b k ^^^ raw a' b k := by
  induction k with
  | zero => simp [raw]
  | succ k ih =>
    rw [raw, raw, raw, ih, xor4]
    congr 1
    by_cases h : b.testBit k = true
    · rw [if_pos h, if_pos h, if_pos h, mul_pow_xor]
    · rw [if_neg h, if_neg h, if_neg h]; rfl
theorem raw_right (a b b' k : Nat) : raw a (b ^^^ b') k = raw a b k ^^^ raw a b' k := by
  induction k with
  | zero => simp [raw]
  | succ k ih =>
    rw [raw, raw, raw, ih, xor4]
    congr 1
    rw [Nat.testBit_xor]
    cases b.testBit k <;> cases b'.testBit k <;> simp
theorem red1_xor (x y i : Nat) : red1 (x ^^^ y) i = red1 x i ^^^ red1 y i := by
  unfold red1
  rw [Nat.testBit_xor]
  generalize 285 * 2 ^ (i - 8) = d
  cases x.testBit i <;> cases y.testBit i
  · rfl
  · simp [Nat.xor_assoc]
  · simp only [Bool.xor_false, if_true, Bool.false_eq_true, if_false]
    rw [Nat.xor_assoc, Nat.xor_assoc, Nat.xor_comm y]
  · simp only [Bool.xor_self, Bool.false_eq_true, if_false, if_true]
    rw [xor4, Nat.xor_self, Nat.xor_zero]
theorem red_xor (x y k : Nat) : red (x ^^^ y) k = red x k ^^^ red y k := by
  induction k with
  | zero => rfl
  | succ k ih => rw [red, red, red, ih, red1_xor]
theorem mul_left (a a' b : Nat) : mul (a ^^^ a') b = mul a b ^^^ mul a' b := by unfold mul; rw [raw_left, red_xor]
theorem mul_right (a b b' : Nat) : mul a (b ^^^ b') = mul a b ^^^ mul a b' := by unfold mul; rw [raw_right, red_xor]
theorem zero_mul (b : Nat) : mul 0 b = 0 := by
  have h := mul_left 0 0 b
  rw [Nat.xor_self, Nat.xor_self] at h
  exact h
theorem mul_zero (a : Nat) : mul a 0 = 0 := by
  have h := mul_right a 0 0
  rw [Nat.xor_self, Nat.xor_self] at h
  exact h

theorem bool_lt (b : Bool) : b.toNat < 2 := by cases b <;> decide
theorem mod_succ (b k : Nat) : b % 2 ^ (k + 1) = b % 2 ^ k ^^^ 2 ^ k * (b.testBit k).toNat := by
  apply Nat.eq_of_testBit_eq
  intro i
  rw [Nat.testBit_xor, Nat.testBit_mod_two_pow, Nat.testBit_mod_two_pow, Nat.testBit_two_pow_mul]
  rcases Nat.lt_trichotomy i k with h | h | h
  · simp [h, Nat.lt_succ_of_lt h, Nat.not_le.2 h]
  · subst h
    simp only [Nat.lt_succ_self, Nat.lt_irrefl, decide_true, decide_false, Bool.true_and, Bool.false_and, Nat.le_refl, Nat.sub_self, Bool.false_xor]
    cases b.testBit i <;> decide
  · have h1 : ¬ i < k + 1 := by omega
    have h2 : ¬ i < k := by omega
    have h3 : k ≤ i := by omega
    have h4 : (b.testBit k).toNat.testBit (i - k) = false := Nat.testBit_lt_two_pow (Nat.lt_of_lt_of_le (bool_lt _) (by
      have := Nat.pow_le_pow_right (show 0 < 2 by omega) (show 1 ≤ i - k by omega)
      omega))
    simp [h1, h2, h3, h4]
/-- What holds of 0 and the powers of 2, and goes over sums, holds of all bytes. -/
theorem lin_ind {P : Nat → Prop} (h0 : P 0) (h1 : ∀ i : Fin 8, P (2 ^ i.val)) (h2 : ∀ a b, P a → P b → P (a ^^^ b)) (a : Nat) (ha : a < 256) : P a := by
  have h : ∀ k, k ≤ 8 → P (a % 2 ^ k) := by
    intro k
    induction k with
    | zero => intro _; rw [Nat.pow_zero, Nat.mod_one]; exact h0
    | succ k ih =>
      intro hk
      rw [mod_succ]
      refine h2 _ _ (ih (by omega)) ?_
      cases a.testBit k
      · simpa using h0
      · simpa using h1 ⟨k, by omega⟩
  have := h 8 (Nat.le_refl _)
  rwa [Nat.mod_eq_of_lt (show a < 2 ^ 8 from ha)] at this

theorem mul_comm {a b : Nat} (ha : a < 256) (hb : b < 256) : mul a b = mul b a := by
  refine lin_ind (P := fun a => ∀ b, b < 256 → mul a b = mul b a) ?_ ?_ ?_ a ha b hb
  · intro b _; rw [zero_mul, mul_zero]
  · intro i b hb
    refine lin_ind (P := fun b => mul (2 ^ i.val) b = mul b (2 ^ i.val)) ?_ ?_ ?_ b hb
    · rw [zero_mul, mul_zero]
    · intro j
      have hd : ∀ i j : Fin 8, mul (2 ^ i.val) (2 ^ j.val) = mul (2 ^ j.val) (2 ^ i.val) := by decide +kernel
      exact hd i j
    · intro x y hx hy; rw [mul_right, mul_left, hx, hy]
  · intro x y hx hy b hb; rw [mul_left, mul_right, hx b hb, hy b hb]
theorem mul_lt {a b : Nat} (ha : a < 256) (hb : b < 256) : mul a b < 256 := by
  refine lin_ind (P := fun a => ∀ b, b < 256 → mul a b < 256) ?_ ?_ ?_ a ha b hb
  · intro b _; rw [zero_mul]; omega
  · intro i b hb
    refine lin_ind (P := fun b => mul (2 ^ i.val) b < 256) ?_ ?_ ?_ b hb
    · rw [mul_zero]; omega
    · intro j
      have hd : ∀ i j : Fin 8, mul (2 ^ i.val) (2 ^ j.val) < 256 := by decide +kernel
      exact hd i j
    · intro x y hx hy; rw [mul_right]; exact Nat.xor_lt_two_pow (n := 8) hx hy
  · intro x y hx hy b hb; rw [mul_left]; exact Nat.xor_lt_two_pow (n := 8) (hx b hb) (hy b hb)
theorem mul_assoc {a b c : Nat} (ha : a < 256) (hb : b < 256) (hc : c < 256) : mul a (mul b c) = mul (mul a b) c := by
  refine lin_ind (P := fun a => ∀ b c, b < 256 → c < 256 → mul a (mul b c) = mul (mul a b) c) ?_ ?_ ?_ a ha b c hb hc
  · intro b c _ _; rw [zero_mul, zero_mul, zero_mul]
  · intro i b c hb hc
    refine lin_ind (P := fun b => ∀ c, c < 256 → mul (2 ^ i.val) (mul b c) = mul (mul (2 ^ i.val) b) c) ?_ ?_ ?_ b hb c hc
    · intro c _; rw [zero_mul, mul_zero, zero_mul]
    · intro j c hc
      refine lin_ind (P := fun c => mul (2 ^ i.val) (mul (2 ^ j.val) c) = mul (mul (2 ^ i.val) (2 ^ j.val)) c) ?_ ?_ ?_ c hc
      · rw [mul_zero, mul_zero, mul_zero]
      · intro k
        have hd : ∀ i j k : Fin 8, mul (2 ^ i.val) (mul (2 ^ j.val) (2 ^ k.val)) = mul (mul (2 ^ i.val) (2 ^ j.val)) (2 ^ k.val) := by decide +kernel
        exact hd i j k
      · intro x y hx hy; rw [mul_right, mul_right, mul_right, hx, hy]
    · intro x y hx hy c hc; rw [mul_left, mul_right, mul_right, mul_left, hx c hc, hy c hc]
  · intro x y hx hy b c hb hc; rw [mul_left, mul_left, mul_left, hx b c hb hc, hy b c hb hc]
theorem mul_one {a : Nat} (ha : a < 256) : mul a 1 = a := by
  refine lin_ind (P := fun a => mul a 1 = a) (zero_mul 1) ?_ ?_ a ha
  · intro i
    have hd : ∀ i : Fin 8, mul (2 ^ i.val) 1 = 2 ^ i.val := by decide +kernel
    exact hd i
  · intro x y hx hy; rw [mul_left, hx, hy]
theorem one_mul {a : Nat} (ha : a < 256) : mul 1 a = a := by rw [mul_comm (by omega) ha, mul_one ha]

/-- Powers. -/
def pow (a : Nat) : Nat → Nat
  | 0 => 1
  | n + 1 => mul (pow a n) a
theorem pow_lt {a : Nat} (ha : a < 256) (n : Nat) : pow a n < 256 := by
  induction n with
  | zero => show 1 < 256; decide
  | succ n ih => exact mul_lt ih ha
theorem pow_add {a : Nat} (ha : a < 256) (m n : Nat) : pow a (m + n) = mul (pow a m) (pow a n) := by
  induction n with
  | zero => rw [Nat.add_zero, pow, mul_one (pow_lt ha m)]
  | succ n ih => rw [← Nat.add_assoc, pow, ih, pow, mul_assoc (pow_lt ha m) (pow_lt ha n) ha]
theorem pow_mul_base {a b : Nat} (ha : a < 256) (hb : b < 256) (n : Nat) : pow (mul a b) n = mul (pow a n) (pow b n) := by
  induction n with
  | zero => show (1 : Nat) = mul 1 1; decide +kernel
  | succ n ih =>
    have h1 := pow_lt ha n
    have h2 := pow_lt hb n
    rw [pow, ih, pow, pow, ← mul_assoc h1 h2 (mul_lt ha hb), mul_assoc h2 ha hb, mul_comm h2 ha, ← mul_assoc ha h2 hb, mul_assoc h1 ha (mul_lt h2 hb)]
theorem pow_pow {a : Nat} (ha : a < 256) (m n : Nat) : pow (pow a m) n = pow a (m * n) := by
  induction n with
  | zero => rfl
  | succ n ih => rw [pow, ih, Nat.mul_succ, pow_add ha]
theorem pow_zero_base (n : Nat) (h : 0 < n) : pow 0 n = 0 := by
  cases n with
  | zero => omega
  | succ n => rw [pow, mul_zero]
/-- Powers by squaring: a to the 254, and to the 255. -/
def inv (a : Nat) : Nat :=
  let a2 := mul a a; let a3 := mul a2 a; let a6 := mul a3 a3; let a7 := mul a6 a; let a14 := mul a7 a7; let a15 := mul a14 a
  let a30 := mul a15 a15; let a31 := mul a30 a; let a62 := mul a31 a31; let a63 := mul a62 a; let a126 := mul a63 a63; let a127 := mul a126 a
  mul a127 a127
theorem inv_fin : ∀ a : Fin 256, a.val ≠ 0 → mul a.val (inv a.val) = 1 := by decide +kernel
theorem mul_inv {a : Nat} (ha : a < 256) (h : a ≠ 0) : mul a (inv a) = 1 := inv_fin ⟨a, ha⟩ h
theorem inv_lt {a : Nat} (ha : a < 256) : inv a < 256 := by
  unfold inv
  repeat (first | exact ha | apply mul_lt)
theorem mul_cancel {a b c : Nat} (ha : a < 256) (hb : b < 256) (hc : c < 256) (h : a ≠ 0) (e : mul a b = mul a c) : b = c := by
  have h1 := congrArg (mul (inv a)) e
  have hi := inv_lt ha
  rw [mul_assoc hi ha hb, mul_assoc hi ha hc, mul_comm hi ha, mul_inv ha h, one_mul hb, one_mul hc] at h1
  exact h1
theorem no_zero {a b : Nat} (ha : a < 256) (hb : b < 256) (e : mul a b = 0) : a = 0 ∨ b = 0 := by
  by_cases h : a = 0
  · exact Or.inl h
  · exact Or.inr (mul_cancel ha hb (by omega) h (by rw [e, mul_zero]))
theorem inv_ne {a : Nat} (ha : a < 256) (h : a ≠ 0) : inv a ≠ 0 := by
  intro e
  have := mul_inv ha h
  rw [e, mul_zero] at this
  omega
/-- The inverse is the one. -/
theorem inv_only {a b : Nat} (ha : a < 256) (hb : b < 256) (h : a ≠ 0) (e : mul a b = 1) : b = inv a :=
  mul_cancel ha hb (inv_lt ha) h (by rw [e, mul_inv ha h])
theorem inv_pow {a : Nat} (ha : a < 256) : inv a = pow a 254 := by
  have h1 : pow a 1 = a := one_mul ha
  have e : ∀ m n, mul (pow a m) (pow a n) = pow a (m + n) := fun m n => (pow_add ha m n).symm
  have e1 : ∀ m, mul (pow a m) a = pow a (m + 1) := fun m => rfl
  unfold inv
  simp only
  have e2 : mul a a = pow a 2 := by rw [← h1, e, h1]
  rw [e2]
  simp only [e, e1]
theorem pow_255 {a : Nat} (ha : a < 256) (h : a ≠ 0) : pow a 255 = 1 := by
  rw [show (255 : Nat) = 254 + 1 from rfl, pow, ← inv_pow ha, mul_comm (inv_lt ha) ha, mul_inv ha h]
end Go.Proofs.Ythifdfbdekkmgaa.Gf
