/- Plain facts on the sum: one bit at a time, a byte at a time, by a table, and by division in a row of bits. Nothing here names the program. -/
namespace Go.Proofs.Yteonanmgghlefaa.Sm

def poly : Nat := 3988292384
/-- One bit goes out. -/
def step (c : Nat) : Nat := if c % 2 = 1 then c / 2 ^^^ poly else c / 2
def steps : Nat → Nat → Nat
  | 0, c => c
  | k + 1, c => steps k (step c)
/-- One byte goes in, and out. -/
def byte (c : Nat) (b : UInt8) : Nat := steps 8 (c ^^^ b.toNat)
def reg (l : List UInt8) : Nat := l.foldl byte 4294967295
/-- The sum of a text. -/
def crc (l : List UInt8) : Nat := 4294967295 ^^^ reg l

theorem xor_mod2 (a b : Nat) : (a ^^^ b) % 2 = (a + b) % 2 := by
  have h := Nat.xor_mod_two_pow (a := a) (b := b) (n := 1)
  rw [show (2 : Nat) ^ 1 = 2 from rfl] at h
  rw [h]
  rcases Nat.mod_two_eq_zero_or_one a with ha | ha <;> rcases Nat.mod_two_eq_zero_or_one b with hb | hb <;> rw [ha, hb] <;> simp <;> omega
theorem xor_half (a b : Nat) : (a ^^^ b) / 2 = a / 2 ^^^ b / 2 := Nat.xor_div_two
theorem step_lin (a b : Nat) : step (a ^^^ b) = step a ^^^ step b := by
  unfold step
  rw [xor_mod2, xor_half]
  rcases Nat.mod_two_eq_zero_or_one a with ha | ha <;> rcases Nat.mod_two_eq_zero_or_one b with hb | hb
  · rw [if_neg (by omega), if_neg (by omega), if_neg (by omega)]
  · rw [if_pos (by omega), if_neg (by omega), if_pos (by omega), Nat.xor_assoc]
  · rw [if_pos (by omega), if_pos (by omega), if_neg (by omega), Nat.xor_assoc, Nat.xor_assoc, Nat.xor_comm poly]
  · rw [if_neg (by omega), if_pos (by omega), if_pos (by omega)]
    rw [Nat.xor_assoc, ← Nat.xor_assoc poly, Nat.xor_comm poly, Nat.xor_assoc, Nat.xor_self, Nat.xor_zero]
theorem steps_lin (k a b : Nat) : steps k (a ^^^ b) = steps k a ^^^ steps k b := by
  induction k generalizing a b with
  | zero => rfl
  | succ k ih => rw [steps, step_lin, ih]; rfl
theorem step_even (y : Nat) : step (2 * y) = y := by
  unfold step
  rw [if_neg (by omega)]
  omega
theorem step_lt (c : Nat) (h : c < 2 ^ 32) : step c < 2 ^ 32 := by
  unfold step
  split
  · exact Nat.xor_lt_two_pow (by omega) (by decide)
  · omega
theorem steps_lt (k c : Nat) (h : c < 2 ^ 32) : steps k c < 2 ^ 32 := by
  induction k generalizing c with
  | zero => exact h
  | succ k ih => exact ih _ (step_lt c h)
theorem byte_lt (c : Nat) (b : UInt8) (h : c < 2 ^ 32) : byte c b < 2 ^ 32 :=
  steps_lt _ _ (Nat.xor_lt_two_pow h (by have := b.toNat_lt; omega))
theorem fold_lt (l : List UInt8) (c : Nat) (h : c < 2 ^ 32) : l.foldl byte c < 2 ^ 32 := by
  induction l generalizing c with
  | nil => exact h
  | cons b l ih => exact ih _ (byte_lt c b h)
theorem reg_lt (l : List UInt8) : reg l < 2 ^ 32 := fold_lt l _ (by decide)
theorem crc_lt (l : List UInt8) : crc l < 2 ^ 32 := Nat.xor_lt_two_pow (by decide) (reg_lt l)
/-- A number is its low byte, and the rest. -/
theorem low_high (x : Nat) : x = (x % 256) ^^^ (256 * (x / 256)) := by
  have h := Nat.two_pow_add_eq_or_of_lt (i := 8) (b := x % 256) (by omega) (x / 256)
  apply Nat.eq_of_testBit_eq
  intro i
  rw [Nat.testBit_xor]
  have e : 256 * (x / 256) = 2 ^ 8 * (x / 2 ^ 8) := rfl
  have e2 : x % 256 = x % 2 ^ 8 := rfl
  rw [e, e2, Nat.testBit_mod_two_pow, Nat.testBit_two_pow_mul, Nat.testBit_div_two_pow]
  by_cases hi : i < 8
  · simp [hi, Nat.not_le.2 hi]
  · simp [hi, Nat.not_lt.1 hi, Nat.sub_add_cancel (Nat.not_lt.1 hi)]
/-- A byte by the table: the low byte's own, and the rest a byte lower. -/
theorem steps8 (x : Nat) : steps 8 x = steps 8 (x % 256) ^^^ (x / 256) := by
  conv => lhs; rw [low_high x, steps_lin]
  congr 1
  have e : 256 * (x / 256) = 2 * (2 * (2 * (2 * (2 * (2 * (2 * (2 * (x / 256)))))))) := by omega
  rw [e]
  simp only [steps, step_even]
theorem byte_table (c : Nat) (b : UInt8) : byte c b = steps 8 ((c ^^^ b.toNat) % 256) ^^^ (c / 256) := by
  unfold byte
  rw [steps8]
  congr 1
  have hb := b.toNat_lt
  apply Nat.eq_of_testBit_eq
  intro i
  show ((c ^^^ b.toNat) / 2 ^ 8).testBit i = (c / 2 ^ 8).testBit i
  rw [Nat.testBit_div_two_pow, Nat.testBit_div_two_pow, Nat.testBit_xor, Nat.testBit_lt_two_pow (x := b.toNat) (Nat.lt_of_lt_of_le hb (Nat.pow_le_pow_right (by omega) (by omega)))]
  simp
end Go.Proofs.Yteonanmgghlefaa.Sm
