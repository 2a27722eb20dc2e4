/- What the document's own answers on elements come to. -/
import Derived.Test.YtlmoeaphikdjnaaFieldOne
namespace Go.Proofs.Ytlmoeaphikdjnaa
open Go.RowKit Gf
set_option linter.unusedVariables false
theorem raw_lt (a b : Nat) (ha : a < 256) (k : Nat) (hk : k ≤ 8) : raw a b k < 65536 := by
  induction k with
  | zero => show 0 < 65536; decide
  | succ k ih =>
    rw [raw]
    refine Nat.xor_lt_two_pow (n := 16) (ih (by omega)) ?_
    split
    · have : 2 ^ k ≤ 2 ^ 7 := Nat.pow_le_pow_right (by decide) (by omega)
      have := Nat.mul_le_mul (show a ≤ 255 by omega) this
      omega
    · decide
theorem red_lt (x : Nat) (hx : x < 65536) (k : Nat) (hk : k ≤ 8) : red x k < 65536 := by
  induction k with
  | zero => exact hx
  | succ k ih =>
    rw [red, red1]
    have h := ih (by omega)
    split
    · refine Nat.xor_lt_two_pow (n := 16) h ?_
      have : 2 ^ (15 - k - 8) ≤ 2 ^ 7 := Nat.pow_le_pow_right (by decide) (by omega)
      have := Nat.mul_le_mul (show 285 ≤ 285 by omega) this
      omega
    · exact h
theorem wrap_i64 (n : Nat) (h : n < 9223372036854775808) : IntKind.i64.wrap (n : Int) = (n : Int) := by
  simp [IntKind.wrap, IntKind.bits, IntKind.signed]; omega
theorem i64_xor_nat (a b : Nat) (ha : a < 65536) (hb : b < 65536) : bits .xor .i64 (a : Int) (b : Int) = ((a ^^^ b : Nat) : Int) := by
  have hx : a ^^^ b < 2 ^ 16 := Nat.xor_lt_two_pow (by omega) (by omega)
  show IntKind.i64.wrap ((BitVec.ofInt 64 (a : Int) ^^^ BitVec.ofInt 64 (b : Int)).toNat : Int) = _
  rw [BitVec.toNat_xor, ofInt_u64 a (by omega), ofInt_u64 b (by omega), wrap_i64 _ (by omega)]
theorem i64_and1 (a : Nat) (ha : a < 65536) : bits .and .i64 (a : Int) 1 = ((a % 2 : Nat) : Int) := by
  show IntKind.i64.wrap ((BitVec.ofInt 64 (a : Int) &&& BitVec.ofInt 64 ((1 : Nat) : Int)).toNat : Int) = _
  rw [BitVec.toNat_and, ofInt_u64 a (by omega), ofInt_u64 1 (by omega), wrap_i64 _ (by rw [Nat.and_one_is_mod]; omega), Nat.and_one_is_mod]
theorem u8_and1 (a : Nat) (ha : a < 256) : bits .and .u8 (a : Int) 1 = ((a % 2 : Nat) : Int) := by
  have h := u8_and_nat a 1 ha (by decide)
  rw [Nat.and_one_is_mod] at h
  exact h
theorem wrap64_nat (n : Nat) (h : n < 9223372036854775808) : wrap64 (n : Int) = (n : Int) := by
  unfold wrap64
  omega
theorem div_pow (a k : Nat) : (a : Int) / 2 ^ k = ((a / 2 ^ k : Nat) : Int) := by
  rw [Int.natCast_ediv, Int.natCast_pow]; rfl
theorem mul_pow (a k : Nat) : (a : Int) * 2 ^ k = ((a * 2 ^ k : Nat) : Int) := by
  rw [Int.natCast_mul, Int.natCast_pow]; rfl
theorem bit_yes (x k : Nat) (h : x.testBit k = true) : x / 2 ^ k % 2 = 1 := by
  rw [Nat.testBit_eq_decide_div_mod_eq] at h
  simpa using h
theorem bit_no (x k : Nat) (h : ¬ x.testBit k = true) : x / 2 ^ k % 2 = 0 := by
  rw [Nat.testBit_eq_decide_div_mod_eq] at h
  have := Nat.mod_two_eq_zero_or_one (x / 2 ^ k)
  simp at h
  omega
set_option maxRecDepth 100000 in
theorem refMul_any (a b : Nat) (ha : a < 256) (hb : b < 256) (w : World) :
    Calls Try.prog 26 #[.int .u8 (a : Nat), .int .u8 (b : Nat)] w fun e w' => e = .returned (.int .u8 (mul a b : Nat)) ∧ w' = w := by
  go_enter Try.func26, Try.ntmps26
  go_wp2_with fail
  go_loop [5, 6] (fun x i => ∃ k : Nat, k ≤ 8 ∧ i = .int .i64 k ∧ x = .int .i64 (raw a b k : Nat)) (fun _ i => 8 - (intOf i).toNat)
  case atStart => exact ⟨0, Nat.zero_le _, rfl, rfl⟩
  case round =>
    obtain ⟨k, hk, rfl, rfl⟩ := hrel
    by_cases hlt : k < 8
    · have hx := raw_lt a b ha k hk
      have hdv : b / 2 ^ k < 256 := Nat.lt_of_le_of_lt (Nat.div_le_self _ _) hb
      by_cases hbit : b.testBit k = true
      · have hand : bits .and .u8 ((b : Int) / 2 ^ k) 1 = 1 := by rw [div_pow, u8_and1 _ hdv, bit_yes b k hbit]; rfl
        have hp : a * 2 ^ k < 65536 := by
          have : 2 ^ k ≤ 2 ^ 7 := Nat.pow_le_pow_right (by decide) (by omega)
          have := Nat.mul_le_mul (show a ≤ 255 by omega) this
          omega
        have HX : Hid (bits BinOp.xor IntKind.i64 ((raw a b k : Nat) : Int) (wrap64 ((a : Int) * 2 ^ k)) = ((raw a b (k + 1) : Nat) : Int)) := by
          show _ = _
          rw [mul_pow, wrap64_nat _ (by omega), i64_xor_nat _ _ hx hp, raw, if_pos hbit]
        clear hp hdv hbit
        generalize raw a b k = x at *
        go_wp2_with fail
        rw [HX.out]
        exact ⟨⟨k + 1, by omega, by go_num, rfl⟩, by simp [intOf]; omega⟩
      · have hand : bits .and .u8 ((b : Int) / 2 ^ k) 1 = 0 := by rw [div_pow, u8_and1 _ hdv, bit_no b k hbit]; rfl
        have HX : Hid (raw a b k = raw a b (k + 1)) := by
          show _ = _
          rw [raw, if_neg hbit, Nat.xor_zero]
        clear hdv hbit
        generalize raw a b k = x at *
        go_wp2_with fail
        rw [HX.out]
        exact ⟨⟨k + 1, by omega, by go_num, rfl⟩, by simp [intOf]; omega⟩
    · obtain rfl : k = 8 := by omega
      have HM : Hid (red (raw a b 8) 8 = mul a b) := rfl
      have hx := raw_lt a b ha 8 hk
      generalize raw a b 8 = r at *
      clear hlt hk
      go_wp2_with fail
      go_loop [5, 7] (fun x i => ∃ k : Nat, k ≤ 8 ∧ i = .int .i64 ((15 - k : Nat) : Nat) ∧ x = .int .i64 (red r k : Nat)) (fun _ i => (intOf i).toNat)
      case atStart => exact ⟨0, Nat.zero_le _, rfl, rfl⟩
      case round =>
        obtain ⟨k, hk, rfl, rfl⟩ := hrel
        have hl := red_lt r hx k hk
        by_cases hlt : k < 8
        · obtain ⟨i, hi⟩ : ∃ i, 15 - k = i := ⟨_, rfl⟩
          have hi8 : 8 ≤ i := by omega
          have hi15 : i ≤ 15 := by omega
          have HI := Lib.hid hi
          have hdv : red r k / 2 ^ i < 65536 := Nat.lt_of_le_of_lt (Nat.div_le_self _ _) hl
          rw [hi]
          have hs : red r (k + 1) = red1 (red r k) i := by rw [red, hi]
          obtain ⟨j, hj⟩ : ∃ j, i - 8 = j := ⟨_, rfl⟩
          have hj2 : (i : Int) - 8 = (j : Nat) := by omega
          by_cases hbit : (red r k).testBit i = true
          · have hand : bits .and .i64 (((red r k : Nat) : Int) / 2 ^ i) 1 = 1 := by rw [div_pow, i64_and1 _ hdv, bit_yes _ i hbit]; rfl
            have hp : 285 * 2 ^ j < 65536 := by
              have : 2 ^ j ≤ 2 ^ 7 := Nat.pow_le_pow_right (by decide) (by omega)
              omega
            have HX : Hid (bits BinOp.xor IntKind.i64 ((red r k : Nat) : Int) (wrap64 (285 * 2 ^ j)) = ((red r (k + 1) : Nat) : Int)) := by
              show _ = _
              rw [show ((285 : Int) * 2 ^ j) = ((285 * 2 ^ j : Nat) : Int) from mul_pow 285 j, wrap64_nat _ (by omega), i64_xor_nat _ _ hl hp, hs, red1, if_pos hbit, hj]
            clear hp hdv hbit hs hj hi
            generalize red r k = x at *
            go_wp2_with fail
            rw [HX.out]
            have := HI.out
            exact ⟨⟨k + 1, by omega, by go_num, rfl⟩, by simp [intOf]; omega⟩
          · have hand : bits .and .i64 (((red r k : Nat) : Int) / 2 ^ i) 1 = 0 := by rw [div_pow, i64_and1 _ hdv, bit_no _ i hbit]; rfl
            have HX : Hid (red r k = red r (k + 1)) := by
              show _ = _
              rw [hs, red1, if_neg hbit]
            clear hdv hbit hs hj hi
            generalize red r k = x at *
            go_wp2_with fail
            rw [HX.out]
            have := HI.out
            exact ⟨⟨k + 1, by omega, by go_num, rfl⟩, by simp [intOf]; omega⟩
        · obtain rfl : k = 8 := by omega
          have hm := mul_lt ha hb
          rw [← HM.out] at hm
          generalize red r 8 = m at *
          go_wp2_with fail
          go_ret
          exact ⟨by rw [← HM.out]; rfl, rfl⟩
theorem quo_one (a : Nat) (ha : a < 256) (h0 : a ≠ 0) : quo 1 a = inv a := by unfold quo; rw [if_neg h0, one_mul (inv_lt ha)]
set_option maxRecDepth 100000 in
theorem refInv_any (a : Nat) (ha : a < 256) (w : World) :
    Calls Try.prog 29 #[.int .u8 (a : Nat)] w fun e w' => e = .returned (.tuple #[.int .u8 (quo 1 a : Nat), .int .i64 (quoE a)]) ∧ w' = w := by
  go_enter Try.func29, Try.ntmps29
  go_wp2_with fail
  go_loop [4] (fun i => ∃ k : Nat, 1 ≤ k ∧ k ≤ 256 ∧ i = .int .i64 k ∧ Hid (∀ b, 1 ≤ b → b < k → mul a b ≠ 1)) (fun i => 256 - (intOf i).toNat)
  case atStart => exact ⟨1, Nat.le_refl _, by decide, rfl, fun b h1 h2 => by omega⟩
  case round =>
    obtain ⟨k, hk1, hk, rfl, HN⟩ := hrel
    by_cases hlt : k < 256
    · go_wp2_with fail
      refine (refMul_any a k ha hlt _).mono ?_
      rintro e w1 ⟨rfl, rfl⟩
      by_cases hm : mul a k = 1
      · have ha0 : a ≠ 0 := fun h => by rw [h, zero_mul] at hm; omega
        have HK : Hid (k = quo 1 a) := by show _ = _; rw [quo_one a ha ha0]; exact inv_only ha hlt ha0 hm
        have HE : Hid (0 = quoE a) := by show _ = _; unfold quoE; rw [if_neg ha0]
        rw [hm]
        go_wp2_with fail
        go_ret2
        exact ⟨by rw [← HK.out, ← HE.out]; rfl, rfl⟩
      · have hb : (((mul a k : Nat) : Int) == 1) = false := by simp; omega
        have HM : Hid (∀ b, 1 ≤ b → b < k + 1 → mul a b ≠ 1) := fun b h1 h2 => by
          by_cases e : b = k
          · subst e; exact hm
          · exact HN.out b h1 (by omega)
        clear hm
        generalize hz : mul a k = z at *
        clear hz
        go_wp2_with fail
        exact ⟨⟨k + 1, by omega, by omega, by go_num, HM⟩, by simp [intOf]; omega⟩
    · obtain rfl : k = 256 := by omega
      have ha0 : a = 0 := Decidable.byContradiction fun h => HN.out (inv a) (by have := inv_ne ha h; omega) (inv_lt ha) (mul_inv ha h)
      subst ha0
      clear HN
      go_wp2_with fail
      go_ret2
      exact ⟨rfl, rfl⟩
end Go.Proofs.Ytlmoeaphikdjnaa
