/- What the calls on elements answer. -/
import Derived.Test.YtmfoplkpdibppaaFieldCode
import Derived.Deep.WholeRow
namespace Go.Proofs.Ytmfoplkpdibppaa
open Go.RowKit Gf
set_option linter.unusedVariables false
set_option maxRecDepth 100000 in
theorem mul_any (a b : Nat) (ha : a < 256) (hb : b < 256) (w : World) :
    Calls Try.prog 13 #[.int .u8 (a : Nat), .int .u8 (b : Nat)] w fun e w' => e = .returned (.int .u8 (mul a b : Nat)) ∧ Kept w w' := by
  go_enter Try.func13, Try.ntmps13
  go_wp2_with fail
  refine (powers_any _).mono ?_
  rintro e w1 ⟨rfl, hk1⟩
  have hz := zero_arr
  rw [← tab_zero] at hz
  have HB := Lib.hid (World.setRow_alloc_new w1 (tabF 0) (tabF 255) 52)
  have HG := Lib.hid (heap_alloc_last w1 (.cells (tabF 0) 52))
  have hsz : (Try.prog.info? 52).map (·.size) = some (tabF 255).size := by rw [tab_size]; exact info_arr
  have HSZ := Lib.hid hsz
  clear hsz
  have HOLD : (tabF 0).size = (tabF 255).size := by rw [tab_size, tab_size]
  have HTO := Lib.hid (tab_one 255)
  have hk2 : Kept w (w1.alloc (.cells (tabF 255) 52)) := hk1.alloc _
  have hT : Tab w1.heap.size (w1.alloc (.cells (tabF 255) 52)) := Tab.new w1
  generalize tabF 255 = T at *
  generalize tabF 0 = T0 at *
  go_wp2_with (first | ((with_reducible refine wpList_store_row rfl 52 _ _ rfl w1.heap.size T rfl rfl 52 T0 HG.out HSZ.out HOLD HTO.out ?_); rw [HB.out]; clear hz HB HG HSZ HOLD HTO))
  generalize w1.alloc (.cells T 52) = w2 at *
  generalize w1.heap.size = g at *
  refine (of_any g a b ha hb _ hT).mono ?_
  rintro e w3 ⟨rfl, hk3⟩
  go_wp2_with fail
  go_ret
  exact ⟨rfl, hk2.trans hk3⟩
theorem add_any (a b : Nat) (ha : a < 256) (hb : b < 256) (w : World) :
    Calls Try.prog 12 #[.int .u8 (a : Nat), .int .u8 (b : Nat)] w fun e w' => e = .returned (.int .u8 (a ^^^ b : Nat)) ∧ w' = w := by
  go_enter Try.func12, Try.ntmps12
  go_wp2_with fail
  go_ret
  exact ⟨by rw [← u8_xor_nat a b ha hb]; rfl, rfl⟩
/-- A quotient. -/
def quo (a b : Nat) : Nat := if b = 0 then 0 else mul a (inv b)
def quoE (b : Nat) : Int := if b = 0 then 40 else 0
set_option maxRecDepth 100000 in
theorem div_any (a b : Nat) (ha : a < 256) (hb : b < 256) (w : World) :
    Calls Try.prog 10 #[.int .u8 (a : Nat), .int .u8 (b : Nat)] w fun e w' => e = .returned (.tuple #[.int .u8 (quo a b : Nat), .int .i64 (quoE b)]) ∧ Kept w w' := by
  by_cases hb0 : b = 0
  · subst hb0
    go_enter Try.func10, Try.ntmps10
    go_wp2_with fail
    go_ret2
    exact ⟨rfl, Kept.refl _⟩
  · have e2 : ((b : Int) == 0) = false := by simp; omega
    have HQ : Hid (quo a b = mul a (inv b)) := by show quo a b = _; unfold quo; rw [if_neg hb0]
    have HE : Hid (quoE b = 0) := by show quoE b = _; unfold quoE; rw [if_neg hb0]
    go_enter Try.func10, Try.ntmps10
    go_wp2_with fail
    refine (powers_any _).mono ?_
    rintro e w1 ⟨rfl, hk1⟩
    have hz := zero_arr
    rw [← tab_zero] at hz
    have HB := Lib.hid (World.setRow_alloc_new w1 (tabF 0) (tabF 255) 52)
    have HG := Lib.hid (heap_alloc_last w1 (.cells (tabF 0) 52))
    have hsz : (Try.prog.info? 52).map (·.size) = some (tabF 255).size := by rw [tab_size]; exact info_arr
    have HSZ := Lib.hid hsz
    clear hsz
    have HOLD : (tabF 0).size = (tabF 255).size := by rw [tab_size, tab_size]
    have HTO := Lib.hid (tab_one 255)
    have hk2 : Kept w (w1.alloc (.cells (tabF 255) 52)) := hk1.alloc _
    have hT : Tab w1.heap.size (w1.alloc (.cells (tabF 255) 52)) := Tab.new w1
    generalize tabF 255 = T at *
    generalize tabF 0 = T0 at *
    go_wp2_with (first | ((with_reducible refine wpList_store_row rfl 52 _ _ rfl w1.heap.size T rfl rfl 52 T0 HG.out HSZ.out HOLD HTO.out ?_); rw [HB.out]; clear hz HB HG HSZ HOLD HTO))
    generalize w1.alloc (.cells T 52) = w2 at *
    generalize w1.heap.size = g at *
    refine (inverse_any g b hb hb0 _ hT).mono ?_
    rintro e w3 ⟨rfl, hk3⟩
    go_wp2_with fail
    refine (of_any g a (inv b) ha (inv_lt hb) _ (hT.kept hk3)).mono ?_
    rintro e w4 ⟨rfl, hk4⟩
    go_wp2_with fail
    go_ret2
    exact ⟨by rw [HQ.out, HE.out]; rfl, hk2.trans (hk3.trans hk4)⟩
theorem inv_any (a : Nat) (ha : a < 256) (w : World) :
    Calls Try.prog 8 #[.int .u8 (a : Nat)] w fun e w' => e = .returned (.tuple #[.int .u8 (quo 1 a : Nat), .int .i64 (quoE a)]) ∧ Kept w w' := by
  go_enter Try.func8, Try.ntmps8
  go_wp2_with fail
  refine (div_any 1 a (by decide) ha _).mono ?_
  rintro e w1 ⟨rfl, hk1⟩
  go_wp2_with fail
  go_ret2
  exact ⟨rfl, hk1⟩
set_option maxRecDepth 100000 in
theorem pow_none (a : Nat) (n : Int) (hn : n ≤ 0) (w : World) :
    Calls Try.prog 15 #[.int .u8 (a : Nat), .int .i64 n] w fun e w' => e = .returned (.int .u8 1) ∧ Kept w w' := by
  go_enter Try.func15, Try.ntmps15
  go_wp2_with fail
  go_ret
  exact ⟨rfl, Kept.refl _⟩
set_option maxRecDepth 100000 in
theorem pow_any (a n : Nat) (ha : a < 256) (hn : n ≤ 9223372036854775807) (w : World) :
    Calls Try.prog 15 #[.int .u8 (a : Nat), .int .i64 (n : Nat)] w fun e w' => e = .returned (.int .u8 (pow a n : Nat)) ∧ Kept w w' := by
  by_cases hn0 : n = 0
  · subst hn0
    exact pow_none a _ (by decide) w
  · by_cases ha0 : a = 0
    · subst ha0
      rw [pow_zero_base n (by omega)]
      go_enter Try.func15, Try.ntmps15
      go_wp2_with fail
      go_ret
      exact ⟨rfl, Kept.refl _⟩
    · have e1 : ((a : Int) == 0) = false := by simp; omega
      have l1 := lg_lt a
      have hc1 := tab_at 255 (510 + a) (by omega)
      rw [show tb 255 (510 + a) = lg a from rfl] at hc1
      have hq0 : n % 255 * lg a % 255 < 255 := Nat.mod_lt _ (by decide)
      have hc2 := tab_at 255 (n % 255 * lg a % 255) (by omega)
      rw [tb_pow _ (by omega)] at hc2
      have HM := Lib.hid (pow_log a n ha ha0)
      obtain ⟨m, hm⟩ : ∃ m, n % 255 = m := ⟨_, rfl⟩
      have hm1 : (n : Int) % 255 = (m : Nat) := by omega
      have hm2 : m < 255 := by omega
      rw [hm] at hc2 HM hq0
      clear hm
      generalize lg a = l at *
      have hb1 : m * l ≤ 254 * 254 := Nat.mul_le_mul (by omega) (by omega)
      have hml : (m : Int) * (l : Int) = ((m * l : Nat) : Int) := by rw [Int.natCast_mul]
      have hb2 : (m : Int) * (l : Int) ≤ 64516 := by omega
      have hb3 : 0 ≤ (m : Int) * (l : Int) := by omega
      obtain ⟨q, hq⟩ : ∃ q, m * l % 255 = q := ⟨_, rfl⟩
      have hq1 : (m : Int) * (l : Int) % 255 = (q : Nat) := by omega
      rw [hq] at hc2 HM hq0
      clear hq hb1 hml
      generalize P q = z at *
      go_enter Try.func15, Try.ntmps15
      go_wp2_with fail
      refine (powers_any _).mono ?_
      rintro e w1 ⟨rfl, hk1⟩
      have hz := zero_arr
      rw [← tab_zero] at hz
      have HB := Lib.hid (World.setRow_alloc_new w1 (tabF 0) (tabF 255) 52)
      have HG := Lib.hid (heap_alloc_last w1 (.cells (tabF 0) 52))
      have hsz : (Try.prog.info? 52).map (·.size) = some (tabF 255).size := by rw [tab_size]; exact info_arr
      have HSZ := Lib.hid hsz
      clear hsz
      have HOLD : (tabF 0).size = (tabF 255).size := by rw [tab_size, tab_size]
      have HTO := Lib.hid (tab_one 255)
      have hk2 : Kept w (w1.alloc (.cells (tabF 255) 52)) := hk1.alloc _
      generalize tabF 255 = T at *
      generalize tabF 0 = T0 at *
      go_wp2_with (first | ((with_reducible refine wpList_store_row rfl 52 _ _ rfl w1.heap.size T rfl rfl 52 T0 HG.out HSZ.out HOLD HTO.out ?_); rw [HB.out]; clear hz HB HG HSZ HOLD HTO))
      go_ret
      exact ⟨by rw [← HM.out]; rfl, hk2⟩
end Go.Proofs.Ytmfoplkpdibppaa
