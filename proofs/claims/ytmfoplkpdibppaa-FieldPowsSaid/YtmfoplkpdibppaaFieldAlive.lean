/- That the known small cases come out: alive. -/
import Derived.Test.YtmfoplkpdibppaaFieldPlus
namespace Go.Proofs.Ytmfoplkpdibppaa
open Go.RowKit Gf
set_option linter.unusedVariables false
theorem strs_new (w : World) (cs : Array Value) (t : TypeId) (ss : List ByteArray) (h : ∀ i, i < ss.length → cs[i]? = some (.string (ss.getD i ByteArray.empty))) : Strs (w.alloc (.cells cs t)) (some ⟨w.heap.size, 0, none⟩) ss := by
  refine .inr ⟨_, _, rfl, fun i hi => ?_⟩
  rw [Nat.zero_add, World.cell?_alloc_mark, h i hi]
theorem strs_two (w : World) (a b : ByteArray) (t : TypeId) : Strs (w.alloc (.cells #[.string a, .string b] t)) (some ⟨w.heap.size, 0, none⟩) [a, b] := strs_new _ _ _ _ fun i hi => by
  match i, hi with
  | 0, _ => rfl
  | 1, _ => rfl
theorem inv_c (a : Nat) (x y : Int) (ha : a < 256) (w : World) (h : ((quo 1 a : Nat) : Int) = x ∧ quoE a = y) : Calls Try.prog 8 #[.int .u8 (a : Nat)] w fun e w' => e = .returned (.tuple #[.int .u8 x, .int .i64 y]) ∧ Kept w w' := by
  obtain ⟨rfl, rfl⟩ := h
  exact inv_any a ha w
theorem mul_c (a b : Nat) (x : Int) (ha : a < 256) (hb : b < 256) (w : World) (h : ((mul a b : Nat) : Int) = x) : Calls Try.prog 13 #[.int .u8 (a : Nat), .int .u8 (b : Nat)] w fun e w' => e = .returned (.int .u8 x) ∧ Kept w w' := by
  subst h
  exact mul_any a b ha hb w
theorem pow_c (a n : Nat) (x : Int) (ha : a < 256) (hn : n ≤ 9223372036854775807) (w : World) (h : ((pow a n : Nat) : Int) = x) : Calls Try.prog 15 #[.int .u8 (a : Nat), .int .i64 (n : Nat)] w fun e w' => e = .returned (.int .u8 x) ∧ Kept w w' := by
  subst h
  exact pow_any a n ha hn w
theorem add_c (a b : Nat) (x : Int) (ha : a < 256) (hb : b < 256) (w : World) (h : ((a ^^^ b : Nat) : Int) = x) : Calls Try.prog 12 #[.int .u8 (a : Nat), .int .u8 (b : Nat)] w fun e w' => e = .returned (.int .u8 x) ∧ w' = w := by
  subst h
  exact add_any a b ha hb w
theorem times_c (c : Nat) (s r : ByteArray) (hc : c < 256) (hs : s.size ≤ 100000000) (w : World) (h : timesB c s = r) : Calls Try.prog 23 #[.int .u8 (c : Nat), .string s] w fun e w' => e = .returned (.string r) ∧ Kept w w' := by
  subst h
  exact times_any c s hc hs w
theorem sum_c (c : ByteArray) (a : Option Addr) (n cap : Nat) (ss : List ByteArray) (r : ByteArray) (y : Int) (w : World) (hS : Strs w a ss) (hn : ss.length = n) (hl : ss.length ≤ 100000000) (hz : ∀ s ∈ ss, s.size ≤ 100000000) (hcs : c.size ≤ 100000000) (h : sumS c ss = r ∧ sumE c ss = y) :
    Calls Try.prog 21 #[.string c, .slice a n cap] w fun e w' => e = .returned (.tuple #[.string r, .int .i64 y]) ∧ Kept w w' := by
  obtain ⟨rfl, rfl⟩ := h
  subst hn
  exact sum_any c a cap ss w hS hl hz hcs
theorem plus_c (a : Option Addr) (n cap : Nat) (ss : List ByteArray) (r : ByteArray) (y : Int) (w : World) (hS : Strs w a ss) (hn : ss.length = n) (hl : ss.length ≤ 100000000) (hz : ∀ s ∈ ss, s.size ≤ 100000000) (h : plS ss = r ∧ plE ss = y) :
    Calls Try.prog 19 #[.slice a n cap] w fun e w' => e = .returned (.tuple #[.string r, .int .i64 y]) ∧ Kept w w' := by
  obtain ⟨rfl, rfl⟩ := h
  subst hn
  exact plus_any a cap ss w hS hl hz
theorem all_two (a b : ByteArray) (n : Nat) (ha : a.size ≤ n) (hb : b.size ≤ n) : ∀ s ∈ [a, b], s.size ≤ n := by
  intro s hs
  simp at hs
  rcases hs with rfl | rfl <;> assumption
theorem kn1 : ((quo 1 2 : Nat) : Int) = 142 ∧ quoE 2 = 0 := by decide +kernel
theorem kn2 : ((quo 1 0 : Nat) : Int) = 0 ∧ quoE 0 = 40 := by decide +kernel
theorem kn3 : sumS ⟨#[2, 3]⟩ [⟨#[1, 2]⟩, ⟨#[1, 1]⟩] = ⟨#[1, 7]⟩ ∧ sumE ⟨#[2, 3]⟩ [⟨#[1, 2]⟩, ⟨#[1, 1]⟩] = 0 := by decide +kernel
theorem kn4 : plS [⟨#[97]⟩, ⟨#[]⟩] = ⟨#[]⟩ ∧ plE [⟨#[97]⟩, ⟨#[]⟩] = 2 := by decide +kernel
theorem kn5 : ((mul 2 128 : Nat) : Int) = 29 := by decide +kernel
theorem kn6 : ((mul 3 7 : Nat) : Int) = 9 := by decide +kernel
theorem kn7 : ((5 ^^^ 3 : Nat) : Int) = 6 := by decide +kernel
theorem kn8 : ((pow 2 8 : Nat) : Int) = 29 := by decide +kernel
theorem kn9 : timesB 2 ⟨#[128, 1]⟩ = ⟨#[29, 2]⟩ := by decide +kernel
set_option maxHeartbeats 1000000 in
set_option maxRecDepth 100000 in
theorem fieldAlive_any (w : World) : Calls Try.prog 17 #[] w fun e w' => e = .returned (.bool true) ∧ Kept w w' := by
  go_enter Try.func17, Try.ntmps17
  go_wp2_with fail
  refine (inv_c 2 142 0 (by decide) _ kn1).mono ?_
  rintro e w1 ⟨rfl, k1⟩
  go_wp2_with fail
  refine (inv_c 0 0 40 (by decide) _ kn2).mono ?_
  rintro e w2 ⟨rfl, k2⟩
  go_wp2_with fail
  refine (sum_c ⟨#[2, 3]⟩ _ 2 2 [⟨#[1, 2]⟩, ⟨#[1, 1]⟩] ⟨#[1, 7]⟩ 0 _ (strs_two _ _ _ _) rfl (by decide) (all_two _ _ _ (by decide) (by decide)) (by decide) kn3).mono ?_
  rintro e w3 ⟨rfl, k3⟩
  go_wp2_with fail
  refine (plus_c _ 2 2 [⟨#[97]⟩, ⟨#[]⟩] ⟨#[]⟩ 2 _ (strs_two _ _ _ _) rfl (by decide) (all_two _ _ _ (by decide) (by decide)) kn4).mono ?_
  rintro e w4 ⟨rfl, k4⟩
  go_wp2_with fail
  refine (mul_c 2 128 29 (by decide) (by decide) _ kn5).mono ?_
  rintro e w5 ⟨rfl, k5⟩
  go_wp2_with fail
  refine (mul_c 3 7 9 (by decide) (by decide) _ kn6).mono ?_
  rintro e w6 ⟨rfl, k6⟩
  go_wp2_with fail
  refine (add_c 5 3 6 (by decide) (by decide) _ kn7).mono ?_
  rintro e w7 ⟨rfl, rfl⟩
  go_wp2_with fail
  refine (pow_c 2 8 29 (by decide) (by decide) _ kn8).mono ?_
  rintro e w8 ⟨rfl, k8⟩
  go_wp2_with fail
  refine (times_c 2 ⟨#[128, 1]⟩ ⟨#[29, 2]⟩ (by decide) (by decide) _ kn9).mono ?_
  rintro e w9 ⟨rfl, k9⟩
  go_wp2_with fail
  go_ret
  exact ⟨rfl, k1.trans (k2.trans (((Kept.refl _).alloc _).trans (k3.trans (((Kept.refl _).alloc _).trans (k4.trans (k5.trans (k6.trans (k8.trans k9))))))))⟩
end Go.Proofs.Ytmfoplkpdibppaa
