/- The walk of FieldIs. -/
import Derived.Test.YtmfoplkpdibppaaFieldTellsWalk
import Derived.Deep.DeepCutAuto
namespace Go.Proofs.Ytmfoplkpdibppaa
open Go.RowKit Gf
set_option linter.unusedVariables false
theorem mul_n (a b r : Nat) (ha : a < 256) (hb : b < 256) (w : World) (h : mul a b = r) : Calls Try.prog 13 #[.int .u8 (a : Nat), .int .u8 (b : Nat)] w fun e w' => e = .returned (.int .u8 (r : Nat)) ∧ Kept w w' := by
  subst h
  exact mul_any a b ha hb w
theorem add_n (a b r : Nat) (ha : a < 256) (hb : b < 256) (w : World) (h : a ^^^ b = r) : Calls Try.prog 12 #[.int .u8 (a : Nat), .int .u8 (b : Nat)] w fun e w' => e = .returned (.int .u8 (r : Nat)) ∧ Kept w w' := by
  subst h
  refine (add_any a b ha hb w).mono ?_
  rintro e w1 ⟨rfl, rfl⟩
  exact ⟨rfl, Kept.refl _⟩
/-- How many of the first k powers of 2 are a. -/
def cnt (a : Nat) : Nat → Nat
  | 0 => 0
  | k + 1 => if P k = a then cnt a k + 1 else cnt a k
theorem cnt_le (a k : Nat) : cnt a k ≤ k := by
  induction k with
  | zero => exact Nat.le_refl _
  | succ k ih => rw [cnt]; split <;> omega
theorem cnt_scan (a n k : Nat) : cnt a (k + n) = cnt a k + (scan n (P k)).count a := by
  induction n generalizing k with
  | zero => rfl
  | succ n ih =>
    rw [scan, ← P_succ, List.count_cons, show k + (n + 1) = (k + 1) + n from by omega, ih (k + 1), cnt]
    by_cases h : P k = a
    · rw [if_pos h, if_pos (by simp [h])]; omega
    · rw [if_neg h, if_neg (by simp [h])]; omega
theorem count_all : ∀ a : Fin 256, pows.count a.val = if a.val = 0 then 0 else 1 := by decide +kernel
theorem cnt_255 (a : Nat) (ha : a < 256) : cnt a 255 = if a = 0 then 0 else 1 := by
  have h := cnt_scan a 255 0
  rw [Nat.zero_add, show P 0 = 1 from rfl, scan_eq, count_all ⟨a, ha⟩] at h
  rw [h]
  show 0 + _ = _
  rw [Nat.zero_add]
theorem xor_lt {a b : Nat} (ha : a < 256) (hb : b < 256) : a ^^^ b < 256 := Nat.xor_lt_two_pow (n := 8) ha hb
set_option maxHeartbeats 4000000 in
set_option maxRecDepth 100000 in
theorem fieldIs_walk (a0 a1 a2 : Int) (w : World) (w0 : (Lit.int .u8 a0).wf = true) (w1 : (Lit.int .u8 a1).wf = true) (w2 : (Lit.int .u8 a2).wf = true) :
    Calls Try.prog 5 #[.int .u8 a0, .int .u8 a1, .int .u8 a2] w fun e w' => e = .returned (.bool true) ∧ Kept w w' := by
  obtain ⟨x0, x1⟩ := bounds_u8 w0
  obtain ⟨y0, y1⟩ := bounds_u8 w1
  obtain ⟨z0, z1⟩ := bounds_u8 w2
  obtain ⟨a, rfl, ha⟩ := nat_of a0 x0 (by omega)
  obtain ⟨b, rfl, hb⟩ := nat_of a1 y0 (by omega)
  obtain ⟨c, rfl, hc⟩ := nat_of a2 z0 (by omega)
  clear w0 w1 w2 x0 x1 y0 y1 z0 z1
  obtain ⟨s, e1⟩ : ∃ s, Hid (a ^^^ b = s) := ⟨_, rfl⟩
  obtain ⟨t, e5⟩ : ∃ t, Hid (b ^^^ c = t) := ⟨_, rfl⟩
  obtain ⟨u, e6⟩ : ∃ u, Hid (a ^^^ t = u) := ⟨_, rfl⟩
  obtain ⟨p, e3⟩ : ∃ p, Hid (mul a b = p) := ⟨_, rfl⟩
  obtain ⟨q, e8⟩ : ∃ q, Hid (mul b c = q) := ⟨_, rfl⟩
  obtain ⟨r, e9⟩ : ∃ r, Hid (mul a q = r) := ⟨_, rfl⟩
  obtain ⟨d, e12⟩ : ∃ d, Hid (mul a c = d) := ⟨_, rfl⟩
  obtain ⟨f, e11⟩ : ∃ f, Hid (mul a t = f) := ⟨_, rfl⟩
  have hs : s < 256 := e1.out ▸ xor_lt ha hb
  have ht : t < 256 := e5.out ▸ xor_lt hb hc
  have hp : p < 256 := e3.out ▸ mul_lt ha hb
  have hq : q < 256 := e8.out ▸ mul_lt hb hc
  have hd : d < 256 := e12.out ▸ mul_lt ha hc
  have e2 : Hid (b ^^^ a = s) := by show _ = _; rw [Nat.xor_comm]; exact e1.out
  have e4 : Hid (mul b a = p) := by show _ = _; rw [mul_comm hb ha]; exact e3.out
  have e7 : Hid (s ^^^ c = u) := by show _ = _; rw [← e1.out, ← e6.out, ← e5.out, Nat.xor_assoc]
  have e10 : Hid (mul p c = r) := by show _ = _; rw [← e3.out, ← e9.out, ← e8.out, mul_assoc ha hb hc]
  have e13 : Hid (p ^^^ d = f) := by show _ = _; rw [← e3.out, ← e12.out, ← e11.out, ← e5.out, mul_right]
  have e14 : Hid (a ^^^ a = 0) := Nat.xor_self a
  have e15 : Hid (a ^^^ 0 = a) := Nat.xor_zero a
  have e16 : Hid (mul a 1 = a) := mul_one ha
  have e17 : Hid (mul a 0 = 0) := mul_zero a
  go_enter Try.func5, Try.ntmps5
  go_wp2_with fail
  refine (add_n a b s ha hb _ e1.out).mono ?_
  rintro e w1 ⟨rfl, k1⟩
  go_wp2_with fail
  refine (add_n b a s hb ha _ e2.out).mono ?_
  rintro e w2 ⟨rfl, k2⟩
  go_wp2_with fail
  refine (mul_n a b p ha hb _ e3.out).mono ?_
  rintro e w3 ⟨rfl, k3⟩
  go_wp2_with fail
  refine (mul_n b a p hb ha _ e4.out).mono ?_
  rintro e w4 ⟨rfl, k4⟩
  go_wp2_with fail
  refine (add_n b c t hb hc _ e5.out).mono ?_
  rintro e w5 ⟨rfl, k5⟩
  go_wp2_with fail
  refine (add_n a t u ha ht _ e6.out).mono ?_
  rintro e w6 ⟨rfl, k6⟩
  go_wp2_with fail
  refine (add_n a b s ha hb _ e1.out).mono ?_
  rintro e w7 ⟨rfl, k7⟩
  go_wp2_with fail
  refine (add_n s c u hs hc _ e7.out).mono ?_
  rintro e w8 ⟨rfl, k8⟩
  go_wp2_with fail
  refine (mul_n b c q hb hc _ e8.out).mono ?_
  rintro e w9 ⟨rfl, k9⟩
  go_wp2_with fail
  refine (mul_n a q r ha hq _ e9.out).mono ?_
  rintro e w10 ⟨rfl, k10⟩
  go_wp2_with fail
  refine (mul_n a b p ha hb _ e3.out).mono ?_
  rintro e w11 ⟨rfl, k11⟩
  go_wp2_with fail
  refine (mul_n p c r hp hc _ e10.out).mono ?_
  rintro e w12 ⟨rfl, k12⟩
  go_wp2_with fail
  refine (add_n b c t hb hc _ e5.out).mono ?_
  rintro e w13 ⟨rfl, k13⟩
  go_wp2_with fail
  refine (mul_n a t f ha ht _ e11.out).mono ?_
  rintro e w14 ⟨rfl, k14⟩
  go_wp2_with fail
  refine (mul_n a b p ha hb _ e3.out).mono ?_
  rintro e w15 ⟨rfl, k15⟩
  go_wp2_with fail
  refine (mul_n a c d ha hc _ e12.out).mono ?_
  rintro e w16 ⟨rfl, k16⟩
  go_wp2_with fail
  refine (add_n p d f hp hd _ e13.out).mono ?_
  rintro e w17 ⟨rfl, k17⟩
  go_wp2_with fail
  refine (add_n a a 0 ha ha _ e14.out).mono ?_
  rintro e w18 ⟨rfl, k18⟩
  go_wp2_with fail
  refine (add_n a 0 a ha (by decide) _ e15.out).mono ?_
  rintro e w19 ⟨rfl, k19⟩
  go_wp2_with fail
  refine (mul_n a 1 a ha (by decide) _ e16.out).mono ?_
  rintro e w20 ⟨rfl, k20⟩
  go_wp2_with fail
  refine (mul_n a 0 0 ha (by decide) _ e17.out).mono ?_
  rintro e w21 ⟨rfl, k21⟩
  go_wp2_with fail
  refine (inv_any a ha _).mono ?_
  rintro e w30 ⟨rfl, k30⟩
  have hi := inv_lt ha
  have HK : Hid (Kept w w30) := k1.trans (k2.trans (k3.trans (k4.trans (k5.trans (k6.trans (k7.trans (k8.trans (k9.trans (k10.trans (k11.trans (k12.trans (k13.trans (k14.trans (k15.trans (k16.trans (k17.trans (k18.trans (k19.trans (k20.trans (k21.trans (k30)))))))))))))))))))))
  clear k1 k2 k3 k4 k5 k6 k7 k8 k9 k10 k11 k12 k13 k14 k15 k16 k17 k18 k19 k20 k21 k30
  obtain ⟨g1, hg1⟩ : ∃ g, quoE a = g := ⟨_, rfl⟩
  obtain ⟨g4, hg4⟩ : ∃ g, quo 1 a = g := ⟨_, rfl⟩
  rw [hg1, hg4]
  have HG1 := Lib.hid hg1
  have HG4 := Lib.hid hg4
  clear hg1 hg4
  go_upto_region 6 with fail
  go_cut [111] from 97 to 111 (fun x wx => x = .bool false ∧ Kept w wx)
  case first =>
    by_cases h0 : a = 0
    · have hb1 : (g1 == 0) = false := by rw [← HG1.out]; unfold quoE; rw [if_pos h0]; rfl
      subst h0
      go_wp2_with fail
      go_meet
      exact ⟨rfl, HK.out⟩
    · have hb1 : (g1 == 0) = true := by rw [← HG1.out]; unfold quoE; rw [if_neg h0]; rfl
      have hne : ((a : Int) == 0) = false := by simp; omega
      have hg4 : g4 = inv a := by rw [← HG4.out, quo_one a ha h0]
      have hlt : g4 < 256 := by rw [hg4]; exact hi
      have HMI : Hid (mul a g4 = 1) := by show _ = _; rw [hg4]; exact mul_inv ha h0
      clear hg4
      go_wp2_with fail
      refine (mul_n a g4 1 ha hlt _ HMI.out).mono ?_
      rintro e w31 ⟨rfl, k31⟩
      go_wp2_with fail
      go_meet
      exact ⟨by rw [show ((a : Int) != 0) = true from by simp; omega]; rfl, HK.out.trans k31⟩
  case rest =>
    obtain ⟨rfl, k40⟩ := hcut
    go_wp2_with fail
    refine (div_any a b ha hb _).mono ?_
    rintro e w41 ⟨rfl, k41⟩
    have HK2 : Hid (Kept w w41) := k40.trans k41
    clear k40 k41 HK
    obtain ⟨g2, hg2⟩ : ∃ g, quoE b = g := ⟨_, rfl⟩
    obtain ⟨g3, hg3⟩ : ∃ g, quo a b = g := ⟨_, rfl⟩
    rw [hg2, hg3]
    have HG2 := Lib.hid hg2
    have HG3 := Lib.hid hg3
    clear hg2 hg3
    go_upto_region 9 with fail
    go_cut [133] from 118 to 133 (fun x wx => x = .bool false ∧ Kept w wx)
    case first =>
      by_cases h0 : b = 0
      · have hb1 : (g2 == 0) = false := by rw [← HG2.out]; unfold quoE; rw [if_pos h0]; rfl
        subst h0
        go_wp2_with fail
        go_meet
        exact ⟨rfl, HK2.out⟩
      · have hb1 : (g2 == 0) = true := by rw [← HG2.out]; unfold quoE; rw [if_neg h0]; rfl
        have hne : ((b : Int) == 0) = false := by simp; omega
        have hbi := inv_lt hb
        have hqq : g3 = mul a (inv b) := by rw [← HG3.out]; unfold quo; rw [if_neg h0]
        have hml : g3 < 256 := by rw [hqq]; exact mul_lt ha hbi
        have hmm : mul g3 b = a := by rw [hqq, ← mul_assoc ha hbi hb, mul_comm hbi hb, mul_inv hb h0, mul_one ha]
        have HMM := Lib.hid hmm
        clear hqq hmm
        go_wp2_with fail
        refine (mul_n g3 b a hml hb _ HMM.out).mono ?_
        rintro e w42 ⟨rfl, k42⟩
        go_wp2_with fail
        go_meet
        exact ⟨by rw [show ((b : Int) != 0) = true from by simp; omega]; rfl, HK2.out.trans k42⟩
    case rest =>
      obtain ⟨rfl, k43⟩ := hcut
      clear HK2
      go_wp2_with fail
      go_loopw [11, 12, 13] (fun m x i wr => ∃ k : Nat, k ≤ 255 ∧ i = .int .i64 k ∧ x = .int .u8 (P k : Nat) ∧ m = .int .i64 (cnt a k : Nat) ∧ Kept w wr) (fun _ _ i _ => 255 - (intOf i).toNat)
      case atStart => exact ⟨0, Nat.zero_le _, rfl, rfl, rfl, k43⟩
      case round =>
        obtain ⟨k, hk, rfl, rfl, rfl, kr⟩ := hrel
        by_cases hlt : k < 255
        · have hpl := P_lt k
          have hcl := cnt_le a k
          have HPN : Hid (mul (P k) 2 = P (k + 1)) := rfl
          by_cases he : P k = a
          · have HC : Hid (cnt a k + 1 = cnt a (k + 1)) := by show _ = _; rw [cnt, if_pos he]
            have heb : (((P k : Nat) : Int) == (a : Int)) = true := by simp [he]
            clear he
            generalize P k = x at *
            generalize cnt a k = m at *
            go_wp2_with fail
            refine (mul_n x 2 _ hpl (by decide) _ HPN.out).mono ?_
            rintro e w44 ⟨rfl, k44⟩
            go_wp2_with fail
            exact ⟨⟨k + 1, by omega, by go_num, rfl, by rw [← HC.out]; go_num, kr.trans k44⟩, by simp [intOf]; omega⟩
          · have HC : Hid (cnt a k = cnt a (k + 1)) := by show _ = _; rw [cnt, if_neg he]
            have heb : (((P k : Nat) : Int) == (a : Int)) = false := by simp; omega
            clear he
            generalize P k = x at *
            generalize cnt a k = m at *
            go_wp2_with fail
            refine (mul_n x 2 _ hpl (by decide) _ HPN.out).mono ?_
            rintro e w44 ⟨rfl, k44⟩
            go_wp2_with fail
            exact ⟨⟨k + 1, by omega, by go_num, rfl, by rw [← HC.out], kr.trans k44⟩, by simp [intOf]; omega⟩
        · obtain rfl : k = 255 := by omega
          rw [P_255, cnt_255 a ha]
          by_cases h0 : a = 0
          · rw [if_pos h0]
            subst h0
            go_wp2_with fail
            refine (fieldAlive_any _).mono ?_
            rintro e w45 ⟨rfl, k45⟩
            go_wp2_with fail
            go_ret
            exact ⟨rfl, kr.trans k45⟩
          · rw [if_neg h0]
            have hne : ((a : Int) == 0) = false := by simp; omega
            have hne2 : ((a : Int) != 0) = true := by simp; omega
            go_wp2_with fail
            refine (fieldAlive_any _).mono ?_
            rintro e w45 ⟨rfl, k45⟩
            go_wp2_with fail
            go_ret
            exact ⟨rfl, kr.trans k45⟩
end Go.Proofs.Ytmfoplkpdibppaa
