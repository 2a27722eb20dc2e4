/- The walk of FieldPows. -/
import Derived.Test.YtmfoplkpdibppaaFieldIsWalk
namespace Go.Proofs.Ytmfoplkpdibppaa
open Go.RowKit Gf
set_option linter.unusedVariables false
theorem pown (a : Nat) (n : Int) (k r : Nat) (ha : a < 256) (w : World) (hn : n = (k : Nat)) (hk : k ≤ 1000000) (h : pow a k = r) : Calls Try.prog 15 #[.int .u8 (a : Nat), .int .i64 n] w fun e w' => e = .returned (.int .u8 (r : Nat)) ∧ Kept w w' := by
  subst h
  subst hn
  exact pow_any a k ha (by omega) w
theorem pow_round {a : Nat} (ha : a < 256) (n : Nat) (hn : 1 ≤ n) : pow a (n + 255) = pow a n := by
  by_cases h : a = 0
  · subst h
    rw [pow_zero_base _ (by omega), pow_zero_base _ (by omega)]
  · rw [pow_add ha, pow_255 ha h, mul_one (pow_lt ha n)]
set_option maxHeartbeats 4000000 in
set_option maxRecDepth 100000 in
theorem fieldPows_walk (a0 a1 a2 a3 : Int) (w : World) (w0 : (Lit.int .u8 a0).wf = true) (w1 : (Lit.int .u8 a1).wf = true) (w2 : (Lit.int .u16 a2).wf = true) (w3 : (Lit.int .u16 a3).wf = true) :
    Calls Try.prog 7 #[.int .u8 a0, .int .u8 a1, .int .u16 a2, .int .u16 a3] w fun e w' => e = .returned (.bool true) ∧ Kept w w' := by
  obtain ⟨x0, x1⟩ := bounds_u8 w0
  obtain ⟨y0, y1⟩ := bounds_u8 w1
  obtain ⟨z0, z1⟩ := bounds_u16 w2
  obtain ⟨v0, v1⟩ := bounds_u16 w3
  obtain ⟨a, rfl, ha⟩ := nat_of a0 x0 (by omega)
  obtain ⟨b, rfl, hb⟩ := nat_of a1 y0 (by omega)
  clear w0 w1 w2 w3 x0 x1 y0 y1
  obtain ⟨x, hx⟩ : ∃ x : Nat, 1 + a2 % 600 = (x : Int) := ⟨(1 + a2 % 600).toNat, by omega⟩
  obtain ⟨y, hy⟩ : ∃ y : Nat, 1 + a3 % 600 = (y : Int) := ⟨(1 + a3 % 600).toNat, by omega⟩
  have hx1 : 1 ≤ x := by omega
  have hx2 : x ≤ 600 := by omega
  have hy1 : 1 ≤ y := by omega
  have hy2 : y ≤ 600 := by omega
  obtain ⟨z, hz⟩ : ∃ z, x * y = z := ⟨_, rfl⟩
  have hz1 : z ≤ 600 * 600 := hz ▸ Nat.mul_le_mul hx2 hy2
  have hz2 : (x : Int) * (y : Int) = (z : Nat) := by rw [← hz, Int.natCast_mul]
  obtain ⟨A, e1⟩ : ∃ A, Hid (pow a x = A) := ⟨_, rfl⟩
  obtain ⟨B, e2⟩ : ∃ A, Hid (pow a y = A) := ⟨_, rfl⟩
  obtain ⟨C, e3⟩ : ∃ C, Hid (mul A B = C) := ⟨_, rfl⟩
  have e4 : Hid (pow a (x + y) = C) := by show _ = _; rw [pow_add ha, e1.out, e2.out, e3.out]
  obtain ⟨G, e5⟩ : ∃ G, Hid (mul a b = G) := ⟨_, rfl⟩
  obtain ⟨H, e6⟩ : ∃ H, Hid (pow G x = H) := ⟨_, rfl⟩
  obtain ⟨D, e7⟩ : ∃ D, Hid (pow b x = D) := ⟨_, rfl⟩
  have e8 : Hid (mul A D = H) := by show _ = _; rw [← e6.out, ← e5.out, pow_mul_base ha hb, e1.out, e7.out]
  have e9 : Hid (pow a (x + 255) = A) := by show _ = _; rw [pow_round ha x hx1, e1.out]
  obtain ⟨E, e10⟩ : ∃ E, Hid (pow A y = E) := ⟨_, rfl⟩
  have e11 : Hid (pow a z = E) := by show _ = _; rw [← e10.out, ← e1.out, pow_pow ha, hz]
  have e12 : Hid (pow a 0 = 1) := rfl
  have hA : A < 256 := e1.out ▸ pow_lt ha x
  have hB : B < 256 := e2.out ▸ pow_lt ha y
  have hD : D < 256 := e7.out ▸ pow_lt hb x
  have hG : G < 256 := e5.out ▸ mul_lt ha hb
  clear hz
  have HX : Hid (1 + a2 % 600 = (x : Int)) := hx
  go_enter Try.func7, Try.ntmps7
  go_wp2_with fail
  refine (pown a _ x A ha _ rfl (by omega) e1.out).mono ?_
  rintro e w1 ⟨rfl, k1⟩
  go_wp2_with fail
  refine (pown a _ y B ha _ rfl (by omega) e2.out).mono ?_
  rintro e w2 ⟨rfl, k2⟩
  go_wp2_with fail
  refine (mul_n A B C hA hB _ e3.out).mono ?_
  rintro e w3 ⟨rfl, k3⟩
  go_wp2_with fail
  refine (pown a _ (x + y) C ha _ (by omega) (by omega) e4.out).mono ?_
  rintro e w4 ⟨rfl, k4⟩
  go_wp2_with fail
  refine (mul_n a b G ha hb _ e5.out).mono ?_
  rintro e w5 ⟨rfl, k5⟩
  go_wp2_with fail
  refine (pown G _ x H hG _ rfl (by omega) e6.out).mono ?_
  rintro e w6 ⟨rfl, k6⟩
  go_wp2_with fail
  refine (pown a _ x A ha _ rfl (by omega) e1.out).mono ?_
  rintro e w7 ⟨rfl, k7⟩
  go_wp2_with fail
  refine (pown b _ x D hb _ rfl (by omega) e7.out).mono ?_
  rintro e w8 ⟨rfl, k8⟩
  go_wp2_with fail
  refine (mul_n A D H hA hD _ e8.out).mono ?_
  rintro e w9 ⟨rfl, k9⟩
  go_wp2_with fail
  refine (pown a _ (x + 255) A ha _ (by omega) (by omega) e9.out).mono ?_
  rintro e w10 ⟨rfl, k10⟩
  go_wp2_with fail
  refine (pown a _ x A ha _ rfl (by omega) e1.out).mono ?_
  rintro e w11 ⟨rfl, k11⟩
  go_wp2_with fail
  refine (inv_any a ha _).mono ?_
  rintro e w30 ⟨rfl, k30⟩
  have HK : Hid (Kept w w30) := k1.trans (k2.trans (k3.trans (k4.trans (k5.trans (k6.trans (k7.trans (k8.trans (k9.trans (k10.trans (k11.trans (k30)))))))))))
  clear k1 k2 k3 k4 k5 k6 k7 k8 k9 k10 k11 k30
  obtain ⟨g1, hg1⟩ : ∃ g, quoE a = g := ⟨_, rfl⟩
  obtain ⟨g4, hg4⟩ : ∃ g, quo 1 a = g := ⟨_, rfl⟩
  rw [hg1, hg4]
  have HG1 := Lib.hid hg1
  have HG4 := Lib.hid hg4
  clear hg1 hg4
  by_cases h0 : a = 0
  · have hg : g1 = 40 := by rw [← HG1.out]; unfold quoE; rw [if_pos h0]
    subst hg
    clear h0
    go_wp2_with fail
    refine (pown a _ 0 1 ha _ rfl (by omega) e12.out).mono ?_
    rintro e w31 ⟨rfl, k31⟩
    go_wp2_with fail
    refine (pow_none a _ (by omega) _).mono ?_
    rintro e w32 ⟨rfl, k32⟩
    go_wp2_with fail
    refine (pown a _ x A ha _ rfl (by omega) e1.out).mono ?_
    rintro e w33 ⟨rfl, k33⟩
    go_wp2_with fail
    refine (pown A _ y E hA _ rfl (by omega) e10.out).mono ?_
    rintro e w34 ⟨rfl, k34⟩
    go_wp2_with fail
    refine (pown a _ z E ha _ rfl (by omega) e11.out).mono ?_
    rintro e w35 ⟨rfl, k35⟩
    go_wp2_with fail
    refine (fieldAlive_any _).mono ?_
    rintro e w36 ⟨rfl, k36⟩
    go_wp2_with fail
    go_ret
    exact ⟨rfl, HK.out.trans (k31.trans (k32.trans (k33.trans (k34.trans (k35.trans (k36))))))⟩
  · have hg : g1 = 0 := by rw [← HG1.out]; unfold quoE; rw [if_neg h0]
    subst hg
    have HQ : Hid (pow a 254 = g4) := by show _ = _; rw [← HG4.out, quo_one a ha h0, inv_pow ha]
    go_wp2_with fail
    refine (pown a _ 254 g4 ha _ rfl (by omega) HQ.out).mono ?_
    rintro e w31 ⟨rfl, k31⟩
    go_wp2_with fail
    refine (pown a _ 0 1 ha _ rfl (by omega) e12.out).mono ?_
    rintro e w32 ⟨rfl, k32⟩
    go_wp2_with fail
    refine (pow_none a _ (by omega) _).mono ?_
    rintro e w33 ⟨rfl, k33⟩
    go_wp2_with fail
    refine (pown a _ x A ha _ rfl (by omega) e1.out).mono ?_
    rintro e w34 ⟨rfl, k34⟩
    go_wp2_with fail
    refine (pown A _ y E hA _ rfl (by omega) e10.out).mono ?_
    rintro e w35 ⟨rfl, k35⟩
    go_wp2_with fail
    refine (pown a _ z E ha _ rfl (by omega) e11.out).mono ?_
    rintro e w36 ⟨rfl, k36⟩
    go_wp2_with fail
    refine (fieldAlive_any _).mono ?_
    rintro e w37 ⟨rfl, k37⟩
    go_wp2_with fail
    go_ret
    exact ⟨rfl, HK.out.trans (k31.trans (k32.trans (k33.trans (k34.trans (k35.trans (k36.trans (k37)))))))⟩
end Go.Proofs.Ytmfoplkpdibppaa
