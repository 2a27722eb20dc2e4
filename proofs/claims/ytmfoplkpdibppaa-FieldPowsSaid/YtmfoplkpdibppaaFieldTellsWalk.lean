/- The walk of FieldTells. -/
import Derived.Test.YtmfoplkpdibppaaFieldAlive
import Derived.OpenShut
namespace Go.Proofs.Ytmfoplkpdibppaa
open Go.RowKit Gf
set_option linter.unusedVariables false
theorem powi_any (a : Nat) (n : Int) (ha : a < 256) (hn : n ≤ 9223372036854775807) (w : World) :
    Calls Try.prog 15 #[.int .u8 (a : Nat), .int .i64 n] w fun e w' => e = .returned (.int .u8 (pow a n.toNat : Nat)) ∧ Kept w w' := by
  rcases Int.lt_or_le 0 n with h | h
  · obtain ⟨m, rfl⟩ := Int.eq_ofNat_of_zero_le (Int.le_of_lt h)
    exact pow_any a m ha (by omega) w
  · rw [show n.toNat = 0 from by omega]
    exact pow_none a n h w
theorem nat_of (x : Int) (h0 : 0 ≤ x) (h1 : x ≤ 255) : ∃ n : Nat, x = (n : Int) ∧ n < 256 := ⟨x.toNat, by omega, by omega⟩
theorem tmod_600 (x : Int) : -600 < x.tmod 600 ∧ x.tmod 600 < 600 := ⟨by have := Int.lt_tmod_of_pos x (show (0 : Int) < 600 by decide); omega, Int.tmod_lt_of_pos x (by decide)⟩
set_option maxHeartbeats 1000000 in
set_option maxRecDepth 100000 in
theorem fieldTells_walk (a0 a1 a2 : Int) (w : World) (w0 : (Lit.int .u8 a0).wf = true) (w1 : (Lit.int .u8 a1).wf = true) (w2 : (Lit.int .i16 a2).wf = true) :
    Calls Try.prog 3 #[.int .u8 a0, .int .u8 a1, .int .i16 a2] w fun e w' => e = .returned (.bool true) ∧ Kept w w' := by
  obtain ⟨x0, x1⟩ := bounds_u8 w0
  obtain ⟨y0, y1⟩ := bounds_u8 w1
  obtain ⟨a, rfl, ha⟩ := nat_of a0 x0 (by omega)
  obtain ⟨b, rfl, hb⟩ := nat_of a1 y0 (by omega)
  obtain ⟨z0, z1⟩ := bounds_i16 w2
  clear w0 w1 w2 x0 x1 y0 y1
  obtain ⟨t0, t1⟩ := tmod_600 a2
  have hx := u8_xor_nat a b ha hb
  go_enter Try.func3, Try.ntmps3
  go_wp2_with fail
  refine (inv_any a ha _).mono ?_
  rintro e w1 ⟨rfl, k1⟩
  go_wp2_with fail
  refine (refInv_any a ha _).mono ?_
  rintro e w2 ⟨rfl, rfl⟩
  go_wp2_with fail
  refine (div_any a b ha hb _).mono ?_
  rintro e w3 ⟨rfl, k3⟩
  go_wp2_with fail
  refine (refDiv_any a b ha hb _).mono ?_
  rintro e w4 ⟨rfl, rfl⟩
  generalize quo 1 a = q1 at *
  generalize quo a b = q2 at *
  generalize quoE a = e1 at *
  generalize quoE b = e2 at *
  go_wp2_with fail
  refine (add_any a b ha hb _).mono ?_
  rintro e w5 ⟨rfl, rfl⟩
  go_wp2_with fail
  refine (mul_any a b ha hb _).mono ?_
  rintro e w6 ⟨rfl, k6⟩
  go_wp2_with fail
  refine (refMul_any a b ha hb _).mono ?_
  rintro e w7 ⟨rfl, rfl⟩
  generalize mul a b = m at *
  go_wp2_with fail
  refine (powi_any a _ ha (by omega) _).mono ?_
  rintro e w8 ⟨rfl, k8⟩
  go_wp2_with fail
  refine (refPow_any a _ ha (by omega) (by omega) _).mono ?_
  rintro e w9 ⟨rfl, rfl⟩
  generalize pow a (a2.tmod 600).toNat = p at *
  go_wp2_with fail
  refine (fieldAlive_any _).mono ?_
  rintro e w10 ⟨rfl, k10⟩
  go_wp2_with fail
  go_ret
  exact ⟨rfl, k1.trans (k3.trans (k6.trans (k8.trans k10)))⟩
end Go.Proofs.Ytmfoplkpdibppaa
