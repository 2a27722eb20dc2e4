/- Are two keys the same: as the program compares them. -/
import Derived.Test.YtccpbgkaeldlaaaNyAt
namespace Go.Proofs.Ytccpbgkaeldlaaa
open Go.RowKit _root_.Go.Proofs.Ytccpbgkaeldlaaa.Nm Ny
set_option linter.unusedVariables false
set_option linter.unusedSimpArgs false
theorem bytes_eq (p q : ByteArray) : (p.toList == q.toList) = true ↔ p = q := by
  rw [beq_iff_eq, ByteArray.toList_eq, ByteArray.toList_eq]
  exact ⟨fun c => ByteArray.ext (Array.toList_inj.1 c), fun c => by rw [c]⟩
set_option maxHeartbeats 4000000 in
set_option maxRecDepth 100000 in
theorem eql_key (a b : Key) : ∃ sb : Bool, (∀ W, (binOp .eql 24 (.agg #[.int .u8 (a.kd : Nat), .string a.bk, .string a.nm, .int .u64 (a.n : Nat), .int .i64 a.pt]) (.agg #[.int .u8 (b.kd : Nat), .string b.bk, .string b.nm, .int .u64 (b.n : Nat), .int .i64 b.pt])).run Try.prog W = .ok (.bool sb) W) ∧
    (sb = true ↔ a = b) := by
  refine ⟨((a.kd : Int) == (b.kd : Int)) && ((a.bk.toList == b.bk.toList) && ((a.nm.toList == b.nm.toList) && (((a.n : Int) == (b.n : Int)) && (a.pt == b.pt)))), fun W => ?_, ?_⟩
  · rw [run_eql_struct]
    generalize h0 : ((a.kd : Int) == (b.kd : Int)) = b0
    generalize h1 : (a.bk.toList == b.bk.toList) = b1
    generalize h2 : (a.nm.toList == b.nm.toList) = b2
    generalize h3 : ((a.n : Int) == (b.n : Int)) = b3
    generalize h4 : (a.pt == b.pt) = b4
    cases b0 <;> cases b1 <;> cases b2 <;> cases b3 <;> cases b4 <;> simp [go_sem, h0, h1, h2, h3, h4]
  · obtain ⟨k1, k2, k3, k4, k5⟩ := a
    obtain ⟨q1, q2, q3, q4, q5⟩ := b
    simp only [Bool.and_eq_true, beq_iff_eq, Key.mk.injEq]
    rw [show (k2.toList = q2.toList) ↔ k2 = q2 from by rw [← beq_iff_eq]; exact bytes_eq k2 q2, show (k3.toList = q3.toList) ↔ k3 = q3 from by rw [← beq_iff_eq]; exact bytes_eq k3 q3]
    constructor
    · rintro ⟨a, b, c, d, e⟩; exact ⟨by omega, b, c, by omega, e⟩
    · rintro ⟨a, b, c, d, e⟩; exact ⟨by omega, b, c, by omega, e⟩
set_option maxHeartbeats 4000000 in
set_option maxRecDepth 100000 in
theorem neq_key (a b : Key) : ∃ sb : Bool, (∀ W, (binOp .neq 24 (.agg #[.int .u8 (a.kd : Nat), .string a.bk, .string a.nm, .int .u64 (a.n : Nat), .int .i64 a.pt]) (.agg #[.int .u8 (b.kd : Nat), .string b.bk, .string b.nm, .int .u64 (b.n : Nat), .int .i64 b.pt])).run Try.prog W = .ok (.bool sb) W) ∧
    (sb = false ↔ a = b) := by
  refine ⟨!(((a.kd : Int) == (b.kd : Int)) && ((a.bk.toList == b.bk.toList) && ((a.nm.toList == b.nm.toList) && (((a.n : Int) == (b.n : Int)) && (a.pt == b.pt))))), fun W => ?_, ?_⟩
  · rw [run_neq_struct]
    generalize h0 : ((a.kd : Int) == (b.kd : Int)) = b0
    generalize h1 : (a.bk.toList == b.bk.toList) = b1
    generalize h2 : (a.nm.toList == b.nm.toList) = b2
    generalize h3 : ((a.n : Int) == (b.n : Int)) = b3
    generalize h4 : (a.pt == b.pt) = b4
    cases b0 <;> cases b1 <;> cases b2 <;> cases b3 <;> cases b4 <;> simp [go_sem, h0, h1, h2, h3, h4]
  · obtain ⟨k1, k2, k3, k4, k5⟩ := a
    obtain ⟨q1, q2, q3, q4, q5⟩ := b
    rw [Bool.not_eq_false']
    simp only [Bool.and_eq_true, beq_iff_eq, Key.mk.injEq]
    rw [show (k2.toList = q2.toList) ↔ k2 = q2 from by rw [← beq_iff_eq]; exact bytes_eq k2 q2, show (k3.toList = q3.toList) ↔ k3 = q3 from by rw [← beq_iff_eq]; exact bytes_eq k3 q3]
    constructor
    · rintro ⟨a, b, c, d, e⟩; exact ⟨by omega, b, c, by omega, e⟩
    · rintro ⟨a, b, c, d, e⟩; exact ⟨by omega, b, c, by omega, e⟩
end Go.Proofs.Ytccpbgkaeldlaaa
