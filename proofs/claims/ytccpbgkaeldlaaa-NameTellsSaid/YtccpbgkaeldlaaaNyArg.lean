/- A key that came in by value, opened. -/
import Derived.Test.YtccpbgkaeldlaaaNyAt
import Derived.Lib.SmallJoins
import Derived.OpenShut
import Derived.ShutString
namespace Go.Proofs.Ytccpbgkaeldlaaa
open Go.ChangeShapes Go.WideShapes Go.ChangeAt Go.RowKit Go.Joins Go.Deep _root_.Go.Proofs.Ytccpbgkaeldlaaa.Nm Ny
set_option linter.unusedVariables false
set_option linter.unusedSimpArgs false
theorem trodA5 {P : Program} {H : Type} {enc : TypeId × Value → H} {w : World} {base : Nat} {spare : Nat → Bool} {held : Bool} {t : TypeId} {f0 f1 f2 f3 f4 : Field} {fuel : Nat} {cs : List Value} {x : DataW H × List MemPlace} (ht : P.underlying t = some (.struct #[f0, f1, f2, f3, f4])) (h : DataW.trod enc P w base spare held fuel t cs = some x) :
    ∃ y0 y1 y2 y3 y4 n, cs.length = P.cellsOf t ∧ DataW.trod enc P w base spare held n f0.type ((cs.drop f0.offset).take (P.cellsOf f0.type)) = some y0 ∧ DataW.trod enc P w base spare held n f1.type ((cs.drop f1.offset).take (P.cellsOf f1.type)) = some y1 ∧
      DataW.trod enc P w base spare held n f2.type ((cs.drop f2.offset).take (P.cellsOf f2.type)) = some y2 ∧ DataW.trod enc P w base spare held n f3.type ((cs.drop f3.offset).take (P.cellsOf f3.type)) = some y3 ∧ DataW.trod enc P w base spare held n f4.type ((cs.drop f4.offset).take (P.cellsOf f4.type)) = some y4 := by
  obtain ⟨xs, n, _, rfl, hl, hlen, hf⟩ := DataW.trod_struct ht h
  match xs, hlen with
  | [y0, y1, y2, y3, y4], _ => exact ⟨y0, y1, y2, y3, y4, n, hl, by simpa using hf 0 f0 rfl, by simpa using hf 1 f1 rfl, by simpa using hf 2 f2 rfl, by simpa using hf 3 f3 rfl, by simpa using hf 4 f4 rfl⟩
theorem arrK5 {cs : Array Value} (h : cs.size = 5) : ∃ a b c d e, cs = #[a, b, c, d, e] := by
  obtain ⟨l⟩ := cs
  match l, h with
  | [a, b, c, d, e], _ => exact ⟨a, b, c, d, e, rfl⟩
theorem bounds_u8 {b : Int} (h : (Lit.int .u8 b).wf = true) : 0 ≤ b ∧ b < 256 := by
  simp [Lit.wf, IntKind.min, IntKind.max, IntKind.signed, IntKind.bits] at h
  omega
set_option maxRecDepth 100000 in
theorem open_key {H : Type} {enc : TypeId × Value → H} {w : World} {base : Nat} {spare : Nat → Bool} {held : Bool} {r : Reach} {b0 : Nat} {v : Value} {d : DataW H} {p : List MemPlace}
    (hv : Value.okWide Try.prog w r b0 24 v) (h : DataW.Trod enc Try.prog w base spare held 24 v d p) : ∃ x : Key, v = x.val ∧ x.Wf := by
  have c5 : Try.prog.cellsOf 24 = 5 := by kernel_rfl
  have cu : Try.prog.cellsOf 22 = 1 := by kernel_rfl
  have ci : Try.prog.cellsOf 3 = 1 := by kernel_rfl
  have c8 : Try.prog.cellsOf 5 = 1 := by kernel_rfl
  have cs : Try.prog.cellsOf 9 = 1 := by kernel_rfl
  obtain ⟨ar, rfl, hsz⟩ := okWide_struct Try.underlying24 hv
  obtain ⟨q0, q1, q2, q3, q4, rfl⟩ := arrK5 (hsz.trans c5)
  obtain ⟨fuel, hf⟩ := h
  obtain ⟨a0, a1, a2, a3, a4, n, _, k0, k1, k2, k3, k4⟩ := trodA5 Try.underlying24 hf
  have k0 : DataW.trod enc Try.prog w base spare held n 5 [q0] = some a0 := by rw [c8] at k0; exact k0
  have k1 : DataW.trod enc Try.prog w base spare held n 9 [q1] = some a1 := by rw [cs] at k1; exact k1
  have k2 : DataW.trod enc Try.prog w base spare held n 9 [q2] = some a2 := by rw [cs] at k2; exact k2
  have k3 : DataW.trod enc Try.prog w base spare held n 22 [q3] = some a3 := by rw [cu] at k3; exact k3
  have k4 : DataW.trod enc Try.prog w base spare held n 3 [q4] = some a4 := by rw [ci] at k4; exact k4
  obtain ⟨z0, e0, _, w0⟩ := DataW.trod_int Try.underlying5 k0
  obtain ⟨z1, e1, _, w1⟩ := DataW.trod_string Try.underlying9 k1
  obtain ⟨z2, e2, _, w2⟩ := DataW.trod_string Try.underlying9 k2
  obtain ⟨z3, e3, _, w3⟩ := DataW.trod_int Try.underlying22 k3
  obtain ⟨z4, e4, _, w4⟩ := DataW.trod_int Try.underlying3 k4
  simp only [List.cons.injEq, and_true] at e0 e1 e2 e3 e4
  subst e0 e1 e2 e3 e4
  have b0 := bounds_u8 w0
  have b3 := bounds_u64 w3
  have b4 := bounds_i64 w4
  obtain ⟨y0, rfl⟩ : ∃ s : Nat, z0 = s := ⟨z0.toNat, by omega⟩
  obtain ⟨y3, rfl⟩ : ∃ s : Nat, z3 = s := ⟨z3.toNat, by omega⟩
  exact ⟨⟨y0, z1, z2, y3, z4⟩, rfl, ⟨by show y0 < _; omega, w1, w2, by show y3 < _; omega, b4.1, b4.2⟩⟩
end Go.Proofs.Ytccpbgkaeldlaaa
