/- A root, a geo that came in by value, opened. -/
import Derived.Test.YtoekaabngjjefaaGreatPart28
import Derived.Lib.SmallJoins
import Derived.OpenShut
import Derived.ShutString
namespace Go.Proofs.YtoekaabngjjefaaGreat
open Go.ChangeShapes Go.WideShapes Go.ChangeAt Go.RowKit Go.Joins Go.Deep Sm Wr _root_.Go.Proofs.YtoekaabngjjefaaGreat.Nm
set_option linter.unusedVariables false
theorem trodA3 {P : Program} {H : Type} {enc : TypeId × Value → H} {w : World} {base : Nat} {spare : Nat → Bool} {held : Bool} {t : TypeId} {f0 f1 f2 : Field} {fuel : Nat} {cs : List Value} {x : DataW H × List MemPlace} (ht : P.underlying t = some (.struct #[f0, f1, f2])) (h : DataW.trod enc P w base spare held fuel t cs = some x) :
    ∃ y0 y1 y2 n, cs.length = P.cellsOf t ∧ DataW.trod enc P w base spare held n f0.type ((cs.drop f0.offset).take (P.cellsOf f0.type)) = some y0 ∧ DataW.trod enc P w base spare held n f1.type ((cs.drop f1.offset).take (P.cellsOf f1.type)) = some y1 ∧
      DataW.trod enc P w base spare held n f2.type ((cs.drop f2.offset).take (P.cellsOf f2.type)) = some y2 := by
  obtain ⟨xs, n, _, rfl, hl, hlen, hf⟩ := DataW.trod_struct ht h
  match xs, hlen with
  | [y0, y1, y2], _ => exact ⟨y0, y1, y2, n, hl, by simpa using hf 0 f0 rfl, by simpa using hf 1 f1 rfl, by simpa using hf 2 f2 rfl⟩
theorem arr5 {cs : Array Value} (h : cs.size = 5) : ∃ a b c d e, cs = #[a, b, c, d, e] := by
  obtain ⟨l⟩ := cs
  match l, h with
  | [a, b, c, d, e], _ => exact ⟨a, b, c, d, e, rfl⟩
theorem okI {a b : Int} (h : (Lit.int .i64 b).wf = true) : -9223372036854775808 ≤ b ∧ b ≤ 9223372036854775807 := bounds_i64 h
set_option maxRecDepth 100000 in
theorem open_root {H : Type} {enc : TypeId × Value → H} {w : World} {base : Nat} {spare : Nat → Bool} {held : Bool} {r : Reach} {b0 : Nat} {v : Value} {d : DataW H} {p : List MemPlace}
    (hv : Value.okWide Tryz.prog w r b0 38 v) (h : DataW.Trod enc Tryz.prog w base spare held 38 v d p) : ∃ x : Rt, v = x.val ∧ x.Wf := by
  have c5 : Tryz.prog.cellsOf 38 = 5 := by kernel_rfl
  have c3 : Tryz.prog.cellsOf 36 = 3 := by kernel_rfl
  have cu : Tryz.prog.cellsOf 34 = 1 := by kernel_rfl
  have ci : Tryz.prog.cellsOf 3 = 1 := by kernel_rfl
  obtain ⟨cs, rfl, hsz⟩ := okWide_struct Tryz.underlying38 hv
  obtain ⟨q0, q1, q2, q3, q4, rfl⟩ := arr5 (hsz.trans c5)
  obtain ⟨fuel, hf⟩ := h
  obtain ⟨a0, a1, a2, n, _, k0, k1, k2⟩ := trodA3 Tryz.underlying38 hf
  have k0 : DataW.trod enc Tryz.prog w base spare held n 34 [q0] = some a0 := by rw [cu] at k0; exact k0
  have k1 : DataW.trod enc Tryz.prog w base spare held n 34 [q1] = some a1 := by rw [cu] at k1; exact k1
  have k2 : DataW.trod enc Tryz.prog w base spare held n 36 [q2, q3, q4] = some a2 := by rw [c3] at k2; exact k2
  obtain ⟨m0, m1, m2, n3, _, l0, l1, l2⟩ := trodA3 Tryz.underlying36 k2
  have l0 : DataW.trod enc Tryz.prog w base spare held n3 3 [q2] = some m0 := by rw [ci] at l0; exact l0
  have l1 : DataW.trod enc Tryz.prog w base spare held n3 34 [q3] = some m1 := by rw [cu] at l1; exact l1
  have l2 : DataW.trod enc Tryz.prog w base spare held n3 3 [q4] = some m2 := by rw [ci] at l2; exact l2
  obtain ⟨z0, e0, _, w0⟩ := DataW.trod_int Tryz.underlying34 k0
  obtain ⟨z1, e1, _, w1⟩ := DataW.trod_int Tryz.underlying34 k1
  obtain ⟨z2, e2, _, w2⟩ := DataW.trod_int Tryz.underlying3 l0
  obtain ⟨z3, e3, _, w3⟩ := DataW.trod_int Tryz.underlying34 l1
  obtain ⟨z4, e4, _, w4⟩ := DataW.trod_int Tryz.underlying3 l2
  simp only [List.cons.injEq, and_true] at e0 e1 e2 e3 e4
  subst e0 e1 e2 e3 e4
  have b0 := bounds_u64 w0
  have b1 := bounds_u64 w1
  have b2 := bounds_i64 w2
  have b3 := bounds_u64 w3
  have b4 := bounds_i64 w4
  obtain ⟨y0, rfl⟩ : ∃ s : Nat, z0 = s := ⟨z0.toNat, by omega⟩
  obtain ⟨y1, rfl⟩ : ∃ s : Nat, z1 = s := ⟨z1.toNat, by omega⟩
  obtain ⟨y3, rfl⟩ : ∃ s : Nat, z3 = s := ⟨z3.toNat, by omega⟩
  exact ⟨⟨y0, y1, z2, y3, z4⟩, rfl, ⟨by show y0 < _; omega, by show y1 < _; omega, b2.1, b2.2, by show y3 < _; omega, b4.1, b4.2⟩⟩
set_option maxRecDepth 100000 in
theorem open_geo {H : Type} {enc : TypeId × Value → H} {w : World} {base : Nat} {spare : Nat → Bool} {held : Bool} {r : Reach} {b0 : Nat} {v : Value} {d : DataW H} {p : List MemPlace}
    (hv : Value.okWide Tryz.prog w r b0 23 v) (h : DataW.Trod enc Tryz.prog w base spare held 23 v d p) : ∃ g : Geo, v = g.val ∧ g.Wf := by
  obtain ⟨v0, v1, v2, v3, y0, y1, y2, y3, n, rfl, rfl, rfl, h0, h1, h2, h3⟩ := open_agg4 Tryz.underlying23 (by kernel_rfl) (by kernel_rfl) hv h
  obtain ⟨z0, e0, _, w0⟩ := DataW.trod_int Tryz.underlying3 h0
  obtain ⟨z1, e1, _, w1⟩ := DataW.trod_int Tryz.underlying3 h1
  obtain ⟨z2, e2, _, w2⟩ := DataW.trod_int Tryz.underlying3 h2
  obtain ⟨z3, e3, _, w3⟩ := DataW.trod_int Tryz.underlying3 h3
  simp only [List.cons.injEq, and_true] at e0 e1 e2 e3
  subst e0 e1 e2 e3
  have b0 := bounds_i64 w0
  have b1 := bounds_i64 w1
  have b2 := bounds_i64 w2
  have b3 := bounds_i64 w3
  exact ⟨⟨z0, z1, z2, z3⟩, rfl, ⟨b0.1, b0.2, b1.1, b1.2, b2.1, b2.2, b3.1, b3.2⟩⟩
end Go.Proofs.YtoekaabngjjefaaGreat
