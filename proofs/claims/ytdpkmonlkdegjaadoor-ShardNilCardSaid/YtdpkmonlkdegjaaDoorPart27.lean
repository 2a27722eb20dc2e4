/- A shard that came in by value, opened; and shut again. -/
import Derived.Test.YtdpkmonlkdegjaaDoorPart21
import Derived.Lib.SmallJoins
import Derived.OpenShut
import Derived.ShutString
namespace Go.Proofs.YtdpkmonlkdegjaaDoor
open Go.ChangeShapes Go.WideShapes Go.ChangeAt Go.RowKit Go.Joins Go.Deep
open Go.ChangeMaps (open_string shut_string)
set_option linter.unusedVariables false
def shdD {H : Type} (x : Shd) : DataW H := .agg [.lit (.int .u64 (x.st : Nat)), .lit (.int .i64 x.ix), .lit (.int .i64 x.tt), .lit (.string x.t.data.toList)]
theorem open_shd {P : Program} {H : Type} {enc : TypeId × Value → H} {w : World} {base : Nat} {spare : Nat → Bool} {held : Bool} {r : Reach} {b0 : Nat} {t : TypeId} {f0 f1 f2 f3 : Field} {v : Value} {d : DataW H} {p : List MemPlace}
    (hs : P.underlying t = some (.struct #[f0, f1, f2, f3])) (hone : oneCellFields P #[f0, f1, f2, f3] = true) (hC : P.cellsOf t = 4)
    (k0 : P.underlying f0.type = some (.int .u64)) (k1 : P.underlying f1.type = some (.int .i64)) (k2 : P.underlying f2.type = some (.int .i64)) (k3 : P.underlying f3.type = some .string)
    (hv : Value.okWide P w r b0 t v) (h : DataW.Trod enc P w base spare held t v d p) :
    ∃ x : Shd, v = x.val ∧ d = shdD x ∧ p = [] ∧ (x.Wf ∧ x.t.size ≤ maxLen) := by
  obtain ⟨v0, v1, v2, v3, y0, y1, y2, y3, n, rfl, rfl, rfl, h0, h1, h2, h3⟩ := open_agg4 hs hone hC hv h
  obtain ⟨z0, e0, rfl, w0⟩ := DataW.trod_int k0 h0
  obtain ⟨z1, e1, rfl, w1⟩ := DataW.trod_int k1 h1
  obtain ⟨z2, e2, rfl, w2⟩ := DataW.trod_int k2 h2
  obtain ⟨z3, e3, rfl, w3⟩ := DataW.trod_string k3 h3
  simp only [List.cons.injEq, and_true] at e0 e1 e2 e3
  subst e0 e1 e2 e3
  have b0 := bounds_u64 w0
  have b1 := bounds_i64 w1
  have b2 := bounds_i64 w2
  obtain ⟨st, rfl⟩ : ∃ st : Nat, z0 = st := ⟨z0.toNat, by omega⟩
  exact ⟨⟨st, z1, z2, z3⟩, rfl, rfl, rfl, ⟨by show st < _; omega, by show _ ≤ z1; omega, by show z1 ≤ _; omega, by show _ ≤ z2; omega, by show z2 ≤ _; omega⟩, w3⟩
theorem wf_of_i64 {x : Int} (h1 : -9223372036854775808 ≤ x) (h2 : x ≤ 9223372036854775807) : (Lit.int .i64 x).wf = true := by
  simp [Lit.wf, IntKind.min, IntKind.max, IntKind.signed, IntKind.bits]
  omega
theorem wf_of_u64 {x : Nat} (h2 : x < 18446744073709551616) : (Lit.int .u64 (x : Int)).wf = true := by
  simp [Lit.wf, IntKind.min, IntKind.max, IntKind.signed, IntKind.bits]
  omega
theorem shut_shd {P : Program} {H : Type} {enc : TypeId × Value → H} {w : World} {base : Nat} {spare : Nat → Bool} {held : Bool} {t : TypeId} {f0 f1 f2 f3 : Field} {x : Shd}
    (hs : P.underlying t = some (.struct #[f0, f1, f2, f3])) (hone : oneCellFields P #[f0, f1, f2, f3] = true) (hC : P.cellsOf t = 4)
    (k0 : P.underlying f0.type = some (.int .u64)) (k1 : P.underlying f1.type = some (.int .i64)) (k2 : P.underlying f2.type = some (.int .i64)) (k3 : P.underlying f3.type = some .string)
    (hw : x.Wf ∧ x.t.size ≤ maxLen) : DataW.Trod enc P w base spare held t x.val (shdD x) [] := by
  have h := shut_agg4 (enc := enc) (w := w) (base := base) (spare := spare) (held := held) hs hone hC
    (field_of_Trod (shut_int (n := (x.st : Int)) k0 (wf_of_u64 hw.1.st)) rfl) (field_of_Trod (shut_int (n := x.ix) k1 (wf_of_i64 hw.1.ix1 hw.1.ix2)) rfl)
    (field_of_Trod (shut_int (n := x.tt) k2 (wf_of_i64 hw.1.tt1 hw.1.tt2)) rfl) (field_of_Trod (shut_string (s := x.t) k3 hw.2) rfl)
  exact h
end Go.Proofs.YtdpkmonlkdegjaaDoor
