/- A slice of structs of three whole numbers that came in, opened. -/
import Derived.Test.YtdbhplahmnlgnaaKept
import Derived.Deep.Slices
import Derived.Deep.Strs
import Derived.ChangeArms
import Derived.OpenShut
namespace Go.Proofs.Ytdbhplahmnlgnaa
open Go.RowKit Go.Deep
/-- One call that is asked for: what to do, the number, the length. -/
structure Asked where
  d : Int
  m : Int
  n : Int
/-- What element i of such a slice at block b from o on is. -/
def AskAt (w : World) (b o i : Nat) (z : Asked) : Prop :=
  w.cell? ⟨b, o + i * 3, none⟩ = some (.int .u8 z.d) ∧ w.cell? ⟨b, o + i * 3 + 1, none⟩ = some (.int .u64 z.m) ∧ w.cell? ⟨b, o + i * 3 + 2, none⟩ = some (.int .i64 z.n) ∧
    (0 ≤ z.d ∧ z.d ≤ 255) ∧ (0 ≤ z.m ∧ z.m ≤ 18446744073709551615) ∧ -9223372036854775808 ≤ z.n ∧ z.n ≤ 9223372036854775807
/-- A slice of such. -/
def IsAsks (w : World) (a : Option Addr) (len cap : Nat) (zs : List Asked) : Prop :=
  (a = none ∧ len = 0 ∧ cap = 0 ∧ zs = []) ∨
  ∃ p, a = some p ∧ len ≤ cap ∧ cap ≤ maxLen ∧ zs.length = len ∧ ∀ (i : Nat) (h : i < zs.length), p.spot = none ∧ AskAt w p.block p.off i zs[i]
theorem list_of {α : Type} (Q : Nat → α → Prop) (n : Nat) (h : ∀ i, i < n → ∃ z, Q i z) : ∃ zs : List α, zs.length = n ∧ ∀ (i : Nat) (hi : i < zs.length), Q i zs[i] := by
  induction n with
  | zero => exact ⟨[], rfl, fun i hi => by simp at hi⟩
  | succ n ih =>
    obtain ⟨zs, hl, hq⟩ := ih (fun i hi => h i (by omega))
    obtain ⟨z, hz⟩ := h n (by omega)
    refine ⟨zs ++ [z], by simp [hl], fun i hi => ?_⟩
    rw [List.length_append, List.length_singleton] at hi
    rcases Nat.lt_or_ge i zs.length with h1 | h1
    · rw [List.getElem_append_left h1]
      exact hq i h1
    · obtain rfl : i = n := by omega
      rw [List.getElem_append_right h1]
      simpa using hz
theorem one_cell {P : Program} {H : Type} {enc : TypeId × Value → H} {w : World} {base : Nat} {spare : Nat → Bool} {held : Bool} {n : Nat} {k : IntKind} {t : TypeId} {cs : List Value} {y : DataW H × List MemPlace} (o : Nat) (ht : P.underlying t = some (.int k)) (hc : P.cellsOf t = 1)
    (h : DataW.trod enc P w base spare held n t ((cs.drop o).take (P.cellsOf t)) = some y) : ∃ z, cs[o]? = some (.int k z) ∧ (Lit.int k z).wf = true := by
  obtain ⟨z, h1, _, h2⟩ := DataW.trod_int ht h
  rw [hc] at h1
  refine ⟨z, ?_, h2⟩
  have h3 := congrArg (fun l => l[0]?) h1
  simpa [List.getElem?_take, List.getElem?_drop] using h3
theorem wf_i64 {x : Int} (h : (Lit.int .i64 x).wf = true) : -9223372036854775808 ≤ x ∧ x ≤ 9223372036854775807 := by
  have := bounds_i64 h
  omega
theorem open_asks {P : Program} {H : Type} {enc : TypeId × Value → H} {w : World} {base : Nat} {spare : Nat → Bool} {held : Bool} {fuel : Nat} {t e : TypeId} {f0 f1 f2 : Field} {a : Option Addr} {len cap : Nat} {x : DataW H × List MemPlace}
    (ht : P.underlying t = some (.slice e)) (he : P.underlying e = some (.struct #[f0, f1, f2])) (hC : P.cellsOf e = 3)
    (o0 : f0.offset = 0) (o1 : f1.offset = 1) (o2 : f2.offset = 2) (c0 : P.cellsOf f0.type = 1) (c1 : P.cellsOf f1.type = 1) (c2 : P.cellsOf f2.type = 1)
    (k0 : P.underlying f0.type = some (.int .u8)) (k1 : P.underlying f1.type = some (.int .u64)) (k2 : P.underlying f2.type = some (.int .i64))
    (h : DataW.trod enc P w base spare held fuel t [.slice a len cap] = some x) : ∃ zs, IsAsks w a len cap zs := by
  rcases open_slice ht h with ⟨hcs, _⟩ | ⟨p, l, c, m, n, D, Pl, hcs, hb, hl, hm, hmm, _, hi⟩
  · simp at hcs
    obtain ⟨rfl, rfl, rfl⟩ := hcs
    exact ⟨[], .inl ⟨rfl, rfl, rfl, rfl⟩⟩
  · simp at hcs
    obtain ⟨rfl, rfl, rfl⟩ := hcs
    have hlm : len ≤ m := by rw [hmm]; split <;> omega
    have hz : ∀ i, i < len → ∃ z : Asked, p.spot = none ∧ AskAt w p.block p.off i z := by
      intro i hil
      have hspot : p.spot = none := by
        obtain ⟨cs', hc, _⟩ := hi 0 (by omega)
        rw [hC] at hc
        obtain ⟨_, hcl, hat⟩ := World.cells?_some hc
        have d0 := hat 0 (by omega)
        rw [add_add, List.getElem?_eq_getElem (by omega)] at d0
        have := World.cell?_spot d0
        simpa [Addr.add] using this
      obtain ⟨cs', hc, ht'⟩ := hi i (by omega)
      rw [hC] at hc
      obtain ⟨_, hcl, hat⟩ := World.cells?_some hc
      obtain ⟨y0, y1, y2, n', _, _, g0, g1, g2⟩ := trod_struct3 he ht'
      rw [o0] at g0
      rw [o1] at g1
      rw [o2] at g2
      obtain ⟨z0, e0, v0⟩ := one_cell 0 k0 c0 g0
      obtain ⟨z1, e1, v1⟩ := one_cell 1 k1 c1 g1
      obtain ⟨z2, e2, v2⟩ := one_cell 2 k2 c2 g2
      have d0 := (hat 0 (by omega)).trans e0
      have d1 := (hat 1 (by omega)).trans e1
      have d2 := (hat 2 (by omega)).trans e2
      obtain ⟨b, o, spot⟩ := p
      dsimp only at hspot
      subst hspot
      rw [add_add, Go.WideShapes.add_plain] at d0 d1 d2
      exact ⟨⟨z0, z1, z2⟩, rfl, d0, d1, d2, by have := bounds_u8 v0; show _ ∧ _; omega, by have := bounds_u64 v1; show _ ∧ _; omega, wf_i64 v2⟩
    obtain ⟨zs, hzl, hzq⟩ := list_of (fun i z => p.spot = none ∧ AskAt w p.block p.off i z) len hz
    exact ⟨zs, .inr ⟨p, rfl, hl, hm, hzl, hzq⟩⟩
end Go.Proofs.Ytdbhplahmnlgnaa
