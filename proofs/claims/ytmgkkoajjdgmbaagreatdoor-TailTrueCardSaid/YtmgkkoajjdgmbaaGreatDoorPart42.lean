/- A slice of steps that came in, opened: what to do, two whole numbers, a text. -/
import Derived.Test.YtmgkkoajjdgmbaaGreatDoorPart0
import Derived.Deep.Slices
import Derived.Deep.Strs
import Derived.ChangeArms
import Derived.OpenShut
set_option linter.unusedVariables false
set_option linter.unusedSimpArgs false
set_option linter.unusedSectionVars false
set_option linter.unnecessarySimpa false
set_option linter.deprecated false
namespace Go.Proofs.YtmgkkoajjdgmbaaGreatDoor
open Go.RowKit Go.Deep
/-- One step: what to do, the drive, the sector, the text. -/
structure Stp where
  op : Int
  d : Int
  s : Int
  t : ByteArray
/-- What element i of such a slice at block b from o on is. -/
def StpAt (w : World) (b o i : Nat) (z : Stp) : Prop :=
  w.cell? ⟨b, o + i * 4, none⟩ = some (.int .u8 z.op) ∧ w.cell? ⟨b, o + i * 4 + 1, none⟩ = some (.int .i64 z.d) ∧ w.cell? ⟨b, o + i * 4 + 2, none⟩ = some (.int .i64 z.s) ∧ w.cell? ⟨b, o + i * 4 + 3, none⟩ = some (.string z.t) ∧
    (0 ≤ z.op ∧ z.op ≤ 255) ∧ (-9223372036854775808 ≤ z.d ∧ z.d ≤ 9223372036854775807) ∧ (-9223372036854775808 ≤ z.s ∧ z.s ≤ 9223372036854775807) ∧ z.t.size ≤ maxLen
/-- A slice of such. -/
def IsSteps (w : World) (a : Option Addr) (len cap : Nat) (zs : List Stp) : Prop :=
  (a = none ∧ len = 0 ∧ cap = 0 ∧ zs = []) ∨
  ∃ p, a = some p ∧ len ≤ cap ∧ cap ≤ maxLen ∧ zs.length = len ∧ ∀ (i : Nat) (h : i < zs.length), p.spot = none ∧ StpAt w p.block p.off i zs[i]
theorem list_of {α : Type} (Q : Nat → α → Prop) (n : Nat) (h : ∀ i, i < n → ∃ z, Q i z) : ∃ zs : List α, zs.length = n ∧ ∀ (i : Nat) (hi : i < zs.length), Q i zs[i] := by
  induction n with
  | zero => exact ⟨[], rfl, fun i hi => by simp at hi⟩
  | succ n ih =>
    obtain ⟨zs, hl, hq⟩ := ih (fun i hi => h i (by omega))
    obtain ⟨z, hz⟩ := h n (by omega)
    refine ⟨zs ++ [z], by simp [hl], fun i hi => ?_⟩
    rw [List.length_append, List.length_singleton] at hi
    rcases Nat.lt_or_ge i zs.length with h1 | h1
    · rw [List.getElem_append_left h1]
      exact hq i h1
    · obtain rfl : i = n := by omega
      rw [List.getElem_append_right h1]
      simpa using hz
theorem one_cell {P : Program} {H : Type} {enc : TypeId × Value → H} {w : World} {base : Nat} {spare : Nat → Bool} {held : Bool} {n : Nat} {k : IntKind} {t : TypeId} {cs : List Value} {y : DataW H × List MemPlace} (o : Nat) (ht : P.underlying t = some (.int k)) (hc : P.cellsOf t = 1)
    (h : DataW.trod enc P w base spare held n t ((cs.drop o).take (P.cellsOf t)) = some y) : ∃ z, cs[o]? = some (.int k z) ∧ (Lit.int k z).wf = true := by
  obtain ⟨z, h1, _, h2⟩ := DataW.trod_int ht h
  rw [hc] at h1
  refine ⟨z, ?_, h2⟩
  have h3 := congrArg (fun l => l[0]?) h1
  simpa [List.getElem?_take, List.getElem?_drop] using h3
theorem wf_i64 {x : Int} (h : (Lit.int .i64 x).wf = true) : -9223372036854775808 ≤ x ∧ x ≤ 9223372036854775807 := by
  have := bounds_i64 h
  omega
theorem trod4 {P : Program} {H : Type} {enc : TypeId × Value → H} {w : World} {base : Nat} {spare : Nat → Bool} {held : Bool} {t : TypeId} {f0 f1 f2 f3 : Field} {fuel : Nat} {cs : List Value} {x : DataW H × List MemPlace} (ht : P.underlying t = some (.struct #[f0, f1, f2, f3])) (h : DataW.trod enc P w base spare held fuel t cs = some x) :
    ∃ y0 y1 y2 y3 n, cs.length = P.cellsOf t ∧ DataW.trod enc P w base spare held n f0.type ((cs.drop f0.offset).take (P.cellsOf f0.type)) = some y0 ∧ DataW.trod enc P w base spare held n f1.type ((cs.drop f1.offset).take (P.cellsOf f1.type)) = some y1 ∧
      DataW.trod enc P w base spare held n f2.type ((cs.drop f2.offset).take (P.cellsOf f2.type)) = some y2 ∧ DataW.trod enc P w base spare held n f3.type ((cs.drop f3.offset).take (P.cellsOf f3.type)) = some y3 := by
  obtain ⟨xs, n, _, rfl, hl, hlen, hf⟩ := DataW.trod_struct ht h
  match xs, hlen with
  | [y0, y1, y2, y3], _ => exact ⟨y0, y1, y2, y3, n, hl, by simpa using hf 0 f0 rfl, by simpa using hf 1 f1 rfl, by simpa using hf 2 f2 rfl, by simpa using hf 3 f3 rfl⟩
theorem one_text {P : Program} {H : Type} {enc : TypeId × Value → H} {w : World} {base : Nat} {spare : Nat → Bool} {held : Bool} {n : Nat} {t : TypeId} {cs : List Value} {y : DataW H × List MemPlace} (o : Nat) (ht : P.underlying t = some .string) (hc : P.cellsOf t = 1)
    (h : DataW.trod enc P w base spare held n t ((cs.drop o).take (P.cellsOf t)) = some y) : ∃ z, cs[o]? = some (.string z) ∧ z.size ≤ maxLen := by
  obtain ⟨z, h1, _, h2⟩ := DataW.trod_string ht h
  rw [hc] at h1
  refine ⟨z, ?_, h2⟩
  have h3 := congrArg (fun l => l[0]?) h1
  simpa [List.getElem?_take, List.getElem?_drop] using h3
theorem open_steps {P : Program} {H : Type} {enc : TypeId × Value → H} {w : World} {base : Nat} {spare : Nat → Bool} {held : Bool} {fuel : Nat} {t e : TypeId} {f0 f1 f2 f3 : Field} {a : Option Addr} {len cap : Nat} {x : DataW H × List MemPlace}
    (ht : P.underlying t = some (.slice e)) (he : P.underlying e = some (.struct #[f0, f1, f2, f3])) (hC : P.cellsOf e = 4)
    (o0 : f0.offset = 0) (o1 : f1.offset = 1) (o2 : f2.offset = 2) (o3 : f3.offset = 3) (c0 : P.cellsOf f0.type = 1) (c1 : P.cellsOf f1.type = 1) (c2 : P.cellsOf f2.type = 1) (c3 : P.cellsOf f3.type = 1)
    (k0 : P.underlying f0.type = some (.int .u8)) (k1 : P.underlying f1.type = some (.int .i64)) (k2 : P.underlying f2.type = some (.int .i64)) (k3 : P.underlying f3.type = some .string)
    (h : DataW.trod enc P w base spare held fuel t [.slice a len cap] = some x) : ∃ zs, IsSteps w a len cap zs := by
  rcases open_slice ht h with ⟨hcs, _⟩ | ⟨p, l, c, m, n, D, Pl, hcs, hb, hl, hm, hmm, _, hi⟩
  · simp at hcs
    obtain ⟨rfl, rfl, rfl⟩ := hcs
    exact ⟨[], .inl ⟨rfl, rfl, rfl, rfl⟩⟩
  · simp at hcs
    obtain ⟨rfl, rfl, rfl⟩ := hcs
    have hlm : len ≤ m := by rw [hmm]; split <;> omega
    have hz : ∀ i, i < len → ∃ z : Stp, p.spot = none ∧ StpAt w p.block p.off i z := by
      intro i hil
      have hspot : p.spot = none := by
        obtain ⟨cs', hc, _⟩ := hi 0 (by omega)
        rw [hC] at hc
        obtain ⟨_, hcl, hat⟩ := World.cells?_some hc
        have d0 := hat 0 (by omega)
        rw [add_add, List.getElem?_eq_getElem (by omega)] at d0
        have := World.cell?_spot d0
        simpa [Addr.add] using this
      obtain ⟨cs', hc, ht'⟩ := hi i (by omega)
      rw [hC] at hc
      obtain ⟨_, hcl, hat⟩ := World.cells?_some hc
      obtain ⟨y0, y1, y2, y3, n', _, g0, g1, g2, g3⟩ := trod4 he ht'
      rw [o0] at g0
      rw [o1] at g1
      rw [o2] at g2
      rw [o3] at g3
      obtain ⟨z0, e0, v0⟩ := one_cell 0 k0 c0 g0
      obtain ⟨z1, e1, v1⟩ := one_cell 1 k1 c1 g1
      obtain ⟨z2, e2, v2⟩ := one_cell 2 k2 c2 g2
      obtain ⟨z3, e3, v3⟩ := one_text 3 k3 c3 g3
      have d0 := (hat 0 (by omega)).trans e0
      have d1 := (hat 1 (by omega)).trans e1
      have d2 := (hat 2 (by omega)).trans e2
      have d3 := (hat 3 (by omega)).trans e3
      obtain ⟨b, o, spot⟩ := p
      dsimp only at hspot
      subst hspot
      rw [add_add, Go.WideShapes.add_plain] at d0 d1 d2 d3
      exact ⟨⟨z0, z1, z2, z3⟩, rfl, d0, d1, d2, d3, by have := bounds_u8 v0; show _ ∧ _; omega, wf_i64 v1, wf_i64 v2, v3⟩
    obtain ⟨zs, hzl, hzq⟩ := list_of (fun i z => p.spot = none ∧ StpAt w p.block p.off i z) len hz
    exact ⟨zs, .inr ⟨p, rfl, hl, hm, hzl, hzq⟩⟩
end Go.Proofs.YtmgkkoajjdgmbaaGreatDoor
