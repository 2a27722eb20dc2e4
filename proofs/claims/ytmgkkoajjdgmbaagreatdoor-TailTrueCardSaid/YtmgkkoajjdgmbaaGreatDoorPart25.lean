/- What a walk is told of a slice of numbers of some kind. -/
import Derived.Test.YtmgkkoajjdgmbaaGreatDoorPart1
import Derived.OpenShut
set_option linter.unusedVariables false
set_option linter.unusedSimpArgs false
set_option linter.unusedSectionVars false
set_option linter.unnecessarySimpa false
set_option linter.deprecated false
namespace Go.Proofs.YtmgkkoajjdgmbaaGreatDoor
open Go.RowKit
set_option linter.unusedVariables false
def nthI (rs : List Int) (i : Nat) : Int := rs.getD i 0
/-- The numbers of a slice lie there. -/
def Ints (k : IntKind) (w : World) (a : Option Addr) (rs : List Int) : Prop :=
  rs = [] ∨ ∃ b o, a = some ⟨b, o, none⟩ ∧ ∀ i, i < rs.length → w.cell? ⟨b, o + i, none⟩ = some (.int k (nthI rs i))
theorem Ints.kept {k : IntKind} {w w' : World} {a : Option Addr} {rs : List Int} (h : Ints k w a rs) (kp : Kept w w') : Ints k w' a rs := by
  rcases h with h | ⟨b, o, ha, h⟩
  · exact .inl h
  · refine .inr ⟨b, o, ha, fun i hi => ?_⟩
    have hc := h i hi
    rw [← hc]
    exact Below.cell kp (block_lt_of_cell hc)
theorem ints_at {k : IntKind} {w : World} {a : Option Addr} {rs : List Int} (hS : Ints k w a rs) : ∃ b o, 0 < rs.length → a = some ⟨b, o, none⟩ ∧ ∀ i, i < rs.length → w.cell? ⟨b, o + i, none⟩ = some (.int k (nthI rs i)) := by
  rcases hS with rfl | ⟨b, o, h1, h2⟩
  · exact ⟨0, 0, fun h => absurd h (by simp)⟩
  · exact ⟨b, o, fun _ => ⟨h1, h2⟩⟩
theorem nthI_get (rs : List Int) (i : Nat) (h : i < rs.length) : rs[i] = nthI rs i := by unfold nthI; rw [List.getD_eq_getElem?_getD, List.getElem?_eq_getElem h]; rfl
theorem IsRow.ints {k : IntKind} {w : World} {a : Option Addr} {len cap : Nat} {zs : List Int} (h : IsRow k w a len cap zs) : Ints k w a (zs.take len) ∧ (zs.take len).length = len ∧ len ≤ maxLen ∧ ∀ n ∈ zs.take len, (Lit.int k n).wf = true := by
  rcases h with ⟨rfl, rfl, rfl, rfl⟩ | ⟨x, rfl, hl, hm, hz, hc, hs⟩
  · exact ⟨.inl rfl, rfl, Nat.zero_le _, fun s hs => by simp at hs⟩
  · refine ⟨?_, by rw [List.length_take]; omega, by omega, fun s h => hs s (List.mem_of_mem_take h)⟩
    rcases Nat.eq_zero_or_pos len with h0 | h0
    · left; rw [h0]; simp
    · right
      obtain ⟨b, off, spot⟩ := x
      have hspot : spot = none := by simpa [Addr.add] using World.cell?_spot (hc 0 (by omega))
      subst hspot
      refine ⟨b, off, rfl, fun i hi => ?_⟩
      rw [List.length_take] at hi
      have h1 := hc i (by omega)
      rw [Go.WideShapes.add_plain] at h1
      rw [h1]
      unfold nthI
      congr 2
      simp [List.getD, List.getElem?_take_of_lt (show i < len by omega)]
end Go.Proofs.YtmgkkoajjdgmbaaGreatDoor
