/- What a walk is told of a slice of 64-bit numbers, as numbers. -/
import Derived.Test.YtdbhplahmnlgnaaShapes
import Derived.OpenShut
namespace Go.Proofs.Ytdbhplahmnlgnaa
open Go.RowKit
/-- The numbers of a slice lie there. -/
def U64s (w : World) (a : Option Addr) (xs : List Nat) : Prop :=
  (xs = [] ∨ ∃ b o, a = some ⟨b, o, none⟩ ∧ ∀ i, i < xs.length → w.cell? ⟨b, o + i, none⟩ = some (.int .u64 ((xs.getD i 0 : Nat) : Int))) ∧ ∀ x ∈ xs, x < 18446744073709551616
theorem U64s.kept {w w' : World} {a : Option Addr} {xs : List Nat} (h : U64s w a xs) (k : Kept w w') : U64s w' a xs := by
  refine ⟨?_, h.2⟩
  rcases h.1 with h | ⟨b, o, ha, h⟩
  · exact .inl h
  · refine .inr ⟨b, o, ha, fun i hi => ?_⟩
    have hc := h i hi
    rw [← hc]
    exact Below.cell k (block_lt_of_cell hc)
theorem u64s_new (w : World) (cs : Array Value) (t : TypeId) (xs : List Nat) (h : ∀ i, i < xs.length → cs[i]? = some (.int .u64 ((xs.getD i 0 : Nat) : Int))) (hb : ∀ x ∈ xs, x < 18446744073709551616) : U64s (w.alloc (.cells cs t)) (some ⟨w.heap.size, 0, none⟩) xs := by
  refine ⟨.inr ⟨_, _, rfl, fun i hi => ?_⟩, hb⟩
  rw [Nat.zero_add, World.cell?_alloc_mark, h i hi]
theorem wf_u64 {x : Int} (h : (Lit.int .u64 x).wf = true) : 0 ≤ x ∧ x ≤ 18446744073709551615 := by
  have := bounds_u64 h
  omega
theorem IsRow.u64s {w : World} {a : Option Addr} {len cap : Nat} {zs : List Int} (h : IsRow .u64 w a len cap zs) : ∃ xs : List Nat, xs.length = len ∧ U64s w a xs := by
  rcases h with ⟨rfl, rfl, rfl, rfl⟩ | ⟨x, rfl, hl, hm, hz, hc, hs⟩
  · exact ⟨[], rfl, .inl rfl, fun x hx => by simp at hx⟩
  · refine ⟨(zs.take len).map Int.toNat, by rw [List.length_map, List.length_take]; omega, ?_, ?_⟩
    · rcases Nat.eq_zero_or_pos len with h0 | h0
      · left; rw [h0]; simp
      · right
        obtain ⟨b, off, spot⟩ := x
        have hspot : spot = none := by simpa [Addr.add] using World.cell?_spot (hc 0 (by omega))
        subst hspot
        refine ⟨b, off, rfl, fun i hi => ?_⟩
        rw [List.length_map, List.length_take] at hi
        have h1 := hc i (by omega)
        rw [Go.WideShapes.add_plain] at h1
        rw [h1]
        have hi2 : i < zs.length := by omega
        have hw := wf_u64 (hs zs[i] (List.getElem_mem hi2))
        have e1 : zs.getD i 0 = zs[i] := by rw [List.getD_eq_getElem?_getD, List.getElem?_eq_getElem hi2]; rfl
        have e2 : ((zs.take len).map Int.toNat).getD i 0 = zs[i].toNat := by
          rw [List.getD_eq_getElem?_getD, List.getElem?_map, List.getElem?_take_of_lt (by omega), List.getElem?_eq_getElem hi2]; rfl
        rw [e1, e2, Int.toNat_of_nonneg hw.1]
    · intro x hx
      obtain ⟨z, hz1, rfl⟩ := List.mem_map.1 hx
      have hw := wf_u64 (hs z (List.mem_of_mem_take hz1))
      omega
end Go.Proofs.Ytdbhplahmnlgnaa
