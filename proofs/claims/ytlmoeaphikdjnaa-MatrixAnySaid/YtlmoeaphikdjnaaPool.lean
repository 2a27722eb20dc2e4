/- Plain facts: numbers that are taken, one by one, out of those below n. Nothing here names the program. -/
import Derived.Test.YtlmoeaphikdjnaaInts
namespace Go.Proofs.Ytlmoeaphikdjnaa
set_option linter.unusedVariables false
/-- R was taken, F is left. -/
def Pool (n : Nat) (R F : List Int) : Prop := (R ++ F).Nodup ∧ ∀ x ∈ R ++ F, 0 ≤ x ∧ x < (n : Int)
def below0 (n : Nat) : List Int := (List.range n).map fun (i : Nat) => (i : Int)
theorem below0_length (n : Nat) : (below0 n).length = n := by simp [below0]
theorem nthI_below0 (n i : Nat) (h : i < n) : nthI (below0 n) i = (i : Int) := by
  rw [← nthI_get _ i (by rw [below0_length]; exact h)]
  simp [below0]
theorem pool_start (n : Nat) : Pool n [] (below0 n) := by
  refine ⟨?_, fun x hx => ?_⟩
  · rw [List.nil_append]
    unfold below0
    rw [List.Nodup, List.pairwise_map]
    exact List.Pairwise.imp (fun h e => h (by omega)) (List.nodup_range (n := n))
  · rw [List.nil_append] at hx
    unfold below0 at hx
    obtain ⟨i, hi, rfl⟩ := List.mem_map.1 hx
    have := List.mem_range.1 hi
    omega
theorem pool_next {n : Nat} {R F : List Int} (h : Pool n R F) (a : Nat) (ha : a < F.length) : Pool n (R ++ [nthI F a]) (F.take a ++ F.drop (a + 1)) := by
  have hp : (R ++ F).Perm ((R ++ [nthI F a]) ++ (F.take a ++ F.drop (a + 1))) := by
    rw [List.append_assoc]
    refine List.Perm.append_left R ?_
    rw [← nthI_get F a ha]
    have h2 : F = F.take a ++ F[a] :: F.drop (a + 1) := by rw [← List.drop_eq_getElem_cons ha, List.take_append_drop]
    have h3 : (F.take a ++ F[a] :: F.drop (a + 1)).Perm (F[a] :: (F.take a ++ F.drop (a + 1))) := List.perm_middle
    rw [← h2] at h3
    exact h3
  exact ⟨hp.nodup_iff.1 h.1, fun x hx => h.2 x (hp.mem_iff.2 hx)⟩
theorem pool_end {n : Nat} {R F : List Int} (h : Pool n R F) : (∀ r ∈ R, 0 ≤ r ∧ r < (n : Int)) ∧ ∀ i j, i < R.length → j < R.length → nthI R i = nthI R j → i = j := by
  refine ⟨fun r hr => h.2 r (List.mem_append_left _ hr), fun i j hi hj e => ?_⟩
  have hn : R.Nodup := (List.nodup_append.1 h.1).1
  rw [← nthI_get R i hi, ← nthI_get R j hj] at e
  have h3 := List.pairwise_iff_getElem.1 hn
  rcases Nat.lt_trichotomy i j with h | h | h
  · exact absurd e (h3 i j hi hj h)
  · exact h
  · exact absurd e.symm (h3 j i hj hi h)
theorem nthI_take (F : List Int) (a i : Nat) (h : i < a) (hF : a ≤ F.length) : nthI (F.take a) i = nthI F i := by
  rw [← nthI_get (F.take a) i (by rw [List.length_take]; omega), List.getElem_take, nthI_get F i (by omega)]
theorem nthI_drop (F : List Int) (a i : Nat) (h : a + i < F.length) : nthI (F.drop a) i = nthI F (a + i) := by
  rw [← nthI_get (F.drop a) i (by rw [List.length_drop]; omega), List.getElem_drop, nthI_get F _ h]
theorem nthI_set (R : List Int) (x : Int) (i : Nat) (h : i < R.length) : nthI (R.set 0 x) i = if i = 0 then x else nthI R i := by
  rw [← nthI_get (R.set 0 x) i (by rw [List.length_set]; exact h), List.getElem_set]
  by_cases e : i = 0
  · rw [if_pos e.symm, if_pos e]
  · rw [if_neg (fun h => e h.symm), if_neg e, nthI_get R i h]
end Go.Proofs.Ytlmoeaphikdjnaa
