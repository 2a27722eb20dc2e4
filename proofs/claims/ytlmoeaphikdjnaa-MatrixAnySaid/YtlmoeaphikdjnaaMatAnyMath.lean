/- Plain facts for MatrixAny: of the unit with Cauchy's rows below it each choice of different rows can be undone, and none in which a row stands twice. -/
import Derived.Test.YtlmoeaphikdjnaaMatUnitsMath
import Derived.Test.YtlmoeaphikdjnaaCauchy
namespace Go.Proofs.Ytlmoeaphikdjnaa
open Go.RowKit Gf
set_option linter.unusedVariables false
theorem any_mat (k q : Nat) (h1 : 1 ≤ k) (h2 : k ≤ 12) (h3 : 1 ≤ q) (h4 : q ≤ 12) :
    cauE (q : Nat) (k : Nat) = 0 ∧ belE (unitL (k : Nat)) (cauL (q : Nat) (k : Nat)) = 0 ∧ belL (unitL (k : Nat)) (cauL (q : Nat) (k : Nat)) = matL (k + q) k (below k) := by
  have hc : cauE (q : Nat) (k : Nat) = 0 := by unfold cauE; rw [if_pos (by omega)]
  have hcl : cauL (q : Nat) (k : Nat) = matL q k (fun i j => gi (UInt8.ofNat (k + i) ^^^ UInt8.ofNat j)) := by unfold cauL; rw [if_pos hc]; rfl
  rw [unit_is k h1 (by omega), hcl]
  have hb : belE (matL k k un) (matL q k (fun i j => gi (UInt8.ofNat (k + i) ^^^ UInt8.ofNat j))) = 0 := by
    unfold belE
    rw [if_pos ⟨unit_may k h1 (by omega), may_matL _ _ _ h3 (by omega) h1 (by omega)⟩, if_pos (by rw [nth_matL _ _ _ _ (by omega), nth_matL _ _ _ _ (by omega), strOf_size, strOf_size]), if_pos (by rw [matL_length, matL_length]; omega)]
  refine ⟨hc, hb, ?_⟩
  unfold belL
  rw [if_pos hb]
  refine list_ext _ _ (by rw [List.length_append, matL_length, matL_length, matL_length]) (fun i hi => ?_)
  rw [List.length_append, matL_length, matL_length] at hi
  rw [nth_matL _ _ _ _ hi]
  by_cases h : i < k
  · rw [nth_append_left _ _ i (by rw [matL_length]; exact h), nth_matL _ _ _ _ h]
    exact strOf_congr _ _ _ (fun j hj => by unfold below; rw [if_pos h])
  · have e : nth (matL k k un ++ matL q k (fun i j => gi (UInt8.ofNat (k + i) ^^^ UInt8.ofNat j))) i = nth (matL q k (fun i j => gi (UInt8.ofNat (k + i) ^^^ UInt8.ofNat j))) (i - k) := by
      unfold nth
      rw [List.getD_eq_getElem?_getD, List.getD_eq_getElem?_getD, List.getElem?_append_right (by rw [matL_length]; omega), matL_length]
    rw [e, nth_matL _ _ _ _ (by omega)]
    exact strOf_congr _ _ _ (fun j hj => by unfold below; rw [if_neg h, show k + (i - k) = i from by omega])
/-- The rows that are picked, as a matrix. -/
theorem any_pick (k q : Nat) (rs : List Int) (h1 : 1 ≤ k) (h2 : k ≤ 12) (h3 : 1 ≤ q) (h4 : q ≤ 12) (hl : rs.length = k) (hr : ∀ r ∈ rs, 0 ≤ r ∧ r < (k + q : Nat)) :
    pickE (matL (k + q) k (below k)) rs = 0 ∧ pickL (matL (k + q) k (below k)) rs = matL k k (fun i j => below k (nthI rs i).toNat j) ∧ mayB (pickL (matL (k + q) k (below k)) rs) = true := by
  have hm : mayB (matL (k + q) k (below k)) = true := may_matL _ _ _ (by omega) (by omega) h1 (by omega)
  obtain ⟨p1, p2⟩ := pick_mk _ rs hm (by omega) (by omega) (fun r h => by rw [matL_length]; exact hr r h)
  have e : pickL (matL (k + q) k (below k)) rs = matL k k (fun i j => below k (nthI rs i).toNat j) := by
    rw [p1]
    refine list_ext _ _ (by rw [List.length_map, matL_length, hl]) (fun i hi => ?_)
    rw [List.length_map] at hi
    have hri := hr (nthI rs i) (by rw [← nthI_get rs i hi]; exact List.getElem_mem hi)
    rw [nth_map _ _ _ hi, nth_matL _ _ _ _ (by omega), nth_matL _ _ _ _ (by omega)]
  exact ⟨p2, e, by rw [e]; exact may_matL _ _ _ h1 (by omega) h1 (by omega)⟩
theorem any_undo (k q : Nat) (rs : List Int) (h1 : 1 ≤ k) (h2 : k ≤ 12) (h3 : 1 ≤ q) (h4 : q ≤ 12) (hl : rs.length = k) (hr : ∀ r ∈ rs, 0 ≤ r ∧ r < (k + q : Nat)) (hn : ∀ i j, i < k → j < k → nthI rs i = nthI rs j → i = j) :
    undoE (pickL (matL (k + q) k (below k)) rs) = 0 := by
  obtain ⟨_, e, hm⟩ := any_pick k q rs h1 h2 h3 h4 hl hr
  have hri : ∀ i, i < k → 0 ≤ nthI rs i ∧ nthI rs i < (k + q : Nat) := fun i hi => hr _ (by rw [← nthI_get rs i (by omega)]; exact List.getElem_mem (by omega))
  rcases undone_or k (fun i j => below k (nthI rs i).toNat j) with ⟨U, hU⟩ | ⟨x, hx⟩
  · refine (undo_is _ hm (by rw [e, nth_matL _ _ _ _ (by omega), strOf_size, matL_length]) U ?_).1
    rw [e, matL_length]
    exact inv_congr hU (fun i j hi hj => mt_matL _ _ _ _ _ hi hj) (fun _ _ _ _ => rfl)
  · exact (any_rows k (fun i => (nthI rs i).toNat) (by omega) (fun i hi => by have := hri i hi; omega) (fun i j hi hj h => hn i j hi hj (by have := hri i hi; have := hri j hj; omega)) x hx).elim
theorem any_twice (k q : Nat) (rs : List Int) (h1 : 2 ≤ k) (h2 : k ≤ 12) (h3 : 1 ≤ q) (h4 : q ≤ 12) (hl : rs.length = k) (hr : ∀ r ∈ rs, 0 ≤ r ∧ r < (k + q : Nat)) (h : nthI rs 0 = nthI rs 1) :
    undoE (pickL (matL (k + q) k (below k)) rs) = 51 := by
  obtain ⟨_, e, hm⟩ := any_pick k q rs (by omega) h2 h3 h4 hl hr
  refine (undo_not _ hm (by rw [e, nth_matL _ _ _ _ (by omega), strOf_size, matL_length]) ?_).1
  rintro ⟨U, hU⟩
  rw [e, matL_length] at hU
  have e0 := hU.1 0 0 (by omega) (by omega)
  have e1 := hU.1 1 0 (by omega) (by omega)
  have e2 : mm k (mt (matL k k (fun i j => below k (nthI rs i).toNat j))) U 0 0 = mm k (mt (matL k k (fun i j => below k (nthI rs i).toNat j))) U 1 0 := sm_congr fun l hl => by
    rw [mt_matL _ _ _ _ _ (by omega) hl, mt_matL _ _ _ _ _ (by omega) hl, h]
  rw [e0, e1] at e2
  exact absurd e2 (by decide)
end Go.Proofs.Ytlmoeaphikdjnaa
