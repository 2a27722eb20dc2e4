/- Plain facts for MatrixUnits: units' products, rows that are picked. -/
import Derived.Test.YtlmoeaphikdjnaaMatrixUndoesWalk
namespace Go.Proofs.Ytlmoeaphikdjnaa
open Go.RowKit Gf
set_option linter.unusedVariables false
theorem unit_may (n : Nat) (h1 : 1 ≤ n) (h2 : n ≤ 64) : mayB (matL n n un) = true := may_matL _ _ _ h1 h2 h1 h2
theorem unit_left (a : List ByteArray) (h : mayB a = true) : prodL (unitL (a.length : Nat)) a = a ∧ prodE (unitL (a.length : Nat)) a = 0 := by
  obtain ⟨a1, a2, a3, a4, hev⟩ := may_yes a h
  rw [unit_is _ a1 a2]
  obtain ⟨e1, e2⟩ := prod_mk (matL a.length a.length un) a (unit_may _ a1 a2) h (by rw [nth_matL _ _ _ _ (by omega), strOf_size])
  refine ⟨?_, e1⟩
  rw [e2, matL_length]
  refine (matL_congr _ _ _ _ (fun i j hi hj => ?_)).trans (mat_self a hev)
  rw [← un_mm a.length (mt a) i j hi]
  exact sm_congr fun k hk => by rw [mt_matL _ _ _ _ _ hi hk]
theorem unit_right (a : List ByteArray) (h : mayB a = true) : prodL a (unitL ((nth a 0).size : Nat)) = a ∧ prodE a (unitL ((nth a 0).size : Nat)) = 0 := by
  obtain ⟨a1, a2, a3, a4, hev⟩ := may_yes a h
  rw [unit_is _ a3 a4]
  obtain ⟨e1, e2⟩ := prod_mk a (matL (nth a 0).size (nth a 0).size un) h (unit_may _ a3 a4) (by rw [matL_length])
  refine ⟨?_, e1⟩
  rw [e2, matL_length, nth_matL _ _ _ _ (by omega), strOf_size]
  refine (matL_congr _ _ _ _ (fun i j hi hj => ?_)).trans (mat_self a hev)
  rw [← mm_un (nth a 0).size (mt a) i j hj]
  exact sm_congr fun k hk => by rw [mt_matL _ _ _ _ _ hk hj]
theorem pick_mk (a : List ByteArray) (rs : List Int) (h : mayB a = true) (h1 : 1 ≤ rs.length) (h2 : rs.length ≤ 64) (hr : ∀ r ∈ rs, 0 ≤ r ∧ r < a.length) : pickL a rs = rs.map (fun r => nth a r.toNat) ∧ pickE a rs = 0 := by
  have h0 : pickE a rs = 0 := by
    unfold pickE pickOk
    rw [if_pos h, if_pos]
    rw [Bool.and_eq_true, List.all_eq_true]
    exact ⟨decide_eq_true ⟨h1, h2⟩, fun r hm => decide_eq_true (hr r hm)⟩
  exact ⟨by unfold pickL; rw [if_pos h0], h0⟩
theorem nth_map (rs : List Int) (f : Int → ByteArray) (i : Nat) (h : i < rs.length) : nth (rs.map f) i = f (nthI rs i) := by
  unfold nth
  rw [List.getD_eq_getElem?_getD, List.getElem?_map, List.getElem?_eq_getElem h, nthI_get rs i h]
  rfl
/-- Rows of the unit times a matrix are its rows. -/
theorem pick_unit (a : List ByteArray) (rs : List Int) (h : mayB a = true) (h1 : 1 ≤ rs.length) (h2 : rs.length ≤ 64) (hr : ∀ r ∈ rs, 0 ≤ r ∧ r < a.length) :
    pickE (unitL (a.length : Nat)) rs = 0 ∧ prodL (pickL (unitL (a.length : Nat)) rs) a = pickL a rs ∧ prodE (pickL (unitL (a.length : Nat)) rs) a = 0 := by
  obtain ⟨a1, a2, a3, a4, hev⟩ := may_yes a h
  have hrn : ∀ i, i < rs.length → 0 ≤ nthI rs i ∧ nthI rs i < a.length := fun i hi => hr _ (by rw [← nthI_get rs i hi]; exact List.getElem_mem hi)
  rw [unit_is _ a1 a2]
  obtain ⟨p1, p2⟩ := pick_mk (matL a.length a.length un) rs (unit_may _ a1 a2) h1 h2 (fun r hm => by rw [matL_length]; exact hr r hm)
  obtain ⟨q1, q2⟩ := pick_mk a rs h h1 h2 hr
  refine ⟨p2, ?_⟩
  obtain ⟨u, hu⟩ : ∃ u, pickL (matL a.length a.length un) rs = u := ⟨_, rfl⟩
  rw [hu] at p1 ⊢
  have hul : u.length = rs.length := by rw [p1, List.length_map]
  have hun : ∀ i, i < rs.length → nth u i = strOf a.length (un (nthI rs i).toNat) := fun i hi => by
    rw [p1, nth_map _ _ _ hi, nth_matL _ _ _ _ (by have := hrn i hi; omega)]
  have hus : (nth u 0).size = a.length := by rw [hun 0 (by omega), strOf_size]
  have hum : mayB u = true := by
    rw [may_even u (by rw [hul, hus]; omega)]
    refine even_yes u (fun k hk => ?_)
    rw [hul] at hk
    rw [hun k hk, hun 0 (by omega), strOf_size, strOf_size]
  obtain ⟨e1, e2⟩ := prod_mk u a hum h hus
  refine ⟨?_, e1⟩
  rw [e2, q1, hul]
  refine list_ext _ _ (by rw [matL_length, List.length_map]) (fun i hi => ?_)
  rw [matL_length] at hi
  have hri := hrn i hi
  have hrl : (nthI rs i).toNat < a.length := by omega
  rw [nth_matL _ _ _ _ hi, nth_map _ _ _ hi, strOf_congr _ _ (bt (nth a (nthI rs i).toNat)) (fun j hj => ?_)]
  · rw [← may_size a h _ hrl, strOf_self]
  · show mm a.length (mt u) (mt a) i j = _
    rw [show bt (nth a (nthI rs i).toNat) j = mm a.length un (mt a) (nthI rs i).toNat j from (un_mm a.length (mt a) _ j hrl).symm]
    refine sm_congr fun k hk => ?_
    show gm (mt u i k) _ = gm (un _ k) _
    unfold mt
    rw [hun i hi, strOf_bt _ _ _ hk]
theorem nth_append_left (a b : List ByteArray) (i : Nat) (h : i < a.length) : nth (a ++ b) i = nth a i := by
  unfold nth
  rw [List.getD_eq_getElem?_getD, List.getD_eq_getElem?_getD, List.getElem?_append_left h]
/-- Of two, one below the other, the rows are picked again. -/
theorem pick_below (a b : List ByteArray) (rs : List Int) (h : belE a b = 0) (h1 : 1 ≤ rs.length) (h2 : rs.length ≤ 64) (hr : ∀ r ∈ rs, 0 ≤ r ∧ r < a.length) :
    (belL a b).length = a.length + b.length ∧ pickL (belL a b) rs = pickL a rs ∧ pickE (belL a b) rs = 0 := by
  have hl : belL a b = a ++ b := by unfold belL; rw [if_pos h]
  unfold belE at h
  by_cases hm : mayB a = true ∧ mayB b = true
  · rw [if_pos hm] at h
    by_cases hs : (nth a 0).size = (nth b 0).size
    · rw [if_pos hs] at h
      by_cases hn : a.length + b.length ≤ 64
      · obtain ⟨a1, a2, a3, a4, hev⟩ := may_yes a hm.1
        have hn0 : nth (a ++ b) 0 = nth a 0 := nth_append_left a b 0 (by omega)
        have hmm : mayB (a ++ b) = true := by
          rw [may_even _ (by rw [List.length_append, hn0]; omega)]
          refine even_yes _ (fun k hk => ?_)
          rw [hn0]
          rw [List.length_append] at hk
          by_cases hk2 : k < a.length
          · rw [nth_append_left a b k hk2, may_size a hm.1 k hk2]
          · have e : nth (a ++ b) k = nth b (k - a.length) := by
              unfold nth
              rw [List.getD_eq_getElem?_getD, List.getD_eq_getElem?_getD, List.getElem?_append_right (by omega)]
            rw [e, may_size b hm.2 _ (by omega), hs]
        obtain ⟨p1, p2⟩ := pick_mk (a ++ b) rs hmm h1 h2 (fun r hm => by have := hr r hm; rw [List.length_append]; omega)
        obtain ⟨q1, q2⟩ := pick_mk a rs hm.1 h1 h2 hr
        rw [hl]
        refine ⟨List.length_append, ?_, p2⟩
        rw [p1, q1]
        apply List.map_congr_left
        intro r hm
        have := hr r hm
        exact nth_append_left a b _ (by omega)
      · rw [if_neg hn] at h
        exact absurd h (by decide)
    · rw [if_neg hs] at h
      exact absurd h (by decide)
  · rw [if_neg hm] at h
    exact absurd h (by decide)
end Go.Proofs.Ytlmoeaphikdjnaa
