/- Plain facts: rows changed, the unit's along with them. Nothing here names the program. -/
import Derived.Test.YtlmoeaphikdjnaaElim
namespace Go.Proofs.Ytlmoeaphikdjnaa.Gf

/-- A column without a pivot: a row goes to 0. -/
theorem no_pivot (n : Nat) (A E F : Nat → Nat → UInt8) (c : Nat) (hc : c < n) (hE : Inv n E F) (hL : ∀ i j, i < n → j < c → mm n E A i j = un i j) (hz : ∀ p, c ≤ p → p < n → mm n E A p c = 0) : ∃ x, Ker n A x := by
  refine ⟨fun j => if j < c then mm n E A j c else if j = c then 1 else 0, ⟨c, hc, by simp⟩, ?_⟩
  have hv : ∀ i, i < n → mv n (mm n E A) (fun j => if j < c then mm n E A j c else if j = c then 1 else 0) i = 0 := fun i hi => by
    have e : mv n (mm n E A) (fun j => if j < c then mm n E A j c else if j = c then 1 else 0) i = sm n (fun k => if k < c then gm (un i k) (mm n E A k c) else 0) ^^^ sm n (fun k => if k = c then mm n E A i c else 0) := by
      unfold mv
      rw [← sm_add]
      refine sm_congr fun k hk => ?_
      show gm (mm n E A i k) (if k < c then mm n E A k c else if k = c then 1 else 0) = _
      by_cases h1 : k < c
      · rw [if_pos h1, if_pos h1, if_neg (by omega), hL i k hi h1, add_zero]
      · rw [if_neg h1, if_neg h1, zero_add]
        by_cases h2 : k = c
        · rw [if_pos h2, if_pos h2, h2, gm_one]
        · rw [if_neg h2, if_neg h2, gm_zero]
    rw [e, sm_one (n := n) (j := c) hc (fun k => if k = c then mm n E A i c else 0) (fun k _ h => if_neg h), if_pos rfl]
    by_cases h1 : i < c
    · rw [sm_one hi, if_pos h1]
      · unfold un; rw [if_pos rfl, one_gm, self_add]
      · intro k _ h
        by_cases h2 : k < c
        · rw [if_pos h2]; unfold un; rw [if_neg (fun e => h e.symm), zero_gm]
        · rw [if_neg h2]
    · rw [hz i (by omega) hi, add_zero]
      refine sm_zero fun k _ => ?_
      by_cases h2 : k < c
      · rw [if_pos h2]; unfold un; rw [if_neg (by omega), zero_gm]
      · rw [if_neg h2]
  intro i hi
  have e1 : mv n A (fun j => if j < c then mm n E A j c else if j = c then 1 else 0) i = mv n (mm n F E) (mv n A (fun j => if j < c then mm n E A j c else if j = c then 1 else 0)) i := by
    rw [mv_congr hE.2 (fun _ _ => rfl) i hi, mv_un n _ i hi]
  rw [e1, mv_mm]
  rw [mv_congr (A := F) (A' := F) (fun _ _ _ _ => rfl) (x' := fun _ => 0) (fun l hl => by rw [← mv_mm]; exact hv l hl) i hi, mv_zero]
/-- The step over any columns, its numbers taken of L. -/
theorem step_any {n p c : Nat} (hp : p < n) (hc : c < n) (L X : Nat → Nat → UInt8) (s : UInt8) (i j : Nat) (hi : i < n) :
    mm n (clearM c fun i => mm n (scaleM c s) (mm n (swapM p c) L) i c) (mm n (scaleM c s) (mm n (swapM p c) X)) i j = if i = c then gm s (X p j) else X (swp p c i) j ^^^ gm (L (swp p c i) c) (gm s (X p j)) := by
  have hsc : swp p c c = p := by unfold swp; by_cases h : c = p <;> simp [h]
  have e2 : ∀ (X : Nat → Nat → UInt8) i j, i < n → mm n (scaleM c s) (mm n (swapM p c) X) i j = if i = c then gm s (X p j) else X (swp p c i) j := fun X i j hi => by
    rw [scale_mm c _ _ i j hi, swap_mm hp hc X i j hi]
    by_cases h : i = c
    · rw [if_pos h, if_pos h, h, hsc]
    · rw [if_neg h, if_neg h]
  rw [clear_mm hc _ _ i j hi, e2 X i j hi, e2 X c j hc, if_pos rfl]
  by_cases h : i = c
  · simp only [if_pos h]
  · simp only [if_neg h]
    rw [e2 L i c hi, if_neg h]
/-- Where rows stand whose first c columns are the unit's: left what is undone, right what undoes. -/
def Elim (n : Nat) (A : Nat → Nat → UInt8) (c : Nat) (X : Nat → Nat → UInt8) : Prop :=
  ∃ E F, Inv n E F ∧ (∀ i j, i < n → j < n → X i j = mm n E A i j) ∧ (∀ i j, i < n → j < n → X i (n + j) = E i j) ∧ ∀ i j, i < n → j < c → mm n E A i j = un i j
theorem elim_start (n : Nat) (A X : Nat → Nat → UInt8) (h1 : ∀ i j, i < n → j < n → X i j = A i j) (h2 : ∀ i j, i < n → j < n → X i (n + j) = un i j) : Elim n A 0 X :=
  ⟨un, un, inv_un n, fun i j hi hj => by rw [un_mm n A i j hi, h1 i j hi hj], h2, fun _ _ _ h => by omega⟩
theorem elim_congr {n : Nat} {A : Nat → Nat → UInt8} {c : Nat} {X Y : Nat → Nat → UInt8} (h : Elim n A c X) (e : ∀ i j, i < n → j < n + n → Y i j = X i j) : Elim n A c Y := by
  obtain ⟨E, F, h1, h2, h3, h4⟩ := h
  exact ⟨E, F, h1, fun i j hi hj => by rw [e i j hi (by omega), h2 i j hi hj], fun i j hi hj => by rw [e i _ hi (by omega), h3 i j hi hj], h4⟩
theorem elim_step {n : Nat} {A : Nat → Nat → UInt8} {c p : Nat} {X Y : Nat → Nat → UInt8} (h : Elim n A c X) (hcp : c ≤ p) (hp : p < n) (hne : X p c ≠ 0)
    (hY : ∀ i j, i < n → j < n + n → Y i j = if i = c then gm (gi (X p c)) (X p j) else X (swp p c i) j ^^^ gm (X (swp p c i) c) (gm (gi (X p c)) (X p j))) : Elim n A (c + 1) Y := by
  obtain ⟨E, F, hE, h2, h3, h4⟩ := h
  have hc : c < n := by omega
  have hpc : X p c = mm n E A p c := h2 p c hp hc
  have hne2 : mm n E A p c ≠ 0 := by rw [← hpc]; exact hne
  obtain ⟨P, Q, hPQ, hP⟩ := step_inv hp hc (mm n E A) hne2
  have hf : ∀ (Z : Nat → Nat → UInt8) i j, i < n → mm n P Z i j = if i = c then gm (gi (X p c)) (Z p j) else Z (swp p c i) j ^^^ gm (X (swp p c i) c) (gm (gi (X p c)) (Z p j)) := fun Z i j hi => by
    rw [hP Z i j hi, step_any hp hc (mm n E A) Z _ i j hi, hpc, h2 _ c (swp_lt hp hc hi) hc]
  refine ⟨mm n P E, mm n F Q, hPQ.mul hE, fun i j hi hj => ?_, fun i j hi hj => ?_, fun i j hi hj => ?_⟩
  · rw [hY i j hi (by omega), mm_assoc, hf _ i j hi, h2 p j hp hj, h2 _ j (swp_lt hp hc hi) hj]
  · rw [hY i _ hi (by omega), hf _ i j hi, h3 p j hp hj, h3 _ j (swp_lt hp hc hi) hj]
  · rw [mm_assoc, hP _ i j hi]
    have e := step_un hp hc hcp (mm n E A) h4 hne2 i j hi hj
    unfold stepM at e
    have hsc : mm n (swapM p c) (mm n E A) c c = mm n E A p c := by
      rw [swap_mm hp hc _ c c hc]
      unfold swp
      by_cases h : c = p <;> simp [h]
    simp only [hsc] at e
    exact e
theorem elim_end {n : Nat} {A X : Nat → Nat → UInt8} (h : Elim n A n X) : Inv n A (fun i j => X i (n + j)) := by
  obtain ⟨E, F, hE, _, h3, h4⟩ := h
  have h5 : Eq2 n (mm n E A) un := h4
  have h6 : Eq2 n (mm n (fun i j => X i (n + j)) A) un := (mm_congr (fun i j hi hj => h3 i j hi hj) (fun _ _ _ _ => rfl)).trans h5
  exact left_inv h6
theorem elim_none {n : Nat} {A X : Nat → Nat → UInt8} {c : Nat} (h : Elim n A c X) (hc : c < n) (hz : ∀ p, c ≤ p → p < n → X p c = 0) : ¬ ∃ U, Inv n A U := by
  obtain ⟨E, F, hE, h2, _, h4⟩ := h
  obtain ⟨x, hx⟩ := no_pivot n A E F c hc hE h4 (fun p h1 hp => by rw [← h2 p c hp hc]; exact hz p h1 hp)
  rintro ⟨U, hU⟩
  exact no_ker hU.2 hx
end Go.Proofs.Ytlmoeaphikdjnaa.Gf
