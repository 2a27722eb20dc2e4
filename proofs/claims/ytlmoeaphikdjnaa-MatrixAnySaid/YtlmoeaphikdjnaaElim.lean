/- Plain facts: rows that are changed till the unit stands there: what has no row that goes to 0 is undone. -/
import Derived.Test.YtlmoeaphikdjnaaMat
namespace Go.Proofs.Ytlmoeaphikdjnaa.Gf

/-- Rows exchanged. -/
def swp (p c i : Nat) : Nat := if i = p then c else if i = c then p else i
theorem swp_lt {p c i n : Nat} (hp : p < n) (hc : c < n) (hi : i < n) : swp p c i < n := by unfold swp; split <;> (try split) <;> omega
theorem swp_swp (p c i : Nat) : swp p c (swp p c i) = i := by
  unfold swp
  by_cases h1 : i = p
  · rw [if_pos h1]
    by_cases h2 : c = p
    · rw [if_pos h2]; omega
    · rw [if_neg h2, if_pos rfl]; omega
  · rw [if_neg h1]
    by_cases h2 : i = c
    · rw [if_pos h2, if_pos rfl]; omega
    · rw [if_neg h2, if_neg h1, if_neg h2]
def swapM (p c i j : Nat) : UInt8 := un (swp p c i) j
theorem swap_mm {n p c : Nat} (hp : p < n) (hc : c < n) (X : Nat → Nat → UInt8) (i j : Nat) (hi : i < n) : mm n (swapM p c) X i j = X (swp p c i) j := by
  have h := swp_lt hp hc hi
  show sm n (fun k => gm (un (swp p c i) k) (X k j)) = _
  exact un_mm n X (swp p c i) j h
theorem swap_inv {n p c : Nat} (hp : p < n) (hc : c < n) : Inv n (swapM p c) (swapM p c) := by
  have h : Eq2 n (mm n (swapM p c) (swapM p c)) un := fun i j hi _ => by
    rw [swap_mm hp hc _ i j hi]
    unfold swapM
    rw [swp_swp]
  exact ⟨h, h⟩
/-- Row c multiplied. -/
def scaleM (c : Nat) (s : UInt8) (i j : Nat) : UInt8 := if i = j then (if i = c then s else 1) else 0
theorem scale_mm {n : Nat} (c : Nat) (s : UInt8) (X : Nat → Nat → UInt8) (i j : Nat) (hi : i < n) : mm n (scaleM c s) X i j = if i = c then gm s (X i j) else X i j := by
  unfold mm
  rw [sm_one hi]
  · unfold scaleM
    rw [if_pos rfl]
    by_cases h : i = c
    · rw [if_pos h, if_pos h]
    · rw [if_neg h, if_neg h, one_gm]
  · intro k _ h
    unfold scaleM
    rw [if_neg (fun e => h e.symm), zero_gm]
theorem scale_inv {n : Nat} (c : Nat) {s : UInt8} (h : s ≠ 0) : Inv n (scaleM c s) (scaleM c (gi s)) := by
  constructor
  · intro i j hi _
    rw [scale_mm c s _ i j hi]
    unfold scaleM un
    by_cases hij : i = j
    · rw [if_pos hij, if_pos hij]
      by_cases hc : i = c
      · rw [if_pos hc, if_pos hc, gm_gi h]
      · rw [if_neg hc, if_neg hc]
    · rw [if_neg hij, if_neg hij, gm_zero]; split <;> rfl
  · intro i j hi _
    rw [scale_mm c (gi s) _ i j hi]
    unfold scaleM un
    by_cases hij : i = j
    · rw [if_pos hij, if_pos hij]
      by_cases hc : i = c
      · rw [if_pos hc, if_pos hc, gm_comm, gm_gi h]
      · rw [if_neg hc, if_neg hc]
    · rw [if_neg hij, if_neg hij, gm_zero]; split <;> rfl
/-- Row c's multiples added to the others. -/
def clearM (c : Nat) (v : Nat → UInt8) (i j : Nat) : UInt8 := un i j ^^^ if i ≠ c ∧ j = c then v i else 0
theorem clear_mm {n c : Nat} (hc : c < n) (v : Nat → UInt8) (X : Nat → Nat → UInt8) (i j : Nat) (hi : i < n) : mm n (clearM c v) X i j = if i = c then X i j else X i j ^^^ gm (v i) (X c j) := by
  have e : mm n (clearM c v) X i j = mm n un X i j ^^^ sm n (fun k => gm (if i ≠ c ∧ k = c then v i else 0) (X k j)) := by
    unfold mm
    rw [← sm_add]
    exact sm_congr fun k _ => by unfold clearM; rw [add_gm]
  rw [e, un_mm n X i j hi]
  by_cases h : i = c
  · rw [if_pos h, sm_zero, add_zero]
    intro k _
    rw [if_neg (fun e => e.1 h), zero_gm]
  · rw [if_neg h, sm_one hc]
    · rw [if_pos ⟨h, rfl⟩]
    · intro k _ hk
      rw [if_neg (fun e => hk e.2), zero_gm]
theorem clear_inv {n c : Nat} (hc : c < n) (v : Nat → UInt8) : Inv n (clearM c v) (clearM c v) := by
  have h : Eq2 n (mm n (clearM c v) (clearM c v)) un := fun i j hi _ => by
    rw [clear_mm hc v _ i j hi]
    by_cases h : i = c
    · rw [if_pos h]
      unfold clearM
      rw [if_neg (fun e => e.1 h), add_zero]
    · rw [if_neg h]
      unfold clearM
      rw [if_neg (show ¬ (c ≠ c ∧ j = c) from fun e => e.1 rfl), add_zero]
      by_cases hj : j = c
      · rw [if_pos ⟨h, hj⟩, hj]
        unfold un
        rw [if_neg h, if_pos rfl, gm_one, zero_add, self_add]
      · have e : un c j = 0 := by unfold un; rw [if_neg (fun e => hj e.symm)]
        rw [if_neg (fun e => hj e.2), add_zero, e, gm_zero, add_zero]
  exact ⟨h, h⟩
/-- One column's step: rows exchanged, the row scaled, the others cleared. -/
def stepM (n p c : Nat) (L : Nat → Nat → UInt8) : Nat → Nat → UInt8 :=
  let L1 := mm n (swapM p c) L
  let s := gi (L1 c c)
  let L2 := mm n (scaleM c s) L1
  mm n (clearM c fun i => L2 i c) L2
/-- What that step leaves, place by place. -/
theorem step_at {n p c : Nat} (hp : p < n) (hc : c < n) (L : Nat → Nat → UInt8) (i j : Nat) (hi : i < n) :
    stepM n p c L i j = if i = c then gm (gi (L p c)) (L p j) else L (swp p c i) j ^^^ gm (L (swp p c i) c) (gm (gi (L p c)) (L p j)) := by
  have hsc : swp p c c = p := by unfold swp; by_cases h : c = p <;> simp [h]
  have e1 : ∀ i j, i < n → mm n (swapM p c) L i j = L (swp p c i) j := fun i j hi => swap_mm hp hc L i j hi
  have e2 : ∀ i j, i < n → mm n (scaleM c (gi (L p c))) (mm n (swapM p c) L) i j = if i = c then gm (gi (L p c)) (L p j) else L (swp p c i) j := fun i j hi => by
    rw [scale_mm c _ _ i j hi, e1 i j hi]
    by_cases h : i = c
    · rw [if_pos h, if_pos h, h, hsc]
    · rw [if_neg h, if_neg h]
  unfold stepM
  simp only [e1 c c hc, hsc]
  rw [clear_mm hc _ _ i j hi, e2 i j hi, e2 c j hc, if_pos rfl]
  by_cases h : i = c
  · simp only [if_pos h]
  · simp only [if_neg h]
    rw [e2 i c hi, if_neg h]
theorem step_un {n p c : Nat} (hp : p < n) (hc : c < n) (hpc : c ≤ p) (L : Nat → Nat → UInt8) (hL : ∀ i j, i < n → j < c → L i j = un i j) (hne : L p c ≠ 0) (i j : Nat) (hi : i < n) (hj : j < c + 1) : stepM n p c L i j = un i j := by
  rw [step_at hp hc L i j hi]
  by_cases hjc : j = c
  · subst hjc
    rw [gm_comm (gi (L p j)), gm_gi hne, gm_one]
    by_cases h : i = j
    · rw [if_pos h]; unfold un; rw [if_pos h]
    · rw [if_neg h, self_add]; unfold un; rw [if_neg h]
  · have hj2 : j < c := by omega
    have hpj : L p j = 0 := by rw [hL p j hp hj2]; unfold un; rw [if_neg (by omega)]
    rw [hpj, gm_zero, gm_zero, add_zero]
    by_cases h : i = c
    · rw [if_pos h]; unfold un; rw [if_neg (by omega)]
    · rw [if_neg h]
      unfold swp
      by_cases hip : i = p
      · rw [if_pos hip, hL c j hc hj2]
        unfold un
        rw [if_neg (by omega), if_neg (by omega)]
      · rw [if_neg hip, if_neg h, hL i j hi hj2]
theorem step_inv {n p c : Nat} (hp : p < n) (hc : c < n) (L : Nat → Nat → UInt8) (hne : L p c ≠ 0) : ∃ P Q, Inv n P Q ∧ (∀ X, ∀ i j, i < n → mm n P X i j = mm n (clearM c fun i => mm n (scaleM c (gi (L p c))) (mm n (swapM p c) L) i c) (mm n (scaleM c (gi (L p c))) (mm n (swapM p c) X)) i j) := by
  refine ⟨mm n (clearM c fun i => mm n (scaleM c (gi (L p c))) (mm n (swapM p c) L) i c) (mm n (scaleM c (gi (L p c))) (swapM p c)), _, (clear_inv hc _).mul ((scale_inv c (gi_ne hne)).mul (swap_inv hp hc)), fun X i j _ => ?_⟩
  rw [mm_assoc]
  exact sm_congr fun l _ => by rw [mm_assoc]
/-- No column without a pivot, or a row that goes to 0. -/
theorem elim (n : Nat) (A : Nat → Nat → UInt8) (c : Nat) (hcn : c ≤ n) :
    (∃ E F, Inv n E F ∧ ∀ i j, i < n → j < c → mm n E A i j = un i j) ∨ ∃ x, Ker n A x := by
  induction c with
  | zero => exact Or.inl ⟨un, un, inv_un n, fun _ _ _ h => by omega⟩
  | succ c ih =>
    rcases ih (by omega) with ⟨E, F, hE, hL⟩ | h
    · have hc : c < n := by omega
      by_cases hex : ∃ p, c ≤ p ∧ p < n ∧ mm n E A p c ≠ 0
      · obtain ⟨p, hpc, hp, hne⟩ := hex
        left
        obtain ⟨P, Q, hPQ, hP⟩ := step_inv hp hc (mm n E A) hne
        refine ⟨mm n P E, mm n F Q, hPQ.mul hE, fun i j hi hj => ?_⟩
        rw [mm_assoc, hP _ i j hi]
        have e := step_un hp hc hpc (mm n E A) hL hne i j hi hj
        unfold stepM at e
        have hsc : mm n (swapM p c) (mm n E A) c c = mm n E A p c := by
          rw [swap_mm hp hc _ c c hc]
          unfold swp
          by_cases h : c = p <;> simp [h]
        simp only [hsc] at e
        exact e
      · right
        have hz : ∀ p, c ≤ p → p < n → mm n E A p c = 0 := fun p h1 h2 => Classical.byContradiction fun h3 => hex ⟨p, h1, h2, h3⟩
        refine ⟨fun j => if j < c then mm n E A j c else if j = c then 1 else 0, ⟨c, hc, by simp⟩, ?_⟩
        have hv : ∀ i, i < n → mv n (mm n E A) (fun j => if j < c then mm n E A j c else if j = c then 1 else 0) i = 0 := fun i hi => by
          have e : mv n (mm n E A) (fun j => if j < c then mm n E A j c else if j = c then 1 else 0) i = sm n (fun k => if k < c then gm (un i k) (mm n E A k c) else 0) ^^^ sm n (fun k => if k = c then mm n E A i c else 0) := by
            unfold mv
            rw [← sm_add]
            refine sm_congr fun k hk => ?_
            show gm (mm n E A i k) (if k < c then mm n E A k c else if k = c then 1 else 0) = _
            by_cases h1 : k < c
            · rw [if_pos h1, if_pos h1, if_neg (by omega), hL i k hi h1, add_zero]
            · rw [if_neg h1, if_neg h1, zero_add]
              by_cases h2 : k = c
              · rw [if_pos h2, if_pos h2, h2, gm_one]
              · rw [if_neg h2, if_neg h2, gm_zero]
          rw [e, sm_one (n := n) (j := c) hc (fun k => if k = c then mm n E A i c else 0) (fun k _ h => if_neg h), if_pos rfl]
          by_cases h1 : i < c
          · rw [sm_one hi, if_pos h1]
            · unfold un; rw [if_pos rfl, one_gm, self_add]
            · intro k _ h
              by_cases h2 : k < c
              · rw [if_pos h2]; unfold un; rw [if_neg (fun e => h e.symm), zero_gm]
              · rw [if_neg h2]
          · rw [hz i (by omega) hi, add_zero]
            refine sm_zero fun k _ => ?_
            by_cases h2 : k < c
            · rw [if_pos h2]; unfold un; rw [if_neg (by omega), zero_gm]
            · rw [if_neg h2]
        intro i hi
        have e1 : mv n A (fun j => if j < c then mm n E A j c else if j = c then 1 else 0) i = mv n (mm n F E) (mv n A (fun j => if j < c then mm n E A j c else if j = c then 1 else 0)) i := by
          rw [mv_congr hE.2 (fun _ _ => rfl) i hi, mv_un n _ i hi]
        rw [e1, mv_mm]
        rw [mv_congr (A := F) (A' := F) (fun _ _ _ _ => rfl) (x' := fun _ => 0) (fun l hl => by rw [← mv_mm]; exact hv l hl) i hi, mv_zero]
    · exact Or.inr h
/-- Undone, or a row goes to 0. -/
theorem undone_or (n : Nat) (A : Nat → Nat → UInt8) : (∃ U, Inv n A U) ∨ ∃ x, Ker n A x := by
  rcases elim n A n (Nat.le_refl _) with ⟨E, F, hE, hL⟩ | h
  · left
    have h1 : Eq2 n (mm n E A) un := hL
    have hF : Eq2 n F A := inv_unique (A := E) hE.2 (Eq2.trans (fun i j hi hj => rfl) h1)
    exact ⟨E, (mm_congr (hF.symm) (fun _ _ _ _ => rfl)).trans hE.2, h1⟩
  · exact Or.inr h
theorem right_inv {n : Nat} {A U : Nat → Nat → UInt8} (h : Eq2 n (mm n A U) un) : Inv n A U := by
  rcases undone_or n U with ⟨E, hE⟩ | ⟨y, hy⟩
  · have hAE : Eq2 n A E := inv_unique h hE.1
    exact ⟨h, (mm_congr (fun _ _ _ _ => rfl) hAE).trans hE.1⟩
  · exact (no_ker h hy).elim
theorem left_inv {n : Nat} {A U : Nat → Nat → UInt8} (h : Eq2 n (mm n U A) un) : Inv n A U := (right_inv h).symm
end Go.Proofs.Ytlmoeaphikdjnaa.Gf
