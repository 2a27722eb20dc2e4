/- What a map of rows is, by the document: which rows are something, what Take, Drop and Clear make of it. -/
import Derived.Test.YtleohicgbpebnaaInts
namespace Go.Proofs.Ytleohicgbpebnaa
open Go.RowKit
set_option linter.unusedVariables false
/-- The rows below n that are x, rising. -/
def rowsN (n : Nat) (f : Nat → Nat) (x : Nat) : List Nat := (List.range n).filter fun j => f j == x
def rowsL (n : Nat) (f : Nat → Nat) (x : Nat) : List Int := (rowsN n f x).map fun j : Nat => (j : Int)
theorem rowsL_zero (f : Nat → Nat) (x : Nat) : rowsL 0 f x = [] := rfl
theorem rowsL_yes (n : Nat) (f : Nat → Nat) (x : Nat) (h : f n = x) : rowsL (n + 1) f x = rowsL n f x ++ [(n : Int)] := by
  unfold rowsL rowsN
  rw [List.range_succ, List.filter_append, List.map_append]
  simp [h]
theorem rowsL_no (n : Nat) (f : Nat → Nat) (x : Nat) (h : f n ≠ x) : rowsL (n + 1) f x = rowsL n f x := by
  unfold rowsL rowsN
  rw [List.range_succ, List.filter_append, List.map_append]
  simp [h]
theorem rowsL_le (n : Nat) (f : Nat → Nat) (x : Nat) : (rowsL n f x).length ≤ n := by
  unfold rowsL rowsN
  rw [List.length_map]
  refine Nat.le_trans (List.length_filter_le _ _) ?_
  simp
theorem rowsL_prefix (n : Nat) (f : Nat → Nat) (x : Nat) : ∀ m, n ≤ m → ∃ t, rowsL m f x = rowsL n f x ++ t
  | 0, h => ⟨[], by obtain rfl : n = 0 := by omega
                    simp⟩
  | m + 1, h => by
    by_cases e : n = m + 1
    · subst e; exact ⟨[], by simp⟩
    · obtain ⟨t, ht⟩ := rowsL_prefix n f x m (by omega)
      by_cases hx : f m = x
      · exact ⟨t ++ [(m : Int)], by rw [rowsL_yes m f x hx, ht, List.append_assoc]⟩
      · exact ⟨t, by rw [rowsL_no m f x hx, ht]⟩
theorem rowsL_mem {n : Nat} {f : Nat → Nat} {x : Nat} {r : Int} : r ∈ rowsL n f x ↔ ∃ j : Nat, r = j ∧ j < n ∧ f j = x := by
  unfold rowsL rowsN
  simp only [List.mem_map, List.mem_filter, List.mem_range, beq_iff_eq]
  constructor
  · rintro ⟨j, ⟨h1, h2⟩, rfl⟩; exact ⟨j, rfl, h1, h2⟩
  · rintro ⟨j, rfl, h1, h2⟩; exact ⟨j, ⟨h1, h2⟩, rfl⟩
theorem rowsL_congr (n : Nat) (f f' : Nat → Nat) (x : Nat) (h : ∀ j, j < n → f j = f' j) : rowsL n f x = rowsL n f' x := by
  unfold rowsL rowsN
  congr 1
  refine List.filter_congr fun j hj => ?_
  rw [h j (List.mem_range.1 hj)]
/-- The first k of them, found by way of the rows below i. -/
theorem take_stop (n i k : Nat) (f : Nat → Nat) (x : Nat) (hi : i ≤ n) (h : (rowsL i f x).length = k) : rowsL i f x = (rowsL n f x).take k := by
  obtain ⟨t, ht⟩ := rowsL_prefix i f x n hi
  rw [ht, List.take_append_of_le_length (by omega), List.take_of_length_le (by omega)]
/-- Rows become x. -/
def letF (f : Nat → Nat) (x : Nat) (ls : List Int) (j : Nat) : Nat := if (j : Int) ∈ ls then x else f j
theorem letF_nil (f : Nat → Nat) (x : Nat) : letF f x [] = f := by funext j; simp [letF]
theorem take_snocI (ls : List Int) (k : Nat) (h : k < ls.length) : ls.take (k + 1) = ls.take k ++ [nthI ls k] := by
  rw [List.take_succ_eq_append_getElem h, nthI_get ls k h]
theorem letF_next (f : Nat → Nat) (x : Nat) (ls : List Int) (k r : Nat) (h : k < ls.length) (hr : nthI ls k = r) (j : Nat) :
    letF f x (ls.take (k + 1)) j = if j = r then x else letF f x (ls.take k) j := by
  unfold letF
  rw [take_snocI ls k h, hr]
  by_cases e : j = r
  · subst e; simp
  · rw [if_neg e]
    have : ((j : Int) ∈ ls.take k ++ [(r : Int)]) ↔ (j : Int) ∈ ls.take k := by
      rw [List.mem_append, List.mem_singleton]
      constructor
      · rintro (h | h)
        · exact h
        · exact absurd (by omega) e
      · exact .inl
    by_cases h2 : (j : Int) ∈ ls.take k
    · rw [if_pos h2, if_pos (this.2 h2)]
    · rw [if_neg h2, if_neg (fun h3 => h2 (this.1 h3))]
theorem letF_wf {n : Nat} {f : Nat → Nat} {x : Nat} {ls : List Int} (hx : 1 ≤ x ∧ x ≤ 3) (h : ∀ j, j < n → 1 ≤ f j ∧ f j ≤ 3) : ∀ j, j < n → 1 ≤ letF f x ls j ∧ letF f x ls j ≤ 3 := fun j hj => by
  unfold letF; split
  · exact hx
  · exact h j hj
/-- What Take answers, and leaves. -/
def takeE (n : Nat) (f : Nat → Nat) (k : Int) : Nat := if k < 0 then 2 else if ((rowsL n f 1).length : Int) < k then 6 else 0
def takeL (n : Nat) (f : Nat → Nat) (k : Int) : List Int := if takeE n f k = 0 then (rowsL n f 1).take k.toNat else []
def takeF (n : Nat) (f : Nat → Nat) (k : Int) : Nat → Nat := letF f 2 (takeL n f k)
/-- A number is no row. -/
def isRow (n : Nat) (r : Int) : Bool := decide (0 ≤ r ∧ r < n)
def outB (n : Nat) (ls : List Int) : Bool := ls.any fun r => !isRow n r
theorem isRow_nat {n : Nat} {r : Int} (h : isRow n r = true) : ∃ j : Nat, r = j ∧ j < n := by
  have := of_decide_eq_true h
  exact ⟨r.toNat, by omega, by omega⟩
theorem outB_no {n : Nat} {ls : List Int} (h : outB n ls = false) : ∀ i, i < ls.length → ∃ j : Nat, nthI ls i = j ∧ j < n := fun i hi => by
  unfold outB at h
  have h2 := List.any_eq_false.1 h _ (List.getElem_mem hi)
  rw [nthI_get ls i hi] at h2
  exact isRow_nat (by simpa using h2)
theorem outB_yes {n : Nat} {ls : List Int} (i : Nat) (hi : i < ls.length) (h : isRow n (nthI ls i) = false) : outB n ls = true := by
  unfold outB
  refine List.any_eq_true.2 ⟨ls[i], List.getElem_mem hi, ?_⟩
  rw [nthI_get ls i hi, h]; rfl
theorem outB_none {n : Nat} {ls : List Int} (h : ∀ i, i < ls.length → isRow n (nthI ls i) = true) : outB n ls = false := by
  unfold outB
  refine List.any_eq_false.2 fun r hr => ?_
  obtain ⟨i, hi, rfl⟩ := List.getElem_of_mem hr
  rw [nthI_get ls i hi, h i hi]; simp
/-- Rows that are not all x, or one of which stands there twice. -/
def Bad (f : Nat → Nat) (x : Nat) (ls : List Int) : Prop := ∃ i, i < ls.length ∧ (f (nthI ls i).toNat ≠ x ∨ nthI ls i ∈ ls.take i)
open Classical in
/-- What Drop and Clear answer, and leave. -/
noncomputable def turnE (n : Nat) (f : Nat → Nat) (x : Nat) (ls : List Int) : Nat := if outB n ls = true then 2 else if Bad f x ls then 3 else 0
open Classical in
noncomputable def turnF (n : Nat) (f : Nat → Nat) (x y : Nat) (ls : List Int) : Nat → Nat := if turnE n f x ls = 0 then letF f y ls else f
theorem turnF_wf {n : Nat} {f : Nat → Nat} {x y : Nat} {ls : List Int} (hx : 1 ≤ y ∧ y ≤ 3) (h : ∀ j, j < n → 1 ≤ f j ∧ f j ≤ 3) : ∀ j, j < n → 1 ≤ turnF n f x y ls j ∧ turnF n f x y ls j ≤ 3 := fun j hj => by
  unfold turnF; split
  · exact letF_wf hx h j hj
  · exact h j hj
theorem turnE_out {n : Nat} {f : Nat → Nat} {x : Nat} {ls : List Int} (h : outB n ls = true) : turnE n f x ls = 2 := if_pos h
theorem turnE_bad {n : Nat} {f : Nat → Nat} {x : Nat} {ls : List Int} (h : outB n ls = false) (hb : Bad f x ls) : turnE n f x ls = 3 := by
  unfold turnE; rw [if_neg (by rw [h]; simp), if_pos hb]
theorem turnE_ok {n : Nat} {f : Nat → Nat} {x : Nat} {ls : List Int} (h : outB n ls = false) (hb : ¬ Bad f x ls) : turnE n f x ls = 0 := by
  unfold turnE; rw [if_neg (by rw [h]; simp), if_neg hb]
theorem turnF_not {n : Nat} {f : Nat → Nat} {x y : Nat} {ls : List Int} (h : turnE n f x ls ≠ 0) : turnF n f x y ls = f := if_neg h
theorem turnF_ok {n : Nat} {f : Nat → Nat} {x y : Nat} {ls : List Int} (h : turnE n f x ls = 0) : turnF n f x y ls = letF f y ls := if_pos h
/-- The next row, behind the first k: is it x still? -/
theorem bad_here {f : Nat → Nat} {x y : Nat} {ls : List Int} {k r : Nat} (hxy : x ≠ y) (h : k < ls.length) (hr : nthI ls k = r) (hb : letF f y (ls.take k) r ≠ x) : Bad f x ls := by
  refine ⟨k, h, ?_⟩
  unfold letF at hb
  rw [hr]
  by_cases hm : (r : Int) ∈ ls.take k
  · exact .inr hm
  · rw [if_neg hm] at hb
    exact .inl hb
theorem bad_not {f : Nat → Nat} {x y : Nat} {ls : List Int} (hxy : x ≠ y) (h : ∀ k, k < ls.length → ∃ r : Nat, nthI ls k = r ∧ letF f y (ls.take k) r = x) : ¬ Bad f x ls := by
  rintro ⟨i, hi, hb⟩
  obtain ⟨r, hr, he⟩ := h i hi
  unfold letF at he
  rw [hr] at hb
  by_cases hm : (r : Int) ∈ ls.take i
  · rw [if_pos hm] at he
    exact hxy he.symm
  · rw [if_neg hm] at he
    rcases hb with hb | hb
    · exact hb he
    · exact hm hb
end Go.Proofs.Ytleohicgbpebnaa
