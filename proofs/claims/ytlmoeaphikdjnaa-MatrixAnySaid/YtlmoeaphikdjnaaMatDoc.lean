/- What the document says of matrices, as lists of texts. -/
import Derived.Test.YtlmoeaphikdjnaaFieldRef2
import Derived.Test.YtlmoeaphikdjnaaMat
namespace Go.Proofs.Ytlmoeaphikdjnaa
open Go.RowKit Gf
set_option linter.unusedVariables false
theorem mb_gm (a b : UInt8) : mb a.toNat b = gm a b := rfl
/-- The element at row i, column j. -/
def mt (ss : List ByteArray) (i j : Nat) : UInt8 := bt (nth ss i) j
/-- n rows of m elements. -/
def matL (n m : Nat) (A : Nat → Nat → UInt8) : List ByteArray := (List.range n).map fun i => strOf m (A i)
theorem matL_length (n m : Nat) (A : Nat → Nat → UInt8) : (matL n m A).length = n := by simp [matL]
theorem matL_snoc (n m : Nat) (A : Nat → Nat → UInt8) : matL (n + 1) m A = matL n m A ++ [strOf m (A n)] := by simp [matL, List.range_succ]
theorem nth_matL (n m : Nat) (A : Nat → Nat → UInt8) (i : Nat) (h : i < n) : nth (matL n m A) i = strOf m (A i) := by
  unfold nth matL
  rw [List.getD_eq_getElem?_getD, List.getElem?_map, List.getElem?_range h]
  rfl
theorem mt_matL (n m : Nat) (A : Nat → Nat → UInt8) (i j : Nat) (h : i < n) (k : j < m) : mt (matL n m A) i j = A i j := by
  unfold mt
  rw [nth_matL n m A i h, strOf_bt _ _ _ k]
theorem list_ext (a b : List ByteArray) (h : a.length = b.length) (e : ∀ i, i < a.length → nth a i = nth b i) : a = b := by
  apply List.ext_getElem h
  intro i h1 h2
  rw [nth_get a i h1, nth_get b i h2, e i h1]
theorem matL_congr (n m : Nat) (A B : Nat → Nat → UInt8) (h : ∀ i j, i < n → j < m → A i j = B i j) : matL n m A = matL n m B := by
  refine list_ext _ _ (by rw [matL_length, matL_length]) (fun i hi => ?_)
  rw [matL_length] at hi
  rw [nth_matL _ _ _ _ hi, nth_matL _ _ _ _ hi]
  exact strOf_congr _ _ _ (fun j hj => h i j hi hj)
theorem mat_self (ss : List ByteArray) (h : evenB ss = true) : matL ss.length (nth ss 0).size (mt ss) = ss := by
  refine list_ext _ _ (matL_length _ _ _) (fun i hi => ?_)
  rw [matL_length] at hi
  rw [nth_matL _ _ _ _ hi, ← even_all ss h i hi]
  exact strOf_self _
/-- P5.1: which may be. -/
def mayB (ss : List ByteArray) : Bool := decide (1 ≤ ss.length ∧ ss.length ≤ 64 ∧ 1 ≤ (nth ss 0).size ∧ (nth ss 0).size ≤ 64) && evenB ss
theorem may_yes (ss : List ByteArray) (h : mayB ss = true) : 1 ≤ ss.length ∧ ss.length ≤ 64 ∧ 1 ≤ (nth ss 0).size ∧ (nth ss 0).size ≤ 64 ∧ evenB ss = true := by
  unfold mayB at h
  rw [Bool.and_eq_true, decide_eq_true_eq] at h
  exact ⟨h.1.1, h.1.2.1, h.1.2.2.1, h.1.2.2.2, h.2⟩
theorem may_size (ss : List ByteArray) (h : mayB ss = true) (i : Nat) (hi : i < ss.length) : (nth ss i).size = (nth ss 0).size := even_all ss (may_yes ss h).2.2.2.2 i hi
theorem may_no (ss : List ByteArray) (h : ¬ (1 ≤ ss.length ∧ ss.length ≤ 64 ∧ 1 ≤ (nth ss 0).size ∧ (nth ss 0).size ≤ 64)) : mayB ss = false := by
  unfold mayB
  rw [decide_eq_false h]
  rfl
theorem may_even (ss : List ByteArray) (h : 1 ≤ ss.length ∧ ss.length ≤ 64 ∧ 1 ≤ (nth ss 0).size ∧ (nth ss 0).size ≤ 64) : mayB ss = evenB ss := by
  unfold mayB
  rw [decide_eq_true h]
  rfl
theorem even_matL (n m : Nat) (A : Nat → Nat → UInt8) : evenB (matL n m A) = true := by
  refine even_yes _ (fun k hk => ?_)
  rw [matL_length] at hk
  rw [nth_matL _ _ _ _ hk, nth_matL _ _ _ _ (by omega), strOf_size, strOf_size]
theorem may_matL (n m : Nat) (A : Nat → Nat → UInt8) (h1 : 1 ≤ n) (h2 : n ≤ 64) (h3 : 1 ≤ m) (h4 : m ≤ 64) : mayB (matL n m A) = true := by
  rw [may_even _ (by rw [matL_length, nth_matL _ _ _ _ (by omega), strOf_size]; exact ⟨h1, h2, h3, h4⟩), even_matL]
/-- P5.1: the unit. -/
def unitL (n : Int) : List ByteArray := if 1 ≤ n ∧ n ≤ 64 then matL n.toNat n.toNat un else []
/-- P5.1: the product. -/
def prodE (a b : List ByteArray) : Int := if mayB a = true ∧ mayB b = true then (if (nth a 0).size = b.length then 0 else 50) else 8
def prodL (a b : List ByteArray) : List ByteArray := if prodE a b = 0 then matL a.length (nth b 0).size (mm b.length (mt a) (mt b)) else []
/-- P5.2: what undoes a matrix. -/
def CanUndo (a : List ByteArray) : Prop := ∃ U, Inv a.length (mt a) U
open Classical in
noncomputable def undoE (a : List ByteArray) : Int := if mayB a = true then (if (nth a 0).size = a.length then (if CanUndo a then 0 else 51) else 50) else 8
open Classical in
noncomputable def undoL (a : List ByteArray) : List ByteArray := if h : undoE a = 0 ∧ CanUndo a then matL a.length a.length (Classical.choose h.2) else []
theorem undo_is (a : List ByteArray) (hm : mayB a = true) (hs : (nth a 0).size = a.length) (U : Nat → Nat → UInt8) (hU : Inv a.length (mt a) U) : undoE a = 0 ∧ undoL a = matL a.length a.length U := by
  have hc : CanUndo a := ⟨U, hU⟩
  have he : undoE a = 0 := by unfold undoE; rw [if_pos hm, if_pos hs, if_pos hc]
  refine ⟨he, ?_⟩
  unfold undoL
  rw [dif_pos ⟨he, hc⟩]
  have hch := Classical.choose_spec hc
  refine matL_congr _ _ _ _ (fun i j hi hj => ?_)
  exact inv_unique hch.2 hU.1 i j hi hj
theorem undo_not (a : List ByteArray) (hm : mayB a = true) (hs : (nth a 0).size = a.length) (h : ¬ CanUndo a) : undoE a = 51 ∧ undoL a = [] := by
  have he : undoE a = 51 := by unfold undoE; rw [if_pos hm, if_pos hs, if_neg h]
  refine ⟨he, ?_⟩
  unfold undoL
  rw [dif_neg (fun k => h k.2)]
theorem undo_side (a : List ByteArray) (hm : mayB a = true) (hs : (nth a 0).size ≠ a.length) : undoE a = 50 ∧ undoL a = [] := by
  have he : undoE a = 50 := by unfold undoE; rw [if_pos hm, if_neg hs]
  refine ⟨he, ?_⟩
  unfold undoL
  rw [dif_neg (fun k => by rw [he] at k; exact absurd k.1 (by decide))]
theorem undo_form (a : List ByteArray) (hm : ¬ mayB a = true) : undoE a = 8 ∧ undoL a = [] := by
  have he : undoE a = 8 := by unfold undoE; rw [if_neg hm]
  refine ⟨he, ?_⟩
  unfold undoL
  rw [dif_neg (fun k => by rw [he] at k; exact absurd k.1 (by decide))]
/-- P5.3: Cauchy's matrix. -/
def cauE (n m : Int) : Int := if 1 ≤ n ∧ n ≤ 64 ∧ 1 ≤ m ∧ m ≤ 64 then 0 else 2
def cauL (n m : Int) : List ByteArray := if cauE n m = 0 then matL n.toNat m.toNat (fun i j => gi (UInt8.ofNat (m.toNat + i) ^^^ UInt8.ofNat j)) else []
/-- P5.3: rows that are picked. -/
def pickOk (a : List ByteArray) (rs : List Int) : Bool := decide (1 ≤ rs.length ∧ rs.length ≤ 64) && rs.all fun r => decide (0 ≤ r ∧ r < a.length)
def pickE (a : List ByteArray) (rs : List Int) : Int := if mayB a = true then (if pickOk a rs = true then 0 else 2) else 8
def pickL (a : List ByteArray) (rs : List Int) : List ByteArray := if pickE a rs = 0 then rs.map fun r => nth a r.toNat else []
/-- P5.3: rows below others. -/
def belE (a b : List ByteArray) : Int := if mayB a = true ∧ mayB b = true then (if (nth a 0).size = (nth b 0).size then (if a.length + b.length ≤ 64 then 0 else 2) else 50) else 8
def belL (a b : List ByteArray) : List ByteArray := if belE a b = 0 then a ++ b else []
/-- What a call that answers a matrix and an error leaves. -/
def GotM (rows : List ByteArray) (err : Int) (w : World) (e : Ending) (w' : World) : Prop := ∃ a cap, e = .returned (.tuple #[.slice a rows.length cap, .int .i64 err]) ∧ Strs w' a rows ∧ Kept w w'
/-- What a call that answers a matrix leaves. -/
def GotL (rows : List ByteArray) (w : World) (e : Ending) (w' : World) : Prop := ∃ a cap, e = .returned (.slice a rows.length cap) ∧ Strs w' a rows ∧ Kept w w'
end Go.Proofs.Ytlmoeaphikdjnaa
