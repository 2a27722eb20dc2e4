/- What two texts are together is spread as their parts are together. -/
import Derived.Test.YthifdfbdekkmgaaPart19
namespace Go.Proofs.Ythifdfbdekkmgaa
open Go.RowKit Gf
set_option linter.unusedVariables false
theorem bt_out (s : ByteArray) (j : Nat) (h : s.size ≤ j) : bt s j = 0 := by
  unfold bt
  rw [List.getElem!_eq_getElem?_getD, List.getElem?_eq_none (by show s.data.toList.length ≤ j; exact h)]
  rfl
/-- Two texts together. -/
def tog (s t : ByteArray) (n : Nat) : ByteArray := strOf n fun j => bt s j ^^^ bt t j
theorem bt_cut (s : ByteArray) (n j : Nat) (hn : n ≤ s.size) (hj : j < n) : bt (s.extract 0 n) j = bt s j := by
  unfold bt
  rw [List.getElem!_eq_getElem?_getD, List.getElem!_eq_getElem?_getD]
  congr 1
  simp only [ByteArray.data_extract, Array.toList_extract]
  rw [List.extract_eq_take_drop, List.getElem?_take_of_lt (by omega), List.getElem?_drop, Nat.zero_add]
theorem cut_size (s : ByteArray) (n : Nat) (hn : n ≤ s.size) : (s.extract 0 n).size = n := by
  rw [ByteArray.size_extract]; omega
theorem tog_bt (s t : ByteArray) (n : Nat) (h1 : n ≤ s.size) (h2 : n ≤ t.size) (j : Nat) : bt (tog s t n) j = bt (s.extract 0 n) j ^^^ bt (t.extract 0 n) j := by
  by_cases h : j < n
  · rw [bt_cut s n j h1 h, bt_cut t n j h2 h]
    exact strOf_bt _ _ _ h
  · rw [bt_out (s.extract 0 n) j (by rw [cut_size s n h1]; omega), bt_out (t.extract 0 n) j (by rw [cut_size t n h2]; omega), bt_out (tog s t n) j (by unfold tog; rw [strOf_size]; omega)]
    rfl
theorem zero_bt (n j : Nat) : bt (strOf n fun _ => 0) j = 0 := by
  by_cases h : j < n
  · exact strOf_bt _ _ _ h
  · exact bt_out _ _ (by rw [strOf_size]; omega)
theorem pt_xor (k : Nat) (s t b : ByteArray) (h : ∀ p, bt b p = bt s p ^^^ bt t p) (sz i j : Nat) : pt k b sz i j = pt k s sz i j ^^^ pt k t sz i j := by
  unfold pt
  rw [← sm_add]
  refine sm_congr fun l _ => ?_
  unfold pc
  rw [h, gm_add]
theorem pt_zero (k : Nat) (z : ByteArray) (h : ∀ p, bt z p = 0) (sz i j : Nat) : pt k z sz i j = 0 := by
  unfold pt
  refine sm_zero fun l _ => ?_
  unfold pc
  rw [h, gm_zero]
/-- What the law asks of the parts. -/
theorem lin_parts (k r n : Nat) (s t : ByteArray) (h1 : 1 ≤ k) (h2 : k + r ≤ 32) (hs : n ≤ s.size) (ht : n ≤ t.size) (i : Nat) (hi : i < k + r) :
    (nth (spreadL k r (s.extract 0 n)) i).size = sizeN k n ∧ (nth (spreadL k r (t.extract 0 n)) i).size = sizeN k n ∧ (nth (spreadL k r (tog s t n)) i).size = sizeN k n ∧
    nth (spreadL k r (strOf n fun _ => 0)) i = strOf (sizeN k n) (fun _ => 0) ∧
    ∀ j, j < sizeN k n → bt (nth (spreadL k r (s.extract 0 n)) i) j ^^^ bt (nth (spreadL k r (t.extract 0 n)) i) j = bt (nth (spreadL k r (tog s t n)) i) j := by
  have z1 := cut_size s n hs
  have z2 := cut_size t n ht
  have z3 : (tog s t n).size = n := strOf_size _ _
  have z4 : (strOf n fun _ => (0 : UInt8)).size = n := strOf_size _ _
  have e1 := spread_is k r (s.extract 0 n) h1 h2 i hi
  have e2 := spread_is k r (t.extract 0 n) h1 h2 i hi
  have e3 := spread_is k r (tog s t n) h1 h2 i hi
  have e4 := spread_is k r (strOf n fun _ => 0) h1 h2 i hi
  rw [z1] at e1
  rw [z2] at e2
  rw [z3] at e3
  rw [z4] at e4
  rw [e1, e2, e3, e4]
  refine ⟨strOf_size _ _, strOf_size _ _, strOf_size _ _, strOf_congr _ _ _ fun j hj => pt_zero k _ (zero_bt n) _ _ _, fun j hj => ?_⟩
  rw [strOf_bt _ _ _ hj, strOf_bt _ _ _ hj, strOf_bt _ _ _ hj]
  exact (pt_xor k _ _ _ (tog_bt s t n hs ht) _ i j).symm
end Go.Proofs.Ythifdfbdekkmgaa
