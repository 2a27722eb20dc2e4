/- SRowOf, SFieldTab. -/
import Derived.Test.YthifdfbdekkmgaaPart5
import Derived.Deep.WholeRow
import Derived.Laws.IdiomStrings
import Derived.Test.YthifdfbdekkmgaaPart0
set_option linter.unusedVariables false
set_option linter.unusedSimpArgs false
set_option linter.unusedSectionVars false
set_option linter.unnecessarySimpa false
set_option linter.deprecated false
/- A block's cells told by a function. -/
namespace Go.Proofs.Ythifdfbdekkmgaa
open Go.RowKit
/-- n cells told by a function. -/
def row (n : Nat) (g : Nat → Value) : Array Value := Array.ofFn (n := n) fun j => g j.val
theorem row_get (n : Nat) (g : Nat → Value) (j : Nat) (h : j < n) : (row n g)[j]? = some (g j) := by
  unfold row
  rw [Array.getElem?_ofFn, dif_pos h]
theorem row_size (n : Nat) (g : Nat → Value) : (row n g).size = n := by simp [row]
theorem row_set (n : Nat) (g h : Nat → Value) (k : Nat) (v : Value) (hk : k < n) (e : ∀ j, j < n → h j = if j = k then v else g j) : (row n g).setIfInBounds k v = row n h := by
  apply Array.ext_getElem?
  intro i
  rw [Array.getElem?_setIfInBounds]
  by_cases hi : i < n
  · rw [row_get _ h i hi, e i hi]
    by_cases hik : i = k
    · subst hik
      rw [if_pos rfl, if_pos (by rw [row_size]; omega), if_pos rfl]
    · rw [if_neg (by omega), row_get _ g i hi, if_neg hik]
  · rw [if_neg (by omega), Array.getElem?_eq_none (by rw [row_size]; omega), Array.getElem?_eq_none (by rw [row_size]; omega)]
theorem row_congr (n : Nat) (g h : Nat → Value) (e : ∀ j, j < n → g j = h j) : row n g = row n h := by
  apply Array.ext_getElem?
  intro i
  by_cases hi : i < n
  · rw [row_get _ g i hi, row_get _ h i hi, e i hi]
  · rw [Array.getElem?_eq_none (by rw [row_size]; omega), Array.getElem?_eq_none (by rw [row_size]; omega)]
theorem row_one (n : Nat) (k : IntKind) (f : Nat → Int) : (row n fun j => Value.int k (f j)).all (·.oneCell') = true := by
  rw [Array.all_eq_true]
  intro i hi
  simp [row]
  rfl
theorem add_at (b j : Nat) : (⟨b, 0, none⟩ : Addr).add j = ⟨b, j, none⟩ := by
  unfold Addr.add
  split
  · rename_i h0; subst h0; rfl
  · simp
theorem setRow_at (w : World) (g : Nat) (cs old : Array Value) (t : TypeId) (h : w.heap[g]? = some (.cells old t (0, 0))) : (w.setRow g cs).heap[g]? = some (.cells cs t (0, 0)) := by
  show (w.heap.modify g _)[g]? = _
  rw [Array.getElem?_modify, if_pos rfl, h]
  rfl
theorem Kept.setRow {a w : World} (h : Kept a w) (g : Nat) (cs : Array Value) (hg : a.heap.size ≤ g) : Kept a (w.setRow g cs) :=
  Below.trans h ⟨rfl, rfl, rfl, by rw [size_setRow]; exact Nat.le_refl _, fun k hk => by
    show (w.heap.modify g _)[k]? = _
    rw [Array.getElem?_modify, if_neg (by omega)]⟩
end Go.Proofs.Ythifdfbdekkmgaa

/- Plain facts: the powers of 2, and the logarithms, in one table. -/
namespace Go.Proofs.Ythifdfbdekkmgaa.Gf
/-- The powers of 2. -/
def P (k : Nat) : Nat := pow 2 k
/-- Which of the first k powers of 2 an element is, the last one; 0, if none. -/
def lgk : Nat → Nat → Nat
  | 0, _ => 0
  | k + 1, x => if x = P k then k else lgk k x
/-- The table's cells when k powers stand there: the powers, the powers again, the logarithms. -/
def tb (k j : Nat) : Nat := if j < 510 then (if j % 255 < k then P (j % 255) else 0) else lgk k (j - 510)
theorem P_zero : P 0 = 1 := rfl
theorem P_succ (k : Nat) : P (k + 1) = mul (P k) 2 := rfl
theorem P_lt (k : Nat) : P k < 256 := pow_lt (by decide) k
theorem P_add (m n : Nat) : P (m + n) = mul (P m) (P n) := pow_add (by decide) m n
theorem P_255 : P 255 = 1 := pow_255 (by decide) (by decide)
theorem P_around (m n : Nat) : P (m + 255 * n) = P m := by
  induction n with
  | zero => rfl
  | succ n ih => rw [Nat.mul_succ, ← Nat.add_assoc, P_add, ih, P_255, mul_one (P_lt m)]
theorem P_mod (n : Nat) : P (n % 255) = P n := by
  have h := P_around (n % 255) (n / 255)
  rw [Nat.mod_add_div] at h
  exact h.symm
theorem tb_start (j : Nat) : tb 0 j = 0 := by unfold tb; split <;> simp [lgk]
theorem tb_next (k j : Nat) (hk : k < 255) (hj : j < 766) : tb (k + 1) j = if j = 510 + P k then k else if j = 255 + k then P k else if j = k then P k else tb k j := by
  have hp := P_lt k
  unfold tb
  by_cases h : j < 510
  · rw [if_pos h, if_pos h, if_neg (show ¬ j = 510 + P k by omega)]
    by_cases h1 : j = 255 + k
    · subst h1
      have e : (255 + k) % 255 = k := by omega
      rw [if_pos rfl, e, if_pos (by omega)]
    · rw [if_neg h1]
      by_cases h2 : j = k
      · subst h2
        have e : j % 255 = j := by omega
        rw [if_pos rfl, e, if_pos (by omega)]
      · rw [if_neg h2]
        have e : j % 255 ≠ k := by omega
        by_cases h3 : j % 255 < k
        · rw [if_pos (show j % 255 < k + 1 by omega), if_pos h3]
        · rw [if_neg (show ¬ j % 255 < k + 1 by omega), if_neg h3]
  · rw [if_neg h, if_neg h, lgk]
    by_cases h1 : j = 510 + P k
    · rw [if_pos h1, if_pos (by omega)]
    · rw [if_neg h1, if_neg (by omega), if_neg (by omega), if_neg (by omega)]
theorem tb_pow (j : Nat) (h : j < 510) : tb 255 j = P j := by
  unfold tb
  rw [if_pos h, if_pos (Nat.mod_lt _ (by decide)), P_mod]
/-- The logarithm. -/
def lg (x : Nat) : Nat := tb 255 (510 + x)
/-- The powers, one behind the other. -/
def scan : Nat → Nat → List Nat
  | 0, _ => []
  | k + 1, x => x :: scan k (mul x 2)
def pows : List Nat := [1, 2, 4, 8, 16, 32, 64, 128, 29, 58, 116, 232, 205, 135, 19, 38, 76, 152, 45, 90, 180, 117, 234, 201, 143, 3, 6, 12, 24, 48, 96, 192, 157, 39, 78, 156, 37, 74, 148, 53, 106, 212, 181, 119, 238, 193, 159, 35, 70, 140, 5, 10, 20, 40, 80, 160, 93, 186, 105, 210, 185, 111, 222, 161, 95, 190, 97, 194, 153, 47, 94, 188, 101, 202, 137, 15, 30, 60, 120, 240, 253, 231, 211, 187, 107, 214, 177, 127, 254, 225, 223, 163, 91, 182, 113, 226, 217, 175, 67, 134, 17, 34, 68, 136, 13, 26, 52, 104, 208, 189, 103, 206, 129, 31, 62, 124, 248, 237, 199, 147, 59, 118, 236, 197, 151, 51, 102, 204, 133, 23, 46, 92, 184, 109, 218, 169, 79, 158, 33, 66, 132, 21, 42, 84, 168, 77, 154, 41, 82, 164, 85, 170, 73, 146, 57, 114, 228, 213, 183, 115, 230, 209, 191, 99, 198, 145, 63, 126, 252, 229, 215, 179, 123, 246, 241, 255, 227, 219, 171, 75, 150, 49, 98, 196, 149, 55, 110, 220, 165, 87, 174, 65, 130, 25, 50, 100, 200, 141, 7, 14, 28, 56, 112, 224, 221, 167, 83, 166, 81, 162, 89, 178, 121, 242, 249, 239, 195, 155, 43, 86, 172, 69, 138, 9, 18, 36, 72, 144, 61, 122, 244, 245, 247, 243, 251, 235, 203, 139, 11, 22, 44, 88, 176, 125, 250, 233, 207, 131, 27, 54, 108, 216, 173, 71, 142]
theorem scan_eq : scan 255 1 = pows := by decide +kernel
theorem pows_all : ∀ x : Fin 256, x.val ≠ 0 → pows.contains x.val = true := by decide +kernel
theorem scan_mem (n k x : Nat) (h : x ∈ scan n (P k)) : ∃ j, j < n ∧ P (k + j) = x := by
  induction n generalizing k with
  | zero => simp [scan] at h
  | succ n ih =>
    rw [scan, List.mem_cons] at h
    rcases h with h | h
    · exact ⟨0, by omega, h.symm⟩
    · rw [← P_succ] at h
      obtain ⟨j, hj, e⟩ := ih (k + 1) h
      exact ⟨j + 1, by omega, by rw [← e]; congr 1; omega⟩
theorem lgk_spec (k x : Nat) (h : ∃ j, j < k ∧ P j = x) : P (lgk k x) = x ∧ lgk k x < k := by
  induction k with
  | zero => obtain ⟨j, hj, _⟩ := h; omega
  | succ k ih =>
    rw [lgk]
    by_cases e : x = P k
    · rw [if_pos e]; exact ⟨e.symm, by omega⟩
    · rw [if_neg e]
      obtain ⟨j, hj, he⟩ := h
      have : j ≠ k := fun h => e (by rw [← he, h])
      have := ih ⟨j, by omega, he⟩
      exact ⟨this.1, by omega⟩
theorem lgk_le (k x : Nat) : lgk k x ≤ k - 1 := by
  induction k with
  | zero => exact Nat.le_refl _
  | succ k ih =>
    rw [lgk]
    split <;> omega
/-- Each element but 0 is a power of 2. -/
theorem is_pow (x : Nat) (h : x < 256) (h0 : x ≠ 0) : ∃ j, j < 255 ∧ P j = x := by
  have h1 := pows_all ⟨x, h⟩ h0
  rw [← scan_eq, List.contains_iff_mem] at h1
  obtain ⟨j, hj, e⟩ := scan_mem 255 0 x h1
  exact ⟨j, hj, by rw [← e, Nat.zero_add]⟩
theorem lg_eq (x : Nat) : lg x = lgk 255 x := by unfold lg tb; rw [if_neg (by omega), Nat.add_sub_cancel_left]
theorem lg_lt (x : Nat) : lg x < 255 := by have := lgk_le 255 x; rw [lg_eq]; omega
theorem P_lg (x : Nat) (h : x < 256) (h0 : x ≠ 0) : P (lg x) = x := by rw [lg_eq]; exact (lgk_spec 255 x (is_pow x h h0)).1
theorem tb_lt (k j : Nat) (hk : k ≤ 255) : tb k j < 256 := by
  unfold tb
  split
  · split
    · exact P_lt _
    · decide
  · have := lgk_le k (j - 510)
    omega
theorem mul_logs (a b : Nat) (ha : a < 256) (hb : b < 256) (ha0 : a ≠ 0) (hb0 : b ≠ 0) : P (lg a + lg b) = mul a b := by
  rw [P_add, P_lg a ha ha0, P_lg b hb hb0]
theorem inv_log (b : Nat) (hb : b < 256) (hb0 : b ≠ 0) : P (255 - lg b) = inv b := by
  refine inv_only hb (P_lt _) hb0 ?_
  have h := lg_lt b
  have e : P (lg b + (255 - lg b)) = 1 := by rw [show lg b + (255 - lg b) = 255 from by omega, P_255]
  rw [P_add, P_lg b hb hb0] at e
  exact e
theorem pow_log (a n : Nat) (ha : a < 256) (ha0 : a ≠ 0) : P (n % 255 * lg a % 255) = pow a n := by
  rw [P_mod]
  have h : P (n % 255 * lg a) = P (n * lg a) := by
    rw [← P_mod, ← P_mod (n * lg a), Nat.mul_mod, Nat.mod_mod, ← Nat.mul_mod]
  rw [h, Nat.mul_comm]
  unfold P
  rw [← pow_pow (by decide)]
  rw [show pow 2 (lg a) = P (lg a) from rfl, P_lg a ha ha0]
end Go.Proofs.Ythifdfbdekkmgaa.Gf

