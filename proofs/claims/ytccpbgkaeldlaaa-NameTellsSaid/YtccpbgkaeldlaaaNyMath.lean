/- Plain facts on names and keys: their bytes, their order. -/
import Derived.Test.YtccpbgkaeldlaaaOrder
import Derived.Test.YtccpbgkaeldlaaaKept
import Derived.Lib.Bytealg
namespace Go.Proofs.Ytccpbgkaeldlaaa.Ny
open Go Nm
set_option linter.unusedVariables false
set_option linter.unusedSimpArgs false
/-- A key. -/
structure Key where
  kd : Nat
  bk : ByteArray
  nm : ByteArray
  n : Nat
  pt : Int
def Key.none : Key := ⟨0, ⟨#[]⟩, ⟨#[]⟩, 0, 0⟩
def Key.val (k : Key) : Value := .agg #[.int .u8 (k.kd : Nat), .string k.bk, .string k.nm, .int .u64 (k.n : Nat), .int .i64 k.pt]
structure Key.Wf (k : Key) : Prop where
  kd : k.kd < 256
  bk : k.bk.size ≤ maxLen
  nm : k.nm.size ≤ maxLen
  n : k.n < 18446744073709551616
  pt1 : -9223372036854775808 ≤ k.pt
  pt2 : k.pt ≤ 9223372036854775807
def hasB (kd : Nat) : Bool := decide (2 ≤ kd) && decide (kd ≤ 5)
def hasN (kd : Nat) : Bool := decide (3 ≤ kd) && decide (kd ≤ 6)
def isK (kd : Nat) : Bool := decide (1 ≤ kd) && decide (kd ≤ 6)
def hasM (kd : Nat) : Bool := decide (kd = 3)
def hasP (kd : Nat) : Bool := decide (kd = 5)
/-- A letter, or a digit. -/
def letB (c : UInt8) : Bool := (decide (97 ≤ c.toNat) && decide (c.toNat ≤ 122)) || (decide (48 ≤ c.toNat) && decide (c.toNat ≤ 57))
/-- What may stand at a place of a bucket's name. -/
def goodAt (l : List UInt8) (i : Nat) : Bool := letB l[i]! || (decide (0 < i) && decide (i + 1 < l.length) && (decide (l[i]!.toNat = 45) || decide (l[i]!.toNat = 46)))
def bktB (l : List UInt8) : Bool := decide (1 ≤ l.length) && decide (l.length ≤ 63) && (List.range l.length).all (goodAt l)
def objB (n : Nat) : Bool := decide (1 ≤ n) && decide (n ≤ 200)
def mayK (k : Key) : Bool :=
  isK k.kd && (if hasB k.kd then bktB k.bk.data.toList else decide (k.bk.size = 0)) && (if hasM k.kd then objB k.nm.size else decide (k.nm.size = 0)) &&
    (hasN k.kd || decide (k.n = 0)) && (if hasP k.kd then decide (1 ≤ k.pt) && decide (k.pt ≤ 1000) else decide (k.pt = 0))
/-- A name's bytes. -/
def nmL : List UInt8 → List UInt8
  | [] => []
  | b :: l => if b = 0 then 0 :: 255 :: nmL l else b :: nmL l
theorem nmL_append (a b : List UInt8) : nmL (a ++ b) = nmL a ++ nmL b := by
  induction a with
  | nil => rfl
  | cons x a ih =>
    rw [List.cons_append, nmL, nmL, ih]
    split <;> rfl
theorem nmL_length (a : List UInt8) : (nmL a).length ≤ 2 * a.length := by
  induction a with
  | nil => simp [nmL]
  | cons x a ih =>
    rw [nmL]
    split <;> simp <;> omega
/-- A version as it sorts. -/
def tn (kd n : Nat) : Nat := if kd = 3 then 18446744073709551615 - n else n
theorem tn_lt (kd n : Nat) (h : n < 18446744073709551616) : tn kd n < 18446744073709551616 := by unfold tn; split <;> omega
theorem tn_tn (kd n : Nat) (h : n < 18446744073709551616) : tn kd (tn kd n) = n := by unfold tn; split <;> omega
def bP (k : Key) : List UInt8 := if hasB k.kd then k.bk.data.toList ++ [0] else []
def mP (k : Key) : List UInt8 := if hasM k.kd then nmL k.nm.data.toList ++ [0, 1] else []
def nP (k : Key) : List UInt8 := if hasN k.kd then be 8 (tn k.kd k.n) else []
def pP (k : Key) : List UInt8 := if hasP k.kd then be 2 k.pt.toNat else []
/-- A key's bytes. -/
def encL (k : Key) : List UInt8 := UInt8.ofNat k.kd :: (bP k ++ (mP k ++ (nP k ++ pP k)))
/-- Bytes are those of a key that may be. -/
def Dec (l : List UInt8) (k : Key) : Prop := k.Wf ∧ mayK k = true ∧ encL k = l
theorem kd_byte {k : Key} (h : k.kd < 256) : (UInt8.ofNat k.kd).toNat = k.kd := by rw [UInt8.toNat_ofNat']; omega

/- Order. -/
theorem lt_nat {u v : UInt8} : u < v ↔ u.toNat < v.toNat := UInt8.lt_iff_toNat_lt
theorem ne_nat {u v : UInt8} (h : u ≠ v) : u.toNat ≠ v.toNat := fun e => h (UInt8.toNat_inj.1 e)
theorem pos_nat {u : UInt8} (h : u ≠ 0) : 0 < u.toNat := by
  have := ne_nat h
  have e : (0 : UInt8).toNat = 0 := rfl
  omega
theorem zero_lt {u : UInt8} (h : u ≠ 0) : (0 : UInt8) < u := lt_nat.2 (pos_nat h)
/-- Three ways in which two things of one make stand. -/
def Tri {α : Type} (a b : α) (x y : List UInt8) (c d : Int) : Prop := (a = b ∧ c = 0 ∧ d = 0) ∨ (a ≠ b ∧ Diff x y ∧ c = -1 ∧ d = 1) ∨ (a ≠ b ∧ Diff y x ∧ c = 1 ∧ d = -1)
theorem diff_app {a b : List UInt8} (h : Diff a b) (s t : List UInt8) : Diff (a ++ s) (b ++ t) := by
  obtain ⟨p, u, v, a', b', rfl, rfl, h⟩ := h
  exact ⟨p, u, v, a' ++ s, b' ++ t, by simp, by simp, h⟩
theorem diff_pre {a b : List UInt8} (h : Diff a b) (s : List UInt8) : Diff (s ++ a) (s ++ b) := by
  obtain ⟨p, u, v, a', b', rfl, rfl, h⟩ := h
  exact ⟨s ++ p, u, v, a', b', by simp, by simp, h⟩
theorem diff_head {u v : UInt8} (h : u < v) (a b : List UInt8) : Diff (u :: a) (v :: b) := ⟨[], u, v, a, b, rfl, rfl, h⟩
/-- The lesser first. -/
def cmpN (a b : Int) : Int := if a < b then -1 else if b < a then 1 else 0
theorem cmp_self (l : List UInt8) : Lib.compareBytes l l = 0 := by
  induction l with
  | nil => rfl
  | cons a l ih =>
    unfold Lib.compareBytes
    rw [if_neg (UInt8.lt_irrefl _), if_neg (UInt8.lt_irrefl _), ih]
theorem bkt_tri (a : List UInt8) : ∀ (b : List UInt8), (∀ x ∈ a, x ≠ 0) → (∀ x ∈ b, x ≠ 0) → Tri a b (a ++ [0]) (b ++ [0]) (Lib.compareBytes a b) (Lib.compareBytes b a) := by
  induction a with
  | nil =>
    intro b ha hb
    cases b with
    | nil => exact .inl ⟨rfl, rfl, rfl⟩
    | cons y b => exact .inr (.inl ⟨by simp, diff_head (zero_lt (hb y (by simp))) _ _, rfl, rfl⟩)
  | cons x a ih =>
    intro b ha hb
    cases b with
    | nil => exact .inr (.inr ⟨by simp, diff_head (zero_lt (ha x (by simp))) _ _, rfl, rfl⟩)
    | cons y b =>
      have hxy : x.toNat < y.toNat ∨ x = y ∨ y.toNat < x.toNat := by
        by_cases e : x = y
        · exact .inr (.inl e)
        · have := ne_nat e; omega
      rcases hxy with h | h | h
      · refine .inr (.inl ⟨fun e => by injection e with e _; subst e; omega, diff_head (lt_nat.2 h) _ _, ?_, ?_⟩)
        · unfold Lib.compareBytes; rw [if_pos (lt_nat.2 h)]
        · unfold Lib.compareBytes; rw [if_neg (fun h2 => by have := lt_nat.1 h2; omega), if_pos (lt_nat.2 h)]
      · subst h
        have e1 : Lib.compareBytes (x :: a) (x :: b) = Lib.compareBytes a b := by
          rw [Lib.compareBytes, if_neg (UInt8.lt_irrefl _), if_neg (UInt8.lt_irrefl _)]
        have e2 : Lib.compareBytes (x :: b) (x :: a) = Lib.compareBytes b a := by
          rw [Lib.compareBytes, if_neg (UInt8.lt_irrefl _), if_neg (UInt8.lt_irrefl _)]
        rw [e1, e2]
        rcases ih b (fun z hz => ha z (by simp [hz])) (fun z hz => hb z (by simp [hz])) with ⟨h1, h2⟩ | ⟨h1, h2, h3⟩ | ⟨h1, h2, h3⟩
        · exact .inl ⟨by rw [h1], h2⟩
        · exact .inr (.inl ⟨fun e => h1 (by injection e), h2.cons x, h3⟩)
        · exact .inr (.inr ⟨fun e => h1 (by injection e), h2.cons x, h3⟩)
      · refine .inr (.inr ⟨fun e => by injection e with e _; subst e; omega, diff_head (lt_nat.2 h) _ _, ?_, ?_⟩)
        · unfold Lib.compareBytes; rw [if_neg (fun h2 => by have := lt_nat.1 h2; omega), if_pos (lt_nat.2 h)]
        · unfold Lib.compareBytes; rw [if_pos (lt_nat.2 h)]
theorem name_first (x : UInt8) (l : List UInt8) : ∃ r, nmL (x :: l) = x :: r := by
  rw [nmL]
  split
  · rename_i h; subst h; exact ⟨_, rfl⟩
  · exact ⟨_, rfl⟩
theorem name_tri (a : List UInt8) : ∀ (b : List UInt8), Tri a b (nmL a ++ [0, 1]) (nmL b ++ [0, 1]) (Lib.compareBytes a b) (Lib.compareBytes b a) := by
  have h0 : ∀ (y : UInt8) (b : List UInt8), Diff (nmL [] ++ [0, 1]) (nmL (y :: b) ++ [0, 1]) := fun y b => by
    rw [nmL, nmL]
    split
    · exact ⟨[0], 1, 255, [], nmL b ++ [0, 1], rfl, rfl, by decide⟩
    · rename_i h
      exact diff_head (zero_lt h) _ _
  induction a with
  | nil =>
    intro b
    cases b with
    | nil => exact .inl ⟨rfl, rfl, rfl⟩
    | cons y b => exact .inr (.inl ⟨by simp, h0 y b, rfl, rfl⟩)
  | cons x a ih =>
    intro b
    cases b with
    | nil => exact .inr (.inr ⟨by simp, h0 x a, rfl, rfl⟩)
    | cons y b =>
      have hxy : x.toNat < y.toNat ∨ x = y ∨ y.toNat < x.toNat := by
        by_cases e : x = y
        · exact .inr (.inl e)
        · have := ne_nat e; omega
      obtain ⟨rx, ex⟩ := name_first x a
      obtain ⟨ry, ey⟩ := name_first y b
      rcases hxy with h | h | h
      · refine .inr (.inl ⟨fun e => by injection e with e _; subst e; omega, ?_, ?_, ?_⟩)
        · rw [ex, ey]; exact diff_head (lt_nat.2 h) _ _
        · unfold Lib.compareBytes; rw [if_pos (lt_nat.2 h)]
        · unfold Lib.compareBytes; rw [if_neg (fun h2 => by have := lt_nat.1 h2; omega), if_pos (lt_nat.2 h)]
      · subst h
        have e1 : Lib.compareBytes (x :: a) (x :: b) = Lib.compareBytes a b := by
          rw [Lib.compareBytes, if_neg (UInt8.lt_irrefl _), if_neg (UInt8.lt_irrefl _)]
        have e2 : Lib.compareBytes (x :: b) (x :: a) = Lib.compareBytes b a := by
          rw [Lib.compareBytes, if_neg (UInt8.lt_irrefl _), if_neg (UInt8.lt_irrefl _)]
        rw [e1, e2, show x :: a = [x] ++ a from rfl, show x :: b = [x] ++ b from rfl, nmL_append, nmL_append, List.append_assoc, List.append_assoc]
        rcases ih b with ⟨h1, h2⟩ | ⟨h1, h2, h3⟩ | ⟨h1, h2, h3⟩
        · exact .inl ⟨by rw [h1], h2⟩
        · exact .inr (.inl ⟨fun e => h1 (by injection e), diff_pre h2 _, h3⟩)
        · exact .inr (.inr ⟨fun e => h1 (by injection e), diff_pre h2 _, h3⟩)
      · refine .inr (.inr ⟨fun e => by injection e with e _; subst e; omega, ?_, ?_, ?_⟩)
        · rw [ex, ey]; exact diff_head (lt_nat.2 h) _ _
        · unfold Lib.compareBytes; rw [if_neg (fun h2 => by have := lt_nat.1 h2; omega), if_pos (lt_nat.2 h)]
        · unfold Lib.compareBytes; rw [if_pos (lt_nat.2 h)]
theorem num_tri (n x y : Nat) (hx : x < 256 ^ n) (hy : y < 256 ^ n) : Tri x y (be n x) (be n y) (cmpN x y) (cmpN y x) := by
  rcases Nat.lt_trichotomy x y with h | h | h
  · refine .inr (.inl ⟨by omega, be_diff n x y (by rw [Nat.mod_eq_of_lt hx, Nat.mod_eq_of_lt hy]; exact h), ?_, ?_⟩)
    · unfold cmpN; rw [if_pos (by omega)]
    · unfold cmpN; rw [if_neg (by omega), if_pos (by omega)]
  · subst h
    exact .inl ⟨rfl, by unfold cmpN; simp, by unfold cmpN; simp⟩
  · refine .inr (.inr ⟨by omega, be_diff n y x (by rw [Nat.mod_eq_of_lt hx, Nat.mod_eq_of_lt hy]; exact h), ?_, ?_⟩)
    · unfold cmpN; rw [if_neg (by omega), if_pos (by omega)]
    · unfold cmpN; rw [if_pos (by omega)]
/-- The first that is not 0. -/
def or5 (a b c d e : Int) : Int := if a ≠ 0 then a else if b ≠ 0 then b else if c ≠ 0 then c else if d ≠ 0 then d else e
def cmpK (a b : Key) : Int :=
  or5 (cmpN a.kd b.kd) (Lib.compareBytes a.bk.data.toList b.bk.data.toList) (Lib.compareBytes a.nm.data.toList b.nm.data.toList) (cmpN (tn a.kd a.n) (tn b.kd b.n)) (cmpN a.pt b.pt)
theorem bktB_nz {l : List UInt8} (h : bktB l = true) : ∀ x ∈ l, x ≠ 0 := by
  intro x hx e
  subst e
  unfold bktB at h
  simp only [Bool.and_eq_true, List.all_eq_true, List.mem_range] at h
  obtain ⟨i, hi, he⟩ := List.getElem_of_mem hx
  have := h.2 i hi
  unfold goodAt at this
  rw [getElem!_pos l i hi, he] at this
  simp [letB] at this
theorem ba_ext {a b : ByteArray} (h : a.data.toList = b.data.toList) : a = b := by
  apply ByteArray.ext
  exact Array.toList_inj.1 h
theorem ba_nil {a : ByteArray} (h : a.size = 0) : a = ⟨#[]⟩ := by
  apply ByteArray.ext
  exact Array.eq_empty_of_size_eq_zero h
end Go.Proofs.Ytccpbgkaeldlaaa.Ny
