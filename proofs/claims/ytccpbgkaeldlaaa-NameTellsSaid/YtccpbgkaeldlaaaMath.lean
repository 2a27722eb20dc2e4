/- Plain facts on numbers and their bytes: how many there are, what they are, what number they make. Nothing here names the program. -/
namespace Go.Proofs.Ytccpbgkaeldlaaa.Nm

/-- How many bits a number has. -/
def blen (x : Nat) : Nat := if x = 0 then 0 else Nat.log2 x + 1

theorem blen_le (x k : Nat) : blen x ≤ k ↔ x < 2 ^ k := by
  unfold blen
  by_cases h : x = 0
  · subst h; simp [Nat.two_pow_pos]
  · rw [if_neg h, Nat.succ_le_iff, Nat.log2_lt h]

theorem eq_of_le {a b : Nat} (h : ∀ j, a ≤ j ↔ b ≤ j) : a = b :=
  Nat.le_antisymm ((h b).2 (Nat.le_refl _)) ((h a).1 (Nat.le_refl _))

theorem blen_shift (x k : Nat) (h : 2 ^ k ≤ x) : blen x = k + blen (x / 2 ^ k) := by
  apply eq_of_le
  intro j
  rw [blen_le]
  by_cases hj : k ≤ j
  · obtain ⟨d, rfl⟩ := Nat.exists_eq_add_of_le hj
    rw [Nat.add_le_add_iff_left, blen_le, Nat.div_lt_iff_lt_mul (Nat.two_pow_pos k), Nat.pow_add, Nat.mul_comm]
  · have h2 : 2 ^ j ≤ 2 ^ k := Nat.pow_le_pow_right (by omega) (by omega)
    constructor
    · intro h3; omega
    · intro h3; omega

/-- How many bytes a number has. -/
def nb (x : Nat) : Nat := (blen x + 7) / 8

theorem nb_le (x k : Nat) : nb x ≤ k ↔ x < 256 ^ k := by
  unfold nb
  have e : (256 : Nat) ^ k = 2 ^ (8 * k) := by rw [Nat.pow_mul]
  rw [e, ← blen_le]
  omega

theorem nb_zero : nb 0 = 0 := by decide
theorem lt_nb (x : Nat) : x < 256 ^ nb x := (nb_le x _).1 (Nat.le_refl _)
theorem nb_le8 {x : Nat} (h : x < 2 ^ 64) : nb x ≤ 8 := (nb_le x 8).2 (by simpa using h)
theorem nb_div (x : Nat) (h : x ≠ 0) : nb x = nb (x / 256) + 1 := by
  apply eq_of_le
  intro j
  cases j with
  | zero => rw [nb_le]; simp [h]
  | succ j =>
    rw [nb_le, Nat.add_le_add_iff_right, nb_le, Nat.div_lt_iff_lt_mul (by omega), Nat.pow_succ]
theorem nb_mono {x y : Nat} (h : x ≤ y) : nb x ≤ nb y := (nb_le x _).2 (Nat.lt_of_le_of_lt h (lt_nb y))
theorem nb_low {x k : Nat} (h : k < nb x) : 256 ^ k ≤ x := by
  rcases Nat.lt_or_ge x (256 ^ k) with h1 | h1
  · have := (nb_le x k).2 h1; omega
  · exact h1

/-- The last k bytes of a number, the highest first. -/
def be : Nat → Nat → List UInt8
  | 0, _ => []
  | k + 1, x => UInt8.ofNat (x / 256 ^ k) :: be k x

theorem be_length (k x : Nat) : (be k x).length = k := by
  induction k with
  | zero => rfl
  | succ k ih => simp [be, ih]

theorem be_snoc (k x : Nat) : be (k + 1) x = be k (x / 256) ++ [UInt8.ofNat x] := by
  induction k with
  | zero => simp [be]
  | succ k ih =>
    rw [be, ih, be]
    simp only [List.cons_append]
    rw [Nat.div_div_eq_div_mul, ← Nat.pow_succ']

theorem snoc_ind {P : List UInt8 → Prop} (h0 : P []) (h1 : ∀ l b, P l → P (l ++ [b])) (l : List UInt8) : P l := by
  have h : ∀ r : List UInt8, P r.reverse := by
    intro r
    induction r with
    | nil => exact h0
    | cons b r ih => rw [List.reverse_cons]; exact h1 _ _ ih
  have := h l.reverse
  rwa [List.reverse_reverse] at this

/-- The number that bytes make, the highest first. -/
def val (l : List UInt8) : Nat := l.foldl (fun a b => 256 * a + b.toNat) 0
theorem val_snoc (l : List UInt8) (b : UInt8) : val (l ++ [b]) = 256 * val l + b.toNat := by simp [val]
theorem val_be (k x : Nat) : val (be k x) = x % 256 ^ k := by
  induction k generalizing x with
  | zero => simp [be, val, Nat.mod_one]
  | succ k ih =>
    rw [be_snoc, val_snoc, ih, UInt8.toNat_ofNat', show (256 : Nat) ^ (k + 1) = 256 * 256 ^ k from Nat.pow_succ', Nat.mod_mul]
    omega
theorem val_nb (x : Nat) : val (be (nb x) x) = x := by rw [val_be, Nat.mod_eq_of_lt (lt_nb x)]
theorem val_lt (l : List UInt8) : val l < 256 ^ l.length := by
  induction l using snoc_ind with
  | h0 => simp [val]
  | h1 l b ih =>
    rw [val_snoc, List.length_append, List.length_singleton, Nat.pow_succ']
    have := b.toNat_lt
    omega
theorem be_val (l : List UInt8) : be l.length (val l) = l := by
  induction l using snoc_ind with
  | h0 => rfl
  | h1 l b ih =>
    rw [List.length_append, List.length_singleton, be_snoc, val_snoc]
    have hb := b.toNat_lt
    have e1 : (256 * val l + b.toNat) / 256 = val l := by omega
    rw [e1, ih]
    congr 2
    apply UInt8.toNat_inj.1
    rw [UInt8.toNat_ofNat']
    omega

/-- A number's bytes: how many, then these. -/
def up (x : Nat) : List UInt8 := UInt8.ofNat (nb x) :: be (nb x) x
/-- Bytes turned. -/
def turn (t : UInt8) (l : List UInt8) : List UInt8 := l.map (· ^^^ t)

theorem turn_zero (l : List UInt8) : turn 0 l = l := by
  unfold turn
  conv => rhs; rw [← List.map_id l]
  apply List.map_congr_left
  intro b _
  simp
theorem turn_turn (t : UInt8) (l : List UInt8) : turn t (turn t l) = l := by
  unfold turn
  rw [List.map_map]
  conv => rhs; rw [← List.map_id l]
  apply List.map_congr_left
  intro b _
  simp [UInt8.xor_assoc]
theorem turn_length (t : UInt8) (l : List UInt8) : (turn t l).length = l.length := by simp [turn]
theorem turn_append (t : UInt8) (a b : List UInt8) : turn t (a ++ b) = turn t a ++ turn t b := by simp [turn]
theorem up_length (x : Nat) : (up x).length = nb x + 1 := by simp [up, be_length]
/-- Place j of an array of nine bytes in which the last bytes of x, those behind place k, are laid. -/
def f1 (n x k j : Nat) : UInt8 := if j = 0 then UInt8.ofNat n else if k < j ∧ j ≤ n then UInt8.ofNat (x / 256 ^ (n - j)) else 0
/-- .. the first k of which are turned. -/
def f2 (n x : Nat) (t : UInt8) (k j : Nat) : UInt8 := if j < k then f1 n x 0 j ^^^ t else f1 n x 0 j
theorem f1_start (n x j : Nat) : f1 n x n j = if j = 0 then UInt8.ofNat n else 0 := by
  unfold f1
  by_cases h : j = 0
  · simp [h]
  · rw [if_neg h, if_neg h, if_neg (by omega)]
theorem f1_step (n x k : Nat) (hk : k ≤ n) (h0 : 0 < k) : (fun j => if j = k then UInt8.ofNat (x / 256 ^ (n - k)) else f1 n x k j) = f1 n x (k - 1) := by
  funext j
  unfold f1
  by_cases h : j = k
  · subst h
    rw [if_pos rfl, if_neg (by omega), if_pos (by omega)]
  · rw [if_neg h]
    by_cases h1 : j = 0
    · simp [h1]
    · rw [if_neg h1, if_neg h1]
      by_cases h2 : k < j ∧ j ≤ n
      · rw [if_pos h2, if_pos (by omega)]
      · rw [if_neg h2, if_neg (by omega)]
theorem f2_start (n x : Nat) (t : UInt8) : f1 n x 0 = f2 n x t 0 := by funext j; simp [f2]
theorem f2_step (n x : Nat) (t : UInt8) (k : Nat) : (fun j => if j = k then f2 n x t k k ^^^ t else f2 n x t k j) = f2 n x t (k + 1) := by
  funext j
  unfold f2
  by_cases h : j = k
  · subst h
    rw [if_pos rfl, if_neg (by omega), if_pos (by omega)]
  · rw [if_neg h]
    by_cases h1 : j < k
    · rw [if_pos h1, if_pos (by omega)]
    · rw [if_neg h1, if_neg (by omega)]
theorem be_getElem (n x j : Nat) (h : j < n) : (be n x)[j]? = some (UInt8.ofNat (x / 256 ^ (n - (j + 1)))) := by
  induction n generalizing j with
  | zero => omega
  | succ n ih =>
    cases j with
    | zero => simp [be]
    | succ j => rw [be, List.getElem?_cons_succ, ih j (by omega), show n + 1 - (j + 1 + 1) = n - (j + 1) from by omega]
theorem f2_all (n x : Nat) (t : UInt8) (j : Nat) (h : j < n + 1) : (turn t (UInt8.ofNat n :: be n x))[j]? = some (f2 n x t (n + 1) j) := by
  unfold turn f2 f1
  rw [if_pos h, List.getElem?_map]
  cases j with
  | zero => simp
  | succ j => rw [List.getElem?_cons_succ, be_getElem n x j (by omega), if_neg (by omega), if_pos (by omega)]; rfl
theorem xor255 (b : UInt8) : b ^^^ 255 = 255 - b := by
  have h : ∀ n : Fin 256, UInt8.ofNat n.val ^^^ 255 = 255 - UInt8.ofNat n.val := by decide +kernel
  have := h ⟨b.toNat, b.toNat_lt⟩
  simpa using this
end Go.Proofs.Ytccpbgkaeldlaaa.Nm
