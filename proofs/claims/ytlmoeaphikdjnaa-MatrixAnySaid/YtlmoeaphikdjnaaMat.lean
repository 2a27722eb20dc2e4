/- Plain facts: matrices over the field of 256 elements. Nothing here names the program. -/
import Derived.Test.YtlmoeaphikdjnaaField
namespace Go.Proofs.Ytlmoeaphikdjnaa.Gf

/-- The product of two bytes. -/
def gm (a b : UInt8) : UInt8 := UInt8.ofNat (mul a.toNat b.toNat)
def gi (a : UInt8) : UInt8 := UInt8.ofNat (inv a.toNat)
theorem gm_nat (a b : UInt8) : (gm a b).toNat = mul a.toNat b.toNat := by
  unfold gm
  rw [UInt8.toNat_ofNat', Nat.mod_eq_of_lt (mul_lt a.toNat_lt b.toNat_lt)]
theorem gi_nat (a : UInt8) : (gi a).toNat = inv a.toNat := by
  unfold gi
  rw [UInt8.toNat_ofNat', Nat.mod_eq_of_lt (inv_lt a.toNat_lt)]
theorem gm_comm (a b : UInt8) : gm a b = gm b a := UInt8.toNat_inj.1 (by rw [gm_nat, gm_nat, mul_comm a.toNat_lt b.toNat_lt])
theorem gm_assoc (a b c : UInt8) : gm a (gm b c) = gm (gm a b) c := UInt8.toNat_inj.1 (by rw [gm_nat, gm_nat, gm_nat, gm_nat, mul_assoc a.toNat_lt b.toNat_lt c.toNat_lt])
theorem gm_one (a : UInt8) : gm a 1 = a := UInt8.toNat_inj.1 (by rw [gm_nat]; exact mul_one a.toNat_lt)
theorem one_gm (a : UInt8) : gm 1 a = a := by rw [gm_comm, gm_one]
theorem gm_zero (a : UInt8) : gm a 0 = 0 := UInt8.toNat_inj.1 (by rw [gm_nat]; exact mul_zero _)
theorem zero_gm (a : UInt8) : gm 0 a = 0 := by rw [gm_comm, gm_zero]
theorem gm_add (a b c : UInt8) : gm a (b ^^^ c) = gm a b ^^^ gm a c := UInt8.toNat_inj.1 (by rw [gm_nat, UInt8.toNat_xor, UInt8.toNat_xor, gm_nat, gm_nat, mul_right])
theorem add_gm (a b c : UInt8) : gm (a ^^^ b) c = gm a c ^^^ gm b c := by rw [gm_comm, gm_add, gm_comm c, gm_comm c]
theorem ne_nat {a : UInt8} (h : a ≠ 0) : a.toNat ≠ 0 := fun e => h (UInt8.toNat_inj.1 e)
theorem gm_gi {a : UInt8} (h : a ≠ 0) : gm a (gi a) = 1 := UInt8.toNat_inj.1 (by rw [gm_nat, gi_nat]; exact mul_inv a.toNat_lt (ne_nat h))
theorem gi_ne {a : UInt8} (h : a ≠ 0) : gi a ≠ 0 := fun e => by
  have := gm_gi h
  rw [e, gm_zero] at this
  exact absurd this (by decide)
theorem gm_cancel {a b c : UInt8} (h : a ≠ 0) (e : gm a b = gm a c) : b = c := by
  have h1 := congrArg (gm (gi a)) e
  rw [gm_assoc, gm_assoc, gm_comm (gi a), gm_gi h, one_gm, one_gm] at h1
  exact h1
theorem gm_no_zero {a b : UInt8} (e : gm a b = 0) : a = 0 ∨ b = 0 := by
  by_cases h : a = 0
  · exact Or.inl h
  · exact Or.inr (gm_cancel h (by rw [e, gm_zero]))
theorem self_add (a : UInt8) : a ^^^ a = 0 := by simp
theorem add_zero (a : UInt8) : a ^^^ 0 = a := by simp
theorem zero_add (a : UInt8) : 0 ^^^ a = a := by simp
theorem add_comm (a b : UInt8) : a ^^^ b = b ^^^ a := UInt8.xor_comm a b
theorem add_assoc (a b c : UInt8) : a ^^^ b ^^^ c = a ^^^ (b ^^^ c) := UInt8.xor_assoc a b c
theorem add4 (a b c d : UInt8) : (a ^^^ b) ^^^ (c ^^^ d) = (a ^^^ c) ^^^ (b ^^^ d) := by
  rw [add_assoc, ← add_assoc b, add_comm b c, add_assoc, ← add_assoc]
theorem add_eq_zero {a b : UInt8} (h : a ^^^ b = 0) : a = b := by
  have := congrArg (· ^^^ b) h
  simp only [add_assoc, self_add, add_zero, zero_add] at this
  exact this

/-- The sum of n elements. -/
def sm : Nat → (Nat → UInt8) → UInt8
  | 0, _ => 0
  | n + 1, f => sm n f ^^^ f n
theorem sm_congr {n : Nat} {f g : Nat → UInt8} (h : ∀ k, k < n → f k = g k) : sm n f = sm n g := by
  induction n with
  | zero => rfl
  | succ n ih => rw [sm, sm, ih (fun k hk => h k (by omega)), h n (by omega)]
theorem sm_zero {n : Nat} {f : Nat → UInt8} (h : ∀ k, k < n → f k = 0) : sm n f = 0 := by
  induction n with
  | zero => rfl
  | succ n ih => rw [sm, ih (fun k hk => h k (by omega)), h n (by omega)]; rfl
theorem sm_add (n : Nat) (f g : Nat → UInt8) : sm n (fun k => f k ^^^ g k) = sm n f ^^^ sm n g := by
  induction n with
  | zero => simp [sm]
  | succ n ih => rw [sm, sm, sm, ih, add4]
theorem sm_mul (n : Nat) (c : UInt8) (f : Nat → UInt8) : sm n (fun k => gm c (f k)) = gm c (sm n f) := by
  induction n with
  | zero => rw [sm, sm, gm_zero]
  | succ n ih => rw [sm, sm, ih, gm_add]
theorem sm_mul' (n : Nat) (c : UInt8) (f : Nat → UInt8) : sm n (fun k => gm (f k) c) = gm (sm n f) c := by
  rw [gm_comm, ← sm_mul]
  exact sm_congr fun k _ => gm_comm _ _
theorem sm_swap (n m : Nat) (f : Nat → Nat → UInt8) : sm n (fun i => sm m (fun j => f i j)) = sm m (fun j => sm n (fun i => f i j)) := by
  induction n with
  | zero => rw [sm]; exact (sm_zero fun _ _ => rfl).symm
  | succ n ih =>
    rw [sm, ih, ← sm_add]
    exact sm_congr fun j _ => rfl
theorem sm_one {n j : Nat} (hj : j < n) (f : Nat → UInt8) (h : ∀ k, k < n → k ≠ j → f k = 0) : sm n f = f j := by
  induction n with
  | zero => omega
  | succ n ih =>
    rw [sm]
    by_cases e : j = n
    · subst e
      rw [sm_zero (fun k hk => h k (by omega) (by omega)), zero_add]
    · rw [ih (by omega) (fun k hk hne => h k (by omega) hne), h n (by omega) (fun e2 => e e2.symm), add_zero]

/-- The product of matrices over n. -/
def mm (n : Nat) (A B : Nat → Nat → UInt8) (i j : Nat) : UInt8 := sm n fun k => gm (A i k) (B k j)
/-- The unit. -/
def un (i j : Nat) : UInt8 := if i = j then 1 else 0
theorem mm_assoc (n m : Nat) (A B C : Nat → Nat → UInt8) (i j : Nat) : mm m (mm n A B) C i j = mm n A (mm m B C) i j := by
  unfold mm
  have e1 : ∀ k, gm (sm n fun l => gm (A i l) (B l k)) (C k j) = sm n fun l => gm (A i l) (gm (B l k) (C k j)) := fun k => by
    rw [← sm_mul']
    exact sm_congr fun l _ => (gm_assoc _ _ _).symm
  rw [sm_congr fun k _ => e1 k, sm_swap]
  exact sm_congr fun l _ => sm_mul _ _ _
theorem mm_un (n : Nat) (A : Nat → Nat → UInt8) (i j : Nat) (hj : j < n) : mm n A un i j = A i j := by
  unfold mm
  rw [sm_one hj]
  · unfold un; rw [if_pos rfl, gm_one]
  · intro k _ h; unfold un; rw [if_neg h, gm_zero]
theorem un_mm (n : Nat) (A : Nat → Nat → UInt8) (i j : Nat) (hi : i < n) : mm n un A i j = A i j := by
  unfold mm
  rw [sm_one hi]
  · unfold un; rw [if_pos rfl, one_gm]
  · intro k _ h; unfold un; rw [if_neg (fun e => h e.symm), zero_gm]
/-- Alike at all places below n. -/
def Eq2 (n : Nat) (A B : Nat → Nat → UInt8) : Prop := ∀ i j, i < n → j < n → A i j = B i j
theorem Eq2.symm {n : Nat} {A B : Nat → Nat → UInt8} (h : Eq2 n A B) : Eq2 n B A := fun i j hi hj => (h i j hi hj).symm
theorem Eq2.trans {n : Nat} {A B C : Nat → Nat → UInt8} (h : Eq2 n A B) (k : Eq2 n B C) : Eq2 n A C := fun i j hi hj => (h i j hi hj).trans (k i j hi hj)
theorem mm_congr {n : Nat} {A A' B B' : Nat → Nat → UInt8} (h : Eq2 n A A') (k : Eq2 n B B') : Eq2 n (mm n A B) (mm n A' B') := fun i j hi hj =>
  sm_congr fun l hl => by rw [h i l hi hl, k l j hl hj]
/-- Both undo each other. -/
def Inv (n : Nat) (A U : Nat → Nat → UInt8) : Prop := Eq2 n (mm n A U) un ∧ Eq2 n (mm n U A) un
theorem Inv.symm {n : Nat} {A U : Nat → Nat → UInt8} (h : Inv n A U) : Inv n U A := ⟨h.2, h.1⟩
theorem inv_un (n : Nat) : Inv n un un := ⟨fun i j _ hj => mm_un n un i j hj, fun i j _ hj => mm_un n un i j hj⟩
theorem Inv.mul {n : Nat} {A U B V : Nat → Nat → UInt8} (h : Inv n A U) (k : Inv n B V) : Inv n (mm n A B) (mm n V U) := by
  constructor
  · intro i j hi hj
    rw [mm_assoc, mm_congr (n := n) (A := A) (A' := A) (fun _ _ _ _ => rfl) (B' := U) (fun a b ha hb => ?_) i j hi hj]
    · exact h.1 i j hi hj
    · rw [← mm_assoc, mm_congr k.1 (fun _ _ _ _ => rfl) a b ha hb, un_mm n U a b ha]
  · intro i j hi hj
    rw [mm_assoc, mm_congr (n := n) (A := V) (A' := V) (fun _ _ _ _ => rfl) (B' := B) (fun a b ha hb => ?_) i j hi hj]
    · exact k.2 i j hi hj
    · rw [← mm_assoc, mm_congr h.2 (fun _ _ _ _ => rfl) a b ha hb, un_mm n B a b ha]
/-- What undoes it from the left is what undoes it from the right. -/
theorem inv_unique {n : Nat} {A U V : Nat → Nat → UInt8} (h : Eq2 n (mm n V A) un) (k : Eq2 n (mm n A U) un) : Eq2 n V U := by
  intro i j hi hj
  have e1 : mm n V (mm n A U) i j = V i j := by
    rw [mm_congr (n := n) (A := V) (A' := V) (fun _ _ _ _ => rfl) k i j hi hj, mm_un n V i j hj]
  rw [← e1, ← mm_assoc, mm_congr h (fun _ _ _ _ => rfl) i j hi hj, un_mm n U i j hi]
/-- A matrix times a row of elements. -/
def mv (n : Nat) (A : Nat → Nat → UInt8) (x : Nat → UInt8) (i : Nat) : UInt8 := sm n fun k => gm (A i k) (x k)
theorem mv_mm (n : Nat) (A B : Nat → Nat → UInt8) (x : Nat → UInt8) (i : Nat) : mv n (mm n A B) x i = mv n A (mv n B x) i := mm_assoc n n A B (fun k _ => x k) i 0
theorem mv_un (n : Nat) (x : Nat → UInt8) (i : Nat) (hi : i < n) : mv n un x i = x i := un_mm n (fun k _ => x k) i 0 hi
theorem mv_congr {n : Nat} {A A' : Nat → Nat → UInt8} {x x' : Nat → UInt8} (h : Eq2 n A A') (k : ∀ l, l < n → x l = x' l) (i : Nat) (hi : i < n) : mv n A x i = mv n A' x' i :=
  sm_congr fun l hl => by rw [h i l hi hl, k l hl]
theorem mv_zero (n : Nat) (A : Nat → Nat → UInt8) (i : Nat) : mv n A (fun _ => 0) i = 0 := sm_zero fun _ _ => gm_zero _
/-- A row that is not all 0, and goes to 0. -/
def Ker (n : Nat) (A : Nat → Nat → UInt8) (x : Nat → UInt8) : Prop := (∃ k, k < n ∧ x k ≠ 0) ∧ ∀ i, i < n → mv n A x i = 0
/-- What has a left inverse lets no such row be. -/
theorem no_ker {n : Nat} {A U : Nat → Nat → UInt8} {x : Nat → UInt8} (h : Eq2 n (mm n U A) un) (k : Ker n A x) : False := by
  obtain ⟨⟨i, hi, hx⟩, hz⟩ := k
  apply hx
  rw [← mv_un n x i hi, ← mv_congr h (fun _ _ => rfl) i hi, mv_mm, mv_congr (A := U) (A' := U) (fun _ _ _ _ => rfl) (x' := fun _ => 0) hz i hi, mv_zero]
end Go.Proofs.Ytlmoeaphikdjnaa.Gf
