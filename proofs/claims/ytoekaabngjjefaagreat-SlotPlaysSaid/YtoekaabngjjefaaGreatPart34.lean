/- Writes of roots over a rack, cut or not: what is there then. -/
import Derived.Test.YtoekaabngjjefaaGreatPart27
import Derived.Test.YtoekaabngjjefaaGreatPart23
namespace Go.Proofs.YtoekaabngjjefaaGreat
open Go.RowKit Sm Wr _root_.Go.Proofs.YtoekaabngjjefaaGreat.Nm
set_option linter.unusedVariables false
/-- The first k drives have been written. -/
def wrK (s : RSt) (x : Rt) (k : Nat) : RSt :=
  { s with
    T := fun d i => if d < k ∧ i = x.me then x.raw else s.T d i
    bad := fun d i => if d < k ∧ i = x.me then false else s.bad d i
    cnt := fun d => if d < k then (s.cnt d + 1) % 18446744073709551616 else s.cnt d
    left := if s.cut then s.left - k else s.left }
theorem wrK_zero (s : RSt) (x : Rt) : wrK s x 0 = s := by
  unfold wrK
  cases s with
  | mk n m T bad cnt cut left => cases cut <;> simp
theorem padL_txt {x : Rt} (h : x.may = true) : padL x.txt = x.raw := by
  unfold padL
  rw [Rt.txt_list, Rt.txt_size h]
  simp
theorem wrK_down (s : RSt) (x : Rt) (k : Nat) (h : s.cut = true → k < s.left) : (wrK s x k).down = false := by
  unfold RSt.down wrK
  dsimp only
  cases hc : s.cut
  · rfl
  · have := h hc
    simp only [Bool.true_and, if_true]
    rw [beq_eq_false_iff_ne]
    omega
theorem wrK_next (s : RSt) (x : Rt) (k : Nat) : (wrK s x k).wr k x.me x.raw = wrK s x (k + 1) := by
  unfold wrK RSt.wr RSt.put RSt.inc RSt.lim up2
  dsimp only
  congr 1
  · funext d i
    by_cases h1 : d = k ∧ i = x.me
    · rw [if_pos h1, if_pos ⟨by omega, h1.2⟩]
    · rw [if_neg h1]
      by_cases h2 : d < k ∧ i = x.me
      · rw [if_pos h2, if_pos ⟨by omega, h2.2⟩]
      · rw [if_neg h2, if_neg]; omega
  · funext d i
    by_cases h1 : d = k ∧ i = x.me
    · rw [if_pos h1, if_pos ⟨by omega, h1.2⟩]
    · rw [if_neg h1]
      by_cases h2 : d < k ∧ i = x.me
      · rw [if_pos h2, if_pos ⟨by omega, h2.2⟩]
      · rw [if_neg h2, if_neg]; omega
  · funext d
    by_cases h1 : d = k
    · rw [if_pos h1, if_neg (by omega), if_pos (by omega), h1]
    · rw [if_neg h1]
      by_cases h2 : d < k
      · rw [if_pos h2, if_pos (by omega)]
      · rw [if_neg h2, if_neg (by omega)]
  · cases s.cut
    · rfl
    · simp only [if_true]; omega
theorem there_lt (s : RSt) {d i : Nat} (hd : d < s.n) (hi : i < s.m) : s.there d i = true := decide_eq_true (by omega)
theorem me_oth (x : Rt) : x.oth ≠ x.me := by unfold Rt.oth Rt.me; omega
theorem wrK_readE (s : RSt) (x : Rt) (k d i : Nat) (hi : ¬ (d < k ∧ i = x.me)) (h1 : (wrK s x k).down = false) (h2 : s.down = false) : (wrK s x k).readE d i = s.readE d i := by
  unfold RSt.readE
  rw [h1, h2]
  show (if false = true then 71 else if s.there d i = false then 70 else if (if ((d : Int)).toNat < k ∧ ((i : Int)).toNat = x.me then false else s.bad (d : Int).toNat (i : Int).toNat) = true then 72 else 0) = _
  rw [Int.toNat_natCast, Int.toNat_natCast, if_neg hi]
theorem wrK_readT (s : RSt) (x : Rt) (k d i : Nat) (hi : ¬ (d < k ∧ i = x.me)) (h1 : (wrK s x k).down = false) (h2 : s.down = false) : (wrK s x k).readT d i = s.readT d i := by
  unfold RSt.readT
  rw [wrK_readE s x k d i hi h1 h2]
  show (if s.readE d i = 0 then (⟨(if ((d : Int)).toNat < k ∧ ((i : Int)).toNat = x.me then x.raw else s.T (d : Int).toNat (i : Int).toNat).toArray⟩ : ByteArray) else _) = _
  rw [Int.toNat_natCast, Int.toNat_natCast, if_neg hi]
/-- As long as the rack lasts, and no newer root stands in the other slots, drive after drive has the root. -/
theorem wrTo_run (s : RSt) (x : Rt) (hx : x.may = true) (hm : 2 ≤ s.m) (hnew : ∀ d, d < s.n → newer s x d = false) : ∀ k, k ≤ s.n → (s.cut = true → k ≤ s.left) → wrTo s x k = (0, wrK s x k) := by
  intro k
  induction k with
  | zero => intro _ _; show (0, s) = _; rw [wrK_zero]
  | succ k ih =>
    intro hk hL
    have hi := ih (by omega) (fun h => by have := hL h; omega)
    have hd1 : (wrK s x k).down = false := wrK_down s x k (fun h => by have := hL h; omega)
    have hd0 : s.down = false := by have := wrK_down s x 0 (fun h => by have := hL h; omega); rwa [wrK_zero] at this
    show (if (wrTo s x k).1 = 0 then wrD (wrTo s x k).2 x k else wrTo s x k) = _
    rw [hi, if_pos rfl]
    dsimp only
    have hno : ¬ (k < k ∧ x.oth = x.me) := fun h => absurd h.1 (Nat.lt_irrefl k)
    have hn : newer (wrK s x k) x k = false := by
      have := hnew k (by omega)
      unfold newer at this ⊢
      rw [wrK_readE s x k k x.oth hno hd1 hd0, wrK_readT s x k k x.oth hno hd1 hd0]
      exact this
    have h71 : (wrK s x k).readE k x.oth ≠ 71 := fun h => by rw [readE_71, hd1] at h; cases h
    unfold wrD
    rw [if_neg h71, hn, if_neg (by decide)]
    have hth : (wrK s x k).there k x.me = true := there_lt (wrK s x k) (show k < s.n by omega) (show x.me < s.m by have := x.me_lt; omega)
    have hwe : (wrK s x k).writeE k x.me x.txt = 0 := by
      unfold RSt.writeE
      rw [hth, if_neg (by decide), if_neg (by rw [Rt.txt_size hx]; decide), hd1, if_neg (by decide)]
    have hws : (wrK s x k).writeS k x.me x.txt = wrK s x (k + 1) := by
      unfold RSt.writeS
      rw [if_pos hwe, Int.toNat_natCast, Int.toNat_natCast, padL_txt hx, wrK_next]
    rw [hwe, hws]
/-- Behind so many writes a cut rack is down: what was written stays. -/
theorem wrTo_cut (s : RSt) (x : Rt) (hx : x.may = true) (hm : 2 ≤ s.m) (hnew : ∀ d, d < s.n → newer s x d = false) (hc : s.cut = true) (hl : s.left < s.n) : wrTo s x s.n = (71, wrK s x s.left) := by
  have h := wrTo_run s x hx hm hnew s.left (by omega) (fun _ => Nat.le_refl _)
  have hdn : (wrK s x s.left).down = true := by
    unfold RSt.down wrK
    dsimp only
    rw [hc]
    simp
  have h1 : wrTo s x (s.left + 1) = (71, wrK s x s.left) := by
    show (if (wrTo s x s.left).1 = 0 then wrD (wrTo s x s.left).2 x s.left else wrTo s x s.left) = _
    rw [h, if_pos rfl]
    dsimp only
    unfold wrD
    rw [if_pos ((readE_71 _ _ _).2 hdn)]
  rw [wrTo_err s x (s.left + 1) (by rw [h1]; exact (show (71 : Nat) ≠ 0 by decide)) s.n (by omega), h1]
/-- A root that one of the first k drives shows. -/
def Seen (s : RSt) (k : Nat) (r : Rt) : Prop := ∃ d a b, d < k ∧ slotsR s d = some (a, b) ∧ (r = a ∨ r = b)
theorem Seen.mono {s : RSt} {k m : Nat} {r : Rt} (h : Seen s k r) (hk : k ≤ m) : Seen s m r := by
  obtain ⟨d, a, b, h1, h2, h3⟩ := h
  exact ⟨d, a, b, by omega, h2, h3⟩
theorem bestR_ge (x a : Rt) : x.gen ≤ (bestR x a).gen ∧ a.gen ≤ (bestR x a).gen := by unfold bestR; split <;> omega
theorem bestR_one (x a : Rt) : bestR x a = x ∨ bestR x a = a := by unfold bestR; split <;> simp
/-- What is told is one that is shown, and no shown one is newer. -/
theorem vTo_best (s : RSt) (k : Nat) : ((vTo s k).1 = Rt.none ∨ Seen s k (vTo s k).1) ∧ ∀ r, Seen s k r → r.gen ≤ (vTo s k).1.gen := by
  induction k with
  | zero => exact ⟨.inl rfl, fun r ⟨d, _, _, h, _⟩ => absurd h (by omega)⟩
  | succ k ih =>
    obtain ⟨i1, i2⟩ := ih
    have e : vTo s (k + 1) = vStep (vTo s k) (slotsR s k) := rfl
    cases hs : slotsR s k with
    | none =>
      have e1 : (vTo s (k + 1)).1 = (vTo s k).1 := by rw [e, hs]; rfl
      rw [e1]
      refine ⟨i1.imp id (fun h => h.mono (by omega)), fun r ⟨d, a, b, h1, h2, h3⟩ => ?_⟩
      by_cases hd : d = k
      · rw [hd, hs] at h2; cases h2
      · exact i2 r ⟨d, a, b, by omega, h2, h3⟩
    | some ab =>
      obtain ⟨a, b⟩ := ab
      have e1 : (vTo s (k + 1)).1 = bestR (bestR (vTo s k).1 a) b := by rw [e, hs]; rfl
      rw [e1]
      have g1 := bestR_ge (vTo s k).1 a
      have g2 := bestR_ge (bestR (vTo s k).1 a) b
      constructor
      · rcases bestR_one (bestR (vTo s k).1 a) b with h | h
        · rw [h]
          rcases bestR_one (vTo s k).1 a with h' | h'
          · rw [h']; exact i1.imp id (fun h => h.mono (by omega))
          · rw [h']; exact .inr ⟨k, a, b, by omega, hs, .inl rfl⟩
        · rw [h]; exact .inr ⟨k, a, b, by omega, hs, .inr rfl⟩
      · rintro r ⟨d, a', b', h1, h2, h3⟩
        by_cases hd : d = k
        · rw [hd, hs] at h2
          injection h2 with h2
          injection h2 with h4 h5
          subst h4 h5
          rcases h3 with rfl | rfl <;> omega
        · have := i2 r ⟨d, a', b', by omega, h2, h3⟩
          omega
/-- Has a drive no root? -/
def noR (s : RSt) (d : Nat) : Bool := match slotsR s d with
  | .none => true
  | some ab => decide (ab.1.gen = 0 ∧ ab.2.gen = 0)
/-- How many have none. -/
theorem vTo_none (s : RSt) (k : Nat) : (vTo s k).2 = ((List.range k).filter (noR s)).length := by
  induction k with
  | zero => rfl
  | succ k ih =>
    have e : vTo s (k + 1) = vStep (vTo s k) (slotsR s k) := rfl
    rw [List.range_succ, List.filter_append, List.length_append, ← ih, e]
    unfold noR
    cases hs : slotsR s k with
    | none => simp [vStep, hs]
    | some ab =>
      by_cases h : ab.1.gen = 0 ∧ ab.2.gen = 0
      · simp [vStep, hs, h]
      · have h' : ab.1.gen = 0 → ¬ ab.2.gen = 0 := fun a b => h ⟨a, b⟩
        simp [vStep, hs, h]
end Go.Proofs.YtoekaabngjjefaaGreat
