/- Plain facts: of the unit with Cauchy's rows below it each choice of as many different rows as columns is undone. -/
import Derived.Test.YtlmoeaphikdjnaaElim
namespace Go.Proofs.Ytlmoeaphikdjnaa.Gf

/-- A polynomial of fewer than t coefficients. -/
def IsPoly : Nat → (UInt8 → UInt8) → Prop
  | 0, f => ∀ z, f z = 0
  | t + 1, f => ∃ c g, IsPoly t g ∧ ∀ z, f z = c ^^^ gm z (g z)
theorem IsPoly.congr {t : Nat} {f g : UInt8 → UInt8} (h : IsPoly t f) (e : ∀ z, g z = f z) : IsPoly t g := by
  cases t with
  | zero => exact fun z => (e z).trans (h z)
  | succ t => obtain ⟨c, q, hq, hf⟩ := h; exact ⟨c, q, hq, fun z => (e z).trans (hf z)⟩
theorem IsPoly.up {t : Nat} {f : UInt8 → UInt8} (h : IsPoly t f) : IsPoly (t + 1) f := by
  induction t generalizing f with
  | zero => exact ⟨0, f, h, fun z => by rw [h z, gm_zero]; rfl⟩
  | succ t ih => obtain ⟨c, q, hq, hf⟩ := h; exact ⟨c, q, ih hq, hf⟩
theorem IsPoly.add {t : Nat} {f g : UInt8 → UInt8} (h : IsPoly t f) (k : IsPoly t g) : IsPoly t (fun z => f z ^^^ g z) := by
  induction t generalizing f g with
  | zero => intro z; show f z ^^^ g z = 0; rw [h z, k z]; rfl
  | succ t ih =>
    obtain ⟨c, q, hq, hf⟩ := h
    obtain ⟨d, r, hr, hg⟩ := k
    exact ⟨c ^^^ d, fun z => q z ^^^ r z, ih hq hr, fun z => by show f z ^^^ g z = _; rw [hf, hg, add4, gm_add]⟩
theorem IsPoly.scale {t : Nat} {f : UInt8 → UInt8} (h : IsPoly t f) (c : UInt8) : IsPoly t (fun z => gm c (f z)) := by
  induction t generalizing f with
  | zero => intro z; show gm c (f z) = 0; rw [h z, gm_zero]
  | succ t ih =>
    obtain ⟨d, q, hq, hf⟩ := h
    exact ⟨gm c d, fun z => gm c (q z), ih hq, fun z => by show gm c (f z) = _; rw [hf, gm_add, gm_assoc, gm_comm c z, ← gm_assoc]⟩
theorem IsPoly.times {t : Nat} {f : UInt8 → UInt8} (h : IsPoly t f) (l : UInt8) : IsPoly (t + 1) (fun z => gm (z ^^^ l) (f z)) :=
  (IsPoly.add (t := t + 1) (f := fun z => gm z (f z)) (g := fun z => gm l (f z)) ⟨0, f, h, fun z => by rw [zero_add]⟩ (h.scale l).up).congr (fun z => add_gm _ _ _)
/-- A root's factor is taken out. -/
theorem IsPoly.div {t : Nat} {f : UInt8 → UInt8} (h : IsPoly (t + 1) f) (a : UInt8) : ∃ q, IsPoly t q ∧ ∀ z, f z = f a ^^^ gm (z ^^^ a) (q z) := by
  induction t generalizing f with
  | zero =>
    obtain ⟨c, g, hg, hf⟩ := h
    exact ⟨g, hg, fun z => by rw [hf, hf, hg, hg, gm_zero, gm_zero, gm_zero, add_zero, add_zero]⟩
  | succ t ih =>
    obtain ⟨c, g, hg, hf⟩ := h
    obtain ⟨q, hq, hgq⟩ := ih hg
    refine ⟨fun z => g a ^^^ gm z (q z), ⟨g a, q, hq, fun z => rfl⟩, fun z => ?_⟩
    have e : gm z (g z) = gm a (g a) ^^^ gm (z ^^^ a) (g a ^^^ gm z (q z)) := by
      rw [hgq z, gm_add, gm_add, add_gm z a (g a), gm_assoc z (z ^^^ a), gm_comm z (z ^^^ a), ← gm_assoc (z ^^^ a) z, ← add_assoc, ← add_assoc]
      congr 1
      rw [add_comm (gm a (g a)), add_assoc, self_add, add_zero]
    rw [hf z, hf a, e, add_assoc]
/-- As many roots as coefficients: it is 0. -/
theorem IsPoly.roots {t : Nat} {f : UInt8 → UInt8} (h : IsPoly t f) (ys : List UInt8) (hn : ys.Nodup) (hl : t ≤ ys.length) (hr : ∀ y ∈ ys, f y = 0) (z : UInt8) : f z = 0 := by
  induction t generalizing f ys with
  | zero => exact h z
  | succ t ih =>
    cases ys with
    | nil => simp at hl
    | cons a ys =>
      obtain ⟨q, hq, hf⟩ := h.div a
      have ha : f a = 0 := hr a List.mem_cons_self
      rw [List.nodup_cons] at hn
      have hqz : q z = 0 := ih hq ys hn.2 (by simp at hl; omega) (fun y hy => by
        have h1 := hr y (List.mem_cons_of_mem _ hy)
        rw [hf y, ha, zero_add] at h1
        rcases gm_no_zero h1 with h2 | h2
        · exact absurd (add_eq_zero h2 ▸ hy) hn.1
        · exact h2)
      rw [hf z, ha, hqz, gm_zero]
      rfl

/-- The product of z's sums with the elements of a row. -/
def pr : List UInt8 → UInt8 → UInt8
  | [], _ => 1
  | j :: T, z => gm (z ^^^ j) (pr T z)
/-- Cauchy's sum, all divisors multiplied in. -/
def su (x : UInt8 → UInt8) : List UInt8 → UInt8 → UInt8
  | [], _ => 0
  | j :: T, z => gm (x j) (pr T z) ^^^ gm (z ^^^ j) (su x T z)
/-- Cauchy's sum. -/
def cs (x : UInt8 → UInt8) : List UInt8 → UInt8 → UInt8
  | [], _ => 0
  | j :: T, z => gm (gi (z ^^^ j)) (x j) ^^^ cs x T z
theorem ne_of {a b : UInt8} (h : a ≠ b) : a ^^^ b ≠ 0 := fun e => h (add_eq_zero e)
theorem pr_ne {T : List UInt8} {z : UInt8} (h : z ∉ T) : pr T z ≠ 0 := by
  induction T with
  | nil => show (1 : UInt8) ≠ 0; decide
  | cons j T ih =>
    rw [List.mem_cons] at h
    intro e
    rcases gm_no_zero e with e | e
    · exact ne_of (fun e => h (Or.inl e)) e
    · exact ih (fun e => h (Or.inr e)) e
theorem pr_in {T : List UInt8} {z : UInt8} (h : z ∈ T) : pr T z = 0 := by
  induction T with
  | nil => simp at h
  | cons j T ih =>
    show gm (z ^^^ j) (pr T z) = 0
    rcases List.mem_cons.1 h with h | h
    · rw [h, self_add, zero_gm]
    · rw [ih h, gm_zero]
theorem su_cs (x : UInt8 → UInt8) {T : List UInt8} {z : UInt8} (h : z ∉ T) : su x T z = gm (pr T z) (cs x T z) := by
  induction T with
  | nil => show (0 : UInt8) = gm 1 0; rw [gm_zero]
  | cons j T ih =>
    rw [List.mem_cons] at h
    have hj : z ^^^ j ≠ 0 := ne_of fun e => h (Or.inl e)
    show gm (x j) (pr T z) ^^^ gm (z ^^^ j) (su x T z) = gm (gm (z ^^^ j) (pr T z)) (gm (gi (z ^^^ j)) (x j) ^^^ cs x T z)
    rw [ih fun e => h (Or.inr e), gm_add, gm_assoc (z ^^^ j)]
    congr 1
    rw [gm_comm (z ^^^ j), ← gm_assoc, gm_assoc (z ^^^ j), gm_gi hj, one_gm, gm_comm]
theorem su_poly (x : UInt8 → UInt8) (T : List UInt8) : IsPoly T.length (su x T) ∧ IsPoly (T.length + 1) (pr T) := by
  induction T with
  | nil => exact ⟨fun _ => rfl, ⟨1, fun _ => 0, fun _ => rfl, fun z => by show (1 : UInt8) = 1 ^^^ gm z 0; rw [gm_zero]; rfl⟩⟩
  | cons j T ih => exact ⟨(ih.2.scale (x j)).add (ih.1.times j), ih.2.times j⟩
theorem su_at (x : UInt8 → UInt8) {T : List UInt8} (hn : T.Nodup) {j : UInt8} (h : j ∈ T) : ∃ c, c ≠ 0 ∧ su x T j = gm (x j) c := by
  induction T with
  | nil => simp at h
  | cons k T ih =>
    rw [List.nodup_cons] at hn
    by_cases e : j = k
    · subst e
      exact ⟨pr T j, pr_ne hn.1, by show _ ^^^ gm (j ^^^ j) _ = _; rw [self_add, zero_gm, add_zero]⟩
    · have hj : j ∈ T := by rcases List.mem_cons.1 h with h | h; exact absurd h e; exact h
      obtain ⟨c, hc, hs⟩ := ih hn.2 hj
      refine ⟨gm (j ^^^ k) c, fun e2 => ?_, ?_⟩
      · rcases gm_no_zero e2 with e2 | e2
        · exact ne_of e e2
        · exact hc e2
      · show gm (x k) (pr T j) ^^^ gm (j ^^^ k) (su x T j) = _
        rw [pr_in hj, gm_zero, zero_add, hs, gm_assoc, gm_comm (j ^^^ k), ← gm_assoc]
/-- Cauchy's sums are 0 at as many places as there are columns: the row is 0. -/
theorem cauchy_zero (x : UInt8 → UInt8) (T ys : List UInt8) (hT : T.Nodup) (hy : ys.Nodup) (hl : T.length ≤ ys.length) (hd : ∀ y ∈ ys, y ∉ T) (hz : ∀ y ∈ ys, cs x T y = 0) (j : UInt8) (hj : j ∈ T) : x j = 0 := by
  have h := IsPoly.roots (su_poly x T).1 ys hy hl (fun y h => by rw [su_cs x (hd y h), hz y h, gm_zero]) j
  obtain ⟨c, hc, hs⟩ := su_at x hT hj
  rw [hs] at h
  rcases gm_no_zero h with h | h
  · exact h
  · exact absurd h hc

/-- The unit, and Cauchy's rows below it: row r, column j. -/
def below (k r j : Nat) : UInt8 := if r < k then un r j else gi (UInt8.ofNat r ^^^ UInt8.ofNat j)
theorem ofNat_inj {a b : Nat} (ha : a < 256) (hb : b < 256) (h : UInt8.ofNat a = UInt8.ofNat b) : a = b := by
  have := congrArg UInt8.toNat h
  rw [UInt8.toNat_ofNat', UInt8.toNat_ofNat'] at this
  omega
theorem nodup_map {α β : Type} {f : α → β} {l : List α} (hl : l.Nodup) (h : ∀ a ∈ l, ∀ b ∈ l, f a = f b → a = b) : (l.map f).Nodup := by
  induction l with
  | nil => simp
  | cons a l ih =>
    rw [List.nodup_cons] at hl
    rw [List.map_cons, List.nodup_cons]
    refine ⟨fun hm => ?_, ih hl.2 fun b hb c hc => h b (List.mem_cons_of_mem _ hb) c (List.mem_cons_of_mem _ hc)⟩
    obtain ⟨b, hb, e⟩ := List.mem_map.1 hm
    exact hl.1 (h b (List.mem_cons_of_mem _ hb) a List.mem_cons_self e ▸ hb)
theorem nodup_filter {α : Type} {p : α → Bool} {l : List α} (hl : l.Nodup) : (l.filter p).Nodup := List.Pairwise.filter p hl
theorem nodup_rev {α : Type} {l : List α} (h : l.Nodup) : l.reverse.Nodup := List.pairwise_reverse.2 (h.imp fun h e => h e.symm)
theorem len_filter {α : Type} (p : α → Bool) (l : List α) : (l.filter p).length + (l.filter fun a => !p a).length = l.length := by
  induction l with
  | nil => rfl
  | cons a l ih => cases h : p a <;> simp [h] <;> omega
/-- The sum over the columns, those left out that are 0. -/
theorem sm_cs (x : Nat → UInt8) (y : UInt8) (p : Nat → Bool) (k : Nat) (hk : k ≤ 256) (h : ∀ j, j < k → p j = false → x j = 0) :
    sm k (fun j => gm (gi (y ^^^ UInt8.ofNat j)) (x j)) = cs (fun b => x b.toNat) ((((List.range k).filter p).map UInt8.ofNat).reverse) y := by
  induction k with
  | zero => rfl
  | succ k ih =>
    rw [sm, ih (by omega) (fun j hj => h j (by omega)), List.range_succ, List.filter_append, List.map_append, List.reverse_append]
    cases hp : p k with
    | false => simp [hp, h k (by omega) hp, gm_zero]
    | true =>
      have e : (UInt8.ofNat k).toNat = k := by rw [UInt8.toNat_ofNat']; omega
      simp [hp, cs]
      rw [show k % 256 = k from Nat.mod_eq_of_lt (by omega), add_comm]
/-- The stage's theorem: any choice of different rows lets no row go to 0. -/
theorem any_rows (k : Nat) (ρ : Nat → Nat) (hk : k ≤ 256) (hρ : ∀ i, i < k → ρ i < 256) (hinj : ∀ i j, i < k → j < k → ρ i = ρ j → i = j) (x : Nat → UInt8) (hx : Ker k (fun i j => below k (ρ i) j) x) : False := by
  obtain ⟨⟨j0, hj0, hne⟩, hz⟩ := hx
  have hR : ((List.range k).map ρ).Nodup := nodup_map List.nodup_range fun a ha b hb e => hinj a b (List.mem_range.1 ha) (List.mem_range.1 hb) e
  -- the units chosen, and the others
  obtain ⟨us, hus⟩ : ∃ us, us = ((List.range k).map ρ).filter (fun r => decide (r < k)) := ⟨_, rfl⟩
  obtain ⟨cy, hcy⟩ : ∃ cy, cy = ((List.range k).map ρ).filter (fun r => !decide (r < k)) := ⟨_, rfl⟩
  have hlen : us.length + cy.length = k := by
    rw [hus, hcy, len_filter]
    simp
  have hun : us.Nodup := hus ▸ nodup_filter hR
  have hcn : cy.Nodup := hcy ▸ nodup_filter hR
  have humem : ∀ r, r ∈ us ↔ ∃ i, i < k ∧ ρ i = r ∧ r < k := fun r => by
    rw [hus, List.mem_filter, List.mem_map]
    constructor
    · rintro ⟨⟨i, hi, e⟩, h⟩; exact ⟨i, List.mem_range.1 hi, e, of_decide_eq_true h⟩
    · rintro ⟨i, hi, e, h⟩; exact ⟨⟨i, List.mem_range.2 hi, e⟩, decide_eq_true h⟩
  have hcmem : ∀ r, r ∈ cy ↔ ∃ i, i < k ∧ ρ i = r ∧ k ≤ r := fun r => by
    rw [hcy, List.mem_filter, List.mem_map]
    constructor
    · rintro ⟨⟨i, hi, e⟩, h⟩; exact ⟨i, List.mem_range.1 hi, e, by simpa using h⟩
    · rintro ⟨i, hi, e, h⟩; exact ⟨⟨i, List.mem_range.2 hi, e⟩, by simpa using h⟩
  have hxu : ∀ j, j < k → (!us.contains j) = false → x j = 0 := fun j hj hc => by
    have hm : j ∈ us := by simpa using hc
    obtain ⟨i, hi, e, _⟩ := (humem j).1 hm
    have h1 : sm k (fun l => gm (below k (ρ i) l) (x l)) = 0 := hz i hi
    rw [e] at h1
    have h2 : sm k (fun l => gm (below k j l) (x l)) = mv k un x j := sm_congr fun l _ => by unfold below; rw [if_pos hj]
    rw [h2, mv_un k x j hj] at h1
    exact h1
  obtain ⟨T, hT⟩ : ∃ T, T = (((List.range k).filter fun j => !us.contains j).map UInt8.ofNat).reverse := ⟨_, rfl⟩
  have hTn : T.Nodup := by
    rw [hT]
    refine nodup_rev ?_
    exact nodup_map (nodup_filter List.nodup_range) fun a ha b hb e => ofNat_inj (by have := List.mem_range.1 (List.mem_filter.1 ha).1; omega) (by have := List.mem_range.1 (List.mem_filter.1 hb).1; omega) e
  have hTl : T.length = cy.length := by
    have h1 := len_filter (fun j => us.contains j) (List.range k)
    have h2 : ((List.range k).filter fun j => us.contains j).length = us.length := by
      apply List.Perm.length_eq
      rw [List.perm_ext_iff_of_nodup (nodup_filter List.nodup_range) hun]
      intro a
      rw [List.mem_filter, List.mem_range]
      constructor
      · rintro ⟨_, h⟩; simpa using h
      · intro h; exact ⟨((humem a).1 h).choose_spec.2.2, by simpa using h⟩
    rw [hT, List.length_reverse, List.length_map]
    simp only [List.length_range] at h1
    omega
  have hyn : (cy.map UInt8.ofNat).Nodup := nodup_map hcn fun a ha b hb e => by
    obtain ⟨i, hi, ea, _⟩ := (hcmem a).1 ha
    obtain ⟨j, hj, eb, _⟩ := (hcmem b).1 hb
    exact ofNat_inj (ea ▸ hρ i hi) (eb ▸ hρ j hj) e
  have hTm : ∀ b, b ∈ T ↔ ∃ j, j < k ∧ us.contains j = false ∧ UInt8.ofNat j = b := fun b => by
    rw [hT, List.mem_reverse, List.mem_map]
    constructor
    · rintro ⟨j, hj, e⟩
      rw [List.mem_filter, List.mem_range] at hj
      exact ⟨j, hj.1, by simpa using hj.2, e⟩
    · rintro ⟨j, hj, h, e⟩
      exact ⟨j, List.mem_filter.2 ⟨List.mem_range.2 hj, by simpa using h⟩, e⟩
  by_cases hju : us.contains j0 = true
  · exact hne (hxu j0 hj0 (by rw [hju]; rfl))
  · have hj0T : UInt8.ofNat j0 ∈ T := (hTm _).2 ⟨j0, hj0, by simpa using hju, rfl⟩
    have e0 : (UInt8.ofNat j0).toNat = j0 := by rw [UInt8.toNat_ofNat']; omega
    have h := cauchy_zero (fun b => x b.toNat) T (cy.map UInt8.ofNat) hTn hyn (by rw [List.length_map]; omega) (fun y hy hyT => by
      obtain ⟨r, hr, e⟩ := List.mem_map.1 hy
      obtain ⟨i, hi, er, hkr⟩ := (hcmem r).1 hr
      obtain ⟨j, hj, _, e2⟩ := (hTm y).1 hyT
      have := ofNat_inj (show j < 256 by omega) (er ▸ hρ i hi) (e2.trans e.symm)
      omega) (fun y hy => by
      obtain ⟨r, hr, e⟩ := List.mem_map.1 hy
      obtain ⟨i, hi, er, hkr⟩ := (hcmem r).1 hr
      have h1 : sm k (fun l => gm (below k (ρ i) l) (x l)) = 0 := hz i hi
      rw [er] at h1
      have h2 : sm k (fun l => gm (below k r l) (x l)) = sm k (fun l => gm (gi (y ^^^ UInt8.ofNat l)) (x l)) := sm_congr fun l _ => by unfold below; rw [if_neg (by omega), e]
      rw [h2, sm_cs x y (fun j => !us.contains j) k hk hxu, ← hT] at h1
      exact h1) _ hj0T
    simp only [e0] at h
    exact hne h
end Go.Proofs.Ytlmoeaphikdjnaa.Gf
