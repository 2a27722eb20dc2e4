/- Plain facts on keys: how two of them stand; what begins with a prefix; what is behind one. -/
import Derived.Test.YtccpbgkaeldlaaaNyMath
namespace Go.Proofs.Ytccpbgkaeldlaaa.Ny
open Go Nm
set_option linter.unusedVariables false
set_option linter.unusedSimpArgs false
theorem Tri.refl {α : Type} (a : α) (x : List UInt8) : Tri a a x x 0 0 := .inl ⟨rfl, rfl, rfl⟩
theorem Tri.seq {α β : Type} {a b : α} {a' b' : β} {x y x' y' : List UInt8} {c d c' d' : Int} (h : Tri a b x y c d) (hx : a = b → x = y) (k : Tri a' b' x' y' c' d') :
    Tri (a, a') (b, b') (x ++ x') (y ++ y') (if c ≠ 0 then c else c') (if d ≠ 0 then d else d') := by
  rcases h with ⟨h1, rfl, rfl⟩ | ⟨h1, h2, rfl, rfl⟩ | ⟨h1, h2, rfl, rfl⟩
  · have e := hx h1
    subst h1 e
    rcases k with ⟨k1, rfl, rfl⟩ | ⟨k1, k2, rfl, rfl⟩ | ⟨k1, k2, rfl, rfl⟩
    · exact .inl ⟨by rw [k1], rfl, rfl⟩
    · exact .inr (.inl ⟨fun e => k1 (by injection e), diff_pre k2 _, rfl, rfl⟩)
    · exact .inr (.inr ⟨fun e => k1 (by injection e), diff_pre k2 _, rfl, rfl⟩)
  · exact .inr (.inl ⟨fun e => h1 (by injection e), diff_app h2 _ _, rfl, rfl⟩)
  · exact .inr (.inr ⟨fun e => h1 (by injection e), diff_app h2 _ _, rfl, rfl⟩)
theorem Tri.map {α β : Type} {a b : α} {a' b' : β} {x y : List UInt8} {c d : Int} (h : Tri a b x y c d) (e : a = b ↔ a' = b') : Tri a' b' x y c d := by
  rcases h with ⟨h1, h2⟩ | ⟨h1, h2⟩ | ⟨h1, h2⟩
  · exact .inl ⟨e.1 h1, h2⟩
  · exact .inr (.inl ⟨fun h => h1 (e.2 h), h2⟩)
  · exact .inr (.inr ⟨fun h => h1 (e.2 h), h2⟩)
structure MayP (k : Key) : Prop where
  kd : isK k.kd = true
  bk : if hasB k.kd then bktB k.bk.data.toList = true else k.bk = ⟨#[]⟩
  nm : if hasM k.kd then 1 ≤ k.nm.size ∧ k.nm.size ≤ 200 else k.nm = ⟨#[]⟩
  n : hasN k.kd = true ∨ k.n = 0
  pt : if hasP k.kd then 1 ≤ k.pt ∧ k.pt ≤ 1000 else k.pt = 0
theorem mayP {k : Key} (h : mayK k = true) : MayP k := by
  unfold mayK at h
  simp only [Bool.and_eq_true, Bool.or_eq_true, decide_eq_true_eq] at h
  obtain ⟨⟨⟨⟨h1, h2⟩, h3⟩, h4⟩, h5⟩ := h
  refine ⟨h1, ?_, ?_, h4, ?_⟩
  · by_cases h : hasB k.kd = true
    · simp only [h, if_true] at h2 ⊢; exact h2
    · simp only [h, if_false, Bool.false_eq_true, decide_eq_true_eq] at h2 ⊢; exact ba_nil h2
  · by_cases h : hasM k.kd = true
    · simp only [h, if_true] at h3 ⊢; unfold objB at h3; simpa using h3
    · simp only [h, if_false, Bool.false_eq_true, decide_eq_true_eq] at h3 ⊢; exact ba_nil h3
  · by_cases h : hasP k.kd = true
    · simp only [h, if_true] at h5 ⊢; simpa using h5
    · simp only [h, if_false, Bool.false_eq_true, decide_eq_true_eq] at h5 ⊢; exact h5
theorem mayP_iff (k : Key) : mayK k = true ↔ MayP k := by
  refine ⟨mayP, fun ⟨h1, h2, h3, h4, h5⟩ => ?_⟩
  unfold mayK
  simp only [Bool.and_eq_true, Bool.or_eq_true, decide_eq_true_eq]
  refine ⟨⟨⟨⟨h1, ?_⟩, ?_⟩, h4⟩, ?_⟩
  · by_cases h : hasB k.kd = true
    · simp only [h, if_true] at h2 ⊢; exact h2
    · simp only [h, if_false, Bool.false_eq_true, decide_eq_true_eq] at h2 ⊢; rw [h2]; rfl
  · by_cases h : hasM k.kd = true
    · simp only [h, if_true] at h3 ⊢; unfold objB; simpa using h3
    · simp only [h, if_false, Bool.false_eq_true, decide_eq_true_eq] at h3 ⊢; rw [h3]; rfl
  · by_cases h : hasP k.kd = true
    · simp only [h, if_true] at h5 ⊢; simpa using h5
    · simp only [h, if_false, Bool.false_eq_true, decide_eq_true_eq] at h5 ⊢; exact h5
theorem empty_list : (⟨#[]⟩ : ByteArray).data.toList = [] := rfl
theorem cmpN_self (x : Int) : cmpN x x = 0 := by unfold cmpN; simp
theorem key_eq {a b : Key} (h1 : a.kd = b.kd) (h2 : a.bk = b.bk) (h3 : a.nm = b.nm) (h4 : a.n = b.n) (h5 : a.pt = b.pt) : a = b := by
  cases a; cases b; simp at *; exact ⟨h1, h2, h3, h4, h5⟩
theorem ba_iff (a b : ByteArray) : a.data.toList = b.data.toList ↔ a = b := ⟨ba_ext, fun h => by rw [h]⟩
/-- HOW TWO KEYS STAND. -/
theorem key_tri {a b : Key} (wa : a.Wf) (wb : b.Wf) (ha : mayK a = true) (hb : mayK b = true) : Tri a b (encL a) (encL b) (cmpK a b) (cmpK b a) := by
  have pa := mayP ha
  have pb := mayP hb
  by_cases hk : a.kd = b.kd
  · have tb : Tri a.bk b.bk (bP a) (bP b) (Lib.compareBytes a.bk.data.toList b.bk.data.toList) (Lib.compareBytes b.bk.data.toList a.bk.data.toList) := by
      have h1 := pa.bk
      have h2 := pb.bk
      unfold bP
      rw [← hk] at h2 ⊢
      by_cases h : hasB a.kd = true
      · simp only [h, if_true] at h1 h2 ⊢
        exact (bkt_tri _ _ (bktB_nz h1) (bktB_nz h2)).map (ba_iff _ _)
      · simp only [h, if_false, Bool.false_eq_true] at h1 h2 ⊢
        rw [h1, h2]
        exact Tri.refl _ _
    have tm : Tri a.nm b.nm (mP a) (mP b) (Lib.compareBytes a.nm.data.toList b.nm.data.toList) (Lib.compareBytes b.nm.data.toList a.nm.data.toList) := by
      have h1 := pa.nm
      have h2 := pb.nm
      unfold mP
      rw [← hk] at h2 ⊢
      by_cases h : hasM a.kd = true
      · simp only [h, if_true] at h1 h2 ⊢
        exact (name_tri _ _).map (ba_iff _ _)
      · simp only [h, if_false, Bool.false_eq_true] at h1 h2 ⊢
        rw [h1, h2]
        exact Tri.refl _ _
    have tN : Tri a.n b.n (nP a) (nP b) (cmpN (tn a.kd a.n) (tn b.kd b.n)) (cmpN (tn b.kd b.n) (tn a.kd a.n)) := by
      have h1 := pa.n
      have h2 := pb.n
      unfold nP
      rw [← hk] at h2 ⊢
      by_cases h : hasN a.kd = true
      · simp only [h, if_true]
        refine (num_tri 8 (tn a.kd a.n) (tn a.kd b.n) (tn_lt _ _ wa.n) (tn_lt _ _ wb.n)).map ⟨fun e => ?_, fun e => by rw [e]⟩
        have := congrArg (tn a.kd) e
        rwa [tn_tn _ _ wa.n, tn_tn _ _ wb.n] at this
      · simp only [h, false_or, Bool.false_eq_true] at h1 h2 ⊢
        rw [h1, h2, cmpN_self]
        exact Tri.refl _ _
    have tp : Tri a.pt b.pt (pP a) (pP b) (cmpN a.pt b.pt) (cmpN b.pt a.pt) := by
      have h1 := pa.pt
      have h2 := pb.pt
      unfold pP
      rw [← hk] at h2 ⊢
      by_cases h : hasP a.kd = true
      · simp only [h, if_true] at h1 h2 ⊢
        have := num_tri 2 a.pt.toNat b.pt.toNat (by omega) (by omega)
        rw [Int.toNat_of_nonneg (by omega), Int.toNat_of_nonneg (by omega)] at this
        exact this.map ⟨fun e => by omega, fun e => by rw [e]⟩
      · simp only [h, if_false, Bool.false_eq_true] at h1 h2 ⊢
        rw [h1, h2]
        exact Tri.refl _ _
    have eb : a.bk = b.bk → bP a = bP b := fun e => by unfold bP; rw [hk, e]
    have em : a.nm = b.nm → mP a = mP b := fun e => by unfold mP; rw [hk, e]
    have en : a.n = b.n → nP a = nP b := fun e => by unfold nP; rw [hk, e]
    have t := Tri.seq tb eb (Tri.seq tm em (Tri.seq tN en tp))
    have e1 : cmpK a b = (if Lib.compareBytes a.bk.data.toList b.bk.data.toList ≠ 0 then Lib.compareBytes a.bk.data.toList b.bk.data.toList else if Lib.compareBytes a.nm.data.toList b.nm.data.toList ≠ 0 then Lib.compareBytes a.nm.data.toList b.nm.data.toList else if cmpN (tn a.kd a.n) (tn b.kd b.n) ≠ 0 then cmpN (tn a.kd a.n) (tn b.kd b.n) else cmpN a.pt b.pt) := by
      unfold cmpK or5
      rw [show (a.kd : Int) = b.kd from by rw [hk], cmpN_self, if_neg (by simp), ← hk]
    have e2 : cmpK b a = (if Lib.compareBytes b.bk.data.toList a.bk.data.toList ≠ 0 then Lib.compareBytes b.bk.data.toList a.bk.data.toList else if Lib.compareBytes b.nm.data.toList a.nm.data.toList ≠ 0 then Lib.compareBytes b.nm.data.toList a.nm.data.toList else if cmpN (tn b.kd b.n) (tn a.kd a.n) ≠ 0 then cmpN (tn b.kd b.n) (tn a.kd a.n) else cmpN b.pt a.pt) := by
      unfold cmpK or5
      rw [show (a.kd : Int) = b.kd from by rw [hk], cmpN_self, if_neg (by simp), ← hk]
    rw [e1, e2]
    have ea : encL a = UInt8.ofNat a.kd :: (bP a ++ (mP a ++ (nP a ++ pP a))) := rfl
    have eb2 : encL b = UInt8.ofNat a.kd :: (bP b ++ (mP b ++ (nP b ++ pP b))) := by rw [hk]; rfl
    rw [ea, eb2]
    have t2 := Tri.map t (a' := a) (b' := b) ⟨fun e => by simp only [Prod.mk.injEq] at e; exact key_eq hk e.1 e.2.1 e.2.2.1 e.2.2.2, fun e => by rw [e]⟩
    rcases t2 with ⟨h1, h2⟩ | ⟨h1, h2, h3⟩ | ⟨h1, h2, h3⟩
    · exact .inl ⟨h1, h2⟩
    · exact .inr (.inl ⟨h1, h2.cons _, h3⟩)
    · exact .inr (.inr ⟨h1, h2.cons _, h3⟩)
  · have k1 := wa.kd
    have k2 := wb.kd
    have h1 : a ≠ b := fun e => hk (by rw [e])
    rcases Nat.lt_or_gt_of_ne hk with h | h
    · refine .inr (.inl ⟨h1, diff_head (lt_nat.2 (by rw [kd_byte k1, kd_byte k2]; exact h)) _ _, ?_, ?_⟩)
      · unfold cmpK or5 cmpN; rw [if_pos (show (a.kd : Int) < b.kd by omega)]; rfl
      · unfold cmpK or5 cmpN; rw [if_neg (show ¬ (b.kd : Int) < a.kd by omega), if_pos (show (a.kd : Int) < b.kd by omega)]; rfl
    · refine .inr (.inr ⟨h1, diff_head (lt_nat.2 (by rw [kd_byte k1, kd_byte k2]; exact h)) _ _, ?_, ?_⟩)
      · unfold cmpK or5 cmpN; rw [if_neg (show ¬ (a.kd : Int) < b.kd by omega), if_pos (show (b.kd : Int) < a.kd by omega)]; rfl
      · unfold cmpK or5 cmpN; rw [if_pos (show (b.kd : Int) < a.kd by omega)]; rfl
theorem less_of {a b : List UInt8} (h : Diff a b) : Op.bytesLess a b = true ∧ Op.bytesLess b a = false := by
  have := h.less [] []
  rwa [List.append_nil, List.append_nil] at this
theorem less_self (a : List UInt8) : Op.bytesLess a a = false := by
  induction a with
  | nil => rfl
  | cons x a ih =>
    unfold Op.bytesLess
    rw [ih]
    simp
theorem dec_one {l : List UInt8} {a b : Key} (ha : Dec l a) (hb : Dec l b) : a = b := by
  obtain ⟨wa, ma, ea⟩ := ha
  obtain ⟨wb, mb, eb⟩ := hb
  rcases key_tri wa wb ma mb with h | ⟨h1, h2, h3⟩ | ⟨h1, h2, h3⟩
  · exact h.1
  · have := less_of h2
    rw [ea, eb, less_self] at this
    exact absurd this.1 (by simp)
  · have := less_of h2
    rw [ea, eb, less_self] at this
    exact absurd this.1 (by simp)
/-- What bytes are read as. -/
noncomputable def decO (l : List UInt8) : Option Key := open Classical in if h : ∃ k, Dec l k then some h.choose else none
theorem decO_some {l : List UInt8} {k : Key} (h : Dec l k) : decO l = some k := by
  unfold decO
  rw [dif_pos ⟨k, h⟩]
  exact congrArg some (dec_one (Exists.choose_spec (⟨k, h⟩ : ∃ k, Dec l k)) h)
theorem decO_none {l : List UInt8} (h : ∀ k, ¬ Dec l k) : decO l = none := by
  unfold decO
  rw [dif_neg (fun ⟨k, hk⟩ => h k hk)]
theorem decO_dec {l : List UInt8} {k : Key} (h : decO l = some k) : Dec l k := by
  unfold decO at h
  split at h
  · rename_i hh
    injection h with h
    rw [← h]
    exact hh.choose_spec
  · cases h
/- What is behind a prefix. -/
def behO : List UInt8 → Option (List UInt8)
  | [] => none
  | a :: l => match behO l with
    | some r => some (a :: r)
    | none => if a.toNat < 255 then some [a + 1] else none
def behL (l : List UInt8) : List UInt8 := (behO l).getD []
theorem behO_all {l : List UInt8} (h : ∀ x ∈ l, x.toNat = 255) : behO l = none := by
  induction l with
  | nil => rfl
  | cons a l ih =>
    unfold behO
    rw [ih fun x hx => h x (by simp [hx])]
    have := h a (by simp)
    simp only
    rw [if_neg (by omega)]
theorem behO_at (p : List UInt8) (c : UInt8) (r : List UInt8) (hc : c.toNat < 255) (h : ∀ x ∈ r, x.toNat = 255) : behO (p ++ c :: r) = some (p ++ [c + 1]) := by
  induction p with
  | nil =>
    show behO (c :: r) = _
    unfold behO
    rw [behO_all h]
    simp only
    rw [if_pos hc]
    rfl
  | cons a p ih =>
    rw [List.cons_append, behO, ih]
    rfl
theorem behO_none {l : List UInt8} (h : behO l = none) (t : List UInt8) : l <+: t ↔ Op.bytesLess t l = false := by
  induction l generalizing t with
  | nil =>
    constructor
    · intro _; cases t <;> rfl
    · intro _; exact List.nil_prefix
  | cons a l ih =>
    unfold behO at h
    cases hl : behO l with
    | some r => rw [hl] at h; cases h
    | none =>
      rw [hl] at h
      simp only at h
      split at h
      · cases h
      · rename_i ha
        cases t with
        | nil => simp [Op.bytesLess]
        | cons c t =>
          rw [List.cons_prefix_cons, ih hl t]
          have hc := c.toNat_lt
          have hlt : c < a ↔ c ≠ a := by
            rw [lt_nat]
            constructor
            · intro h e; subst e; omega
            · intro h; have := ne_nat h; have := a.toNat_lt; omega
          by_cases e : c = a
          · subst e
            simp [Op.bytesLess]
          · have e2 : ¬ a = c := fun h => e h.symm
            simp [Op.bytesLess, hlt, e, e2]
theorem add_one_nat {a : UInt8} (h : a.toNat < 255) : (a + 1).toNat = a.toNat + 1 := by
  rw [UInt8.toNat_add]
  show (a.toNat + 1) % 256 = _
  omega
/-- WHAT IS BEHIND A PREFIX IS ABOVE ALL THAT BEGINS WITH IT, AND NOTHING BETWEEN. -/
theorem behO_some {l b : List UInt8} (h : behO l = some b) (t : List UInt8) : l <+: t ↔ Op.bytesLess t l = false ∧ Op.bytesLess t b = true := by
  induction l generalizing b t with
  | nil => cases h
  | cons a l ih =>
    unfold behO at h
    cases hl : behO l with
    | some r =>
      rw [hl] at h
      simp only [Option.some.injEq] at h
      subst h
      cases t with
      | nil => simp [Op.bytesLess]
      | cons c t =>
        rw [List.cons_prefix_cons, ih hl t]
        by_cases e : c = a
        · subst e
          simp [Op.bytesLess, UInt8.lt_irrefl]
        · have e2 : ¬ a = c := fun h => e h.symm
          simp [Op.bytesLess, e, e2]
    | none =>
      rw [hl] at h
      simp only at h
      split at h
      · rename_i ha
        injection h with h
        subst h
        cases t with
        | nil => simp [Op.bytesLess]
        | cons c t =>
          rw [List.cons_prefix_cons, behO_none hl t]
          by_cases e : c = a
          · subst e
            have : c < c + 1 := lt_nat.2 (by rw [add_one_nat ha]; omega)
            simp [Op.bytesLess, this, UInt8.lt_irrefl]
          · have e2 : ¬ a = c := fun h => e h.symm
            have hn := ne_nat e
            have h3 : c < a ↔ c.toNat < a.toNat := lt_nat
            have h4 : c < a + 1 ↔ c.toNat < a.toNat + 1 := by rw [lt_nat, add_one_nat ha]
            have h5 : Op.bytesLess t [] = false := by cases t <;> rfl
            simp only [Op.bytesLess, h3, h4, e, e2, false_and, false_iff, h5]
            simp
            omega
      · cases h
theorem behO_pos (a : UInt8) (l : List UInt8) (h : a.toNat < 255) : ∃ b, behO (a :: l) = some b := by
  unfold behO
  cases behO l with
  | some r => exact ⟨_, rfl⟩
  | none => simp only; rw [if_pos h]; exact ⟨_, rfl⟩
/-- NAMES THAT BEGIN ALIKE. -/
theorem nm_begins (b r t : List UInt8) : nmL b <+: nmL r ++ 0 :: 1 :: t ↔ b <+: r := by
  induction b generalizing r with
  | nil => simp [nmL]
  | cons x b ih =>
    cases r with
    | nil =>
      have h : ¬ (x :: b <+: []) := by simp
      simp only [h, iff_false]
      rw [nmL, nmL]
      split
      · rw [List.nil_append, List.cons_prefix_cons, List.cons_prefix_cons]
        intro h2
        exact absurd h2.2.1 (by decide)
      · rename_i hx
        rw [List.nil_append, List.cons_prefix_cons]
        exact fun h2 => hx h2.1
    | cons y r =>
      rw [List.cons_prefix_cons, ← ih r, nmL, nmL]
      by_cases e : x = y
      · subst e
        split
        · rw [List.cons_append, List.cons_append, List.cons_prefix_cons, List.cons_prefix_cons]
          simp
        · rw [List.cons_append, List.cons_prefix_cons]
      · obtain ⟨q, hq⟩ : ∃ q, (if x = 0 then 0 :: 255 :: nmL b else x :: nmL b) = x :: q := by
          split
          · rename_i h; subst h; exact ⟨_, rfl⟩
          · exact ⟨_, rfl⟩
        obtain ⟨q2, hq2⟩ : ∃ q, (if y = 0 then 0 :: 255 :: nmL r else y :: nmL r) = y :: q := by
          split
          · rename_i h; subst h; exact ⟨_, rfl⟩
          · exact ⟨_, rfl⟩
        rw [hq, hq2, List.cons_append, List.cons_prefix_cons]
        constructor
        · intro h; exact absurd h.1 e
        · intro h; exact absurd h.1 e
end Go.Proofs.Ytccpbgkaeldlaaa.Ny
