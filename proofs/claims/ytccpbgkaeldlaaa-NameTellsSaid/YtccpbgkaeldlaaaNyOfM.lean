/- What the document's own reading has found of a key's bytes, field by field: plain. -/
import Derived.Test.YtccpbgkaeldlaaaNyReadM
namespace Go.Proofs.Ytccpbgkaeldlaaa.Ny
open Go _root_.Go.Proofs.Ytccpbgkaeldlaaa.Nm
set_option linter.unusedVariables false
set_option linter.unusedSimpArgs false
structure Ro (l : List UInt8) (i : Nat) (k : Key) (R : List UInt8) : Prop where
  wf : k.Wf
  of : ∀ k0, Dec l k0 → k0.kd = k.kd ∧ (1 ≤ i → k0.bk = k.bk) ∧ (2 ≤ i → k0.nm = k.nm) ∧ (3 ≤ i → k0.n = k.n) ∧ (4 ≤ i → k0.pt = k.pt) ∧ R = T i k0
  z1 : i < 1 → k.bk = ⟨#[]⟩
  z2 : i < 2 → k.nm = ⟨#[]⟩
  z3 : i < 3 → k.n = 0
  z4 : i < 4 → k.pt = 0
theorem Ro.start (c : UInt8) (R : List UInt8) : Ro (c :: R) 0 ⟨c.toNat, ⟨#[]⟩, ⟨#[]⟩, 0, 0⟩ R := by
  have h := Rd.start c R
  exact ⟨h.wf, fun k0 hk => (h.of k0 hk).2, h.z1, h.z2, h.z3, h.z4⟩
theorem Ro.skip1 {l R : List UInt8} {k : Key} (h : Ro l 0 k R) (hs : hasB k.kd = false) : Ro l 1 k R := by
  refine ⟨h.wf, fun k0 hk => ?_, fun h => by omega, fun _ => h.z2 (by omega), fun _ => h.z3 (by omega), fun _ => h.z4 (by omega)⟩
  obtain ⟨h2, _, _, _, _, h7⟩ := h.of k0 hk
  have hf : hasB k0.kd = false := by rw [h2]; exact hs
  have hm := (mayP hk.2.1).bk
  simp only [hf, Bool.false_eq_true, if_false] at hm
  refine ⟨h2, fun _ => by rw [hm, h.z1 (by omega)], fun h => by omega, fun h => by omega, fun h => by omega, ?_⟩
  rw [h7]; show bP k0 ++ _ = _; rw [bP_no hf]; rfl
theorem Ro.skip2 {l R : List UInt8} {k : Key} (h : Ro l 1 k R) (hs : hasM k.kd = false) : Ro l 2 k R := by
  refine ⟨h.wf, fun k0 hk => ?_, fun h => by omega, fun h => by omega, fun _ => h.z3 (by omega), fun _ => h.z4 (by omega)⟩
  obtain ⟨h2, h3, _, _, _, h7⟩ := h.of k0 hk
  have hf : hasM k0.kd = false := by rw [h2]; exact hs
  have hm := (mayP hk.2.1).nm
  simp only [hf, Bool.false_eq_true, if_false] at hm
  refine ⟨h2, fun _ => h3 (by omega), fun _ => by rw [hm, h.z2 (by omega)], fun h => by omega, fun h => by omega, ?_⟩
  rw [h7]; show mP k0 ++ _ = _; rw [mP_no hf]; rfl
theorem Ro.skip3 {l R : List UInt8} {k : Key} (h : Ro l 2 k R) (hs : hasN k.kd = false) : Ro l 3 k R := by
  refine ⟨h.wf, fun k0 hk => ?_, fun h => by omega, fun h => by omega, fun h => by omega, fun _ => h.z4 (by omega)⟩
  obtain ⟨h2, h3, h4, _, _, h7⟩ := h.of k0 hk
  have hf : hasN k0.kd = false := by rw [h2]; exact hs
  have hm : k0.n = 0 := by
    rcases (mayP hk.2.1).n with hm | hm
    · rw [hf] at hm; cases hm
    · exact hm
  refine ⟨h2, fun _ => h3 (by omega), fun _ => h4 (by omega), fun _ => by rw [hm, h.z3 (by omega)], fun h => by omega, ?_⟩
  rw [h7]; show nP k0 ++ _ = _; rw [nP_no hf]; rfl
/-- No part is told; then there is none, or there is no key. -/
theorem Ro.skip4 {l R : List UInt8} {k : Key} (h : Ro l 3 k R) (hs : hasP k.kd = false ∨ R.length ≠ 2) : ∀ k0, Dec l k0 → k0 = k := by
  intro k0 hk
  obtain ⟨h2, h3, h4, h5, _, h7⟩ := h.of k0 hk
  have hf : hasP k0.kd = false := by
    cases hp : hasP k0.kd with
    | false => rfl
    | true =>
      rcases hs with hs | hs
      · rw [h2, hs] at hp; cases hp
      · refine absurd ?_ hs
        rw [h7]; show (pP k0).length = 2; rw [pP_yes hp, be_length]
  have hm := (mayP hk.2.1).pt
  simp only [hf, Bool.false_eq_true, if_false] at hm
  exact key_eq h2 (h3 (by omega)) (h4 (by omega)) (h5 (by omega)) (by rw [hm, h.z4 (by omega)])
theorem Ro.no1 {l R : List UInt8} {k : Key} (h : Ro l 0 k R) (hs : hasB k.kd = true) (hz : ∀ x ∈ R, x ≠ 0) : decO l = .none := by
  refine decO_none fun k0 hk => ?_
  obtain ⟨h2, _, _, _, _, h7⟩ := h.of k0 hk
  exact absurd rfl (hz 0 (by rw [h7]; show 0 ∈ bP k0 ++ _; rw [bP_yes (by rw [h2]; exact hs)]; simp))
theorem Ro.yes1 {l a r : List UInt8} {k : Key} (h : Ro l 0 k (a ++ 0 :: r)) (hs : hasB k.kd = true) (hz : ∀ x ∈ a, x ≠ 0) (ha : a.length ≤ 1000000) : Ro l 1 { k with bk := ⟨a.toArray⟩ } r := by
  refine ⟨⟨h.wf.kd, by show (⟨a.toArray⟩ : ByteArray).size ≤ _; rw [← list_size]; unfold maxLen; show a.length ≤ _; omega, h.wf.nm, h.wf.n, h.wf.pt1, h.wf.pt2⟩, fun k0 hk => ?_, fun h => by omega, fun _ => h.z2 (by omega), fun _ => h.z3 (by omega), fun _ => h.z4 (by omega)⟩
  obtain ⟨h2, _, _, _, _, h7⟩ := h.of k0 hk
  have hf : hasB k0.kd = true := by rw [h2]; exact hs
  have hm := (mayP hk.2.1).bk
  simp only [hf, if_true] at hm
  have e : a ++ 0 :: r = k0.bk.data.toList ++ 0 :: T 1 k0 := by
    rw [h7]; show bP k0 ++ _ = _; rw [bP_yes hf, List.append_assoc]; rfl
  obtain ⟨e1, e2⟩ := split_one hz (bktB_nz hm) e
  exact ⟨h2, fun _ => ba_ext e1.symm, fun h => by omega, fun h => by omega, fun h => by omega, e2⟩
/-- How far a name was taken. -/
def Nam (R q : List UInt8) (i : Nat) : Prop := ∀ a r, R = nmL a ++ 0 :: 1 :: r → ∃ left, a = q ++ left ∧ i = (nmL q).length
theorem Nam.start (R : List UInt8) : Nam R [] 0 := fun a r h => ⟨a, rfl, rfl⟩
theorem nam_drop {R q left r : List UInt8} (h : R = nmL (q ++ left) ++ 0 :: 1 :: r) : R.drop (nmL q).length = nmL left ++ 0 :: 1 :: r := by
  rw [h, nmL_append, List.append_assoc, List.drop_left]
theorem drop_two {R : List UInt8} {i : Nat} {x y : UInt8} {t : List UInt8} (h : R.drop i = x :: y :: t) : i + 1 < R.length ∧ R[i]! = x ∧ R[i + 1]! = y := by
  have hl := congrArg List.length h
  rw [List.length_drop] at hl
  simp only [List.length_cons] at hl
  have h0 : (R.drop i)[0]? = some x := by rw [h]; rfl
  have h1 : (R.drop i)[1]? = some y := by rw [h]; rfl
  rw [List.getElem?_drop] at h0 h1
  refine ⟨by omega, ?_, ?_⟩
  · rw [getElem!_pos R i (by omega)]
    rw [Nat.add_zero, List.getElem?_eq_getElem (by omega)] at h0
    exact Option.some.inj h0
  · rw [getElem!_pos R (i + 1) (by omega)]
    rw [List.getElem?_eq_getElem (by omega)] at h1
    exact Option.some.inj h1
theorem name_two (x : UInt8) (left r : List UInt8) : ∃ y t, nmL (x :: left) ++ 0 :: 1 :: r = x :: y :: t ∧ (x = 0 → y = 255) := by
  rw [nmL]
  split
  · rename_i h; subst h; exact ⟨255, _, rfl, fun _ => rfl⟩
  · rename_i h
    cases left with
    | nil => exact ⟨0, _, rfl, fun e => absurd e h⟩
    | cons z left =>
      obtain ⟨t, ht⟩ := name_first z left
      exact ⟨z, _, by rw [ht]; rfl, fun e => absurd e h⟩
/-- A step. -/
theorem Nam.step {R q : List UInt8} {i : Nat} (h : Nam R q i) (hc : R[i]! ≠ 0 ∨ R[i + 1]! = 255) : Nam R (q ++ [R[i]!]) (if R[i]! = 0 then i + 2 else i + 1) := by
  intro a r e
  obtain ⟨left, rfl, rfl⟩ := h a r e
  have hd := nam_drop e
  cases left with
  | nil =>
    obtain ⟨_, h1, h2⟩ := drop_two (x := 0) (y := 1) (t := r) hd
    rcases hc with hc | hc
    · exact absurd h1 hc
    · rw [h2] at hc; exact absurd hc (by decide)
  | cons x left =>
    obtain ⟨y, t, ht, _⟩ := name_two x left r
    rw [ht] at hd
    obtain ⟨_, h1, h2⟩ := drop_two hd
    refine ⟨left, by rw [h1]; simp, ?_⟩
    rw [h1, nmL_append, List.length_append, nmL]
    split <;> simp [nmL]
/-- The end. -/
theorem Nam.end_ {R q : List UInt8} {i : Nat} (h : Nam R q i) (hc : ¬ (i + 1 < R.length ∧ (R[i]! ≠ 0 ∨ R[i + 1]! = 255))) (a r : List UInt8) (e : R = nmL a ++ 0 :: 1 :: r) : q = a ∧ R.drop (min (i + 2) R.length) = r := by
  obtain ⟨left, rfl, rfl⟩ := h a r e
  have hd := nam_drop e
  cases left with
  | nil =>
    refine ⟨by simp, ?_⟩
    obtain ⟨hl, _, _⟩ := drop_two (x := 0) (y := 1) (t := r) hd
    rw [Nat.min_eq_left (by omega), ← List.drop_drop, hd]
    rfl
  | cons x left =>
    obtain ⟨y, t, ht, hy⟩ := name_two x left r
    rw [ht] at hd
    obtain ⟨hl, h1, h2⟩ := drop_two hd
    refine absurd ⟨hl, ?_⟩ hc
    rw [h1, h2]
    by_cases h0 : x = 0
    · exact .inr (hy h0)
    · exact .inl h0
theorem Ro.yes2 {l R q : List UInt8} {i : Nat} {k : Key} (h : Ro l 1 k R) (hs : hasM k.kd = true) (hn : Nam R q i) (hc : ¬ (i + 1 < R.length ∧ (R[i]! ≠ 0 ∨ R[i + 1]! = 255))) (hq : q.length ≤ 1000000) : Ro l 2 { k with nm := ⟨q.toArray⟩ } (R.drop (min (i + 2) R.length)) := by
  refine ⟨⟨h.wf.kd, h.wf.bk, by show (⟨q.toArray⟩ : ByteArray).size ≤ _; rw [← list_size]; unfold maxLen; show q.length ≤ _; omega, h.wf.n, h.wf.pt1, h.wf.pt2⟩, fun k0 hk => ?_, fun h => by omega, fun h => by omega, fun _ => h.z3 (by omega), fun _ => h.z4 (by omega)⟩
  obtain ⟨h2, h3, _, _, _, h7⟩ := h.of k0 hk
  have e : R = nmL k0.nm.data.toList ++ 0 :: 1 :: T 2 k0 := by
    rw [h7]; show mP k0 ++ _ = _; rw [mP_yes (by rw [h2]; exact hs), List.append_assoc]; rfl
  obtain ⟨e1, e2⟩ := hn.end_ hc _ _ e
  exact ⟨h2, fun _ => h3 (by omega), fun _ => ba_ext e1.symm, fun h => by omega, fun h => by omega, e2⟩
theorem Ro.no3 {l R : List UInt8} {k : Key} (h : Ro l 2 k R) (hs : hasN k.kd = true) (hz : R.length < 8) : decO l = .none := by
  refine decO_none fun k0 hk => ?_
  obtain ⟨h2, _, _, _, _, h7⟩ := h.of k0 hk
  have e : R = be 8 (tn k0.kd k0.n) ++ T 3 k0 := by rw [h7]; show nP k0 ++ _ = _; rw [nP_yes (by rw [h2]; exact hs)]; rfl
  have := (take_be e (tn_lt _ _ hk.1.n)).2.2
  omega
theorem Ro.yes3 {l R : List UInt8} {k : Key} (h : Ro l 2 k R) (hs : hasN k.kd = true) (hz : 8 ≤ R.length) : Ro l 3 { k with n := tn k.kd (val (R.take 8)) } (R.drop 8) := by
  have hv : val (R.take 8) < 18446744073709551616 := val_256 _ 8 (by rw [List.length_take]; omega)
  refine ⟨⟨h.wf.kd, h.wf.bk, h.wf.nm, tn_lt _ _ hv, h.wf.pt1, h.wf.pt2⟩, fun k0 hk => ?_, fun h => by omega, fun h => by omega, fun h => by omega, fun _ => h.z4 (by omega)⟩
  obtain ⟨h2, h3, h4, _, _, h7⟩ := h.of k0 hk
  have e : R = be 8 (tn k0.kd k0.n) ++ T 3 k0 := by rw [h7]; show nP k0 ++ _ = _; rw [nP_yes (by rw [h2]; exact hs)]; rfl
  obtain ⟨e1, e2, _⟩ := take_be e (tn_lt _ _ hk.1.n)
  refine ⟨h2, fun _ => h3 (by omega), fun _ => h4 (by omega), fun _ => ?_, fun h => by omega, e2⟩
  show k0.n = tn k.kd (val (R.take 8))
  rw [e1, ← h2, tn_tn _ _ hk.1.n]
theorem Ro.yes4 {l : List UInt8} {x y : UInt8} {k : Key} (h : Ro l 3 k [x, y]) (hs : hasP k.kd = true) : ∀ k0, Dec l k0 → k0 = { k with pt := ((x.toNat * 256 + y.toNat : Nat) : Int) } := by
  intro k0 hk
  obtain ⟨h2, h3, h4, h5, _, h7⟩ := h.of k0 hk
  have hf : hasP k0.kd = true := by rw [h2]; exact hs
  have hm := (mayP hk.2.1).pt
  simp only [hf, if_true] at hm
  have e : [x, y] = be 2 k0.pt.toNat ++ [] := by rw [h7]; show pP k0 = _; rw [pP_yes hf, List.append_nil]
  obtain ⟨e1, _, _⟩ := take_be e (by omega)
  have e3 : val (List.take 2 [x, y]) = x.toNat * 256 + y.toNat := by
    show val ([x] ++ [y]) = _
    rw [val_snoc]
    show 256 * val ([] ++ [x]) + _ = _
    rw [val_snoc]
    show 256 * (256 * 0 + x.toNat) + _ = _
    omega
  refine key_eq h2 (h3 (by omega)) (h4 (by omega)) (h5 (by omega)) ?_
  show k0.pt = ((x.toNat * 256 + y.toNat : Nat) : Int)
  rw [← e3, e1]
  omega
theorem of_end {l : List UInt8} {k : Key} (hk : k.Wf) (h : ∀ k0, Dec l k0 → k0 = k) : decO l = if mayK k = true ∧ encL k = l then some k else .none := by
  by_cases c : mayK k = true ∧ encL k = l
  · rw [if_pos c]; exact decO_some ⟨hk, c.1, c.2⟩
  · rw [if_neg c]
    refine decO_none fun k0 hk0 => c ?_
    have e := h k0 hk0
    rw [← e]
    exact ⟨hk0.2.1, hk0.2.2⟩
end Go.Proofs.Ytccpbgkaeldlaaa.Ny
