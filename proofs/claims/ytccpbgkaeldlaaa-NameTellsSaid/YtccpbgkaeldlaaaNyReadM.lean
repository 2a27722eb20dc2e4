/- What has been read of a key's bytes, field by field: plain. -/
import Derived.Test.YtccpbgkaeldlaaaNyTake2
namespace Go.Proofs.Ytccpbgkaeldlaaa.Ny
open Go _root_.Go.Proofs.Ytccpbgkaeldlaaa.Nm
set_option linter.unusedVariables false
set_option linter.unusedSimpArgs false
/-- The bytes of the first i fields; of the rest. -/
def E : Nat → Key → List UInt8
  | 0, _ => []
  | 1, k => bP k
  | 2, k => bP k ++ mP k
  | 3, k => bP k ++ (mP k ++ nP k)
  | _, k => bP k ++ (mP k ++ (nP k ++ pP k))
def T : Nat → Key → List UInt8
  | 0, k => bP k ++ (mP k ++ (nP k ++ pP k))
  | 1, k => mP k ++ (nP k ++ pP k)
  | 2, k => nP k ++ pP k
  | 3, k => pP k
  | _, _ => []
structure Rd (l : List UInt8) (i : Nat) (k : Key) (R : List UInt8) (b : Bool) : Prop where
  wf : k.Wf
  is : b = true → l = UInt8.ofNat k.kd :: (E i k ++ R)
  of : ∀ k0, Dec l k0 → b = true ∧ k0.kd = k.kd ∧ (1 ≤ i → k0.bk = k.bk) ∧ (2 ≤ i → k0.nm = k.nm) ∧ (3 ≤ i → k0.n = k.n) ∧ (4 ≤ i → k0.pt = k.pt) ∧ R = T i k0
  z1 : i < 1 → k.bk = ⟨#[]⟩
  z2 : i < 2 → k.nm = ⟨#[]⟩
  z3 : i < 3 → k.n = 0
  z4 : i < 4 → k.pt = 0
theorem nat_byte (c : UInt8) : UInt8.ofNat c.toNat = c := UInt8.toNat_inj.1 (by rw [UInt8.toNat_ofNat']; have := c.toNat_lt; omega)
theorem Rd.start (c : UInt8) (R : List UInt8) : Rd (c :: R) 0 ⟨c.toNat, ⟨#[]⟩, ⟨#[]⟩, 0, 0⟩ R (isK c.toNat) := by
  have hc := c.toNat_lt
  refine ⟨⟨by show c.toNat < 256; omega, by show (0 : Nat) ≤ _; unfold maxLen; omega, by show (0 : Nat) ≤ _; unfold maxLen; omega, by show (0 : Nat) < _; omega, by show _ ≤ (0 : Int); omega, by show (0 : Int) ≤ _; omega⟩, fun _ => ?_, fun k0 hk => ?_, fun _ => rfl, fun _ => rfl, fun _ => rfl, fun _ => rfl⟩
  · show c :: R = UInt8.ofNat c.toNat :: R
    rw [nat_byte]
  · obtain ⟨w0, m0, e0⟩ := hk
    unfold encL at e0
    injection e0 with e1 e2
    have hkd : k0.kd = c.toNat := by rw [← e1, kd_byte w0.kd]
    exact ⟨by rw [← hkd]; exact (mayP m0).kd, hkd, fun h => by omega, fun h => by omega, fun h => by omega, fun h => by omega, e2.symm⟩
theorem bP_no {k : Key} (h : hasB k.kd = false) : bP k = [] := by unfold bP; rw [h]; rfl
theorem mP_no {k : Key} (h : hasM k.kd = false) : mP k = [] := by unfold mP; rw [h]; rfl
theorem nP_no {k : Key} (h : hasN k.kd = false) : nP k = [] := by unfold nP; rw [h]; rfl
theorem pP_no {k : Key} (h : hasP k.kd = false) : pP k = [] := by unfold pP; rw [h]; rfl
theorem bP_yes {k : Key} (h : hasB k.kd = true) : bP k = k.bk.data.toList ++ [0] := by unfold bP; rw [h]; rfl
theorem mP_yes {k : Key} (h : hasM k.kd = true) : mP k = nmL k.nm.data.toList ++ [0, 1] := by unfold mP; rw [h]; rfl
theorem nP_yes {k : Key} (h : hasN k.kd = true) : nP k = be 8 (tn k.kd k.n) := by unfold nP; rw [h]; rfl
theorem pP_yes {k : Key} (h : hasP k.kd = true) : pP k = be 2 k.pt.toNat := by unfold pP; rw [h]; rfl
/-- A field that the kind has not; or nothing is read any more. -/
theorem Rd.skip1 {l R : List UInt8} {k : Key} {b : Bool} (h : Rd l 0 k R b) (hs : b = true → hasB k.kd = false) : Rd l 1 k R b := by
  refine ⟨h.wf, fun hb => ?_, fun k0 hk => ?_, fun h => by omega, fun _ => h.z2 (by omega), fun _ => h.z3 (by omega), fun _ => h.z4 (by omega)⟩
  · rw [h.is hb]; show _ = _ :: (bP k ++ R); rw [bP_no (hs hb)]; rfl
  · obtain ⟨h1, h2, _, _, _, _, h7⟩ := h.of k0 hk
    have hf : hasB k0.kd = false := by rw [h2]; exact hs h1
    have hm := (mayP hk.2.1).bk
    simp only [hf, Bool.false_eq_true, if_false] at hm
    refine ⟨h1, h2, fun _ => by rw [hm, h.z1 (by omega)], fun h => by omega, fun h => by omega, fun h => by omega, ?_⟩
    rw [h7]; show bP k0 ++ _ = _; rw [bP_no hf]; rfl
theorem Rd.skip2 {l R : List UInt8} {k : Key} {b : Bool} (h : Rd l 1 k R b) (hs : b = true → hasM k.kd = false) : Rd l 2 k R b := by
  refine ⟨h.wf, fun hb => ?_, fun k0 hk => ?_, fun h => by omega, fun h => by omega, fun _ => h.z3 (by omega), fun _ => h.z4 (by omega)⟩
  · rw [h.is hb]; show _ :: (bP k ++ R) = _ :: ((bP k ++ mP k) ++ R); rw [mP_no (hs hb), List.append_nil]
  · obtain ⟨h1, h2, h3, _, _, _, h7⟩ := h.of k0 hk
    have hf : hasM k0.kd = false := by rw [h2]; exact hs h1
    have hm := (mayP hk.2.1).nm
    simp only [hf, Bool.false_eq_true, if_false] at hm
    refine ⟨h1, h2, fun _ => h3 (by omega), fun _ => by rw [hm, h.z2 (by omega)], fun h => by omega, fun h => by omega, ?_⟩
    rw [h7]; show mP k0 ++ _ = _; rw [mP_no hf]; rfl
theorem Rd.skip3 {l R : List UInt8} {k : Key} {b : Bool} (h : Rd l 2 k R b) (hs : b = true → hasN k.kd = false) : Rd l 3 k R b := by
  refine ⟨h.wf, fun hb => ?_, fun k0 hk => ?_, fun h => by omega, fun h => by omega, fun h => by omega, fun _ => h.z4 (by omega)⟩
  · rw [h.is hb]; show _ :: ((bP k ++ mP k) ++ R) = _ :: ((bP k ++ (mP k ++ nP k)) ++ R); rw [nP_no (hs hb), List.append_nil]
  · obtain ⟨h1, h2, h3, h4, _, _, h7⟩ := h.of k0 hk
    have hf : hasN k0.kd = false := by rw [h2]; exact hs h1
    have hm : k0.n = 0 := by
      rcases (mayP hk.2.1).n with hm | hm
      · rw [hf] at hm; cases hm
      · exact hm
    refine ⟨h1, h2, fun _ => h3 (by omega), fun _ => h4 (by omega), fun _ => by rw [hm, h.z3 (by omega)], fun h => by omega, ?_⟩
    rw [h7]; show nP k0 ++ _ = _; rw [nP_no hf]; rfl
theorem Rd.skip4 {l R : List UInt8} {k : Key} {b : Bool} (h : Rd l 3 k R b) (hs : b = true → hasP k.kd = false) : Rd l 4 k R b := by
  refine ⟨h.wf, fun hb => ?_, fun k0 hk => ?_, fun h => by omega, fun h => by omega, fun h => by omega, fun h => by omega⟩
  · rw [h.is hb]; show _ :: ((bP k ++ (mP k ++ nP k)) ++ R) = _ :: ((bP k ++ (mP k ++ (nP k ++ pP k))) ++ R); rw [pP_no (hs hb), List.append_nil]
  · obtain ⟨h1, h2, h3, h4, h5, _, h7⟩ := h.of k0 hk
    have hf : hasP k0.kd = false := by rw [h2]; exact hs h1
    have hm := (mayP hk.2.1).pt
    simp only [hf, Bool.false_eq_true, if_false] at hm
    refine ⟨h1, h2, fun _ => h3 (by omega), fun _ => h4 (by omega), fun _ => h5 (by omega), fun _ => by rw [hm, h.z4 (by omega)], ?_⟩
    rw [h7]; show pP k0 = _; rw [pP_no hf]; rfl
theorem split_one {a b a' b' : List UInt8} (h : ∀ x ∈ a, x ≠ 0) (h' : ∀ x ∈ a', x ≠ 0) (e : a ++ 0 :: b = a' ++ 0 :: b') : a = a' ∧ b = b' := by
  induction a generalizing a' with
  | nil =>
    cases a' with
    | nil => injection e with _ e; exact ⟨rfl, e⟩
    | cons c a' => injection e with e1 _; exact absurd e1.symm (h' c (by simp))
  | cons c a ih =>
    cases a' with
    | nil => injection e with e1 _; exact absurd e1 (h c (by simp))
    | cons c' a' =>
      injection e with e1 e2
      obtain ⟨h1, h2⟩ := ih (fun x hx => h x (by simp [hx])) (a' := a') (fun x hx => h' x (by simp [hx])) e2
      exact ⟨by rw [e1, h1], h2⟩
theorem Rd.no1 {l R : List UInt8} {k : Key} (h : Rd l 0 k R true) (hs : hasB k.kd = true) (hz : ∀ x ∈ R, x ≠ 0) : Rd l 1 { k with bk := ⟨#[]⟩ } [] false := by
  refine ⟨⟨h.wf.kd, by show (0 : Nat) ≤ _; unfold maxLen; omega, h.wf.nm, h.wf.n, h.wf.pt1, h.wf.pt2⟩, (fun h => by cases h), fun k0 hk => ?_, fun h => by omega, fun _ => h.z2 (by omega), fun _ => h.z3 (by omega), fun _ => h.z4 (by omega)⟩
  obtain ⟨_, h2, _, _, _, _, h7⟩ := h.of k0 hk
  exact absurd rfl (hz 0 (by rw [h7]; show 0 ∈ bP k0 ++ _; rw [bP_yes (by rw [h2]; exact hs)]; simp))
theorem Rd.yes1 {l a r : List UInt8} {k : Key} (h : Rd l 0 k (a ++ 0 :: r) true) (hs : hasB k.kd = true) (hz : ∀ x ∈ a, x ≠ 0) (ha : a.length ≤ 1000000) : Rd l 1 { k with bk := ⟨a.toArray⟩ } r true := by
  refine ⟨⟨h.wf.kd, by show (⟨a.toArray⟩ : ByteArray).size ≤ _; rw [← list_size]; unfold maxLen; show a.length ≤ _; omega, h.wf.nm, h.wf.n, h.wf.pt1, h.wf.pt2⟩, fun _ => ?_, fun k0 hk => ?_, fun h => by omega, fun _ => h.z2 (by omega), fun _ => h.z3 (by omega), fun _ => h.z4 (by omega)⟩
  · rw [h.is rfl]
    show _ :: ([] ++ (a ++ 0 :: r)) = _ :: (bP { k with bk := ⟨a.toArray⟩ } ++ r)
    rw [bP_yes (by exact hs)]
    simp
  · obtain ⟨h1, h2, _, _, _, _, h7⟩ := h.of k0 hk
    have hf : hasB k0.kd = true := by rw [h2]; exact hs
    have hm := (mayP hk.2.1).bk
    simp only [hf, if_true] at hm
    have e : a ++ 0 :: r = k0.bk.data.toList ++ 0 :: T 1 k0 := by
      rw [h7]; show bP k0 ++ _ = _; rw [bP_yes hf, List.append_assoc]; rfl
    obtain ⟨e1, e2⟩ := split_one hz (bktB_nz hm) e
    exact ⟨rfl, h2, fun _ => ba_ext e1.symm, fun h => by omega, fun h => by omega, fun h => by omega, e2⟩
theorem Rd.no2 {l R : List UInt8} {k : Key} (h : Rd l 1 k R true) (hs : hasM k.kd = true) (hz : tkN R = none) : Rd l 2 { k with nm := ⟨#[]⟩ } [] false := by
  refine ⟨⟨h.wf.kd, h.wf.bk, by show (0 : Nat) ≤ _; unfold maxLen; omega, h.wf.n, h.wf.pt1, h.wf.pt2⟩, (fun h => by cases h), fun k0 hk => ?_, fun h => by omega, fun h => by omega, fun _ => h.z3 (by omega), fun _ => h.z4 (by omega)⟩
  obtain ⟨_, h2, _, _, _, _, h7⟩ := h.of k0 hk
  have e : R = nmL k0.nm.data.toList ++ 0 :: 1 :: T 2 k0 := by
    rw [h7]; show mP k0 ++ _ = _; rw [mP_yes (by rw [h2]; exact hs), List.append_assoc]; rfl
  rw [e, tkN_enc] at hz
  cases hz
theorem Rd.yes2 {l R a r : List UInt8} {k : Key} (h : Rd l 1 k R true) (hs : hasM k.kd = true) (hz : tkN R = some (a, r)) (ha : a.length ≤ 1000000) : Rd l 2 { k with nm := ⟨a.toArray⟩ } r true := by
  refine ⟨⟨h.wf.kd, h.wf.bk, by show (⟨a.toArray⟩ : ByteArray).size ≤ _; rw [← list_size]; unfold maxLen; show a.length ≤ _; omega, h.wf.n, h.wf.pt1, h.wf.pt2⟩, fun _ => ?_, fun k0 hk => ?_, fun h => by omega, fun h => by omega, fun _ => h.z3 (by omega), fun _ => h.z4 (by omega)⟩
  · rw [h.is rfl, tkN_dec _ _ _ hz]
    show _ :: (bP k ++ _) = _ :: ((bP k ++ mP { k with nm := ⟨a.toArray⟩ }) ++ r)
    rw [mP_yes (by exact hs)]
    simp
  · obtain ⟨h1, h2, h3, _, _, _, h7⟩ := h.of k0 hk
    have e : R = nmL k0.nm.data.toList ++ 0 :: 1 :: T 2 k0 := by
      rw [h7]; show mP k0 ++ _ = _; rw [mP_yes (by rw [h2]; exact hs), List.append_assoc]; rfl
    rw [e, tkN_enc] at hz
    simp only [Option.some.injEq, Prod.mk.injEq] at hz
    exact ⟨rfl, h2, fun _ => h3 (by omega), fun _ => ba_ext hz.1, fun h => by omega, fun h => by omega, hz.2.symm⟩
theorem nmL_ge (a : List UInt8) : a.length ≤ (nmL a).length := by
  induction a with
  | nil => simp [nmL]
  | cons x a ih =>
    rw [nmL]
    split <;> simp <;> omega
theorem val_256 (l : List UInt8) (n : Nat) (h : l.length = n) : val l < 256 ^ n := by rw [← h]; exact val_lt l
theorem take_be {n x : Nat} {R r : List UInt8} (h : R = be n x ++ r) (hx : x < 256 ^ n) : val (R.take n) = x ∧ R.drop n = r ∧ n ≤ R.length := by
  subst h
  have hl := be_length n x
  refine ⟨?_, ?_, by rw [List.length_append]; omega⟩
  · rw [List.take_left' hl, val_be, Nat.mod_eq_of_lt hx]
  · rw [List.drop_left' hl]
theorem Rd.no3 {l R : List UInt8} {k : Key} (h : Rd l 2 k R true) (hs : hasN k.kd = true) (hz : R.length < 8) : Rd l 3 { k with n := tn k.kd 0 } [] false := by
  refine ⟨⟨h.wf.kd, h.wf.bk, h.wf.nm, tn_lt _ _ (by omega), h.wf.pt1, h.wf.pt2⟩, (fun h => by cases h), fun k0 hk => ?_, fun h => by omega, fun h => by omega, fun h => by omega, fun _ => h.z4 (by omega)⟩
  obtain ⟨_, h2, _, _, _, _, h7⟩ := h.of k0 hk
  have e : R = be 8 (tn k0.kd k0.n) ++ T 3 k0 := by rw [h7]; show nP k0 ++ _ = _; rw [nP_yes (by rw [h2]; exact hs)]; rfl
  have := (take_be e (tn_lt _ _ hk.1.n)).2.2
  omega
theorem Rd.yes3 {l R : List UInt8} {k : Key} (h : Rd l 2 k R true) (hs : hasN k.kd = true) (hz : 8 ≤ R.length) : Rd l 3 { k with n := tn k.kd (val (R.take 8)) } (R.drop 8) true := by
  have hv : val (R.take 8) < 18446744073709551616 := val_256 _ 8 (by rw [List.length_take]; omega)
  refine ⟨⟨h.wf.kd, h.wf.bk, h.wf.nm, tn_lt _ _ hv, h.wf.pt1, h.wf.pt2⟩, fun _ => ?_, fun k0 hk => ?_, fun h => by omega, fun h => by omega, fun h => by omega, fun _ => h.z4 (by omega)⟩
  · rw [h.is rfl]
    show _ :: ((bP k ++ mP k) ++ R) = _ :: ((bP k ++ (mP k ++ nP { k with n := tn k.kd (val (R.take 8)) })) ++ R.drop 8)
    rw [nP_yes (by exact hs)]
    show _ = _ :: ((bP k ++ (mP k ++ be 8 (tn k.kd (tn k.kd (val (R.take 8)))))) ++ R.drop 8)
    have e := be_val (R.take 8)
    rw [show (R.take 8).length = 8 by rw [List.length_take]; omega] at e
    rw [tn_tn _ _ hv, e, List.append_assoc, List.append_assoc, List.append_assoc, List.take_append_drop]
  · obtain ⟨h1, h2, h3, h4, _, _, h7⟩ := h.of k0 hk
    have e : R = be 8 (tn k0.kd k0.n) ++ T 3 k0 := by rw [h7]; show nP k0 ++ _ = _; rw [nP_yes (by rw [h2]; exact hs)]; rfl
    obtain ⟨e1, e2, _⟩ := take_be e (tn_lt _ _ hk.1.n)
    refine ⟨rfl, h2, fun _ => h3 (by omega), fun _ => h4 (by omega), fun _ => ?_, fun h => by omega, e2⟩
    show k0.n = tn k.kd (val (R.take 8))
    rw [e1, ← h2, tn_tn _ _ hk.1.n]
theorem Rd.no4 {l R : List UInt8} {k : Key} (h : Rd l 3 k R true) (hs : hasP k.kd = true) (hz : R.length < 2) : Rd l 4 { k with pt := 0 } [] false := by
  refine ⟨⟨h.wf.kd, h.wf.bk, h.wf.nm, h.wf.n, by show _ ≤ (0 : Int); omega, by show (0 : Int) ≤ _; omega⟩, (fun h => by cases h), fun k0 hk => ?_, fun h => by omega, fun h => by omega, fun h => by omega, fun h => by omega⟩
  obtain ⟨_, h2, _, _, _, _, h7⟩ := h.of k0 hk
  have hf : hasP k0.kd = true := by rw [h2]; exact hs
  have e : R = be 2 k0.pt.toNat ++ [] := by rw [h7]; show pP k0 = _; rw [pP_yes hf, List.append_nil]
  have hl := congrArg List.length e
  rw [List.append_nil, be_length] at hl
  omega
theorem Rd.yes4 {l R : List UInt8} {k : Key} (h : Rd l 3 k R true) (hs : hasP k.kd = true) (hz : 2 ≤ R.length) : Rd l 4 { k with pt := ((val (R.take 2) : Nat) : Int) } (R.drop 2) true := by
  have hv : val (R.take 2) < 65536 := val_256 _ 2 (by rw [List.length_take]; omega)
  refine ⟨⟨h.wf.kd, h.wf.bk, h.wf.nm, h.wf.n, by show _ ≤ ((val (R.take 2) : Nat) : Int); omega, by show ((val (R.take 2) : Nat) : Int) ≤ _; omega⟩, fun _ => ?_, fun k0 hk => ?_, fun h => by omega, fun h => by omega, fun h => by omega, fun h => by omega⟩
  · rw [h.is rfl]
    show _ :: ((bP k ++ (mP k ++ nP k)) ++ R) = _ :: ((bP k ++ (mP k ++ (nP k ++ pP { k with pt := ((val (R.take 2) : Nat) : Int) }))) ++ R.drop 2)
    rw [pP_yes (by exact hs)]
    show _ = _ :: ((bP k ++ (mP k ++ (nP k ++ be 2 (val (R.take 2))))) ++ R.drop 2)
    have e := be_val (R.take 2)
    rw [show (R.take 2).length = 2 by rw [List.length_take]; omega] at e
    rw [e]
    simp only [List.append_assoc, List.take_append_drop]
  · obtain ⟨h1, h2, h3, h4, h5, _, h7⟩ := h.of k0 hk
    have hf : hasP k0.kd = true := by rw [h2]; exact hs
    have hm := (mayP hk.2.1).pt
    simp only [hf, if_true] at hm
    have e : R = be 2 k0.pt.toNat ++ [] := by rw [h7]; show pP k0 = _; rw [pP_yes hf, List.append_nil]
    obtain ⟨e1, e2, _⟩ := take_be e (by omega)
    refine ⟨rfl, h2, fun _ => h3 (by omega), fun _ => h4 (by omega), fun _ => h5 (by omega), fun _ => ?_, e2⟩
    show k0.pt = ((val (R.take 2) : Nat) : Int)
    rw [e1]
    omega
/-- What was read is the key, if there is one. -/
theorem Rd.end_yes {l : List UInt8} {k : Key} (h : Rd l 4 k [] true) (hm : mayK k = true) : decO l = some k := by
  refine decO_some ⟨h.wf, hm, ?_⟩
  rw [h.is rfl]
  show _ = _ :: ((bP k ++ (mP k ++ (nP k ++ pP k))) ++ [])
  rw [List.append_nil]
  rfl
theorem Rd.end_no {l R : List UInt8} {k : Key} {b : Bool} (h : Rd l 4 k R b) (hm : ¬ (b = true ∧ R = [] ∧ mayK k = true)) : decO l = .none := by
  refine decO_none fun k0 hk => hm ?_
  obtain ⟨h1, h2, h3, h4, h5, h6, h7⟩ := h.of k0 hk
  have e : k0 = k := key_eq h2 (h3 (by omega)) (h4 (by omega)) (h5 (by omega)) (h6 (by omega))
  exact ⟨h1, h7, by rw [← e]; exact hk.2.1⟩
end Go.Proofs.Ytccpbgkaeldlaaa.Ny
