/- ShdArg, ShardMath. -/
import Derived.Test.YtdpkmonlkdegjaaGreatDoorPart27
import Derived.Lib.SmallJoins
import Derived.OpenShut
import Derived.ShutString
/- A shard that came in by value, opened; and shut again. -/
namespace Go.Proofs.YtdpkmonlkdegjaaGreatDoor
open Go.ChangeShapes Go.WideShapes Go.ChangeAt Go.RowKit Go.Joins Go.Deep
open Go.ChangeMaps (open_string shut_string)
set_option linter.unusedVariables false
def shdD {H : Type} (x : Shd) : DataW H := .agg [.lit (.int .u64 (x.st : Nat)), .lit (.int .i64 x.ix), .lit (.int .i64 x.tt), .lit (.string x.t.data.toList)]
theorem open_shd {P : Program} {H : Type} {enc : TypeId × Value → H} {w : World} {base : Nat} {spare : Nat → Bool} {held : Bool} {r : Reach} {b0 : Nat} {t : TypeId} {f0 f1 f2 f3 : Field} {v : Value} {d : DataW H} {p : List MemPlace}
    (hs : P.underlying t = some (.struct #[f0, f1, f2, f3])) (hone : oneCellFields P #[f0, f1, f2, f3] = true) (hC : P.cellsOf t = 4)
    (k0 : P.underlying f0.type = some (.int .u64)) (k1 : P.underlying f1.type = some (.int .i64)) (k2 : P.underlying f2.type = some (.int .i64)) (k3 : P.underlying f3.type = some .string)
    (hv : Value.okWide P w r b0 t v) (h : DataW.Trod enc P w base spare held t v d p) :
    ∃ x : Shd, v = x.val ∧ d = shdD x ∧ p = [] ∧ (x.Wf ∧ x.t.size ≤ maxLen) := by
  obtain ⟨v0, v1, v2, v3, y0, y1, y2, y3, n, rfl, rfl, rfl, h0, h1, h2, h3⟩ := open_agg4 hs hone hC hv h
  obtain ⟨z0, e0, rfl, w0⟩ := DataW.trod_int k0 h0
  obtain ⟨z1, e1, rfl, w1⟩ := DataW.trod_int k1 h1
  obtain ⟨z2, e2, rfl, w2⟩ := DataW.trod_int k2 h2
  obtain ⟨z3, e3, rfl, w3⟩ := DataW.trod_string k3 h3
  simp only [List.cons.injEq, and_true] at e0 e1 e2 e3
  subst e0 e1 e2 e3
  have b0 := bounds_u64 w0
  have b1 := bounds_i64 w1
  have b2 := bounds_i64 w2
  obtain ⟨st, rfl⟩ : ∃ st : Nat, z0 = st := ⟨z0.toNat, by omega⟩
  exact ⟨⟨st, z1, z2, z3⟩, rfl, rfl, rfl, ⟨by show st < _; omega, by show _ ≤ z1; omega, by show z1 ≤ _; omega, by show _ ≤ z2; omega, by show z2 ≤ _; omega⟩, w3⟩
theorem wf_of_i64 {x : Int} (h1 : -9223372036854775808 ≤ x) (h2 : x ≤ 9223372036854775807) : (Lit.int .i64 x).wf = true := by
  simp [Lit.wf, IntKind.min, IntKind.max, IntKind.signed, IntKind.bits]
  omega
theorem wf_of_u64 {x : Nat} (h2 : x < 18446744073709551616) : (Lit.int .u64 (x : Int)).wf = true := by
  simp [Lit.wf, IntKind.min, IntKind.max, IntKind.signed, IntKind.bits]
  omega
theorem shut_shd {P : Program} {H : Type} {enc : TypeId × Value → H} {w : World} {base : Nat} {spare : Nat → Bool} {held : Bool} {t : TypeId} {f0 f1 f2 f3 : Field} {x : Shd}
    (hs : P.underlying t = some (.struct #[f0, f1, f2, f3])) (hone : oneCellFields P #[f0, f1, f2, f3] = true) (hC : P.cellsOf t = 4)
    (k0 : P.underlying f0.type = some (.int .u64)) (k1 : P.underlying f1.type = some (.int .i64)) (k2 : P.underlying f2.type = some (.int .i64)) (k3 : P.underlying f3.type = some .string)
    (hw : x.Wf ∧ x.t.size ≤ maxLen) : DataW.Trod enc P w base spare held t x.val (shdD x) [] := by
  have h := shut_agg4 (enc := enc) (w := w) (base := base) (spare := spare) (held := held) hs hone hC
    (field_of_Trod (shut_int (n := (x.st : Int)) k0 (wf_of_u64 hw.1.st)) rfl) (field_of_Trod (shut_int (n := x.ix) k1 (wf_of_i64 hw.1.ix1 hw.1.ix2)) rfl)
    (field_of_Trod (shut_int (n := x.tt) k2 (wf_of_i64 hw.1.tt1 hw.1.tt2)) rfl) (field_of_Trod (shut_string (s := x.t) k3 hw.2) rfl)
  exact h
end Go.Proofs.YtdpkmonlkdegjaaGreatDoor

/- Shards, plain: what was written is read, in a rack of one drive of eight sectors. -/
namespace Go.Proofs.YtdpkmonlkdegjaaGreatDoor
open Go.RowKit Sm Wr _root_.Go.Proofs.YtdpkmonlkdegjaaGreatDoor.Nm
set_option linter.unusedVariables false
theorem sealed_seal (l : List UInt8) : isSealed (sealL l) = true := by
  unfold isSealed
  have h : (sealL l).take ((sealL l).length - 4) = l := by rw [seal_len]; simp [sealL]
  rw [h, seal_len]
  simp
theorem unsealed_seal (l : List UInt8) : unsealed (sealL l) = l := by unfold unsealed; rw [seal_len]; simp [sealL]
theorem hdQ_said (a b c n : Nat) (sum : List UInt8) (ha : a < 18446744073709551616) (hb : b < 18446744073709551616) (hc : c < 18446744073709551616) (hn : n < 18446744073709551616) :
    hdQ big big big big (saidL a b c n sum) = (⟨a, b, c, n, sum⟩, 0) := by
  have e : saidL a b c n sum = up a ++ (up b ++ (up c ++ (up n ++ sum))) := by simp [saidL, nums]
  unfold hdQ big
  rw [e]
  dsimp only
  rw [q_up a _ ha]
  dsimp only
  rw [q_up b _ hb]
  dsimp only
  rw [q_up c _ hc]
  dsimp only
  rw [q_up n _ hn]
  rfl
theorem look_head (a b c n : Nat) (sum : List UInt8) (ha1 : 1 ≤ a) (ha2 : a ≤ 281474976710656) (hb : b < 12) (hc : c ≤ 5376) (hn : n ≤ 448) (hs : sum.length = 4) (hl : (saidL a b c n sum).length ≤ 40) (z : List UInt8) (hz : allz z = true) :
    look (headL a b c n sum ++ z) = some ⟨a, b, c, n, sum⟩ := by
  have hL := seal_len (saidL a b c n sum)
  have hS := sealed_seal (saidL a b c n sum)
  have hU := unsealed_seal (saidL a b c n sum)
  have hQ := hdQ_said a b c n sum (by omega) (by omega) (by omega) (by omega)
  unfold look headL
  generalize saidL a b c n sum = S at *
  generalize sealL S = L at *
  have hn2 : (UInt8.ofNat L.length).toNat = L.length := by rw [UInt8.toNat_ofNat']; omega
  rw [List.cons_append, List.headD_cons, hn2, if_neg (by omega), Nat.add_comm 1 L.length, List.drop_succ_cons, List.drop_left, hz, if_neg (by decide), List.drop_succ_cons, List.drop_zero, List.take_left, hS, if_neg (by decide), hU]
  unfold hdOf
  rw [hQ]
  dsimp only
  rw [if_pos]
  refine ⟨hs, ?_⟩
  unfold Hd.may mayN
  dsimp only
  rw [decide_eq_true ha1, decide_eq_true ha2, decide_eq_true hb, decide_eq_true hc, decide_eq_true hn]
  rfl
/-- A rack of one drive of eight sectors. -/
structure One (s : RSt) : Prop where
  wf : s.Wf
  n : s.n = 1
  m : s.m = 8
theorem one0 : One (rack0 1 8) :=
  ⟨⟨by decide, by decide, by decide, by decide, fun _ _ _ _ => zero64_length, fun _ => by show 0 < _; decide, by show 0 ≤ _; decide⟩, rfl, rfl⟩
theorem One.there {s : RSt} (h : One s) {i : Nat} (hi : i < 8) : s.there 0 i = true := by
  unfold RSt.there; rw [h.n, h.m]; exact decide_eq_true ⟨by omega, by omega, by omega, by omega⟩
theorem One.readE {s : RSt} (h : One s) (hd : s.down = false) {i : Nat} (hi : i < 8) : s.readE 0 i = if s.bad 0 i = true then 72 else 0 := by
  unfold RSt.readE
  rw [hd, h.there hi]
  simp
theorem One.readT {s : RSt} (h : One s) (hd : s.down = false) {i : Nat} (hi : i < 8) (hb : s.bad 0 i = false) : s.readE 0 i = 0 ∧ s.readT 0 i = ⟨(s.T 0 i).toArray⟩ := by
  have he : s.readE 0 i = 0 := by rw [h.readE hd hi, hb]; rfl
  refine ⟨he, ?_⟩
  unfold RSt.readT
  rw [if_pos he]
  rfl
theorem One.writeE {s : RSt} (h : One s) {i : Nat} (hi : i < 8) (x : ByteArray) (hx : x.size ≤ 64) : s.writeE 0 i x = if s.down = true then 71 else 0 := by
  unfold RSt.writeE
  rw [h.there hi, if_neg (by decide), if_neg (by omega)]
theorem One.writeS {s : RSt} (h : One s) (hd : s.down = false) {i : Nat} (hi : i < 8) (x : ByteArray) (hx : x.size ≤ 64) : s.writeE 0 i x = 0 ∧ s.writeS 0 i x = s.wr 0 i (padL x) := by
  have he : s.writeE 0 i x = 0 := by rw [h.writeE hi x hx, hd]; rfl
  exact ⟨he, if_pos he⟩
theorem One.writeN {s : RSt} (h : One s) (hd : s.down = true) {i : Nat} (hi : i < 8) (x : ByteArray) (hx : x.size ≤ 64) : s.writeE 0 i x = 71 ∧ s.writeS 0 i x = s := by
  have he : s.writeE 0 i x = 71 := by rw [h.writeE hi x hx, hd]; rfl
  exact ⟨he, if_neg (by rw [he]; decide)⟩
theorem One.wr {s : RSt} (h : One s) (i : Nat) (x : ByteArray) (hx : x.size ≤ 64) : One (s.wr 0 i (padL x)) := ⟨h.wf.wr _ _ _ (padL_length x hx), h.n, h.m⟩
theorem wr_T (s : RSt) (i : Nat) (l : List UInt8) (j : Nat) : (s.wr 0 i l).T 0 j = if j = i then l else s.T 0 j := by
  show up2 s.T 0 i l 0 j = _
  unfold up2
  simp
theorem wr_bad (s : RSt) (i : Nat) (l : List UInt8) (j : Nat) : (s.wr 0 i l).bad 0 j = if j = i then false else s.bad 0 j := by
  show up2 s.bad 0 i false 0 j = _
  unfold up2
  simp
theorem wr_cnt (s : RSt) (i : Nat) (l : List UInt8) : (s.wr 0 i l).cnt 0 = (s.cnt 0 + 1) % 18446744073709551616 := by
  show (if (0 : Nat) = 0 then (s.cnt 0 + 1) % 18446744073709551616 else s.cnt 0) = _
  rw [if_pos rfl]
theorem secAt0 (i : Nat) (hi : i < 7) : secAt 0 i = ((i + 1 : Nat) : Int) := by
  unfold secAt wrap64
  omega
/-- k parts of a text were written. -/
structure Wrote (s s' : RSt) (t : ByteArray) (k : Nat) : Prop where
  one : One s'
  cut : s'.cut = s.cut
  left : s'.left = if s.cut then s.left - k else s.left
  T : ∀ i, s'.T 0 i = if 1 ≤ i ∧ i ≤ k then padL (chunk t (i - 1)) else s.T 0 i
  bad : ∀ i, s'.bad 0 i = if 1 ≤ i ∧ i ≤ k then false else s.bad 0 i
  cnt : s'.cnt 0 = (s.cnt 0 + k) % 18446744073709551616
theorem wTo_ok (s : RSt) (h : One s) (t : ByteArray) : ∀ k, k ≤ 7 → (s.cut = true → k ≤ s.left) → (wTo s 0 0 t k).1 = 0 ∧ Wrote s (wTo s 0 0 t k).2 t k := by
  intro k
  induction k with
  | zero =>
    intro _ _
    refine ⟨rfl, h, rfl, ?_, fun i => ?_, fun i => ?_, ?_⟩
    · show s.left = _; split <;> omega
    · rw [if_neg (by omega)]; rfl
    · rw [if_neg (by omega)]; rfl
    · show s.cnt 0 = _; have := h.wf.cnt 0; omega
  | succ k ih =>
    intro hk hc
    obtain ⟨h0, hw⟩ := ih (by omega) (fun c => by have := hc c; omega)
    have e : wTo s 0 0 t (k + 1) = ((wTo s 0 0 t k).2.writeE 0 (secAt 0 k) (chunk t k), (wTo s 0 0 t k).2.writeS 0 (secAt 0 k) (chunk t k)) := by
      show (if (wTo s 0 0 t k).1 = 0 then _ else _) = _
      rw [if_pos h0]
    rw [e]
    generalize (wTo s 0 0 t k).2 = s1 at *
    have hd : s1.down = false := by
      unfold RSt.down
      rw [hw.cut]
      cases hcc : s.cut
      · rfl
      · have := hc hcc
        rw [hw.left, hcc]
        simp
        omega
    rw [secAt0 k (by omega)]
    obtain ⟨e1, e2⟩ := hw.one.writeS hd (i := k + 1) (by omega) (chunk t k) (chunk_size t k)
    dsimp only
    rw [e1, e2]
    refine ⟨rfl, hw.one.wr _ _ (chunk_size t k), hw.cut, ?_, fun i => ?_, fun i => ?_, ?_⟩
    · show (if s1.cut then s1.left - 1 else s1.left) = _
      rw [hw.cut, hw.left]
      split <;> omega
    · rw [wr_T, hw.T]
      by_cases hi : i = k + 1
      · subst hi; rw [if_pos rfl, if_pos ⟨by omega, by omega⟩]; rfl
      · rw [if_neg hi]
        by_cases hj : 1 ≤ i ∧ i ≤ k
        · rw [if_pos hj, if_pos ⟨hj.1, by omega⟩]
        · rw [if_neg hj, if_neg (by omega)]
    · rw [wr_bad, hw.bad]
      by_cases hi : i = k + 1
      · subst hi; rw [if_pos rfl, if_pos ⟨by omega, by omega⟩]
      · rw [if_neg hi]
        by_cases hj : 1 ≤ i ∧ i ≤ k
        · rw [if_pos hj, if_pos ⟨hj.1, by omega⟩]
        · rw [if_neg hj, if_neg (by omega)]
    · rw [wr_cnt, hw.cnt]
      omega
theorem wTo_cut (s : RSt) (h : One s) (hc : s.cut = true) (t : ByteArray) (k : Nat) (hk : k ≤ 7) (hl : s.left < k) : (wTo s 0 0 t k).1 = 71 ∧ Wrote s (wTo s 0 0 t k).2 t s.left := by
  obtain ⟨h0, hw⟩ := wTo_ok s h t s.left (by omega) (fun _ => Nat.le_refl _)
  have hd : (wTo s 0 0 t s.left).2.down = true := by
    unfold RSt.down
    rw [hw.cut, hw.left, hc]
    simp
  obtain ⟨e1, e2⟩ := hw.one.writeN hd (i := s.left + 1) (by omega) (chunk t s.left) (chunk_size t _)
  have e : wTo s 0 0 t (s.left + 1) = (71, (wTo s 0 0 t s.left).2) := by
    show (if (wTo s 0 0 t s.left).1 = 0 then _ else _) = _
    rw [if_pos h0, secAt0 s.left (by omega), e1, e2]
  have e3 := wTo_err s 0 0 t (s.left + 1) (by rw [e]; show (71 : Nat) ≠ 0; decide) k (by omega)
  rw [e3, e]
  exact ⟨rfl, hw⟩
theorem nsec_le (n : Nat) (h : n ≤ 448) : nsec n ≤ 7 := by unfold nsec; omega
/-- What a rack has in which a shard stands. -/
structure Holds (s : RSt) (x : Shd) : Prop where
  one : One s
  T0 : s.T 0 0 = padL (ofL x.head)
  b0 : s.bad 0 0 = false
  T : ∀ i, i < nsec x.t.size → s.T 0 (i + 1) = padL (chunk x.t i)
  bad : ∀ i, i < nsec x.t.size → s.bad 0 (i + 1) = false
structure Stored (s s' : RSt) (x : Shd) : Prop where
  is : Holds s' x
  T : ∀ i, nsec x.t.size < i → s'.T 0 i = s.T 0 i
  bad : ∀ i, nsec x.t.size < i → s'.bad 0 i = s.bad 0 i
  cut : s'.cut = s.cut
  left : s'.left = if s.cut then s.left - (nsec x.t.size + 1) else s.left
  cnt : s'.cnt 0 = (s.cnt 0 + (nsec x.t.size + 1)) % 18446744073709551616
theorem ofL_size (l : List UInt8) : (ofL l).size = l.length := by unfold ofL; exact List.size_toArray
theorem shW_ok (s : RSt) (h : One s) (x : Shd) (hm : x.may = true) (hc : s.cut = true → nsec x.t.size + 1 ≤ s.left) : (shW s 0 0 x).1 = 0 ∧ Stored s (shW s 0 0 x).2 x := by
  have hN := nsec_le x.t.size (Shd.may_iff hm).2.2.2.2.2.2
  have hH := Shd.head_length hm
  obtain ⟨h0, hw⟩ := wTo_ok s h x.t (nsec x.t.size) hN (fun c => by have := hc c; omega)
  unfold shW
  rw [hm, if_neg (by decide), if_pos h0]
  generalize (wTo s 0 0 x.t (nsec x.t.size)).2 = s1 at *
  have hd : s1.down = false := by
    unfold RSt.down
    rw [hw.cut]
    cases hcc : s.cut
    · rfl
    · have := hc hcc
      rw [hw.left, hcc]
      simp
      omega
  obtain ⟨e1, e2⟩ := hw.one.writeS hd (i := 0) (by omega) (ofL x.head) (by rw [ofL_size]; omega)
  have e1' : s1.writeE 0 0 (ofL x.head) = 0 := e1
  have e2' : s1.writeS 0 0 (ofL x.head) = s1.wr 0 0 (padL (ofL x.head)) := e2
  dsimp only
  rw [e1', e2']
  refine ⟨rfl, ⟨hw.one.wr _ _ (by rw [ofL_size]; omega), ?_, ?_, fun i hi => ?_, fun i hi => ?_⟩, fun i hi => ?_, fun i hi => ?_, hw.cut, ?_, ?_⟩
  · rw [wr_T, if_pos rfl]
  · rw [wr_bad, if_pos rfl]
  · rw [wr_T, if_neg (by omega), hw.T, if_pos ⟨by omega, by omega⟩]; rfl
  · rw [wr_bad, if_neg (by omega), hw.bad, if_pos ⟨by omega, by omega⟩]
  · rw [wr_T, if_neg (by omega), hw.T, if_neg (by omega)]
  · rw [wr_bad, if_neg (by omega), hw.bad, if_neg (by omega)]
  · show (if s1.cut then s1.left - 1 else s1.left) = _
    rw [hw.cut, hw.left]
    split <;> omega
  · rw [wr_cnt, hw.cnt]; omega
theorem shW_cut (s : RSt) (h : One s) (x : Shd) (hm : x.may = true) (hc : s.cut = true) (hl : s.left ≤ nsec x.t.size) : (shW s 0 0 x).1 = 71 ∧ Wrote s (shW s 0 0 x).2 x.t s.left := by
  have hN := nsec_le x.t.size (Shd.may_iff hm).2.2.2.2.2.2
  have hH := Shd.head_length hm
  unfold shW
  rw [hm, if_neg (by decide)]
  by_cases hlt : s.left < nsec x.t.size
  · obtain ⟨h0, hw⟩ := wTo_cut s h hc x.t (nsec x.t.size) hN hlt
    rw [if_neg (by rw [h0]; decide)]
    exact ⟨h0, hw⟩
  · have he : s.left = nsec x.t.size := by omega
    obtain ⟨h0, hw⟩ := wTo_ok s h x.t (nsec x.t.size) hN (fun _ => by omega)
    rw [if_pos h0]
    generalize (wTo s 0 0 x.t (nsec x.t.size)).2 = s1 at *
    have hd : s1.down = true := by
      unfold RSt.down
      rw [hw.cut, hw.left, hc]
      simp
      omega
    obtain ⟨e1, e2⟩ := hw.one.writeN hd (i := 0) (by omega) (ofL x.head) (by rw [ofL_size]; omega)
    have e1' : s1.writeE 0 0 (ofL x.head) = 71 := e1
    have e2' : s1.writeS 0 0 (ofL x.head) = s1 := e2
    dsimp only
    rw [e1', e2', he]
    exact ⟨rfl, hw⟩
/-- The sectors behind the head. -/
def catT (s : RSt) : Nat → List UInt8
  | 0 => []
  | k + 1 => catT s k ++ s.T 0 (k + 1)
theorem rTo_ok (s : RSt) (h : One s) (hd : s.down = false) : ∀ k, k ≤ 7 → (∀ i, i < k → s.bad 0 (i + 1) = false) → rTo s 0 0 k = (0, catT s k) := by
  intro k
  induction k with
  | zero => intro _ _; rfl
  | succ k ih =>
    intro hk hb
    have e := ih (by omega) (fun i hi => hb i (by omega))
    show (if (rTo s 0 0 k).1 = 0 then _ else _) = _
    rw [e, if_pos rfl, secAt0 k (by omega)]
    obtain ⟨e1, e2⟩ := h.readT hd (i := k + 1) (by omega) (hb k (by omega))
    rw [e1, e2]
    rfl
theorem chunk_list (t : ByteArray) (i : Nat) : (chunk t i).data.toList = (t.data.toList.drop (i * 64)).take 64 := by
  have hl : t.data.toList.length = t.size := by simp
  unfold chunk
  rw [ByteArray.data_extract, Array.toList_extract, List.extract_eq_take_drop]
  apply List.ext_getElem?
  intro j
  simp only [List.getElem?_take, List.getElem?_drop]
  by_cases h1 : j < min t.size (i * 64 + 64) - i * 64
  · rw [if_pos h1, if_pos (by omega)]
  · rw [if_neg h1]
    by_cases h2 : j < 64
    · rw [if_pos h2, List.getElem?_eq_none (by omega)]
    · rw [if_neg h2]
theorem catT_text (s : RSt) (t : ByteArray) (h : ∀ i, i < nsec t.size → s.T 0 (i + 1) = padL (chunk t i)) :
    ∀ k, k ≤ nsec t.size → ∃ z, catT s k = t.data.toList.take (k * 64) ++ List.replicate z 0 ∧ (k * 64 ≤ t.size → z = 0) := by
  have hl : t.data.toList.length = t.size := by simp
  intro k
  induction k with
  | zero => intro _; exact ⟨0, by simp [catT], fun _ => rfl⟩
  | succ k ih =>
    intro hk
    obtain ⟨z, e, hz⟩ := ih (by omega)
    have hkt : k * 64 < t.size := by unfold nsec at hk; omega
    rw [hz (by omega)] at e
    have hs : (chunk t k).size = ((t.data.toList.drop (k * 64)).take 64).length := by rw [← chunk_list]; simp
    refine ⟨64 - (chunk t k).size, ?_, fun hle => ?_⟩
    · show catT s k ++ s.T 0 (k + 1) = _
      rw [e, h k (by omega)]
      unfold padL
      rw [chunk_list, List.replicate_zero, List.append_nil, ← List.append_assoc, Nat.succ_mul, List.take_add]
    · rw [hs, List.length_take, List.length_drop]; omega
theorem catT_whole (s : RSt) (t : ByteArray) (h : ∀ i, i < nsec t.size → s.T 0 (i + 1) = padL (chunk t i)) : (catT s (nsec t.size)).take t.size = t.data.toList := by
  have hl : t.data.toList.length = t.size := by simp
  obtain ⟨z, e, _⟩ := catT_text s t h (nsec t.size) (Nat.le_refl _)
  rw [e, List.take_of_length_le (l := t.data.toList) (by unfold nsec; omega), List.take_append_of_le_length (by omega), List.take_of_length_le (by omega)]
theorem padL_ofL (l : List UInt8) : padL (ofL l) = l ++ List.replicate (64 - l.length) 0 := by
  unfold padL
  rw [ofL_size]
  rfl
theorem allz_rep (k : Nat) : allz (List.replicate k 0) = true := by
  unfold allz
  simp
theorem head_not_allz (x : Shd) (z : List UInt8) (hm : x.may = true) : allz (x.head ++ z) = false := by
  have hS := saidL_length x.st x.ix.toNat x.tt.toNat x.t.size (Shd.may_iff hm).2.1 (by have := Shd.may_iff hm; omega) (by have := Shd.may_iff hm; omega) (Shd.may_iff hm).2.2.2.2.2.2 (crc x.t.data.toList)
  have hL := seal_len (saidL x.st x.ix.toNat x.tt.toNat x.t.size (b4 (crc x.t.data.toList)))
  unfold Shd.head headL allz
  rw [List.cons_append, List.all_cons]
  generalize (sealL (saidL x.st x.ix.toNat x.tt.toNat x.t.size (b4 (crc x.t.data.toList)))).length = n at *
  have : (UInt8.ofNat n == 0) = false := by
    rw [beq_eq_false_iff_ne]
    intro e
    have := congrArg UInt8.toNat e
    rw [UInt8.toNat_ofNat'] at this
    simp at this
    omega
  rw [this]
  rfl
/-- What is read behind the head, whatever stands there. -/
theorem shR_head (s : RSt) (h : One s) (hd : s.down = false) (x : Shd) (hm : x.may = true) (h0 : s.T 0 0 = padL (ofL x.head)) (b0 : s.bad 0 0 = false) :
    shR s 0 0 = if (rTo s 0 0 (nsec x.t.size)).1 ≠ 0 then ((rTo s 0 0 (nsec x.t.size)).1, .none)
      else if b4 (crc ((rTo s 0 0 (nsec x.t.size)).2.take x.t.size)) = b4 (crc x.t.data.toList) then (0, ⟨x.st, x.ix, x.tt, ofL ((rTo s 0 0 (nsec x.t.size)).2.take x.t.size)⟩) else (81, .none) := by
  obtain ⟨m1, m2, m3, m4, m5, m6, m7⟩ := Shd.may_iff hm
  obtain ⟨e1, e2⟩ := h.readT hd (i := 0) (by omega) b0
  have e1' : s.readE 0 0 = 0 := e1
  have e2' : s.readT 0 0 = ⟨(s.T 0 0).toArray⟩ := e2
  have hlk : look (x.head ++ List.replicate (64 - x.head.length) 0) = some ⟨x.st, x.ix.toNat, x.tt.toNat, x.t.size, b4 (crc x.t.data.toList)⟩ :=
    look_head x.st x.ix.toNat x.tt.toNat x.t.size _ m1 m2 (by omega) (by omega) m7 (b4_len _) (saidL_length _ _ _ _ m2 (by omega) (by omega) m7 _) _ (allz_rep _)
  unfold shR
  rw [e1', if_neg (by simp), e2', h0, padL_ofL]
  dsimp only
  rw [head_not_allz x _ hm, if_neg (by decide), hlk]
  dsimp only
  rw [Int.toNat_of_nonneg m3, Int.toNat_of_nonneg m5]
theorem shR_holds (s : RSt) (x : Shd) (hm : x.may = true) (h : Holds s x) (hd : s.down = false) : shR s 0 0 = (0, x) := by
  have hN := nsec_le x.t.size (Shd.may_iff hm).2.2.2.2.2.2
  rw [shR_head s h.one hd x hm h.T0 h.b0, rTo_ok s h.one hd _ hN h.bad]
  dsimp only
  rw [catT_whole s x.t h.T, if_neg (by simp), if_pos rfl]
  rfl
theorem shR_blank (s : RSt) (h : One s) (hd : s.down = false) (h0 : s.T 0 0 = zero64) (b0 : s.bad 0 0 = false) : shR s 0 0 = (80, .none) := by
  obtain ⟨e1, e2⟩ := h.readT hd (i := 0) (by omega) b0
  have e1' : s.readE 0 0 = 0 := e1
  have e2' : s.readT 0 0 = ⟨(s.T 0 0).toArray⟩ := e2
  unfold shR
  rw [e1', if_neg (by simp), e2', h0]
  exact if_pos (allz_rep 64)
end Go.Proofs.YtdpkmonlkdegjaaGreatDoor

