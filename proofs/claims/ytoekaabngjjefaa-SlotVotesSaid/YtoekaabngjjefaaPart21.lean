/- SlotMath, SlotSt. -/
import Derived.Test.YtoekaabngjjefaaPart15
import Derived.Test.YtoekaabngjjefaaPart7
import Derived.Test.YtoekaabngjjefaaPart11
/- Roots, plain: which may be, their bytes, what bytes tell. -/
namespace Go.Proofs.Ytoekaabngjjefaa
open Go.RowKit Sm Wr _root_.Go.Proofs.Ytoekaabngjjefaa.Nm
set_option linter.unusedVariables false
/-- A root: its generation, what comes next, its head's row, stamp, length. -/
structure Rt where
  gen : Nat
  nxt : Nat
  row : Int
  st : Nat
  len : Int
namespace Rt
def none : Rt := ⟨0, 0, 0, 0, 0⟩
def val (x : Rt) : Value := .agg #[.int .u64 (x.gen : Nat), .int .u64 (x.nxt : Nat), .int .i64 x.row, .int .u64 (x.st : Nat), .int .i64 x.len]
structure Wf (x : Rt) : Prop where
  gen : x.gen < 18446744073709551616
  nxt : x.nxt < 18446744073709551616
  row1 : -9223372036854775808 ≤ x.row
  row2 : x.row ≤ 9223372036854775807
  st : x.st < 18446744073709551616
  len1 : -9223372036854775808 ≤ x.len
  len2 : x.len ≤ 9223372036854775807
/-- Its head is zero, or one that may be. -/
def headOk (x : Rt) : Prop := (x.row = 0 ∧ x.st = 0 ∧ x.len = 0) ∨ (0 ≤ x.row ∧ x.row ≤ 4096 ∧ 1 ≤ x.st ∧ x.st ≤ 281474976710656 ∧ 1 ≤ x.len ∧ x.len ≤ 5376)
instance (x : Rt) : Decidable x.headOk := by unfold headOk; infer_instance
def may (x : Rt) : Bool := decide (1 ≤ x.gen ∧ x.gen ≤ 281474976710656 ∧ 1 ≤ x.nxt ∧ x.nxt ≤ 281474976710656 ∧ x.headOk)
theorem may_iff {x : Rt} (h : x.may = true) : 1 ≤ x.gen ∧ x.gen ≤ 281474976710656 ∧ 1 ≤ x.nxt ∧ x.nxt ≤ 281474976710656 ∧ 0 ≤ x.row ∧ x.row ≤ 4096 ∧ x.st ≤ 281474976710656 ∧ 0 ≤ x.len ∧ x.len ≤ 5376 := by
  obtain ⟨h1, h2, h3, h4, h5⟩ := of_decide_eq_true h
  refine ⟨h1, h2, h3, h4, ?_⟩
  rcases h5 with ⟨a, b, c⟩ | ⟨a, b, c, d, e, f⟩ <;> refine ⟨?_, ?_, ?_, ?_, ?_⟩ <;> omega
theorem may_wf {x : Rt} (h : x.may = true) : x.Wf := by
  obtain ⟨h1, h2, h3, h4, h5, h6, h7, h8, h9⟩ := may_iff h
  exact ⟨by omega, by omega, by omega, by omega, by omega, by omega, by omega⟩
theorem may_none : none.may = false := by decide
/-- What it says. -/
def said (x : Rt) : List UInt8 := nums [x.gen, x.nxt, x.row.toNat, x.st, x.len.toNat]
/-- The count, the bytes with their sum. -/
def root (x : Rt) : List UInt8 := UInt8.ofNat (sealL x.said).length :: sealL x.said
/-- A slot's bytes. -/
def raw (x : Rt) : List UInt8 := x.root ++ List.replicate (64 - x.root.length) 0
theorem said_length {x : Rt} (h : x.may = true) : x.said.length ≤ 45 := by
  obtain ⟨h1, h2, h3, h4, h5, h6, h7, h8, h9⟩ := may_iff h
  have := nums_le [x.gen, x.nxt, x.row.toNat, x.st, x.len.toNat] (by intro y hy; simp at hy; omega)
  exact this
theorem seal_le {x : Rt} (h : x.may = true) : (sealL x.said).length ≤ 49 := by
  have := said_length h
  rw [seal_len]; omega
theorem root_length (x : Rt) : x.root.length = (sealL x.said).length + 1 := rfl
theorem raw_length {x : Rt} (h : x.may = true) : x.raw.length = 64 := by
  have := seal_le h
  have h2 := root_length x
  unfold raw
  rw [List.length_append, List.length_replicate]; omega
theorem raw_head {x : Rt} (h : x.may = true) : (x.raw.headD 0).toNat = (sealL x.said).length := by
  have := seal_le h
  show (UInt8.ofNat (sealL x.said).length).toNat = _
  rw [UInt8.toNat_ofNat']; omega
theorem raw_mid (x : Rt) : (x.raw.drop 1).take (sealL x.said).length = sealL x.said := by
  show (sealL x.said ++ _).take _ = _
  rw [List.take_append_of_le_length (Nat.le_refl _), List.take_length]
end Rt
theorem sealed_seal (l : List UInt8) : isSealed (sealL l) = true := by
  unfold isSealed
  have h : (sealL l).take ((sealL l).length - 4) = l := by rw [seal_len]; simp [sealL]
  rw [h, seal_len]
  simp
/-- The bytes ahead of their sum. -/
def opn (l : List UInt8) : List UInt8 := l.take (l.length - 4)
theorem opn_seal (l : List UInt8) : opn (sealL l) = l := by unfold opn; rw [seal_len]; simp [sealL]
theorem qm_up (m x : Nat) (r : List UInt8) (hx : x ≤ m) (h : x < 18446744073709551616) : qNum m ⟨up x ++ r, 0⟩ = (x, ⟨r, 0⟩) := by
  have h8 := nb_le8 (x := x) (by omega)
  obtain ⟨h1, h2, h3⟩ := read_up x r h8
  rw [qnum_ok m _ h1 (by omega), h2, h3]
  congr 2
  rw [← up_length, List.drop_left]
/-- Five numbers read, and the end: the root, and what is wrong. -/
def rdQ (m0 m1 m2 m3 m4 : Nat) (l : List UInt8) : Rt × Nat :=
  let q0 := qNum m0 ⟨l, 0⟩
  let q1 := qNum m1 q0.2
  let q2 := qNum m2 q1.2
  let q3 := qNum m3 q2.2
  let q4 := qNum m4 q3.2
  (⟨q0.1, q1.1, (q2.1 : Nat), q3.1, (q4.1 : Nat)⟩, (qEnd q4.2).1)
theorem rdQ_said (x : Rt) (h : x.may = true) (m0 m1 m2 m3 m4 : Nat) (h0 : 281474976710656 ≤ m0) (h1 : 281474976710656 ≤ m1) (h2 : 4096 ≤ m2) (h3 : 281474976710656 ≤ m3) (h4 : 5376 ≤ m4) : rdQ m0 m1 m2 m3 m4 x.said = (x, 0) := by
  obtain ⟨c1, c2, c3, c4, c5, c6, c7, c8, c9⟩ := Rt.may_iff h
  have e : x.said = up x.gen ++ (up x.nxt ++ (up x.row.toNat ++ (up x.st ++ (up x.len.toNat ++ [])))) := by unfold Rt.said nums; simp
  unfold rdQ
  rw [e]
  dsimp only
  rw [qm_up m0 x.gen _ (by omega) (by omega)]
  dsimp only
  rw [qm_up m1 x.nxt _ (by omega) (by omega)]
  dsimp only
  rw [qm_up m2 x.row.toNat _ (by omega) (by omega)]
  dsimp only
  rw [qm_up m3 x.st _ (by omega) (by omega)]
  dsimp only
  rw [qm_up m4 x.len.toNat _ (by omega) (by omega)]
  dsimp only
  rw [Int.toNat_of_nonneg c5, Int.toNat_of_nonneg c8]
  rfl
/-- What a slot's bytes tell: the root, of which they are the bytes. -/
def decR (l : List UInt8) : Option Rt :=
  if l.length ≠ 64 ∨ 64 ≤ (l.headD 0).toNat then .none
  else if isSealed ((l.drop 1).take (l.headD 0).toNat) = false then .none
  else
    let q := rdQ 281474976710656 281474976710656 4096 281474976710656 5376 (opn ((l.drop 1).take (l.headD 0).toNat))
    if q.2 = 0 ∧ q.1.may = true ∧ q.1.raw = l then some q.1 else .none
theorem decR_raw {x : Rt} (h : x.may = true) : decR x.raw = some x := by
  have h1 := Rt.raw_length h
  have h2 := Rt.raw_head h
  have h3 := Rt.seal_le h
  unfold decR
  rw [if_neg (by omega), h2, Rt.raw_mid, if_neg (by rw [sealed_seal]; simp), opn_seal]
  dsimp only
  rw [rdQ_said x h _ _ _ _ _ (by omega) (by omega) (by omega) (by omega) (by omega), if_pos ⟨rfl, h, rfl⟩]
theorem decR_some {l : List UInt8} {x : Rt} (h : decR l = some x) : x.may = true ∧ x.raw = l := by
  unfold decR at h
  split at h
  · cases h
  · split at h
    · cases h
    · dsimp only at h
      split at h
      · rename_i c
        obtain ⟨_, a, b⟩ := c
        injection h with h
        rw [← h]
        exact ⟨a, b⟩
      · cases h
theorem decR_iff (l : List UInt8) (x : Rt) : decR l = some x ↔ x.may = true ∧ x.raw = l := ⟨decR_some, fun ⟨a, b⟩ => b ▸ decR_raw a⟩
theorem raw_inj {x y : Rt} (hx : x.may = true) (hy : y.may = true) (h : x.raw = y.raw) : x = y := by
  have := decR_raw hx
  rw [h, decR_raw hy] at this
  injection this with e
  exact e.symm
/-- Whoever reads with bounds as wide, and looks at the rest, finds the same. -/
theorem decR_of (l : List UInt8) (m0 m1 m2 m3 m4 : Nat) (h0 : 281474976710656 ≤ m0) (h1 : 281474976710656 ≤ m1) (h2 : 4096 ≤ m2) (h3 : 281474976710656 ≤ m3) (h4 : 5376 ≤ m4) (hl : l.length = 64) (hh : (l.headD 0).toNat < 64) (hs : isSealed ((l.drop 1).take (l.headD 0).toNat) = true) :
    decR l = if (rdQ m0 m1 m2 m3 m4 (opn ((l.drop 1).take (l.headD 0).toNat))).2 = 0 ∧ (rdQ m0 m1 m2 m3 m4 (opn ((l.drop 1).take (l.headD 0).toNat))).1.may = true ∧ (rdQ m0 m1 m2 m3 m4 (opn ((l.drop 1).take (l.headD 0).toNat))).1.raw = l then some (rdQ m0 m1 m2 m3 m4 (opn ((l.drop 1).take (l.headD 0).toNat))).1 else .none := by
  split
  · rename_i c
    exact (decR_iff _ _).2 ⟨c.2.1, c.2.2⟩
  · rename_i c
    cases hd : decR l with
    | none => rfl
    | some x =>
      obtain ⟨a, b⟩ := decR_some hd
      exfalso
      apply c
      have e : opn ((l.drop 1).take (l.headD 0).toNat) = x.said := by rw [← b, Rt.raw_head a, Rt.raw_mid, opn_seal]
      rw [e, rdQ_said x a _ _ _ _ _ h0 h1 h2 h3 h4]
      exact ⟨rfl, a, b⟩
theorem decR_long {l : List UInt8} (h : l.length ≠ 64 ∨ 64 ≤ (l.headD 0).toNat) : decR l = .none := by unfold decR; rw [if_pos h]
theorem decR_bad {l : List UInt8} (h : isSealed ((l.drop 1).take (l.headD 0).toNat) = false) : decR l = .none := by
  unfold decR
  by_cases c : l.length ≠ 64 ∨ 64 ≤ (l.headD 0).toNat
  · rw [if_pos c]
  · rw [if_neg c, if_pos h]
theorem decR_zero : decR zero64 = .none := by
  apply decR_bad
  show isSealed [] = false
  rfl
end Go.Proofs.Ytoekaabngjjefaa

/- Roots over a rack, plain: what Write leaves, what Vote tells. -/
namespace Go.Proofs.Ytoekaabngjjefaa
open Go.RowKit Sm Wr _root_.Go.Proofs.Ytoekaabngjjefaa.Nm
set_option linter.unusedVariables false
theorem Rt.eq_of {x y : Rt} (h0 : x.gen = y.gen) (h1 : x.nxt = y.nxt) (h2 : x.row = y.row) (h3 : x.st = y.st) (h4 : x.len = y.len) : x = y := by
  obtain ⟨a, b, c, d, e⟩ := x
  obtain ⟨a', b', c', d', e'⟩ := y
  dsimp only at h0 h1 h2 h3 h4
  subst h0 h1 h2 h3 h4
  rfl
/-- Two roots: the same? -/
def Rt.same (x y : Rt) : Bool := decide (x.gen = y.gen) && (decide (x.nxt = y.nxt) && (decide (x.row = y.row) && (decide (x.st = y.st) && decide (x.len = y.len))))
theorem Rt.same_iff (x y : Rt) : x.same y = true ↔ x = y := by
  unfold Rt.same
  simp only [Bool.and_eq_true, decide_eq_true_eq]
  constructor
  · rintro ⟨a, b, c, d, e⟩; exact Rt.eq_of a b c d e
  · rintro rfl; exact ⟨rfl, rfl, rfl, rfl, rfl⟩
/-- Its slot, the other one. -/
def Rt.me (x : Rt) : Nat := x.gen % 2
def Rt.oth (x : Rt) : Nat := 1 - x.gen % 2
theorem Rt.me_lt (x : Rt) : x.me < 2 := by unfold Rt.me; omega
theorem Rt.oth_lt (x : Rt) : x.oth < 2 := by unfold Rt.oth; omega
/-- A slot's bytes, as a text. -/
def Rt.txt (x : Rt) : ByteArray := ⟨x.raw.toArray⟩
theorem Rt.txt_list (x : Rt) : x.txt.data.toList = x.raw := rfl
theorem Rt.txt_size {x : Rt} (h : x.may = true) : x.txt.size = 64 := by
  have := Rt.raw_length h
  show x.raw.toArray.size = 64
  rw [List.size_toArray]; exact this
/-- The root that a slot's bytes are, if it is one of that slot. -/
def rtAt (l : List UInt8) (k : Nat) : Rt := match decR l with
  | some x => if x.gen % 2 = k then x else Rt.none
  | .none => Rt.none
/-- The generation of what bytes tell, beside whether they tell a root. -/
def newR (l : List UInt8) (x : Rt) : Bool := match decR l with
  | some y => decide (y.gen % 2 = x.oth) && decide (x.gen < y.gen)
  | .none => false
/-- A newer root stands in the other slot. -/
def newer (s : RSt) (x : Rt) (d : Nat) : Bool := decide (s.readE d x.oth = 0) && newR (s.readT d x.oth).data.toList x
/-- What Write does with one drive: what is wrong, and what is there then. -/
def wrD (s : RSt) (x : Rt) (d : Nat) : Nat × RSt :=
  if s.readE d x.oth = 71 then (71, s)
  else if newer s x d = true then
    if s.writeE d x.oth ⟨#[]⟩ ≠ 0 then (s.writeE d x.oth ⟨#[]⟩, s.writeS d x.oth ⟨#[]⟩)
    else ((s.writeS d x.oth ⟨#[]⟩).writeE d x.me x.txt, (s.writeS d x.oth ⟨#[]⟩).writeS d x.me x.txt)
  else (s.writeE d x.me x.txt, s.writeS d x.me x.txt)
/-- The same with the first so many drives. -/
def wrTo (s : RSt) (x : Rt) : Nat → Nat × RSt
  | 0 => (0, s)
  | d + 1 => if (wrTo s x d).1 = 0 then wrD (wrTo s x d).2 x d else wrTo s x d
theorem wrTo_err (s : RSt) (x : Rt) (k : Nat) (h : (wrTo s x k).1 ≠ 0) : ∀ n, k ≤ n → wrTo s x n = wrTo s x k := by
  intro n hn
  induction n with
  | zero => rw [show k = 0 from by omega]
  | succ n ih =>
    rcases Nat.lt_or_ge n k with h2 | h2
    · rw [show k = n + 1 from by omega]
    · have e := ih h2
      show (if (wrTo s x n).1 = 0 then _ else wrTo s x n) = _
      rw [if_neg (by rw [e]; exact h), e]
theorem wrS_same (s : RSt) (d i : Int) (t : ByteArray) : (s.writeS d i t).n = s.n ∧ (s.writeS d i t).m = s.m := by
  unfold RSt.writeS; split <;> exact ⟨rfl, rfl⟩
theorem wrD_n (s : RSt) (x : Rt) (d : Nat) : (wrD s x d).2.n = s.n ∧ (wrD s x d).2.m = s.m := by
  unfold wrD
  split
  · exact ⟨rfl, rfl⟩
  · split
    · split
      · exact wrS_same _ _ _ _
      · have h1 := wrS_same s d x.oth ⟨#[]⟩
        have h2 := wrS_same (s.writeS d x.oth ⟨#[]⟩) d x.me x.txt
        exact ⟨h2.1.trans h1.1, h2.2.trans h1.2⟩
    · exact wrS_same _ _ _ _
theorem wrTo_n (s : RSt) (x : Rt) (k : Nat) : (wrTo s x k).2.n = s.n ∧ (wrTo s x k).2.m = s.m := by
  induction k with
  | zero => exact ⟨rfl, rfl⟩
  | succ k ih =>
    show (if (wrTo s x k).1 = 0 then _ else _ : Nat × RSt).2.n = _ ∧ (if (wrTo s x k).1 = 0 then _ else _ : Nat × RSt).2.m = _
    split
    · have h := wrD_n (wrTo s x k).2 x k
      exact ⟨h.1.trans ih.1, h.2.trans ih.2⟩
    · exact ih
/-- A drive's roots, each in its slot; none: one of them can't be read. -/
def slotsR (s : RSt) (d : Nat) : Option (Rt × Rt) :=
  if s.readE d 0 = 0 ∧ s.readE d 1 = 0 then some (rtAt (s.readT d 0).data.toList 0, rtAt (s.readT d 1).data.toList 1) else .none
/-- One drive's vote: the best root until then, how many drives have none. -/
def bestR (x a : Rt) : Rt := if x.gen < a.gen then a else x
def vStep (p : Rt × Nat) : Option (Rt × Rt) → Rt × Nat
  | .none => (p.1, p.2 + 1)
  | some ab => (bestR (bestR p.1 ab.1) ab.2, if ab.1.gen = 0 ∧ ab.2.gen = 0 then p.2 + 1 else p.2)
def vTo (s : RSt) : Nat → Rt × Nat
  | 0 => (Rt.none, 0)
  | d + 1 => vStep (vTo s d) (slotsR s d)
theorem vTo_le (s : RSt) (k : Nat) : (vTo s k).2 ≤ k := by
  induction k with
  | zero => exact Nat.le_refl _
  | succ k ih =>
    show (vStep (vTo s k) (slotsR s k)).2 ≤ _
    unfold vStep
    split
    · dsimp only; omega
    · dsimp only; split <;> omega
/-- Has a drive the root? -/
def hasR (x : Rt) : Option (Rt × Rt) → Bool
  | .none => false
  | some ab => (if x.gen % 2 = 0 then ab.1 else ab.2).same x
theorem readE_71 (s : RSt) (d i : Int) : s.readE d i = 71 ↔ s.down = true := by
  unfold RSt.readE
  cases h : s.down
  · simp only [Bool.false_eq_true, if_false, iff_false]
    split
    · decide
    · split <;> decide
  · simp
end Go.Proofs.Ytoekaabngjjefaa

