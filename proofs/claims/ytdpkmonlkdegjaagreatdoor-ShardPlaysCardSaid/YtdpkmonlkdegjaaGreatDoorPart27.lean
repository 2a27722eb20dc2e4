/- Shards, plain: which may be, their head, what a rack tells of them. -/
import Derived.Test.YtdpkmonlkdegjaaGreatDoorPart23
import Derived.Test.YtdpkmonlkdegjaaGreatDoorPart7
import Derived.Test.YtdpkmonlkdegjaaGreatDoorPart11
import Derived.OpenShut
namespace Go.Proofs.YtdpkmonlkdegjaaGreatDoor
open Go.RowKit Sm Wr _root_.Go.Proofs.YtdpkmonlkdegjaaGreatDoor.Nm
set_option linter.unusedVariables false
/-- A shard. -/
structure Shd where
  st : Nat
  ix : Int
  tt : Int
  t : ByteArray
namespace Shd
def none : Shd := ⟨0, 0, 0, ⟨#[]⟩⟩
def val (x : Shd) : Value := .agg #[.int .u64 (x.st : Nat), .int .i64 x.ix, .int .i64 x.tt, .string x.t]
structure Wf (x : Shd) : Prop where
  st : x.st < 18446744073709551616
  ix1 : -9223372036854775808 ≤ x.ix
  ix2 : x.ix ≤ 9223372036854775807
  tt1 : -9223372036854775808 ≤ x.tt
  tt2 : x.tt ≤ 9223372036854775807
def may (x : Shd) : Bool := decide (1 ≤ x.st ∧ x.st ≤ 281474976710656 ∧ 0 ≤ x.ix ∧ x.ix < 12 ∧ 0 ≤ x.tt ∧ x.tt ≤ 5376 ∧ x.t.size ≤ 448)
end Shd
/-- What a head says, beside how long it is, and its own sum. -/
def saidL (a b c n : Nat) (sum : List UInt8) : List UInt8 := nums [a, b, c, n] ++ sum
def headL (a b c n : Nat) (sum : List UInt8) : List UInt8 := UInt8.ofNat (sealL (saidL a b c n sum)).length :: sealL (saidL a b c n sum)
def Shd.head (x : Shd) : List UInt8 := headL x.st x.ix.toNat x.tt.toNat x.t.size (b4 (crc x.t.data.toList))
theorem saidL_length (a b c n : Nat) (ha : a ≤ 281474976710656) (hb : b < 12) (hc : c ≤ 5376) (hn : n ≤ 448) (x : Nat) : (saidL a b c n (b4 x)).length ≤ 40 := by
  have h1 := nums_le [a, b, c, n] (by intro x hx; simp at hx; omega)
  unfold saidL
  rw [List.length_append, b4_len]
  have : [a, b, c, n].length = 4 := rfl
  omega
theorem Shd.may_iff {x : Shd} (h : x.may = true) : 1 ≤ x.st ∧ x.st ≤ 281474976710656 ∧ 0 ≤ x.ix ∧ x.ix < 12 ∧ 0 ≤ x.tt ∧ x.tt ≤ 5376 ∧ x.t.size ≤ 448 := of_decide_eq_true h
theorem Shd.head_length {x : Shd} (h : x.may = true) : x.head.length ≤ 45 := by
  obtain ⟨h1, h2, h3, h4, h5, h6, h7⟩ := Shd.may_iff h
  have := saidL_length x.st x.ix.toNat x.tt.toNat x.t.size h2 (by omega) (by omega) h7 (crc x.t.data.toList)
  unfold Shd.head headL
  rw [List.length_cons, seal_len]
  omega
/-- Part i of a text, as a sector has it. -/
def chunk (t : ByteArray) (i : Nat) : ByteArray := t.extract (i * 64) (min t.size (i * 64 + 64))
theorem chunk_size (t : ByteArray) (i : Nat) : (chunk t i).size ≤ 64 := by unfold chunk; rw [ByteArray.size_extract]; omega
/-- The sector of part i behind the head. -/
def secAt (a : Int) (i : Nat) : Int := wrap64 (wrap64 (a + 1) + i)
/-- How many sectors so many bytes take. -/
def nsec (n : Nat) : Nat := (n + 63) / 64
/-- The first i sectors of a text are written: the first error, and what is there then. -/
def wTo (s : RSt) (d a : Int) (t : ByteArray) : Nat → Nat × RSt
  | 0 => (0, s)
  | i + 1 => if (wTo s d a t i).1 = 0 then ((wTo s d a t i).2.writeE d (secAt a i) (chunk t i), (wTo s d a t i).2.writeS d (secAt a i) (chunk t i)) else wTo s d a t i
/-- The first i sectors of a text are read: the first error, and what they have. -/
def rTo (s : RSt) (d a : Int) : Nat → Nat × List UInt8
  | 0 => (0, [])
  | i + 1 => if (rTo s d a i).1 = 0 then (s.readE d (secAt a i), (rTo s d a i).2 ++ (s.readT d (secAt a i)).data.toList) else rTo s d a i
/-- The same for whatever sectors, each with the part of n bytes that stands there. -/
def rStep (s : RSt) (d a : Int) (n : Nat) (p : Nat × List UInt8) (i : Nat) : Nat × List UInt8 :=
  if p.1 = 0 then (s.readE d (secAt a i), if s.readE d (secAt a i) = 0 then p.2 ++ ((s.readT d (secAt a i)).data.toList.take (min n (i * 64 + 64) - i * 64)) else p.2) else p
def rL (s : RSt) (d a : Int) (n : Nat) (l : List Nat) : Nat × List UInt8 := l.foldl (rStep s d a n) (0, [])
theorem rL_snoc (s : RSt) (d a : Int) (n : Nat) (l : List Nat) (i : Nat) : rL s d a n (l ++ [i]) = rStep s d a n (rL s d a n l) i := by unfold rL; rw [List.foldl_append]; rfl
theorem rL_len (s : RSt) (d a : Int) (n : Nat) (l : List Nat) : (rL s d a n l).2.length ≤ 64 * l.length := by
  suffices h : ∀ (l : List Nat) (p : Nat × List UInt8), (l.foldl (rStep s d a n) p).2.length ≤ p.2.length + 64 * l.length by have := h l (0, []); simpa [rL] using this
  intro l
  induction l with
  | nil => intro p; simp
  | cons i l ih =>
    intro p
    rw [List.foldl_cons, List.length_cons]
    have h := ih (rStep s d a n p i)
    have h2 : (rStep s d a n p i).2.length ≤ p.2.length + 64 := by
      unfold rStep
      split
      · dsimp only
        split
        · rw [List.length_append, List.length_take]; omega
        · omega
      · omega
    omega
theorem readT_size (s : RSt) (h : s.Wf) (d i : Int) (he : s.readE d i = 0) : (s.readT d i).data.toList.length = 64 := by
  unfold RSt.readT
  rw [if_pos he]
  have ht : s.there d i = true := by
    unfold RSt.readE at he
    split at he
    · cases he
    · split at he
      · cases he
      · rename_i h2; cases hq : s.there d i
        · exact absurd hq h2
        · rfl
  obtain ⟨d', i', rfl, rfl, hd, hi⟩ := RSt.there_iff ht
  rw [Int.toNat_natCast, Int.toNat_natCast]
  simpa using h.len d' i' hd hi
theorem rL_range (s : RSt) (h : s.Wf) (d a : Int) (n k : Nat) (hk : k ≤ nsec n) :
    (rL s d a n (List.range k)).1 = (rTo s d a k).1 ∧ ((rTo s d a k).1 = 0 → (rL s d a n (List.range k)).2 = (rTo s d a k).2.take n ∧ (rTo s d a k).2.length = 64 * k) := by
  induction k with
  | zero => exact ⟨rfl, fun _ => ⟨by simp [rL, rTo], rfl⟩⟩
  | succ k ih =>
    obtain ⟨i1, i2⟩ := ih (by omega)
    have hk64 : k * 64 < n := by unfold nsec at hk; omega
    rw [List.range_succ, rL_snoc]
    unfold rStep
    by_cases h0 : (rTo s d a k).1 = 0
    · rw [if_pos (i1.trans h0)]
      have e : rTo s d a (k + 1) = (s.readE d (secAt a k), (rTo s d a k).2 ++ (s.readT d (secAt a k)).data.toList) := by
        show (if (rTo s d a k).1 = 0 then _ else _) = _
        rw [if_pos h0]
      rw [e]
      refine ⟨rfl, fun hr => ?_⟩
      dsimp only at hr
      dsimp only
      rw [if_pos hr]
      obtain ⟨j1, j2⟩ := i2 h0
      have hl := readT_size s h d (secAt a k) hr
      refine ⟨?_, by rw [List.length_append, j2, hl]; omega⟩
      rw [j1, List.take_append, j2, List.take_of_length_le (by rw [j2]; omega)]
      congr 1
      rw [show min n (k * 64 + 64) - k * 64 = min (n - 64 * k) 64 from by omega, ← List.take_take, List.take_of_length_le (l := (s.readT d (secAt a k)).data.toList) (by omega)]
    · rw [if_neg (fun c => h0 (i1.symm.trans c))]
      have e : rTo s d a (k + 1) = rTo s d a k := by
        show (if (rTo s d a k).1 = 0 then _ else _) = _
        rw [if_neg h0]
      rw [e]
      exact ⟨i1, fun c => absurd c h0⟩
/-- An error stays. -/
theorem rTo_err (s : RSt) (d a : Int) (k : Nat) (h : (rTo s d a k).1 ≠ 0) : ∀ n, k ≤ n → rTo s d a n = rTo s d a k := by
  intro n hn
  induction n with
  | zero => rw [show k = 0 from by omega]
  | succ n ih =>
    rcases Nat.lt_or_ge n k with h2 | h2
    · rw [show k = n + 1 from by omega]
    · have e := ih h2
      show (if (rTo s d a n).1 = 0 then _ else rTo s d a n) = _
      rw [if_neg (by rw [e]; exact h), e]
def ofL (l : List UInt8) : ByteArray := ⟨l.toArray⟩
theorem RSt.wrS_n (s : RSt) (d i : Int) (t : ByteArray) : (s.writeS d i t).n = s.n ∧ (s.writeS d i t).m = s.m := by
  unfold RSt.writeS; split <;> exact ⟨rfl, rfl⟩
/-- The same for whatever sectors, one after the other. -/
def wStep (d a : Int) (t : ByteArray) (p : Nat × RSt) (i : Nat) : Nat × RSt := if p.1 = 0 then (p.2.writeE d (secAt a i) (chunk t i), p.2.writeS d (secAt a i) (chunk t i)) else p
def wL (s : RSt) (d a : Int) (t : ByteArray) (l : List Nat) : Nat × RSt := l.foldl (wStep d a t) (0, s)
theorem wL_snoc (s : RSt) (d a : Int) (t : ByteArray) (l : List Nat) (i : Nat) : wL s d a t (l ++ [i]) = wStep d a t (wL s d a t l) i := by unfold wL; rw [List.foldl_append]; rfl
theorem wL_range (s : RSt) (d a : Int) (t : ByteArray) (k : Nat) : wL s d a t (List.range k) = wTo s d a t k := by
  induction k with
  | zero => rfl
  | succ k ih => rw [List.range_succ, wL_snoc, ih]; rfl
theorem wL_n (s : RSt) (d a : Int) (t : ByteArray) (l : List Nat) : (wL s d a t l).2.n = s.n ∧ (wL s d a t l).2.m = s.m := by
  unfold wL
  suffices h : ∀ (l : List Nat) (p : Nat × RSt), (l.foldl (wStep d a t) p).2.n = p.2.n ∧ (l.foldl (wStep d a t) p).2.m = p.2.m by exact h l (0, s)
  intro l
  induction l with
  | nil => intro p; exact ⟨rfl, rfl⟩
  | cons i l ih =>
    intro p
    rw [List.foldl_cons]
    have h := ih (wStep d a t p i)
    have h2 : (wStep d a t p i).2.n = p.2.n ∧ (wStep d a t p i).2.m = p.2.m := by
      unfold wStep
      split
      · show (p.2.writeS d _ _).n = _ ∧ (p.2.writeS d _ _).m = _
        unfold RSt.writeS; split <;> exact ⟨rfl, rfl⟩
      · exact ⟨rfl, rfl⟩
    exact ⟨h.1.trans h2.1, h.2.trans h2.2⟩
theorem wTo_n (s : RSt) (d a : Int) (t : ByteArray) (k : Nat) : (wTo s d a t k).2.n = s.n ∧ (wTo s d a t k).2.m = s.m := by rw [← wL_range]; exact wL_n s d a t _
/-- An error stays. -/
theorem wTo_err (s : RSt) (d a : Int) (t : ByteArray) (k : Nat) (h : (wTo s d a t k).1 ≠ 0) : ∀ n, k ≤ n → wTo s d a t n = wTo s d a t k := by
  intro n hn
  induction n with
  | zero => rw [show k = 0 from by omega]
  | succ n ih =>
    rcases Nat.lt_or_ge n k with h2 | h2
    · rw [show k = n + 1 from by omega]
    · have e := ih h2
      show (if (wTo s d a t n).1 = 0 then _ else wTo s d a t n) = _
      rw [if_neg (by rw [e]; exact h), e]
/-- What Write answers, and leaves. -/
def shW (s : RSt) (d a : Int) (x : Shd) : Nat × RSt :=
  if x.may = false then (2, s)
  else if (wTo s d a x.t (nsec x.t.size)).1 = 0 then ((wTo s d a x.t (nsec x.t.size)).2.writeE d a (ofL x.head), (wTo s d a x.t (nsec x.t.size)).2.writeS d a (ofL x.head))
  else wTo s d a x.t (nsec x.t.size)
/-- What a head tells. -/
structure Hd where
  a : Nat
  b : Nat
  c : Nat
  n : Nat
  sum : List UInt8
def hdQ (m0 m1 m2 m3 : Nat) (l : List UInt8) : Hd × Nat :=
  let q0 := qNum m0 ⟨l, 0⟩
  let q1 := qNum m1 q0.2
  let q2 := qNum m2 q1.2
  let q3 := qNum m3 q2.2
  (⟨q0.1, q1.1, q2.1, q3.1, (qRest q3.2).1⟩, q3.2.e)
def mayN (a b c n : Nat) : Bool := decide (1 ≤ a) && (decide (a ≤ 281474976710656) && (decide (b < 12) && (decide (c ≤ 5376) && decide (n ≤ 448))))
def Hd.may (h : Hd) : Bool := mayN h.a h.b h.c h.n
def big : Nat := 18446744073709551615
def hdOf (l : List UInt8) : Option Hd := if (hdQ big big big big l).1.sum.length = 4 ∧ (hdQ big big big big l).1.may = true then some (hdQ big big big big l).1 else .none
def allz (l : List UInt8) : Bool := l.all (· == 0)
def unsealed (l : List UInt8) : List UInt8 := l.take (l.length - 4)
/-- What a sector tells as a head. -/
def look (T : List UInt8) : Option Hd :=
  if 64 < 1 + (T.headD 0).toNat then .none
  else if allz (T.drop (1 + (T.headD 0).toNat)) = false then .none
  else if isSealed ((T.drop 1).take (T.headD 0).toNat) = false then .none
  else hdOf (unsealed ((T.drop 1).take (T.headD 0).toNat))
/-- What Read answers. -/
def shR (s : RSt) (d a : Int) : Nat × Shd :=
  if s.readE d a ≠ 0 then (s.readE d a, .none)
  else if allz (s.readT d a).data.toList = true then (80, .none)
  else match look (s.readT d a).data.toList with
    | .none => (81, .none)
    | some h => if (rTo s d a (nsec h.n)).1 ≠ 0 then ((rTo s d a (nsec h.n)).1, .none)
      else if b4 (crc ((rTo s d a (nsec h.n)).2.take h.n)) = h.sum then (0, ⟨h.a, h.b, h.c, ofL ((rTo s d a (nsec h.n)).2.take h.n)⟩) else (81, .none)
theorem secAt_in (a : Int) (i : Nat) : -9223372036854775808 ≤ secAt a i ∧ secAt a i ≤ 9223372036854775807 := by
  unfold secAt
  generalize wrap64 (a + 1) + i = z
  have := bounds_i64 (wrap64_wf z)
  omega
end Go.Proofs.YtdpkmonlkdegjaaGreatDoor
