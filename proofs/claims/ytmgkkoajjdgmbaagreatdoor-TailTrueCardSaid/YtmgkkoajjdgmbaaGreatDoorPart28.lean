/- Parts of a tail's groups, plain: which may be, their sectors' bytes, what bytes tell. -/
import Derived.Test.YtmgkkoajjdgmbaaGreatDoorPart15
import Derived.Test.YtmgkkoajjdgmbaaGreatDoorPart7
import Derived.Test.YtmgkkoajjdgmbaaGreatDoorPart11
set_option linter.unusedVariables false
set_option linter.unusedSimpArgs false
set_option linter.unusedSectionVars false
set_option linter.unnecessarySimpa false
set_option linter.deprecated false
namespace Go.Proofs.YtmgkkoajjdgmbaaGreatDoor
open Go.RowKit Sm Wr _root_.Go.Proofs.YtmgkkoajjdgmbaaGreatDoor.Nm
set_option linter.unusedVariables false
/-- What a sector tells: a part of a group. -/
structure Pt where
  gen : Nat
  num : Nat
  idx : Nat
  parts : Nat
  sum : Nat
  piece : ByteArray
namespace Pt
def none : Pt := ⟨0, 0, 0, 0, 0, ⟨#[]⟩⟩
def val (x : Pt) : Value := .agg #[.int .u64 (x.gen : Nat), .int .u64 (x.num : Nat), .int .u64 (x.idx : Nat), .int .u64 (x.parts : Nat), .int .u32 (x.sum : Nat), .string x.piece]
/-- A part that may be. -/
structure Ok (x : Pt) : Prop where
  gen : x.gen ≤ 281474976710656
  num : x.num ≤ 512
  idx : x.idx < x.parts
  parts : x.parts ≤ 512
  sum : x.sum ≤ 4294967295
  len : x.piece.size ≤ 34
  full : x.idx + 1 < x.parts → x.piece.size = 34
  some : 1 < x.parts → 1 ≤ x.piece.size
def said (x : Pt) : List UInt8 := nums [x.gen, x.num, x.idx, x.parts, x.sum] ++ x.piece.data.toList
/-- The count, the bytes with their sum. -/
def root (x : Pt) : List UInt8 := UInt8.ofNat (sealL x.said).length :: sealL x.said
/-- A sector's bytes. -/
def raw (x : Pt) : List UInt8 := x.root ++ List.replicate (64 - x.root.length) 0
def txt (x : Pt) : ByteArray := ⟨x.raw.toArray⟩
theorem nums_five (a b c d e : Nat) : (nums [a, b, c, d, e]).length = nb a + 1 + (nb b + 1 + (nb c + 1 + (nb d + 1 + (nb e + 1)))) := by
  unfold nums
  simp [up_length]
theorem nums_len {x : Pt} (h : x.Ok) : (nums [x.gen, x.num, x.idx, x.parts, x.sum]).length ≤ 22 := by
  have h1 := (Nm.nb_le x.gen 7).2 (by have := h.gen; omega)
  have h2 := (Nm.nb_le x.num 2).2 (by have := h.num; omega)
  have h3 := (Nm.nb_le x.idx 2).2 (by have := h.idx; have := h.parts; omega)
  have h4 := (Nm.nb_le x.parts 2).2 (by have := h.parts; omega)
  have h5 := (Nm.nb_le x.sum 4).2 (by have := h.sum; omega)
  rw [nums_five]; omega
theorem said_length {x : Pt} (h : x.Ok) : x.said.length ≤ 56 := by
  have h1 := nums_len h
  have h2 := h.len
  have h3 : x.piece.data.toList.length = x.piece.size := by simp
  unfold said
  rw [List.length_append]; omega
theorem seal_le {x : Pt} (h : x.Ok) : (sealL x.said).length ≤ 60 := by
  have := said_length h
  rw [seal_len]; omega
theorem root_length (x : Pt) : x.root.length = (sealL x.said).length + 1 := rfl
theorem raw_length {x : Pt} (h : x.Ok) : x.raw.length = 64 := by
  have := seal_le h
  have h2 := root_length x
  unfold raw
  rw [List.length_append, List.length_replicate]; omega
theorem txt_size {x : Pt} (h : x.Ok) : x.txt.size = 64 := by unfold txt; rw [mk_len]; exact raw_length h
theorem raw_head {x : Pt} (h : x.Ok) : (x.raw.headD 0).toNat = (sealL x.said).length := by
  have := seal_le h
  show (UInt8.ofNat (sealL x.said).length).toNat = _
  rw [UInt8.toNat_ofNat']; omega
theorem raw_mid (x : Pt) : (x.raw.drop 1).take (sealL x.said).length = sealL x.said := by
  show (sealL x.said ++ _).take _ = _
  rw [List.take_append_of_le_length (Nat.le_refl _), List.take_length]
theorem raw_rest (x : Pt) : x.raw.drop (1 + (sealL x.said).length) = List.replicate (64 - x.root.length) 0 := by
  unfold raw
  rw [Nat.add_comm, ← root_length, List.drop_left]
end Pt
theorem qm_upT (m x : Nat) (r : List UInt8) (hx : x ≤ m) (h : x < 18446744073709551616) : qNum m ⟨up x ++ r, 0⟩ = (x, ⟨r, 0⟩) := by
  have h8 := nb_le8 (x := x) (by omega)
  obtain ⟨h1, h2, h3⟩ := read_up x r h8
  rw [qnum_ok m _ h1 (by omega), h2, h3]
  congr 2
  rw [← up_length, List.drop_left]
theorem Pt.said_eq (x : Pt) : x.said = up x.gen ++ (up x.num ++ (up x.idx ++ (up x.parts ++ (up x.sum ++ x.piece.data.toList)))) := by unfold Pt.said nums; simp
/-- The steps of reading a part that may be. -/
theorem Pt.reads {x : Pt} (h : x.Ok) : qNum 281474976710656 ⟨x.said, 0⟩ = (x.gen, ⟨up x.num ++ (up x.idx ++ (up x.parts ++ (up x.sum ++ x.piece.data.toList))), 0⟩)
    ∧ qNum 512 ⟨up x.num ++ (up x.idx ++ (up x.parts ++ (up x.sum ++ x.piece.data.toList))), 0⟩ = (x.num, ⟨up x.idx ++ (up x.parts ++ (up x.sum ++ x.piece.data.toList)), 0⟩)
    ∧ qNum 512 ⟨up x.idx ++ (up x.parts ++ (up x.sum ++ x.piece.data.toList)), 0⟩ = (x.idx, ⟨up x.parts ++ (up x.sum ++ x.piece.data.toList), 0⟩)
    ∧ qNum 512 ⟨up x.parts ++ (up x.sum ++ x.piece.data.toList), 0⟩ = (x.parts, ⟨up x.sum ++ x.piece.data.toList, 0⟩)
    ∧ qNum 4294967295 ⟨up x.sum ++ x.piece.data.toList, 0⟩ = (x.sum, ⟨x.piece.data.toList, 0⟩)
    ∧ qRest ⟨x.piece.data.toList, 0⟩ = (x.piece.data.toList, ⟨[], 0⟩) := by
  have a1 := h.gen
  have a2 := h.num
  have a3 := h.idx
  have a4 := h.parts
  have a5 := h.sum
  refine ⟨?_, qm_upT _ _ _ (by omega) (by omega), qm_upT _ _ _ (by omega) (by omega), qm_upT _ _ _ (by omega) (by omega), qm_upT _ _ _ (by omega) (by omega), rfl⟩
  rw [Pt.said_eq]
  exact qm_upT _ _ _ (by omega) (by omega)
theorem sealed_sealT (l : List UInt8) : isSealed (sealL l) = true := by
  unfold isSealed
  have h : (sealL l).take ((sealL l).length - 4) = l := by rw [seal_len]; simp [sealL]
  rw [h, seal_len]
  simp
theorem seal_injT {a b : List UInt8} (h : sealL a = sealL b) : a = b := by
  have e : (sealL a).take ((sealL a).length - 4) = a := by rw [seal_len]; simp [sealL]
  have e2 : (sealL b).take ((sealL b).length - 4) = b := by rw [seal_len]; simp [sealL]
  rw [← e, ← e2, h]
theorem Pt.raw_inj {x y : Pt} (hx : x.Ok) (hy : y.Ok) (h : x.raw = y.raw) : x = y := by
  have h1 := Pt.raw_head hx
  have h2 := Pt.raw_head hy
  have h3 := Pt.raw_mid x
  have h4 := Pt.raw_mid y
  have hl : (sealL x.said).length = (sealL y.said).length := by rw [← h1, ← h2, h]
  have hs : x.said = y.said := seal_injT (by rw [← h3, ← h4, h, hl])
  obtain ⟨p1, p2, p3, p4, p5, p6⟩ := Pt.reads hx
  obtain ⟨q1, q2, q3, q4, q5, q6⟩ := Pt.reads hy
  rw [hs, q1] at p1
  injection p1 with e1 r1
  rw [← r1, q2] at p2
  injection p2 with e2 r2
  rw [← r2, q3] at p3
  injection p3 with e3 r3
  rw [← r3, q4] at p4
  injection p4 with e4 r4
  rw [← r4, q5] at p5
  injection p5 with e5 r5
  injection r5 with r5
  have e6 : x.piece = y.piece := str_ext r5.symm
  cases x; cases y
  simp_all
theorem Pt.raw_nz {x : Pt} (h : x.Ok) : x.raw ≠ zero64 := by
  intro e
  have h1 := Pt.raw_head h
  rw [e, seal_len] at h1
  have : (zero64.headD 0).toNat = 0 := rfl
  omega
/-- What a sector's bytes tell. -/
noncomputable def lookR (b : List UInt8) : Option Pt := by
  classical
  exact if h : ∃ x : Pt, x.Ok ∧ x.raw = b then some h.choose else Option.none
theorem lookR_raw {x : Pt} (h : x.Ok) : lookR x.raw = some x := by
  unfold lookR
  have hx : ∃ y : Pt, y.Ok ∧ y.raw = x.raw := ⟨x, h, rfl⟩
  rw [dif_pos hx]
  congr 1
  exact Pt.raw_inj hx.choose_spec.1 h hx.choose_spec.2
theorem lookR_zero : lookR zero64 = Option.none := by
  unfold lookR
  rw [dif_neg]
  rintro ⟨x, h1, h2⟩
  exact Pt.raw_nz h1 h2
theorem lookR_some {b : List UInt8} {x : Pt} (h : lookR b = some x) : x.Ok ∧ x.raw = b := by
  unfold lookR at h
  split at h
  · rename_i hx
    injection h with h
    rw [← h]
    exact hx.choose_spec
  · cases h
/-- Bytes that a sector may have here. -/
def Sect (b : List UInt8) : Prop := b = zero64 ∨ ∃ x : Pt, x.Ok ∧ b = x.raw
theorem Sect.len {b : List UInt8} (h : Sect b) : b.length = 64 := by
  rcases h with rfl | ⟨x, hx, rfl⟩
  · exact zero64_length
  · exact Pt.raw_length hx
/-- How many parts a group of n bytes has. -/
def partsN (n : Nat) : Nat := max 1 ((n + 33) / 34)
/-- Part i of a group. -/
def ptOf (gen num : Nat) (t : ByteArray) (i : Nat) : Pt := ⟨gen, num, i, partsN t.size, crc t.data.toList, t.extract (i * 34) (min (i * 34 + 34) t.size)⟩
theorem ptOf_ok (gen num : Nat) (t : ByteArray) (i : Nat) (hg : gen ≤ 281474976710656) (hn : num ≤ 512) (hi : i < partsN t.size) (hp : partsN t.size ≤ 512) : (ptOf gen num t i).Ok := by
  have hc := crc_lt t.data.toList
  have hs : (ptOf gen num t i).piece.size = min (i * 34 + 34) t.size - i * 34 := by
    show (t.extract _ _).size = _
    rw [ByteArray.size_extract]
    omega
  unfold partsN at hi hp
  refine ⟨hg, hn, hi, hp, ?_, ?_, ?_, ?_⟩
  · show crc t.data.toList ≤ _
    omega
  · rw [hs]; omega
  · intro h
    change i + 1 < max 1 ((t.size + 33) / 34) at h
    rw [hs]; omega
  · intro h
    change 1 < max 1 ((t.size + 33) / 34) at h
    rw [hs]; omega
/-- The sectors of a group. -/
def grpL (gen num : Nat) (t : ByteArray) : List ByteArray := (List.range (partsN t.size)).map fun i => (ptOf gen num t i).txt
theorem grpL_length (gen num : Nat) (t : ByteArray) : (grpL gen num t).length = partsN t.size := by simp [grpL]
/-- What was found so far: the texts of whole groups, the parts of the one behind them. -/
structure Wk where
  texts : List ByteArray
  op : List Pt
def Wk.goes (gen : Nat) (k : Wk) (x : Pt) : Bool := decide (x.gen = gen ∧ x.num = k.texts.length ∧ x.idx = k.op.length ∧ ∀ y ∈ k.op.head?, x.parts = y.parts ∧ x.sum = y.sum)
def catP (op : List Pt) : List UInt8 := op.flatMap fun x => x.piece.data.toList
def Wk.close (k : Wk) (op : List Pt) : Option Wk :=
  if crc (catP op) = (op.headD Pt.none).sum ∧ (k.texts = [] → catP op = []) then some ⟨k.texts ++ [⟨(catP op).toArray⟩], []⟩ else Option.none
noncomputable def Wk.take (gen : Nat) (k : Wk) (b : List UInt8) : Option Wk :=
  match lookR b with
  | Option.none => Option.none
  | some x => if k.goes gen x = true then (if x.idx + 1 < x.parts then some ⟨k.texts, k.op ++ [x]⟩ else k.close (k.op ++ [x])) else Option.none
end Go.Proofs.YtmgkkoajjdgmbaaGreatDoor
