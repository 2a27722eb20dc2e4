/- SumRef, SumRef2. -/
import Derived.Test.YtmgkkoajjdgmbaaGreatDoorPart0
import Derived.Test.YtmgkkoajjdgmbaaGreatDoorPart6
import Derived.WalkLawsBesides
import Derived.Outline
import Derived.Deep.DeepMust
import Derived.WalkSpells
import Derived.Laws.IdiomStrings
set_option linter.unusedVariables false
set_option linter.unusedSimpArgs false
set_option linter.unusedSectionVars false
set_option linter.unnecessarySimpa false
set_option linter.deprecated false
/- What the document's own answers for sums come to. -/
namespace Go.Proofs.YtmgkkoajjdgmbaaGreatDoor
open Go.RowKit Sm
set_option linter.unusedVariables false

/-- A row of n bits as cells. -/
def bl (f : Nat → Bool) (n : Nat) : List Value := (List.range n).map fun j => Value.bool (f j)
theorem bl_length (f : Nat → Bool) (n : Nat) : (bl f n).length = n := by simp [bl]
theorem bl_get (f : Nat → Bool) (n j : Nat) (h : j < n) : (bl f n)[j]? = some (.bool (f j)) := by simp [bl, h]
theorem bl_snoc (f : Nat → Bool) (n : Nat) : bl f n ++ [.bool (f n)] = bl f (n + 1) := by simp [bl, List.range_succ]
theorem bl_congr (f g : Nat → Bool) (n : Nat) (h : ∀ j, j < n → f j = g j) : bl f n = bl g n := by
  unfold bl
  apply List.map_congr_left
  intro j hj
  rw [h j (List.mem_range.1 hj)]
theorem bl_set (f g : Nat → Bool) (n k : Nat) (b : Bool) (hk : k < n) (h : ∀ j, g j = if j = k then b else f j) : (bl f n).set k (.bool b) = bl g n := by
  apply List.ext_getElem?
  intro j
  rw [List.getElem?_set]
  by_cases hj : j < n
  · rw [bl_get g n j hj, h j]
    by_cases e : k = j
    · subst e; rw [if_pos rfl, if_pos (by rw [bl_length]; exact hj), if_pos rfl]
    · rw [if_neg e, bl_get f n j hj, if_neg (by omega)]
  · rw [if_neg (by omega), List.getElem?_eq_none (by rw [bl_length]; omega), List.getElem?_eq_none (by rw [bl_length]; omega)]

theorem info_bool : (Tryz.prog.info? 4).map (fun i => (i.zero, i.size, i.bytes)) = some (some (.bool false), 1, 1) := by kernel_rfl

/-- The first 32 from place o on turned. -/
def tw (f : Nat → Bool) (o k j : Nat) : Bool := if o ≤ j ∧ j < o + k then !f j else f j
theorem tw_zero (f : Nat → Bool) (o : Nat) : tw f o 0 = f := by funext j; unfold tw; rw [if_neg (by omega)]
theorem tw_step (f : Nat → Bool) (o k j : Nat) : tw f o (k + 1) j = if j = o + k then !tw f o k (o + k) else tw f o k j := by
  unfold tw
  by_cases h : j = o + k
  · subst h; rw [if_pos rfl, if_pos (by omega), if_neg (by omega)]
  · rw [if_neg h]
    by_cases h2 : o ≤ j ∧ j < o + k
    · rw [if_pos h2, if_pos (by omega)]
    · rw [if_neg h2, if_neg (by omega)]

theorem g_trans {a b c : World} {r : Option Nat} (h : a.grownBy b r) (k : b.grownBy c r) : a.grownBy c r :=
  ⟨k.os.trans h.os, k.tape.trans h.tape, k.output.trans h.output, Nat.le_trans h.size k.size, fun i hi hr => (k.block i (Nat.lt_of_lt_of_le hi h.size) hr).trans (h.block i hi hr)⟩
theorem grown_alloc (w : World) (o : Obj) : w.grownBy (w.alloc o) none := ⟨rfl, rfl, rfl, by simp, fun k hk _ => Below.heap_alloc _ _ _ hk⟩
/-- The powers' list lies in block p. -/
def Pows (w : World) (p : Nat) : Prop := ∀ k, k < 14 → w.cell? ⟨p, k, none⟩ = some (.int .i64 ((pw[k]! : Nat) : Int))
theorem pows_made (w : World) : Pows (w.alloc (.cells #[.int .i64 26, .int .i64 23, .int .i64 22, .int .i64 16, .int .i64 12, .int .i64 11, .int .i64 10, .int .i64 8, .int .i64 7, .int .i64 5, .int .i64 4, .int .i64 2, .int .i64 1, .int .i64 0] 3)) w.heap.size := by
  intro k hk
  rw [World.cell?_alloc_mark]
  have h : ∀ k : Fin 14, (#[Value.int .i64 26, .int .i64 23, .int .i64 22, .int .i64 16, .int .i64 12, .int .i64 11, .int .i64 10, .int .i64 8, .int .i64 7, .int .i64 5, .int .i64 4, .int .i64 2, .int .i64 1, .int .i64 0])[k.val]? = some (.int .i64 ((pw[k.val]! : Nat) : Int)) := by
    intro k
    match k with
    | ⟨0, _⟩ => rfl
    | ⟨1, _⟩ => rfl
    | ⟨2, _⟩ => rfl
    | ⟨3, _⟩ => rfl
    | ⟨4, _⟩ => rfl
    | ⟨5, _⟩ => rfl
    | ⟨6, _⟩ => rfl
    | ⟨7, _⟩ => rfl
    | ⟨8, _⟩ => rfl
    | ⟨9, _⟩ => rfl
    | ⟨10, _⟩ => rfl
    | ⟨11, _⟩ => rfl
    | ⟨12, _⟩ => rfl
    | ⟨13, _⟩ => rfl
    | ⟨n + 14, h⟩ => omega
  exact h ⟨k, hk⟩
theorem Pows.set {w : World} {p g : Nat} (h : Pows w p) (hne : g ≠ p) (o : Nat) (v : Value) : Pows (w.setCell ⟨g, o, none⟩ v) p := fun k hk => by
  rw [World.cell?_setCell_other _ _ _ _ (fun e => hne (by injection e)), h k hk]
theorem pw_le (k : Nat) (h : k < 14) : pw[k]! ≤ 26 := by
  have hd : ∀ k : Fin 14, pw[k.val]! ≤ 26 := by decide +kernel
  exact hd ⟨k, h⟩

theorem flip_step {l : List UInt8} (G : Nat → Bool) (i q d : Nat) (hq : q < 14) (hd : pw[q]! = d) (hd2 : d ≤ 26) (h : ∀ j, i ≤ j → G j = (win l i j ^^ fl i q j)) (j : Nat) (hj : i ≤ j) :
    (if j = i + 32 - d then !G (i + 32 - d) else G j) = (win l i j ^^ fl i (q + 1) j) := by
  rw [fl_step i q j hq, hd]
  by_cases e : j = i + 32 - d
  · subst e
    rw [if_pos rfl, h _ (by omega)]
    simp
  · have e2 : ((j == i + 32 - d) : Bool) = false := beq_eq_false_iff_ne.2 e
    rw [if_neg e, h j hj, e2]
    simp
theorem and_bit (b k : Nat) (hb : b < 256) : decide (bits .and .u8 ((b / 2 ^ k : Nat) : Int) 1 = 1) = b.testBit k := by
  have hlt : b / 2 ^ k < 256 := Nat.lt_of_le_of_lt (Nat.div_le_self _ _) hb
  have e := u8_and_nat (b / 2 ^ k) 1 hlt (by omega)
  rw [show ((1 : Nat) : Int) = 1 from rfl] at e
  rw [e, Nat.and_one_is_mod, Nat.testBit_eq_decide_div_mod_eq]
  rw [Bool.eq_iff_iff, decide_eq_true_iff, decide_eq_true_iff]
  omega
theorem one_bool (b : Bool) : ∀ u ∈ [Value.bool b], u.oneCell' = true := by
  intro u hu
  simp at hu
  subst hu
  rfl
theorem bit_at (s : ByteArray) (k r : Nat) (hk : k < s.size) (hr : r < 8) : (bits BinOp.and IntKind.u8 ((s[k].toNat : Int) / 2 ^ r) 1 == 1) = mbit s.data.toList (8 * k + r) := by
  have hl : s.data.toList.length = s.size := by simp
  have e1 : (8 * k + r) / 8 = k := by omega
  have e2 : (8 * k + r) % 8 = r := by omega
  have e3 : s.data.toList[k]! = s[k] := by
    rw [getElem!_pos s.data.toList k (by omega)]
    rfl
  unfold mbit
  rw [if_pos (by omega), e1, e2, e3, ← and_bit _ r s[k].toNat_lt]
  have e4 : (s[k].toNat : Int) / 2 ^ r = ((s[k].toNat / 2 ^ r : Nat) : Int) := by simp
  rw [e4, Bool.eq_iff_iff, beq_iff_eq, decide_eq_true_iff]
/-- Four bytes of a number, the highest first. -/
def b4 (x : Nat) : List UInt8 := [UInt8.ofNat (x / 16777216), UInt8.ofNat (x / 65536), UInt8.ofNat (x / 256), UInt8.ofNat x]
theorem b4_conv (w : World) (x : Nat) (hx : x ≤ 4294967295) :
    (convert 24 9 (.slice (some ⟨w.heap.size, 0, none⟩) 4 4)).run Tryz.prog (w.alloc (.cells #[.int .u8 ((x : Int) / 16777216), .int .u8 ((x : Int) / 65536 % 256), .int .u8 ((x : Int) / 256 % 256), .int .u8 ((x : Int) % 256)] 5)) = .ok (.string ⟨(b4 x).toArray⟩) (w.alloc (.cells #[.int .u8 ((x : Int) / 16777216), .int .u8 ((x : Int) / 65536 % 256), .int .u8 ((x : Int) / 256 % 256), .int .u8 ((x : Int) % 256)] 5)) := by
  refine run_convert_bytes_back (P := Tryz.prog) _ 24 9 5 ⟨w.heap.size, 0, none⟩ 4 (b4 x) Tryz.underlying24 Tryz.underlying5 Tryz.underlying9 (fun j hj => ?_)
  have hj4 : j < 4 := hj
  have ea : (⟨w.heap.size, 0, none⟩ : Addr).add j = ⟨w.heap.size, j, none⟩ := by
    unfold Addr.add
    split
    · rename_i h0; subst h0; rfl
    · simp
  rw [ea, World.cell?_alloc_mark]
  match j, hj4 with
  | 0, _ => simp [b4]; omega
  | 1, _ => simp [b4]
  | 2, _ => simp [b4]
  | 3, _ => simp [b4]
end Go.Proofs.YtmgkkoajjdgmbaaGreatDoor

/- What the document's own Seal and Open come to. -/
namespace Go.Proofs.YtmgkkoajjdgmbaaGreatDoor
open Go.RowKit Sm
set_option linter.unusedVariables false

theorem mk_len (l : List UInt8) : (⟨l.toArray⟩ : ByteArray).size = l.length := by simp [ByteArray.size]
theorem str_ext {a b : ByteArray} (h : a.data.toList = b.data.toList) : a = b := by
  apply ByteArray.ext
  apply Array.toList_inj.1
  exact h
/-- A text, sealed. -/
def sealL (l : List UInt8) : List UInt8 := l ++ b4 (crc l)
theorem b4_len (x : Nat) : (b4 x).length = 4 := rfl
theorem seal_len (l : List UInt8) : (sealL l).length = l.length + 4 := by simp [sealL, b4_len]
/-- Is it a sealed text? -/
def isSealed (l : List UInt8) : Bool := decide (4 ≤ l.length) && sealL (l.take (l.length - 4)) == l

theorem sealed_str (s r : ByteArray) (h4 : 4 ≤ s.size) (hr : r.data.toList = sealL (s.extract 0 (s.size - 4)).data.toList) : (r.toList == s.toList) = isSealed s.data.toList := by
  have hl : s.data.toList.length = s.size := by simp
  have hx : (s.extract 0 (s.size - 4)).data.toList = s.data.toList.take (s.size - 4) := by simp
  unfold isSealed
  rw [ByteArray.toList_eq, ByteArray.toList_eq, hr, hx, hl]
  simp [h4]
/-- What a text is opened as. -/
def opened (s : ByteArray) : ByteArray := if isSealed s.data.toList = true then s.extract 0 (s.size - 4) else ⟨#[]⟩
theorem opened_yes (s : ByteArray) (h : isSealed s.data.toList = true) : opened s = s.extract 0 (s.size - 4) := if_pos h
theorem opened_no (s : ByteArray) (h : isSealed s.data.toList = false) : opened s = ⟨#[]⟩ := if_neg (by rw [h]; simp)
end Go.Proofs.YtmgkkoajjdgmbaaGreatDoor

