/- WireMath, WireLists, WireRef, WireRef2, WireRef3, WireBackMath. -/
import Derived.Test.YtmgkkoajjdgmbaaGreatDoorPart6
import Derived.Test.YtmgkkoajjdgmbaaGreatDoorPart2
set_option linter.unusedVariables false
set_option linter.unusedSimpArgs false
set_option linter.unusedSectionVars false
set_option linter.unnecessarySimpa false
set_option linter.deprecated false
/- What the document says of bricks, and of a reader: plain. -/
namespace Go.Proofs.YtmgkkoajjdgmbaaGreatDoor.Wr
open Nm
/-- A text's bytes. -/
def txt (l : List UInt8) : List UInt8 := up l.length ++ l
/-- What a reader has: what is left, and the fault. -/
structure St where
  l : List UInt8
  e : Nat
/-- A number is read. -/
def qNum (m : Nat) (s : St) : Nat × St :=
  if s.e ≠ 0 then (0, s)
  else if cd s.l ≠ 0 then (0, ⟨s.l, cd s.l⟩)
  else if m < rx s.l then (0, ⟨s.l, 9⟩)
  else (rx s.l, ⟨s.l.drop (rn s.l), 0⟩)
/-- A truth is read. -/
def qBool (s : St) : Bool × St :=
  if s.e ≠ 0 then (false, s)
  else match s.l with
    | [] => (false, ⟨s.l, 10⟩)
    | b :: t => if 1 < b.toNat then (false, ⟨s.l, 8⟩) else (b.toNat == 1, ⟨t, 0⟩)
/-- A count is read. -/
def qCount (m : Int) (s : St) : Nat × St :=
  if s.e ≠ 0 then (0, s)
  else if cd s.l ≠ 0 then (0, ⟨s.l, cd s.l⟩)
  else if m < 0 ∨ m < rx s.l then (0, ⟨s.l, 4⟩)
  else if (s.l.drop (rn s.l)).length < rx s.l then (0, ⟨s.l, 10⟩)
  else (rx s.l, ⟨s.l.drop (rn s.l), 0⟩)
/-- A text is read. -/
def qText (m : Int) (s : St) : List UInt8 × St :=
  (((qCount m s).2.l).take (qCount m s).1, ⟨((qCount m s).2.l).drop (qCount m s).1, (qCount m s).2.e⟩)
/-- All that is left. -/
def qRest (s : St) : List UInt8 × St := if s.e ≠ 0 then ([], s) else (s.l, ⟨[], 0⟩)
/-- The end. -/
def qEnd (s : St) : Nat × St := if s.e ≠ 0 then (s.e, s) else if s.l = [] then (0, s) else (8, ⟨s.l, 8⟩)
theorem qCount_le (m : Int) (s : St) : (qCount m s).1 ≤ (qCount m s).2.l.length := by
  unfold qCount
  split
  · simp
  · split
    · simp
    · split
      · simp
      · split
        · simp
        · simp; simp at *; omega
end Go.Proofs.YtmgkkoajjdgmbaaGreatDoor.Wr

/- The bytes of many bricks, one behind the other. -/
namespace Go.Proofs.YtmgkkoajjdgmbaaGreatDoor.Wr
open Nm
def nums (xs : List Nat) : List UInt8 := (xs.map up).flatten
def texts (ss : List ByteArray) : List UInt8 := (ss.map fun s => txt s.data.toList).flatten
theorem nums_take (xs : List Nat) (k : Nat) (h : k < xs.length) : nums (xs.take (k + 1)) = nums (xs.take k) ++ up xs[k] := by
  unfold nums
  rw [List.take_succ_eq_append_getElem h, List.map_append, List.flatten_append]
  simp
theorem texts_take (ss : List ByteArray) (k : Nat) (h : k < ss.length) : texts (ss.take (k + 1)) = texts (ss.take k) ++ txt ss[k].data.toList := by
  unfold texts
  rw [List.take_succ_eq_append_getElem h, List.map_append, List.flatten_append]
  simp
theorem nums_all (xs : List Nat) : nums (xs.take xs.length) = nums xs := by rw [List.take_length]
theorem texts_all (ss : List ByteArray) : texts (ss.take ss.length) = texts ss := by rw [List.take_length]
theorem up_le (x : Nat) (h : x < 18446744073709551616) : (up x).length ≤ 9 := by
  have h1 := up_length x
  have h2 : nb x ≤ 8 := nb_le8 (by omega)
  omega
theorem txt_le (l : List UInt8) (h : l.length < 18446744073709551616) : (txt l).length ≤ l.length + 9 := by
  have h1 := up_le l.length h
  unfold txt
  rw [List.length_append]
  omega
theorem nums_le (xs : List Nat) (h : ∀ x ∈ xs, x < 18446744073709551616) : (nums xs).length ≤ 9 * xs.length := by
  induction xs with
  | nil => simp [nums]
  | cons x xs ih =>
    have h1 := up_le x (h x (by simp))
    have h2 := ih (fun y hy => h y (by simp [hy]))
    have e : nums (x :: xs) = up x ++ nums xs := rfl
    rw [e, List.length_append, List.length_cons]
    omega
theorem texts_le (B : Nat) (hB : B < 1000000) (ss : List ByteArray) (h : ∀ s ∈ ss, s.size ≤ B) : (texts ss).length ≤ (B + 9) * ss.length := by
  induction ss with
  | nil => simp [texts]
  | cons s ss ih =>
    have h0 := h s (by simp)
    have hl : s.data.toList.length = s.size := by simp
    have h1 := txt_le s.data.toList (by omega)
    have h2 := ih (fun y hy => h y (by simp [hy]))
    have e : texts (s :: ss) = txt s.data.toList ++ texts ss := rfl
    rw [e, List.length_append, List.length_cons, Nat.mul_succ]
    omega
theorem lit_size (l : List UInt8) : (⟨l.toArray⟩ : ByteArray).size = l.length := by show l.toArray.size = _; rw [List.size_toArray]
end Go.Proofs.YtmgkkoajjdgmbaaGreatDoor.Wr

/- What the document's own reader answers. -/
namespace Go.Proofs.YtmgkkoajjdgmbaaGreatDoor
open Go.RowKit Nm Wr
set_option linter.unusedVariables false
/-- The document's reader stands in block b. -/
structure RdAt (w : World) (b : Nat) (s : St) : Prop where
  text : ∃ t : ByteArray, w.cell? ⟨b, 0, none⟩ = some (.string t) ∧ t.data.toList = s.l ∧ t.size ≤ maxLen
  err : w.cell? ⟨b, 1, none⟩ = some (.int .i64 (s.e : Nat))
  soft0 : w.frozen? ⟨b, 0, none⟩ = false
  soft1 : w.frozen? ⟨b, 1, none⟩ = false
theorem RdAt.lt {w : World} {b : Nat} {s : St} (h : RdAt w b s) : b < w.heap.size := block_lt_of_cell h.err
theorem RdAt.kept {w w' : World} {b : Nat} {s : St} (h : RdAt w b s) (k : Kept w w') : RdAt w' b s := by
  obtain ⟨t, h1, h2, h3⟩ := h.text
  exact ⟨⟨t, by rw [Below.cell k (p := ⟨b, 0, none⟩) h.lt]; exact h1, h2, h3⟩, by rw [Below.cell k (p := ⟨b, 1, none⟩) h.lt]; exact h.err, by rw [Below.frozen k (p := ⟨b, 0, none⟩) h.lt]; exact h.soft0, by rw [Below.frozen k (p := ⟨b, 1, none⟩) h.lt]; exact h.soft1⟩
theorem RdAt.but {w w' : World} {b c : Nat} {s : St} (h : RdAt w b s) (k : But c w w') (hc : b ≠ c) : RdAt w' b s := by
  obtain ⟨t, h1, h2, h3⟩ := h.text
  exact ⟨⟨t, by rw [k.cell (p := ⟨b, 0, none⟩) h.lt hc]; exact h1, h2, h3⟩, by rw [k.cell (p := ⟨b, 1, none⟩) h.lt hc]; exact h.err, by rw [k.frozen (p := ⟨b, 0, none⟩) h.lt hc]; exact h.soft0, by rw [k.frozen (p := ⟨b, 1, none⟩) h.lt hc]; exact h.soft1⟩
theorem RdAt.setErr {w : World} {b : Nat} {s : St} (h : RdAt w b s) (e : Nat) : RdAt (w.setCell ⟨b, 1, none⟩ (.int .i64 (e : Nat))) b ⟨s.l, e⟩ := by
  obtain ⟨t, h1, h2, h3⟩ := h.text
  exact ⟨⟨t, by rw [World.cell?_setCell_other _ _ _ _ (by simp)]; exact h1, h2, h3⟩, World.cell?_setCell_same _ _ _ h.err, by rw [World.frozen?_setCell]; exact h.soft0, by rw [World.frozen?_setCell]; exact h.soft1⟩
theorem RdAt.setText {w : World} {b : Nat} {s : St} (h : RdAt w b s) (t : ByteArray) (l : List UInt8) (hl : t.data.toList = l) (ht : t.size ≤ maxLen) : RdAt (w.setCell ⟨b, 0, none⟩ (.string t)) b ⟨l, s.e⟩ := by
  obtain ⟨t0, h1, h2, h3⟩ := h.text
  exact ⟨⟨t, World.cell?_setCell_same _ _ _ h1, hl, ht⟩, by rw [World.cell?_setCell_other _ _ _ _ (by simp)]; exact h.err, by rw [World.frozen?_setCell]; exact h.soft0, by rw [World.frozen?_setCell]; exact h.soft1⟩

theorem qnum_fault (m : Nat) (s : St) (h : s.e ≠ 0) : qNum m s = (0, s) := by unfold qNum; rw [if_pos h]
theorem qnum_bad (m : Nat) (l : List UInt8) (h : cd l ≠ 0) : qNum m ⟨l, 0⟩ = (0, ⟨l, cd l⟩) := by unfold qNum; rw [if_neg (by simp), if_pos h]
theorem qnum_over (m : Nat) (l : List UInt8) (h : cd l = 0) (hm : m < rx l) : qNum m ⟨l, 0⟩ = (0, ⟨l, 9⟩) := by unfold qNum; rw [if_neg (by simp), if_neg (by simpa using h), if_pos hm]
theorem qnum_ok (m : Nat) (l : List UInt8) (h : cd l = 0) (hm : rx l ≤ m) : qNum m ⟨l, 0⟩ = (rx l, ⟨l.drop (rn l), 0⟩) := by unfold qNum; rw [if_neg (by simp), if_neg (by simpa using h), if_neg (by simpa using hm)]
theorem ext_drop (t : ByteArray) (n : Nat) : (t.extract n t.size).data.toList = t.data.toList.drop n := by
  simp
  apply List.take_of_length_le
  simp
theorem rn_le (l : List UInt8) : rn l ≤ l.length := by
  unfold rn
  split
  · rename_i h; have := cd_len l h; omega
  · omega
end Go.Proofs.YtmgkkoajjdgmbaaGreatDoor

/- What the document's own reader answers: Rest, End, Bool, Count, Text. -/
namespace Go.Proofs.YtmgkkoajjdgmbaaGreatDoor
open Go.RowKit Nm Wr
set_option linter.unusedVariables false
theorem int_ne (n : Nat) (h : n ≠ 0) : ((n : Int) == 0) = false := beq_eq_false_iff_ne.2 (by omega)
theorem data_len (t : ByteArray) : t.data.toList.length = t.size := by simp
theorem one_beq (n : Nat) : ((n : Int) == 1) = (n == 1) := by rw [Bool.eq_iff_iff]; simp; omega
end Go.Proofs.YtmgkkoajjdgmbaaGreatDoor

/- What the document's own reader answers: Count, Text; what bricks' bytes are. -/
namespace Go.Proofs.YtmgkkoajjdgmbaaGreatDoor
open Go.RowKit Nm Wr
set_option linter.unusedVariables false
theorem rx_lt (l : List UInt8) : rx l < 18446744073709551616 := by
  unfold rx
  split
  · rename_i h
    have h1 := cd_len l h
    have h2 := val_lt ((l.drop 1).take (l[0]!).toNat)
    have h3 : ((l.drop 1).take (l[0]!).toNat).length ≤ 8 := by rw [List.length_take]; omega
    have h4 : 256 ^ ((l.drop 1).take (l[0]!).toNat).length ≤ 256 ^ 8 := Nat.pow_le_pow_right (by omega) h3
    omega
  · omega
theorem ext_take (t : ByteArray) (n : Nat) : (t.extract 0 n).data.toList = t.data.toList.take n := by simp
theorem qnum_all (l : List UInt8) (h : cd l = 0) : qNum 18446744073709551615 ⟨l, 0⟩ = (rx l, ⟨l.drop (rn l), 0⟩) := qnum_ok _ l h (by have := rx_lt l; omega)
theorem qcount_fault (m : Int) (s : St) (h : s.e ≠ 0) : qCount m s = (0, s) := by unfold qCount; rw [if_pos h]
theorem qcount_bad (m : Int) (l : List UInt8) (h : cd l ≠ 0) : qCount m ⟨l, 0⟩ = (0, ⟨l, cd l⟩) := by unfold qCount; rw [if_neg (by simp), if_pos h]
theorem qcount_long (m : Int) (l : List UInt8) (h : cd l = 0) (hm : m < 0 ∨ m < rx l) : qCount m ⟨l, 0⟩ = (0, ⟨l, 4⟩) := by unfold qCount; rw [if_neg (by simp), if_neg (by simpa using h), if_pos hm]
theorem qcount_short (m : Int) (l : List UInt8) (h : cd l = 0) (hm : ¬(m < 0 ∨ m < rx l)) (hx : (l.drop (rn l)).length < rx l) : qCount m ⟨l, 0⟩ = (0, ⟨l, 10⟩) := by unfold qCount; rw [if_neg (by simp), if_neg (by simpa using h), if_neg hm, if_pos hx]
theorem qcount_ok (m : Int) (l : List UInt8) (h : cd l = 0) (hm : ¬(m < 0 ∨ m < rx l)) (hx : ¬(l.drop (rn l)).length < rx l) : qCount m ⟨l, 0⟩ = (rx l, ⟨l.drop (rn l), 0⟩) := by unfold qCount; rw [if_neg (by simp), if_neg (by simpa using h), if_neg hm, if_neg hx]
end Go.Proofs.YtmgkkoajjdgmbaaGreatDoor

/- Plain facts: bricks that were written are read as themselves; what is cut off is short. -/
namespace Go.Proofs.YtmgkkoajjdgmbaaGreatDoor
open Nm Wr
/-- The reader stands ahead of 'rest', all of it or cut off somewhere (or has told already that it is short). -/
def Rd (full : Bool) (s : St) (rest : List UInt8) : Prop :=
  (full = true ∧ s = ⟨rest, 0⟩) ∨ (full = false ∧ (s.e = 10 ∨ ∃ m, m < rest.length ∧ s = ⟨rest.take m, 0⟩))
theorem nb8 (x : Nat) (h : x < 18446744073709551616) : nb x ≤ 8 := nb_le8 (by omega)
theorem take_front (a b : List UInt8) (m : Nat) (h : m < (a ++ b).length) : (m < a.length ∧ (a ++ b).take m = a.take m) ∨ ∃ n, n < b.length ∧ (a ++ b).take m = a ++ b.take n := by
  rcases Nat.lt_or_ge m a.length with h1 | h1
  · left
    exact ⟨h1, by rw [List.take_append_of_le_length (by omega)]⟩
  · right
    refine ⟨m - a.length, by rw [List.length_append] at h; omega, ?_⟩
    rw [List.take_append, List.take_of_length_le h1]
theorem q_up (x : Nat) (r : List UInt8) (h : x < 18446744073709551616) : qNum 18446744073709551615 ⟨up x ++ r, 0⟩ = (x, ⟨r, 0⟩) := by
  obtain ⟨h1, h2, h3⟩ := read_up x r (nb8 x h)
  rw [qnum_ok _ _ h1 (by omega), h2, h3]
  congr 2
  rw [← up_length x, List.drop_left]
theorem q_up_cut (x i : Nat) (h : x < 18446744073709551616) (hi : i < (up x).length) : qNum 18446744073709551615 ⟨(up x).take i, 0⟩ = (0, ⟨(up x).take i, 10⟩) := by
  obtain ⟨h1, h2⟩ := read_cut x i (nb8 x h) (by rw [up_length] at hi; exact hi)
  rw [qnum_bad _ _ (by omega), h1]
theorem rd_num (full : Bool) (s : St) (x : Nat) (rest : List UInt8) (h : x < 18446744073709551616) (hR : Rd full s (up x ++ rest)) :
    Rd full (qNum 18446744073709551615 s).2 rest ∧ (full = true → (qNum 18446744073709551615 s).1 = x) := by
  rcases hR with ⟨rfl, rfl⟩ | ⟨rfl, he | ⟨m, hm, rfl⟩⟩
  · rw [q_up x rest h]
    exact ⟨.inl ⟨rfl, rfl⟩, fun _ => rfl⟩
  · rw [qnum_fault _ _ (by omega)]
    exact ⟨.inr ⟨rfl, .inl he⟩, fun h => by simp at h⟩
  · rcases take_front _ _ m hm with ⟨h1, h2⟩ | ⟨n, h1, h2⟩
    · rw [h2, q_up_cut x m h h1]
      exact ⟨.inr ⟨rfl, .inl rfl⟩, fun h => by simp at h⟩
    · rw [h2, q_up x _ h]
      exact ⟨.inr ⟨rfl, .inr ⟨n, h1, rfl⟩⟩, fun h => by simp at h⟩
theorem q_cnt (l r : List UInt8) (h : l.length < 18446744073709551616) : qCount l.length ⟨txt l ++ r, 0⟩ = (l.length, ⟨l ++ r, 0⟩) := by
  obtain ⟨h1, h2, h3⟩ := read_up l.length (l ++ r) (nb8 _ h)
  have e : txt l ++ r = up l.length ++ (l ++ r) := by unfold txt; rw [List.append_assoc]
  have ed : (up l.length ++ (l ++ r)).drop (nb l.length + 1) = l ++ r := by rw [← up_length l.length, List.drop_left]
  rw [e, qcount_ok _ _ h1 (by rw [h2]; omega) (by rw [h2, h3, ed, List.length_append]; omega), h2, h3, ed]
theorem q_txt (l r : List UInt8) (h : l.length < 18446744073709551616) : qText l.length ⟨txt l ++ r, 0⟩ = (l, ⟨r, 0⟩) := by
  unfold qText
  rw [q_cnt l r h]
  dsimp only
  rw [List.take_left, List.drop_left]
theorem q_txt_cut (l : List UInt8) (i : Nat) (h : l.length < 18446744073709551616) (hi : i < (txt l).length) : ((qText l.length ⟨(txt l).take i, 0⟩).2).e = 10 := by
  unfold qText
  dsimp only
  have hi' : i < (up l.length ++ l).length := hi
  rcases take_front _ _ i hi' with ⟨h1, h2⟩ | ⟨n, h1, h2⟩
  · unfold txt
    rw [h2]
    obtain ⟨h3, h4⟩ := read_cut l.length i (nb8 _ h) (by rw [up_length] at h1; exact h1)
    rw [qcount_bad _ _ (by omega), h3]
  · unfold txt
    rw [h2]
    obtain ⟨h3, h4, h5⟩ := read_up l.length (l.take n) (nb8 _ h)
    have ed : (up l.length ++ l.take n).drop (nb l.length + 1) = l.take n := by rw [← up_length l.length, List.drop_left]
    rw [qcount_short _ _ h3 (by rw [h4]; omega) (by rw [h4, h5, ed, List.length_take]; omega)]
theorem rd_text (full : Bool) (s : St) (l rest : List UInt8) (h : l.length < 18446744073709551616) (hR : Rd full s (txt l ++ rest)) :
    Rd full (qText l.length s).2 rest ∧ (full = true → (qText l.length s).1 = l) := by
  rcases hR with ⟨rfl, rfl⟩ | ⟨rfl, he | ⟨m, hm, rfl⟩⟩
  · rw [q_txt l rest h]
    exact ⟨.inl ⟨rfl, rfl⟩, fun _ => rfl⟩
  · refine ⟨.inr ⟨rfl, .inl ?_⟩, fun h => by simp at h⟩
    unfold qText
    rw [qcount_fault _ _ (by omega)]
    exact he
  · rcases take_front _ _ m hm with ⟨h1, h2⟩ | ⟨n, h1, h2⟩
    · rw [h2]
      exact ⟨.inr ⟨rfl, .inl (q_txt_cut l m h h1)⟩, fun h => by simp at h⟩
    · rw [h2, q_txt l _ h]
      exact ⟨.inr ⟨rfl, .inr ⟨n, h1, rfl⟩⟩, fun h => by simp at h⟩
theorem q_bool (is : Bool) (r : List UInt8) : qBool ⟨(if is then 1 else 0) :: r, 0⟩ = (is, ⟨r, 0⟩) := by cases is <;> rfl
theorem rd_bool (full : Bool) (s : St) (is : Bool) (hR : Rd full s [if is then 1 else 0]) :
    (full = true → qBool s = (is, ⟨[], 0⟩)) ∧ (full = false → (qBool s).2.e = 10) := by
  rcases hR with ⟨rfl, rfl⟩ | ⟨rfl, he | ⟨m, hm, rfl⟩⟩
  · exact ⟨fun _ => q_bool is [], fun h => by simp at h⟩
  · refine ⟨fun h => by simp at h, fun _ => ?_⟩
    unfold qBool
    rw [if_pos (by omega)]
    exact he
  · refine ⟨fun h => by simp at h, fun _ => ?_⟩
    obtain rfl : m = 0 := by simpa using hm
    rfl
/-- All that stands behind the first k numbers, the first k texts. -/
def restN (xs : List Nat) (ss : List ByteArray) (is : Bool) (k : Nat) : List UInt8 := nums (xs.drop k) ++ (texts ss ++ [if is then 1 else 0])
def restT (ss : List ByteArray) (is : Bool) (k : Nat) : List UInt8 := texts (ss.drop k) ++ [if is then 1 else 0]
theorem restN_step (xs : List Nat) (ss : List ByteArray) (is : Bool) (k : Nat) (h : k < xs.length) : restN xs ss is k = up xs[k] ++ restN xs ss is (k + 1) := by
  unfold restN nums
  rw [List.drop_eq_getElem_cons h]
  simp only [List.map_cons, List.flatten_cons, List.append_assoc]
theorem restN_end (xs : List Nat) (ss : List ByteArray) (is : Bool) : restN xs ss is xs.length = restT ss is 0 := by
  unfold restN restT nums
  simp
theorem restT_step (ss : List ByteArray) (is : Bool) (k : Nat) (h : k < ss.length) : restT ss is k = txt ss[k].data.toList ++ restT ss is (k + 1) := by
  unfold restT texts
  rw [List.drop_eq_getElem_cons h]
  simp only [List.map_cons, List.flatten_cons, List.append_assoc]
theorem restT_end (ss : List ByteArray) (is : Bool) : restT ss is ss.length = [if is then 1 else 0] := by
  unfold restT texts
  simp
theorem rest_all (xs : List Nat) (ss : List ByteArray) (is : Bool) : nums xs ++ texts ss ++ [if is then 1 else 0] = restN xs ss is 0 := by
  unfold restN
  simp
end Go.Proofs.YtmgkkoajjdgmbaaGreatDoor

