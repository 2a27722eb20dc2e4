/- Plain facts: bricks that were written are read as themselves; what is cut off is short. -/
import Derived.Test.YtdbhplahmnlgnaaWireLists
import Derived.Test.YtdbhplahmnlgnaaWireRef3
import Derived.Test.YtdbhplahmnlgnaaBackMath
namespace Go.Proofs.Ytdbhplahmnlgnaa
open Nm Wr
/-- The reader stands ahead of 'rest', all of it or cut off somewhere (or has told already that it is short). -/
def Rd (full : Bool) (s : St) (rest : List UInt8) : Prop :=
  (full = true ∧ s = ⟨rest, 0⟩) ∨ (full = false ∧ (s.e = 10 ∨ ∃ m, m < rest.length ∧ s = ⟨rest.take m, 0⟩))
theorem nb8 (x : Nat) (h : x < 18446744073709551616) : nb x ≤ 8 := nb_le8 (by omega)
theorem take_front (a b : List UInt8) (m : Nat) (h : m < (a ++ b).length) : (m < a.length ∧ (a ++ b).take m = a.take m) ∨ ∃ n, n < b.length ∧ (a ++ b).take m = a ++ b.take n := by
  rcases Nat.lt_or_ge m a.length with h1 | h1
  · left
    exact ⟨h1, by rw [List.take_append_of_le_length (by omega)]⟩
  · right
    refine ⟨m - a.length, by rw [List.length_append] at h; omega, ?_⟩
    rw [List.take_append, List.take_of_length_le h1]
theorem q_up (x : Nat) (r : List UInt8) (h : x < 18446744073709551616) : qNum 18446744073709551615 ⟨up x ++ r, 0⟩ = (x, ⟨r, 0⟩) := by
  obtain ⟨h1, h2, h3⟩ := read_up x r (nb8 x h)
  rw [qnum_ok _ _ h1 (by omega), h2, h3]
  congr 2
  rw [← up_length x, List.drop_left]
theorem q_up_cut (x i : Nat) (h : x < 18446744073709551616) (hi : i < (up x).length) : qNum 18446744073709551615 ⟨(up x).take i, 0⟩ = (0, ⟨(up x).take i, 10⟩) := by
  obtain ⟨h1, h2⟩ := read_cut x i (nb8 x h) (by rw [up_length] at hi; exact hi)
  rw [qnum_bad _ _ (by omega), h1]
theorem rd_num (full : Bool) (s : St) (x : Nat) (rest : List UInt8) (h : x < 18446744073709551616) (hR : Rd full s (up x ++ rest)) :
    Rd full (qNum 18446744073709551615 s).2 rest ∧ (full = true → (qNum 18446744073709551615 s).1 = x) := by
  rcases hR with ⟨rfl, rfl⟩ | ⟨rfl, he | ⟨m, hm, rfl⟩⟩
  · rw [q_up x rest h]
    exact ⟨.inl ⟨rfl, rfl⟩, fun _ => rfl⟩
  · rw [qnum_fault _ _ (by omega)]
    exact ⟨.inr ⟨rfl, .inl he⟩, fun h => by simp at h⟩
  · rcases take_front _ _ m hm with ⟨h1, h2⟩ | ⟨n, h1, h2⟩
    · rw [h2, q_up_cut x m h h1]
      exact ⟨.inr ⟨rfl, .inl rfl⟩, fun h => by simp at h⟩
    · rw [h2, q_up x _ h]
      exact ⟨.inr ⟨rfl, .inr ⟨n, h1, rfl⟩⟩, fun h => by simp at h⟩
theorem q_cnt (l r : List UInt8) (h : l.length < 18446744073709551616) : qCount l.length ⟨txt l ++ r, 0⟩ = (l.length, ⟨l ++ r, 0⟩) := by
  obtain ⟨h1, h2, h3⟩ := read_up l.length (l ++ r) (nb8 _ h)
  have e : txt l ++ r = up l.length ++ (l ++ r) := by unfold txt; rw [List.append_assoc]
  have ed : (up l.length ++ (l ++ r)).drop (nb l.length + 1) = l ++ r := by rw [← up_length l.length, List.drop_left]
  rw [e, qcount_ok _ _ h1 (by rw [h2]; omega) (by rw [h2, h3, ed, List.length_append]; omega), h2, h3, ed]
theorem q_txt (l r : List UInt8) (h : l.length < 18446744073709551616) : qText l.length ⟨txt l ++ r, 0⟩ = (l, ⟨r, 0⟩) := by
  unfold qText
  rw [q_cnt l r h]
  dsimp only
  rw [List.take_left, List.drop_left]
theorem q_txt_cut (l : List UInt8) (i : Nat) (h : l.length < 18446744073709551616) (hi : i < (txt l).length) : ((qText l.length ⟨(txt l).take i, 0⟩).2).e = 10 := by
  unfold qText
  dsimp only
  have hi' : i < (up l.length ++ l).length := hi
  rcases take_front _ _ i hi' with ⟨h1, h2⟩ | ⟨n, h1, h2⟩
  · unfold txt
    rw [h2]
    obtain ⟨h3, h4⟩ := read_cut l.length i (nb8 _ h) (by rw [up_length] at h1; exact h1)
    rw [qcount_bad _ _ (by omega), h3]
  · unfold txt
    rw [h2]
    obtain ⟨h3, h4, h5⟩ := read_up l.length (l.take n) (nb8 _ h)
    have ed : (up l.length ++ l.take n).drop (nb l.length + 1) = l.take n := by rw [← up_length l.length, List.drop_left]
    rw [qcount_short _ _ h3 (by rw [h4]; omega) (by rw [h4, h5, ed, List.length_take]; omega)]
theorem rd_text (full : Bool) (s : St) (l rest : List UInt8) (h : l.length < 18446744073709551616) (hR : Rd full s (txt l ++ rest)) :
    Rd full (qText l.length s).2 rest ∧ (full = true → (qText l.length s).1 = l) := by
  rcases hR with ⟨rfl, rfl⟩ | ⟨rfl, he | ⟨m, hm, rfl⟩⟩
  · rw [q_txt l rest h]
    exact ⟨.inl ⟨rfl, rfl⟩, fun _ => rfl⟩
  · refine ⟨.inr ⟨rfl, .inl ?_⟩, fun h => by simp at h⟩
    unfold qText
    rw [qcount_fault _ _ (by omega)]
    exact he
  · rcases take_front _ _ m hm with ⟨h1, h2⟩ | ⟨n, h1, h2⟩
    · rw [h2]
      exact ⟨.inr ⟨rfl, .inl (q_txt_cut l m h h1)⟩, fun h => by simp at h⟩
    · rw [h2, q_txt l _ h]
      exact ⟨.inr ⟨rfl, .inr ⟨n, h1, rfl⟩⟩, fun h => by simp at h⟩
theorem q_bool (is : Bool) (r : List UInt8) : qBool ⟨(if is then 1 else 0) :: r, 0⟩ = (is, ⟨r, 0⟩) := by cases is <;> rfl
theorem rd_bool (full : Bool) (s : St) (is : Bool) (hR : Rd full s [if is then 1 else 0]) :
    (full = true → qBool s = (is, ⟨[], 0⟩)) ∧ (full = false → (qBool s).2.e = 10) := by
  rcases hR with ⟨rfl, rfl⟩ | ⟨rfl, he | ⟨m, hm, rfl⟩⟩
  · exact ⟨fun _ => q_bool is [], fun h => by simp at h⟩
  · refine ⟨fun h => by simp at h, fun _ => ?_⟩
    unfold qBool
    rw [if_pos (by omega)]
    exact he
  · refine ⟨fun h => by simp at h, fun _ => ?_⟩
    obtain rfl : m = 0 := by simpa using hm
    rfl
/-- All that stands behind the first k numbers, the first k texts. -/
def restN (xs : List Nat) (ss : List ByteArray) (is : Bool) (k : Nat) : List UInt8 := nums (xs.drop k) ++ (texts ss ++ [if is then 1 else 0])
def restT (ss : List ByteArray) (is : Bool) (k : Nat) : List UInt8 := texts (ss.drop k) ++ [if is then 1 else 0]
theorem restN_step (xs : List Nat) (ss : List ByteArray) (is : Bool) (k : Nat) (h : k < xs.length) : restN xs ss is k = up xs[k] ++ restN xs ss is (k + 1) := by
  unfold restN nums
  rw [List.drop_eq_getElem_cons h]
  simp only [List.map_cons, List.flatten_cons, List.append_assoc]
theorem restN_end (xs : List Nat) (ss : List ByteArray) (is : Bool) : restN xs ss is xs.length = restT ss is 0 := by
  unfold restN restT nums
  simp
theorem restT_step (ss : List ByteArray) (is : Bool) (k : Nat) (h : k < ss.length) : restT ss is k = txt ss[k].data.toList ++ restT ss is (k + 1) := by
  unfold restT texts
  rw [List.drop_eq_getElem_cons h]
  simp only [List.map_cons, List.flatten_cons, List.append_assoc]
theorem restT_end (ss : List ByteArray) (is : Bool) : restT ss is ss.length = [if is then 1 else 0] := by
  unfold restT texts
  simp
theorem rest_all (xs : List Nat) (ss : List ByteArray) (is : Bool) : nums xs ++ texts ss ++ [if is then 1 else 0] = restN xs ss is 0 := by
  unfold restN
  simp
end Go.Proofs.Ytdbhplahmnlgnaa
