/- What the program's reader answers: Count, Text, Rest, End, Bool. -/
import Derived.Test.YtdbhplahmnlgnaaWireCode2
namespace Go.Proofs.Ytdbhplahmnlgnaa
open Go.RowKit _root_.Go.Proofs.Ytdbhplahmnlgnaa.Nm Wr
set_option linter.unusedVariables false
/-- What stands at the front of bytes as the number of things behind it: that number, its own bytes, what is wrong. -/
def lenOf (m : Int) (l : List UInt8) : Nat × Nat × Nat :=
  if cd l ≠ 0 then (0, 0, cd l) else if m < 0 ∨ m < rx l then (0, 0, 4) else if (l.drop (rn l)).length < rx l then (0, 0, 10) else (rx l, rn l, 0)
theorem lenOf_bad (m : Int) (l : List UInt8) (hc : cd l ≠ 0) : lenOf m l = (0, 0, cd l) := by unfold lenOf; rw [if_pos hc]
theorem lenOf_long (m : Int) (l : List UInt8) (hc : cd l = 0) (hm : m < 0 ∨ m < rx l) : lenOf m l = (0, 0, 4) := by unfold lenOf; rw [if_neg (not_not_intro hc), if_pos hm]
theorem lenOf_short (m : Int) (l : List UInt8) (hc : cd l = 0) (hm : ¬(m < 0 ∨ m < rx l)) (hx : (l.drop (rn l)).length < rx l) : lenOf m l = (0, 0, 10) := by unfold lenOf; rw [if_neg (not_not_intro hc), if_neg hm, if_pos hx]
theorem lenOf_ok (m : Int) (l : List UInt8) (hc : cd l = 0) (hm : ¬(m < 0 ∨ m < rx l)) (hx : ¬(l.drop (rn l)).length < rx l) : lenOf m l = (rx l, rn l, 0) := by unfold lenOf; rw [if_neg (not_not_intro hc), if_neg hm, if_neg hx]
theorem lenOf_count (m : Int) (l : List UInt8) : qCount m ⟨l, 0⟩ = if (lenOf m l).2.2 = 0 then ((lenOf m l).1, ⟨l.drop (lenOf m l).2.1, 0⟩) else (0, ⟨l, (lenOf m l).2.2⟩) := by
  by_cases hc : cd l = 0
  · by_cases hm : m < 0 ∨ m < rx l
    · rw [qcount_long m l hc hm, lenOf_long m l hc hm, if_neg (by decide)]
    · by_cases hx : (l.drop (rn l)).length < rx l
      · rw [qcount_short m l hc hm hx, lenOf_short m l hc hm hx, if_neg (by decide)]
      · rw [qcount_ok m l hc hm hx, lenOf_ok m l hc hm hx, if_pos rfl]
  · rw [qcount_bad m l hc, lenOf_bad m l hc, if_neg hc]
theorem lenOf_le (m : Int) (l : List UInt8) : (lenOf m l).2.1 + (lenOf m l).1 ≤ l.length := by
  unfold lenOf
  by_cases hc : cd l = 0
  · rw [if_neg (by simpa using hc)]
    by_cases hm : m < 0 ∨ m < rx l
    · rw [if_pos hm]; simp
    · rw [if_neg hm]
      by_cases hx : (l.drop (rn l)).length < rx l
      · rw [if_pos hx]; simp
      · rw [if_neg hx]
        have := rn_le l
        rw [List.length_drop] at hx
        dsimp only
        omega
  · rw [if_pos hc]; simp
theorem lenOf_zero (m : Int) (l : List UInt8) (h : (lenOf m l).2.2 ≠ 0) : (lenOf m l).1 = 0 ∧ (lenOf m l).2.1 = 0 := by
  unfold lenOf at *
  by_cases hc : cd l = 0
  · rw [if_neg (by simpa using hc)] at *
    by_cases hm : m < 0 ∨ m < rx l
    · rw [if_pos hm] at *; exact ⟨rfl, rfl⟩
    · rw [if_neg hm] at *
      by_cases hx : (l.drop (rn l)).length < rx l
      · rw [if_pos hx] at *; exact ⟨rfl, rfl⟩
      · rw [if_neg hx] at *; exact absurd rfl h
  · rw [if_pos hc]; exact ⟨rfl, rfl⟩
set_option maxRecDepth 100000 in
theorem length_any (t : ByteArray) (m : Int) (a n c : Nat) (w : World) (hz : t.size ≤ 281474976710656) (h0 : -9223372036854775808 ≤ m) (h1 : m ≤ 9223372036854775807) (h : lenOf m t.data.toList = (a, n, c)) :
    Calls Try.prog 40 #[.string t, .int .i64 m] w fun e w' => e = .returned (.tuple #[.int .i64 (a : Nat), .int .i64 (n : Nat), .int .i64 (c : Nat)]) ∧ Kept w w' := by
  have HZ := Lib.hid hz
  have hxl := rx_lt t.data.toList
  have hn' := rn_le t.data.toList
  rw [data_len] at hn'
  have hdl : (t.data.toList.drop (rn t.data.toList)).length = t.size - rn t.data.toList := by rw [List.length_drop, data_len]
  unfold lenOf at h
  rw [hdl] at h
  clear hdl
  obtain ⟨x, hx⟩ : ∃ x, rx t.data.toList = x := ⟨_, rfl⟩
  obtain ⟨k, hk⟩ : ∃ k, rn t.data.toList = k := ⟨_, rfl⟩
  obtain ⟨d, hd⟩ : ∃ d, cd t.data.toList = d := ⟨_, rfl⟩
  rw [hx, hk, hd] at h
  rw [hx] at hxl
  rw [hk] at hn'
  go_enter Try.func40, Try.ntmps40
  go_wp2_with fail
  refine (up_read t _ (by unfold maxLen; have := HZ.out; omega)).mono ?_
  rintro e w1 ⟨he, hk1⟩
  unfold ReadOut at he
  rw [hx, hk, hd] at he
  subst he
  have HK := Lib.hid hk1
  clear hk1 hx hk hd
  by_cases hc : d = 0
  · subst hc
    rw [if_neg (by simp)] at h
    by_cases hm0 : m < 0
    · rw [if_pos (Or.inl hm0)] at h
      obtain ⟨rfl, rfl, rfl⟩ : 0 = a ∧ 0 = n ∧ 4 = c := by simpa using h
      clear h
      go_wp2_with fail
      go_ret3
      exact ⟨rfl, HK.out⟩
    · by_cases hm : m < (x : Int)
      · rw [if_pos (Or.inr hm)] at h
        obtain ⟨rfl, rfl, rfl⟩ : 0 = a ∧ 0 = n ∧ 4 = c := by simpa using h
        clear h
        have hm2 : 0 ≤ m := by omega
        clear hm0
        go_wp2_with fail
        go_ret3
        exact ⟨rfl, HK.out⟩
      · rw [if_neg (by omega)] at h
        have hm2 : 0 ≤ m := by omega
        clear hm0
        by_cases hs : t.size - k < x
        · rw [if_pos hs] at h
          obtain ⟨rfl, rfl, rfl⟩ : 0 = a ∧ 0 = n ∧ 10 = c := by simpa using h
          clear h
          go_wp2_with fail
          go_ret3
          exact ⟨rfl, HK.out⟩
        · rw [if_neg hs] at h
          obtain ⟨rfl, rfl, rfl⟩ : x = a ∧ k = n ∧ 0 = c := by simpa using h
          clear h
          go_wp2_with fail
          go_ret3
          exact ⟨rfl, HK.out⟩
  · rw [if_pos hc] at h
    obtain ⟨rfl, rfl, rfl⟩ : 0 = a ∧ 0 = n ∧ d = c := by simpa using h
    have hne := int_ne _ hc
    clear h
    go_wp2_with fail
    go_ret3
    exact ⟨rfl, HK.out⟩
set_option maxRecDepth 100000 in
theorem countlook (t : ByteArray) (m : Int) (a n c : Nat) (q : Addr) (w : World) (hz : t.size ≤ 281474976710656) (hq : w.cell? q = some (.int .i64 m)) (h0 : -9223372036854775808 ≤ m) (h1 : m ≤ 9223372036854775807) (h : lenOf m t.data.toList = (a, n, c)) :
    Calls Try.prog 45 #[.string t, .pointer (some q)] w fun e w' => e = .returned (.tuple #[.int .i64 (a : Nat), .int .i64 (n : Nat), .int .i64 (c : Nat)]) ∧ Kept w w' := by
  have HZ := Lib.hid hz
  go_enter Try.func45, Try.ntmps45
  go_wp2_with fail
  refine (length_any t m a n c _ HZ.out h0 h1 h).mono ?_
  rintro e w1 ⟨rfl, hk⟩
  have HK := Lib.hid hk
  clear hk h hq
  go_wp2_with fail
  go_ret3
  exact ⟨rfl, HK.out⟩
set_option maxRecDepth 100000 in
set_option maxHeartbeats 1000000 in
theorem textlook (t : ByteArray) (m : Int) (a n c : Nat) (q : Addr) (w : World) (hz : t.size ≤ 281474976710656) (hq : w.cell? q = some (.int .i64 m)) (h0 : -9223372036854775808 ≤ m) (h1 : m ≤ 9223372036854775807) (h : lenOf m t.data.toList = (a, n, c)) :
    Calls Try.prog 39 #[.string t, .pointer (some q)] w fun e w' => e = .returned (.tuple #[.string (t.extract n (n + a)), .int .i64 ((n + a : Nat) : Nat), .int .i64 (c : Nat)]) ∧ Kept w w' := by
  have HZ := Lib.hid hz
  have hle := lenOf_le m t.data.toList
  rw [h, data_len] at hle
  dsimp only at hle
  go_enter Try.func39, Try.ntmps39
  go_wp2_with fail
  refine (length_any t m a n c _ HZ.out h0 h1 h).mono ?_
  rintro e w1 ⟨rfl, hk⟩
  have HK := Lib.hid hk
  clear hk h hq
  have hsl : (Instr.slice 9 (.string t) (some (.int .i64 n)) (some (.int .i64 ((n : Int) + (a : Int)))) none).run Try.prog w1 = .ok (.string (t.extract n (n + a))) w1 := by
    have h := run_slice_string (P := Try.prog) w1 9 t .i64 .i64 (n : Int) ((n : Int) + (a : Int)) Try.underlying9 (by omega) (by omega) (by omega)
    rw [show ((n : Int) + (a : Int)).toNat = n + a from by omega, show ((n : Int)).toNat = n from by omega] at h
    exact h
  go_wp2_with fail
  refine (clone_any (t.extract n (n + a)) _ (by rw [ByteArray.size_extract]; omega)).mono ?_
  rintro e w2 ⟨rfl, hk⟩
  have HK2 := Lib.hid (HK.out.trans hk)
  clear hk
  go_wp2_with fail
  go_ret3
  exact ⟨rfl, HK2.out⟩
end Go.Proofs.Ytdbhplahmnlgnaa
