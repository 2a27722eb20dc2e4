/- What the document's own Read and ReadDown answer. -/
import Derived.Test.YtdbhplahmnlgnaaRead
namespace Go.Proofs.Ytdbhplahmnlgnaa
open Go.RowKit Nm
set_option linter.unusedVariables false

theorem at_str (s : ByteArray) (k : Nat) (h : k < s.size) : s.data.toList[k]! = s[k] := by
  rw [getElem!_pos s.data.toList k (by simpa using h)]
  rfl
theorem not_empty (s : ByteArray) (h : 0 < s.size) : s.toList.isEmpty = false := by
  rw [ByteArray.toList_eq]
  cases hl : s.data.toList with
  | nil =>
    have : s.data.toList.length = s.size := by simp
    rw [hl] at this
    simp at this
    omega
  | cons _ _ => rfl
theorem out3 (l : List UInt8) (x n c : Int) (h : ((rx l : Nat) : Int) = x ∧ ((rn l : Nat) : Int) = n ∧ ((cd l : Nat) : Int) = c) : ReadOut l (.returned (.tuple #[.int .u64 x, .int .i64 n, .int .i64 c])) := by
  obtain ⟨rfl, rfl, rfl⟩ := h
  rfl
theorem rd_bad (l : List UInt8) (c : Nat) (h : cd l = c) (hc : 0 < c) : ((rx l : Nat) : Int) = 0 ∧ ((rn l : Nat) : Int) = 0 ∧ ((cd l : Nat) : Int) = c := by
  unfold rx rn
  rw [if_neg (by omega), if_neg (by omega), h]
  exact ⟨rfl, rfl, rfl⟩

theorem rd_good (l : List UInt8) (n y : Nat) (hn : (l[0]!).toNat = n) (h : cd l = 0) (hy : y = val ((l.drop 1).take n)) : ((rx l : Nat) : Int) = (y : Nat) ∧ ((rn l : Nat) : Int) = 1 + (n : Int) ∧ ((cd l : Nat) : Int) = 0 := by
  unfold rx rn
  rw [if_pos h, if_pos h, h, hn, ← hy]
  refine ⟨rfl, ?_, rfl⟩
  omega
theorem read_step2 (l : List UInt8) (n k y : Nat) (hk : k < n) (hn : n ≤ 8) (hl1 : n < l.length) (hy : y = val ((l.drop 1).take k)) :
    y < 72057594037927936 ∧ 256 * y + (l[1 + k]!).toNat = val ((l.drop 1).take (k + 1)) := by
  have hl : ((l.drop 1).take k).length = k := by simp; omega
  constructor
  · have := val_lt ((l.drop 1).take k)
    rw [hl, ← hy] at this
    have h2 : 256 ^ k ≤ 256 ^ 7 := Nat.pow_le_pow_right (by omega) (by omega)
    omega
  · rw [List.take_succ_eq_append_getElem (by simp; omega), val_snoc, ← hy]
    congr 2
    rw [getElem!_pos l (1 + k) (by omega), List.getElem_drop]
set_option maxRecDepth 100000 in
theorem refread_core (s : ByteArray) (l : List UInt8) (n : Nat) (HL : Hid (s.data.toList = l)) (HN : Hid ((l[0]!).toNat = n)) (w : World) (hs : s.size ≤ maxLen) :
    Calls Try.prog 37 #[.string s] w fun e w' => ReadOut l e ∧ Kept w w' := by
  unfold maxLen at hs
  have hls : s.size = l.length := by rw [← HL.out]; simp
  rcases Nat.eq_zero_or_pos s.size with h0 | h0
  · have HC : Hid (cd l = 10) := cd_short l n HN.out (Or.inl (by omega))
    clear HN
    obtain rfl : s = ⟨#[]⟩ := by apply ByteArray.ext; exact Array.eq_empty_of_size_eq_zero h0
    clear hls hs
    go_enter Try.func37, Try.ntmps37
    go_wp2_with fail
    go_ret3
    exact ⟨out3 _ _ _ _ (rd_bad l 10 HC.out (by omega)), Kept.refl _⟩
  · have hs0 : s[0].toNat = n := by rw [← at_str s 0 h0, HL.out, HN.out]
    have HLS := Lib.hid hls
    clear hls
    have he := not_empty s h0
    have hn255 : n ≤ 255 := by have := (l[0]!).toNat_lt; have := HN.out; omega
    rcases Nat.lt_or_ge 8 n with h8 | h8
    · have HC : Hid (cd l = 8) := cd_form l (by have := HLS.out; omega) (by rw [HN.out]; exact h8)
      go_enter Try.func37, Try.ntmps37
      go_wp2_with fail
      go_ret3
      exact ⟨out3 _ _ _ _ (rd_bad l 8 HC.out (by omega)), Kept.refl _⟩
    · rcases Nat.lt_or_ge s.size (1 + n) with h9 | h9
      · have HC : Hid (cd l = 10) := cd_short l n HN.out (Or.inr ⟨h8, by have := HLS.out; omega⟩)
        go_enter Try.func37, Try.ntmps37
        go_wp2_with fail
        go_ret3
        exact ⟨out3 _ _ _ _ (rd_bad l 10 HC.out (by omega)), Kept.refl _⟩
      · go_enter Try.func37, Try.ntmps37
        go_wp2_with fail
        go_loop [6, 7] (fun x i => ∃ (k y : Nat), k ≤ n ∧ i = .int .i64 ((k : Int) + 1) ∧ x = .int .u64 (y : Nat) ∧ Hid (y = val ((l.drop 1).take k))) (fun _ i => n + 1 - (intOf i).toNat)
        case atStart => exact ⟨0, 0, Nat.zero_le _, rfl, rfl, rfl⟩
        case round =>
          obtain ⟨k, y, hk, rfl, rfl, HY⟩ := hrel
          by_cases hlt : k < n
          · obtain ⟨hb, hq⟩ := read_step2 l n k y hlt h8 (by have := HLS.out; omega) HY.out
            obtain ⟨b, hb1⟩ : ∃ b : UInt8, l[1 + k]! = b := ⟨_, rfl⟩
            have hbk : s[k + 1] = b := by rw [← hb1, ← HL.out, ← at_str s (k + 1) (by omega), Nat.add_comm]
            have hb2 := b.toNat_lt
            rw [hb1] at hq
            clear hb1
            go_wp2_with fail
            exact ⟨⟨k + 1, 256 * y + b.toNat, by omega, by go_num, by go_num, hq⟩, by simp [intOf]; omega⟩
          · obtain rfl : k = n := by omega
            by_cases hk0 : 0 < k
            · obtain ⟨b, hb1⟩ : ∃ b : UInt8, l[1]! = b := ⟨_, rfl⟩
              have hbk : s[1] = b := by rw [← hb1, ← HL.out, ← at_str s 1 (by omega)]
              have HB := Lib.hid hb1
              clear hb1
              by_cases hb0 : b.toNat = 0
              · have HC : Hid (cd l = 8) := cd_lead l k HN.out (by have := HLS.out; omega) h8 hk0 (by rw [HB.out]; exact UInt8.toNat_inj.1 hb0)
                go_wp2_with fail
                go_ret3
                exact ⟨out3 _ _ _ _ (rd_bad l 8 HC.out (by omega)), Kept.refl _⟩
              · have hb0' : ((b.toNat : Int) == 0) = false := beq_eq_false_iff_ne.2 (by omega)
                have HC : Hid (cd l = 0) := cd_ok l k HN.out (by have := HLS.out; omega) h8 (Or.inr (by rw [HB.out]; intro e; rw [e] at hb0; exact hb0 rfl))
                clear hb0
                go_wp2_with fail
                go_ret3
                exact ⟨out3 _ _ _ _ (rd_good l k y HN.out HC.out HY.out), Kept.refl _⟩
            · have HC : Hid (cd l = 0) := cd_ok l k HN.out (by have := HLS.out; omega) h8 (Or.inl (by omega))
              go_wp2_with fail
              go_ret3
              exact ⟨out3 _ _ _ _ (rd_good l k y HN.out HC.out HY.out), Kept.refl _⟩

theorem refread_any (s : ByteArray) (w : World) (hs : s.size ≤ maxLen) :
    Calls Try.prog 37 #[.string s] w fun e w' => ReadOut s.data.toList e ∧ Kept w w' :=
  refread_core s _ _ rfl rfl w hs

theorem front (m : List UInt8) (h : 9 < m.length) : cd (m.take 9) = cd m ∧ rx (m.take 9) = rx m ∧ rn (m.take 9) = rn m := by
  have e0 : (m.take 9)[0]! = m[0]! := by rw [getElem!_pos _ 0 (by simp; omega), getElem!_pos m 0 (by omega), List.getElem_take]
  have e1 : (m.take 9)[1]! = m[1]! := by rw [getElem!_pos _ 1 (by simp; omega), getElem!_pos m 1 (by omega), List.getElem_take]
  have hl : (m.take 9).length = 9 := by simp; omega
  have hc : cd (m.take 9) = cd m := by
    have n1 : m.take 9 ≠ [] := by intro e; rw [e] at hl; simp at hl
    have n2 : m ≠ [] := by intro e; rw [e] at h; simp at h
    unfold cd
    rw [if_neg n1, if_neg n2, e0, e1, hl]
    by_cases h8 : 8 < (m[0]!).toNat
    · rw [if_pos h8, if_pos h8]
    · rw [if_neg h8, if_neg h8, if_neg (show ¬ 9 ≤ (m[0]!).toNat by omega), if_neg (show ¬ m.length ≤ (m[0]!).toNat by omega)]
  refine ⟨hc, ?_, ?_⟩
  · unfold rx
    rw [hc, e0]
    by_cases h0 : cd m = 0
    · have := (cd_len m h0).2
      rw [if_pos h0, if_pos h0, List.drop_take, List.take_take, Nat.min_eq_left (by omega)]
    · rw [if_neg h0, if_neg h0]
  · unfold rn
    rw [hc, e0]
theorem turn_take (t : UInt8) (l : List UInt8) (k : Nat) : turn t (l.take k) = (turn t l).take k := by unfold turn; rw [List.map_take]

end Go.Proofs.Ytdbhplahmnlgnaa
