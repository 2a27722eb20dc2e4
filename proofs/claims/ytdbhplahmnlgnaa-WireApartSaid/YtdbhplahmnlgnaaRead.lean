/- What num.read answers. -/
import Derived.Test.YtdbhplahmnlgnaaTake
namespace Go.Proofs.Ytdbhplahmnlgnaa
open Go.RowKit Nm
set_option linter.unusedVariables false

/-- The number at the front of bytes, how many bytes it has there. -/
def rx (l : List UInt8) : Nat := if cd l = 0 then val ((l.drop 1).take (l[0]!).toNat) else 0
def rn (l : List UInt8) : Nat := if cd l = 0 then (l[0]!).toNat + 1 else 0

theorem slice_lh (n : Nat) (hn : n ≤ 8) (w : World) (b : Nat) : (Instr.sliceAt 83 (.pointer (some ⟨b, 0, none⟩)) (some (.int .i64 1)) (some (.int .i64 (1 + (n : Int)))) none).run Try.prog w = .ok (.slice (some ⟨b, 1, none⟩) n 8) w := by
  rw [run_sliceAt_array_lh w _ _ is_arr .i64 .i64 1 (1 + (n : Int)) (by omega) (by omega) (by rw [len_arr]; omega), size_elem, len_arr]
  have e : (1 + (n : Int)).toNat = n + 1 := by omega
  have e1 : (1 : Int).toNat = 1 := rfl
  rw [e, e1]
  simp [Result.andThen, slicedAt, Addr.add]
set_option maxRecDepth 100000 in
theorem read_bad (s : ByteArray) (t : UInt8) (l : List UInt8) (HL : Hid (turn t s.data.toList = l)) (c : Nat) (hc : 0 < c) (hc2 : c ≤ 10) (HC : Hid (cd l = c)) (w : World) (hs : s.size ≤ maxLen) :
    Calls Try.prog 51 #[.string s, .int .u8 (t.toNat : Nat)] w fun e w' => e = .returned (.tuple #[.int .u64 0, .int .i64 0, .int .i64 (c : Nat)]) ∧ Kept w w' := by
  go_enter Try.func51, Try.ntmps51
  go_wp2_with fail
  refine (take_any s t _ hs).mono ?_
  rintro e w1 ⟨he, hg⟩
  unfold TakeOut at he
  rw [HL.out, HC.out, if_neg (by omega), ← arr_zero] at he
  subst he
  go_wp2_with fail
  go_ret3
  exact ⟨rfl, hg.alloc _⟩
theorem dg_zero (l : List UInt8) (n : Nat) (hn : (l[0]!).toNat = n) : (dg l 0).toNat = n := by unfold dg; rw [if_pos (by omega), hn]
theorem cd_len (l : List UInt8) (h : cd l = 0) : (l[0]!).toNat < l.length ∧ (l[0]!).toNat ≤ 8 := by
  unfold cd at h
  by_cases h1 : l = []
  · rw [if_pos h1] at h; omega
  · rw [if_neg h1] at h
    by_cases h2 : 8 < (l[0]!).toNat
    · rw [if_pos h2] at h; omega
    · rw [if_neg h2] at h
      by_cases h3 : l.length ≤ (l[0]!).toNat
      · rw [if_pos h3] at h; omega
      · omega
theorem read_step (l : List UInt8) (n k y : Nat) (hk : k < n) (hn : n ≤ 8) (HN : (l[0]!).toNat = n) (HC : cd l = 0) (hy : y = val ((l.drop 1).take k)) :
    y < 72057594037927936 ∧ 256 * y + (dg l (1 + k)).toNat = val ((l.drop 1).take (k + 1)) := by
  obtain ⟨h1, _⟩ := cd_len l HC
  have hl : ((l.drop 1).take k).length = k := by simp; omega
  constructor
  · have := val_lt ((l.drop 1).take k)
    rw [hl, ← hy] at this
    have h2 : 256 ^ k ≤ 256 ^ 7 := Nat.pow_le_pow_right (by omega) (by omega)
    omega
  · rw [List.take_succ_eq_append_getElem (by simp; omega), val_snoc, ← hy]
    congr 2
    unfold dg
    rw [if_pos (by omega), getElem!_pos l (1 + k) (by omega), List.getElem_drop]
theorem or_byte (y b : Nat) (hy : y < 72057594037927936) (hb : b < 256) : bits .or .u64 ((y : Int) * 256) (IntKind.u64.wrap (b : Int)) = ((256 * y + b : Nat) : Int) := by
  rw [IntKind.wrap_u64, show ((b : Int) % 18446744073709551616) = (b : Int) from by omega, show ((y : Int) * 256) = ((256 * y : Nat) : Int) from by omega, u64_or_nat _ _ (by omega) (by omega)]
  congr 1
  exact (Nat.two_pow_add_eq_or_of_lt (i := 8) (b := b) (by omega) y).symm
theorem read_end (y x k : Nat) (h : y = x) : Ending.returned (.tuple #[.int .u64 (y : Int), .int .i64 (1 + (k : Int)), .int .i64 0]) = Ending.returned (.tuple #[.int .u64 (x : Int), .int .i64 ((k : Int) + 1), .int .i64 0]) := by
  subst h
  rw [Int.add_comm]
set_option maxRecDepth 100000 in
theorem read_ok (s : ByteArray) (t : UInt8) (l : List UInt8) (HL : Hid (turn t s.data.toList = l)) (n : Nat) (HN : Hid ((l[0]!).toNat = n)) (hn : n ≤ 8) (HC : Hid (cd l = 0)) (w : World) (hs : s.size ≤ maxLen) :
    Calls Try.prog 51 #[.string s, .int .u8 (t.toNat : Nat)] w fun e w' => e = .returned (.tuple #[.int .u64 (val ((l.drop 1).take n) : Nat), .int .i64 ((n : Int) + 1), .int .i64 0]) ∧ Kept w w' := by
  go_enter Try.func51, Try.ntmps51
  go_wp2_with fail
  refine (take_any s t _ hs).mono ?_
  rintro e w1 ⟨he, hg⟩
  have hd0 : (dg l 0).toNat = n := by unfold dg; rw [if_pos (by omega), HN.out]
  unfold TakeOut at he
  rw [HL.out, HC.out, if_pos rfl, arr_lit, hd0] at he
  subst he
  clear hd0
  have hsl := slice_lh n hn
  go_wp2_with fail
  clear hsl
  go_loopw [4, 10, 27] (fun x _ i wr => ∃ (k : Nat) (y : Nat), k ≤ n ∧ i = .int .i64 k ∧ x = .int .u64 (y : Nat) ∧ Hid (y = val ((l.drop 1).take k)) ∧ wr = w1.alloc (.cells (arr (dg l)) 83)) (fun _ _ i _ => n - (intOf i).toNat)
  case atStart => exact ⟨0, 0, Nat.zero_le _, rfl, rfl, rfl, by rw [arr_lit, dg_zero l n HN.out]⟩
  case round =>
    obtain ⟨k, y, hk, rfl, rfl, HY, rfl⟩ := hrel
    by_cases hlt : k < n
    · obtain ⟨hb, hq⟩ := read_step l n k y hlt hn HN.out HC.out HY.out
      have hget := arr_get (dg l) (1 + k) (by omega)
      go_wp2_with fail
      exact ⟨⟨k + 1, 256 * y + (dg l (1 + k)).toNat, by omega, by go_num, by rw [or_byte y _ hb (dg l (1 + k)).toNat_lt], hq, trivial⟩, by simp [intOf]; omega⟩
    · obtain rfl : k = n := by omega
      go_wp2_with fail
      go_ret3
      refine ⟨read_end y _ k HY.out, hg.alloc _⟩

/-- What read answers, of bytes as they come to be when they are turned. -/
def ReadOut (l : List UInt8) (e : Ending) : Prop := e = .returned (.tuple #[.int .u64 (rx l : Nat), .int .i64 (rn l : Nat), .int .i64 (cd l : Nat)])
theorem cd_le (l : List UInt8) : cd l ≤ 10 := by
  unfold cd
  split
  · omega
  · split
    · omega
    · split
      · omega
      · split <;> omega
theorem read_any (s : ByteArray) (t : UInt8) (w : World) (hs : s.size ≤ maxLen) :
    Calls Try.prog 51 #[.string s, .int .u8 (t.toNat : Nat)] w fun e w' => ReadOut (turn t s.data.toList) e ∧ Kept w w' := by
  generalize hl : turn t s.data.toList = l
  unfold ReadOut rx rn
  by_cases h : cd l = 0
  · rw [if_pos h, if_pos h, h]
    refine (read_ok s t l hl _ rfl (cd_len l h).2 h w hs).mono ?_
    rintro e w' ⟨rfl, hg⟩
    exact ⟨by simp, hg⟩
  · rw [if_neg h, if_neg h]
    exact read_bad s t l hl (cd l) (by omega) (cd_le l) rfl w hs

theorem up_read (s : ByteArray) (w : World) (hs : s.size ≤ maxLen) :
    Calls Try.prog 36 #[.string s] w fun e w' => ReadOut s.data.toList e ∧ Kept w w' := by
  go_enter Try.func36, Try.ntmps36
  go_wp2_with fail
  refine (read_any s 0 _ hs).mono ?_
  rintro e w' ⟨he, hg⟩
  rw [turn_zero] at he
  have he' := he
  unfold ReadOut at he
  subst he
  go_wp2_with fail
  go_ret3
  exact ⟨he', hg⟩
end Go.Proofs.Ytdbhplahmnlgnaa
