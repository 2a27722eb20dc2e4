/- Take, Read, RefRead, BackMath, SumMath, SumRow, SumCat. -/
import Derived.Test.YtmgkkoajjdgmbaaGreatDoorPart5
import Derived.BigQuiet
import Derived.Deep.QuietTactic
set_option linter.unusedVariables false
set_option linter.unusedSimpArgs false
set_option linter.unusedSectionVars false
set_option linter.unnecessarySimpa false
set_option linter.deprecated false
/- What num.take and num.read answer. -/
namespace Go.Proofs.YtmgkkoajjdgmbaaGreatDoor
open Go.RowKit Nm
set_option linter.unusedVariables false

/-- What is wrong with bytes at whose front a number should stand (0: nothing). -/
def cd (l : List UInt8) : Nat :=
  if l = [] then 10 else if 8 < (l[0]!).toNat then 8 else if l.length ≤ (l[0]!).toNat then 10 else if 0 < (l[0]!).toNat ∧ l[1]! = 0 then 8 else 0
/-- A number's bytes in an array of nine. -/
def dg (l : List UInt8) (j : Nat) : UInt8 := if j ≤ (l[0]!).toNat then l[j]! else 0
/-- The first k bytes, then 0. -/
def fr (l : List UInt8) (k j : Nat) : UInt8 := if j < k then l[j]! else 0

theorem arr_zero : #[Value.int .u8 0, .int .u8 0, .int .u8 0, .int .u8 0, .int .u8 0, .int .u8 0, .int .u8 0, .int .u8 0, .int .u8 0] = arr (fun _ => 0) := rfl
theorem arr_lit (f : Nat → UInt8) : arr f = #[.int .u8 ((f 0).toNat : Nat), .int .u8 ((f 1).toNat : Nat), .int .u8 ((f 2).toNat : Nat), .int .u8 ((f 3).toNat : Nat), .int .u8 ((f 4).toNat : Nat), .int .u8 ((f 5).toNat : Nat), .int .u8 ((f 6).toNat : Nat), .int .u8 ((f 7).toNat : Nat), .int .u8 ((f 8).toNat : Nat)] := rfl
theorem fr_zero (l : List UInt8) : fr l 0 = fun _ => 0 := by funext j; simp [fr]
theorem fr_step (l : List UInt8) (k : Nat) : (fun j => if j = k then l[k]! else fr l k j) = fr l (k + 1) := by
  funext j
  unfold fr
  by_cases h : j = k
  · subst h; rw [if_pos rfl, if_pos (by omega)]
  · rw [if_neg h]
    by_cases h1 : j < k
    · rw [if_pos h1, if_pos (by omega)]
    · rw [if_neg h1, if_neg (by omega)]
theorem turn_at (s : ByteArray) (t : UInt8) (k : Nat) (h : k < s.size) : (turn t s.data.toList)[k]! = s[k] ^^^ t := by
  rw [getElem!_pos _ k (by rw [turn_length]; simpa using h)]
  unfold turn
  rw [List.getElem_map]
  rfl

/-- What take answers. -/
def TakeOut (l : List UInt8) (e : Ending) : Prop := e = .returned (.tuple #[.agg (arr (if cd l = 0 then dg l else fun _ => 0)), .int .i64 (cd l : Nat)])
theorem cd_form (l : List UInt8) (h0 : 0 < l.length) (h : 8 < (l[0]!).toNat) : cd l = 8 := by
  unfold cd
  rw [if_neg (by intro e; subst e; simp at h0), if_pos h]
theorem cd_short (l : List UInt8) (n : Nat) (hn : (l[0]!).toNat = n) (h : l.length = 0 ∨ (n ≤ 8 ∧ l.length ≤ n)) : cd l = 10 := by
  subst hn
  unfold cd
  by_cases e : l = []
  · rw [if_pos e]
  · have : l.length ≠ 0 := fun h => e (List.length_eq_zero_iff.1 h)
    rw [if_neg e, if_neg (by omega), if_pos (by omega)]
theorem cd_lead (l : List UInt8) (n : Nat) (hn : (l[0]!).toNat = n) (h : n < l.length) (h8 : n ≤ 8) (h0 : 0 < n) (h1 : l[1]! = 0) : cd l = 8 := by
  subst hn
  unfold cd
  rw [if_neg (by intro e; subst e; simp at h), if_neg (by omega), if_neg (by omega), if_pos ⟨h0, h1⟩]
theorem cd_ok (l : List UInt8) (n : Nat) (hn : (l[0]!).toNat = n) (h : n < l.length) (h8 : n ≤ 8) (h1 : n = 0 ∨ l[1]! ≠ 0) : cd l = 0 := by
  subst hn
  unfold cd
  rw [if_neg (by intro e; subst e; simp at h), if_neg (by omega), if_neg (by omega), if_neg]
  rintro ⟨h2, h3⟩
  rcases h1 with h1 | h1
  · omega
  · exact h1 h3
theorem out_bad (l : List UInt8) (c : Nat) (h : cd l = c) (hc : c ≠ 0) : TakeOut l (.returned (.tuple #[.agg #[.int .u8 0, .int .u8 0, .int .u8 0, .int .u8 0, .int .u8 0, .int .u8 0, .int .u8 0, .int .u8 0, .int .u8 0], .int .i64 (c : Int)])) := by
  unfold TakeOut
  rw [h, if_neg hc, arr_zero]
theorem out_ok (l : List UInt8) (n : Nat) (hn : (l[0]!).toNat = n) (h : cd l = 0) : TakeOut l (.returned (.tuple #[.agg #[.int .u8 (n : Int), .int .u8 ((fr l (n + 1) 1).toNat : Nat), .int .u8 ((fr l (n + 1) 2).toNat : Nat), .int .u8 ((fr l (n + 1) 3).toNat : Nat), .int .u8 ((fr l (n + 1) 4).toNat : Nat), .int .u8 ((fr l (n + 1) 5).toNat : Nat), .int .u8 ((fr l (n + 1) 6).toNat : Nat), .int .u8 ((fr l (n + 1) 7).toNat : Nat), .int .u8 ((fr l (n + 1) 8).toNat : Nat)], .int .i64 0])) := by
  unfold TakeOut
  have e : dg l = fr l (n + 1) := by
    funext j
    unfold dg fr
    rw [hn]
    by_cases hj : j ≤ n
    · rw [if_pos hj, if_pos (by omega)]
    · rw [if_neg hj, if_neg (by omega)]
  have e0 : (fr l (n + 1) 0).toNat = n := by unfold fr; rw [if_pos (by omega), hn]
  rw [h, if_pos rfl, e, arr_lit, e0]
  rfl
set_option maxRecDepth 100000 in
theorem take_core (s : ByteArray) (t : UInt8) (l : List UInt8) (n : Nat) (HL : Hid (turn t s.data.toList = l)) (HN : Hid ((l[0]!).toNat = n)) (w : World) (hs : s.size ≤ maxLen) :
    Calls Tryz.prog 140 #[.string s, .int .u8 (t.toNat : Nat)] w fun e w' => TakeOut l e ∧ Kept w w' := by
  unfold maxLen at hs
  have HZ := Lib.hid arr_zero
  go_enter Tryz.func140, Tryz.ntmps140
  go_wp2_with fail
  go_step3
  go_wp2_with fail
  go_step3
  go_wp2_with fail
  go_loopw [7] (fun i wr => ∃ k : Nat, k ≤ s.size ∧ i = .int .i64 k ∧ Hid (k = 0 ∨ (k ≤ n ∧ n ≤ 8)) ∧ wr = (w.alloc (.cells #[.int .u8 0, .int .u8 0, .int .u8 0, .int .u8 0, .int .u8 0, .int .u8 0, .int .u8 0, .int .u8 0, .int .u8 0] 193)).alloc (.cells (arr (fr l k)) 193)) (fun i _ => s.size - (intOf i).toNat)
  case atStart =>
    exact ⟨0, Nat.zero_le _, rfl, Or.inl rfl, by rw [fr_zero, ← HZ.out]⟩
  case round =>
    obtain ⟨k, hk, rfl, HK, rfl⟩ := hrel
    by_cases hlt : k < s.size
    · have hk8 : k ≤ 8 := by rcases HK.out with h | h <;> omega
      have hset : (arr (fr l k)).setIfInBounds k (.int .u8 (bits .xor .u8 ((s[k].toNat : Nat) : Int) ((t.toNat : Nat) : Int))) = arr (fr l (k + 1)) := by
        rw [xor_u8]
        exact arr_set _ _ k _ (by omega) (by rw [← turn_at s t k hlt, HL.out]; exact fr_step l k)
      have hget := arr_get (fr l k) k (by omega)
      have hg0 : (arr (fr l (k + 1)))[0]? = some (.int .u8 (n : Nat)) := by
        rw [arr_get _ 0 (by omega)]
        unfold fr
        rw [if_pos (by omega), HN.out]
      have hls : s.size = l.length := by rw [← HL.out, turn_length]; simp
      have HLS := Lib.hid hls
      clear hls
      rcases Nat.lt_or_ge 8 n with h8 | h8
      · go_wp2_with fail
        rw [Exit.noGoto_ret]
        exact bodyPost_ret (v := .tuple #[.agg #[.int .u8 0, .int .u8 0, .int .u8 0, .int .u8 0, .int .u8 0, .int .u8 0, .int .u8 0, .int .u8 0, .int .u8 0], .int .i64 8]) (by simp [results, Tryz.results140, go_sem]) rfl ⟨out_bad l 8 (cd_form l (by have := HLS.out; omega) (by rw [HN.out]; exact h8)) (by omega), ((Kept.refl _).alloc _).alloc _⟩
      · rcases Nat.lt_or_ge n (k + 1) with hb | hb
        · obtain rfl : k = n := by rcases HK.out with h | h <;> omega
          rw [arr_lit (fr l (k + 1))] at hset
          have hf0 : (fr l (k + 1) 0).toNat = k := by unfold fr; rw [if_pos (by omega), HN.out]
          clear hg0
          by_cases hk0 : 0 < k
          · have hfr : fr l (k + 1) 1 = l[1]! := by unfold fr; rw [if_pos (by omega)]
            by_cases hf1 : (fr l (k + 1) 1).toNat = 0
            · have HB : Hid (l[1]! = 0) := by
                rw [hfr] at hf1
                exact UInt8.toNat_inj.1 hf1
              clear hfr
              go_wp2_with fail
              rw [Exit.noGoto_ret]
              exact bodyPost_ret (v := .tuple #[.agg #[.int .u8 0, .int .u8 0, .int .u8 0, .int .u8 0, .int .u8 0, .int .u8 0, .int .u8 0, .int .u8 0, .int .u8 0], .int .i64 8]) (by simp [results, Tryz.results140, go_sem]) rfl ⟨out_bad l 8 (cd_lead l k HN.out (by have := HLS.out; omega) (by omega) hk0 HB.out) (by omega), ((Kept.refl _).alloc _).alloc _⟩
            · have HOK : Hid (cd l = 0) := cd_ok l k HN.out (by have := HLS.out; omega) (by omega) (Or.inr fun e => hf1 (by rw [hfr, e]; rfl))
              have hf1' : ((((fr l (k + 1) 1).toNat : Nat) : Int) == 0) = false := beq_eq_false_iff_ne.2 (by omega)
              clear hfr hf1
              go_wp2_with fail
              rw [Exit.noGoto_ret]
              exact bodyPost_ret (v := .tuple #[.agg #[.int .u8 (k : Int), .int .u8 ((fr l (k + 1) 1).toNat : Nat), .int .u8 ((fr l (k + 1) 2).toNat : Nat), .int .u8 ((fr l (k + 1) 3).toNat : Nat), .int .u8 ((fr l (k + 1) 4).toNat : Nat), .int .u8 ((fr l (k + 1) 5).toNat : Nat), .int .u8 ((fr l (k + 1) 6).toNat : Nat), .int .u8 ((fr l (k + 1) 7).toNat : Nat), .int .u8 ((fr l (k + 1) 8).toNat : Nat)], .int .i64 0]) (by simp [results, Tryz.results140, go_sem]) rfl ⟨out_ok l k HN.out (HOK.out), ((Kept.refl _).alloc _).alloc _⟩
          · have HOK : Hid (cd l = 0) := cd_ok l k HN.out (by have := HLS.out; omega) (by omega) (Or.inl (by omega))
            go_wp2_with fail
            rw [Exit.noGoto_ret]
            exact bodyPost_ret (v := .tuple #[.agg #[.int .u8 (k : Int), .int .u8 ((fr l (k + 1) 1).toNat : Nat), .int .u8 ((fr l (k + 1) 2).toNat : Nat), .int .u8 ((fr l (k + 1) 3).toNat : Nat), .int .u8 ((fr l (k + 1) 4).toNat : Nat), .int .u8 ((fr l (k + 1) 5).toNat : Nat), .int .u8 ((fr l (k + 1) 6).toNat : Nat), .int .u8 ((fr l (k + 1) 7).toNat : Nat), .int .u8 ((fr l (k + 1) 8).toNat : Nat)], .int .i64 0]) (by simp [results, Tryz.results140, go_sem]) rfl ⟨out_ok l k HN.out (HOK.out), ((Kept.refl _).alloc _).alloc _⟩
        · go_wp2_with fail
          exact ⟨⟨k + 1, by omega, by go_num, Or.inr ⟨hb, h8⟩, rfl⟩, by simp [intOf]; omega⟩
    · have hls : s.size = l.length := by rw [← HL.out, turn_length]; simp
      have HB : Hid (cd l = 10) := cd_short l n HN.out (by rcases HK.out with h | h <;> omega)
      clear hls
      have hm : ∃ m : Nat, k ≤ m ∧ m ≤ 255 ∧ (arr (fr l k))[0]? = some (.int .u8 (m : Nat)) := by
        refine ⟨(fr l k 0).toNat, ?_, by have := (fr l k 0).toNat_lt; omega, arr_get _ 0 (by omega)⟩
        unfold fr
        by_cases hk0 : k = 0
        · omega
        · rw [if_pos (by omega), HN.out]
          rcases HK.out with h | h <;> omega
      obtain ⟨m, hkm, hm8, hg0⟩ := hm
      go_wp2_with fail
      rw [Exit.noGoto_ret]
      exact bodyPost_ret (v := .tuple #[.agg #[.int .u8 0, .int .u8 0, .int .u8 0, .int .u8 0, .int .u8 0, .int .u8 0, .int .u8 0, .int .u8 0, .int .u8 0], .int .i64 10]) (by simp [results, Tryz.results140, go_sem]) rfl ⟨out_bad l 10 (HB.out) (by omega), ((Kept.refl _).alloc _).alloc _⟩

theorem take_any (s : ByteArray) (t : UInt8) (w : World) (hs : s.size ≤ maxLen) :
    Calls Tryz.prog 140 #[.string s, .int .u8 (t.toNat : Nat)] w fun e w' => TakeOut (turn t s.data.toList) e ∧ Kept w w' :=
  take_core s t _ _ rfl rfl w hs
end Go.Proofs.YtmgkkoajjdgmbaaGreatDoor

/- What num.read answers. -/
namespace Go.Proofs.YtmgkkoajjdgmbaaGreatDoor
open Go.RowKit Nm
set_option linter.unusedVariables false

/-- The number at the front of bytes, how many bytes it has there. -/
def rx (l : List UInt8) : Nat := if cd l = 0 then val ((l.drop 1).take (l[0]!).toNat) else 0
def rn (l : List UInt8) : Nat := if cd l = 0 then (l[0]!).toNat + 1 else 0

theorem slice_lh (n : Nat) (hn : n ≤ 8) (w : World) (b : Nat) : (Instr.sliceAt 193 (.pointer (some ⟨b, 0, none⟩)) (some (.int .i64 1)) (some (.int .i64 (1 + (n : Int)))) none).run Tryz.prog w = .ok (.slice (some ⟨b, 1, none⟩) n 8) w := by
  rw [run_sliceAt_array_lh w _ _ is_arr .i64 .i64 1 (1 + (n : Int)) (by omega) (by omega) (by rw [len_arr]; omega), size_elem, len_arr]
  have e : (1 + (n : Int)).toNat = n + 1 := by omega
  have e1 : (1 : Int).toNat = 1 := rfl
  rw [e, e1]
  simp [Result.andThen, slicedAt, Addr.add]
set_option maxRecDepth 100000 in
theorem read_bad (s : ByteArray) (t : UInt8) (l : List UInt8) (HL : Hid (turn t s.data.toList = l)) (c : Nat) (hc : 0 < c) (hc2 : c ≤ 10) (HC : Hid (cd l = c)) (w : World) (hs : s.size ≤ maxLen) :
    Calls Tryz.prog 136 #[.string s, .int .u8 (t.toNat : Nat)] w fun e w' => e = .returned (.tuple #[.int .u64 0, .int .i64 0, .int .i64 (c : Nat)]) ∧ Kept w w' := by
  go_enter Tryz.func136, Tryz.ntmps136
  go_wp2_with fail
  refine (take_any s t _ hs).mono ?_
  rintro e w1 ⟨he, hg⟩
  unfold TakeOut at he
  rw [HL.out, HC.out, if_neg (by omega), ← arr_zero] at he
  subst he
  go_wp2_with fail
  go_ret3
  exact ⟨rfl, hg.alloc _⟩
theorem dg_zero (l : List UInt8) (n : Nat) (hn : (l[0]!).toNat = n) : (dg l 0).toNat = n := by unfold dg; rw [if_pos (by omega), hn]
theorem cd_len (l : List UInt8) (h : cd l = 0) : (l[0]!).toNat < l.length ∧ (l[0]!).toNat ≤ 8 := by
  unfold cd at h
  by_cases h1 : l = []
  · rw [if_pos h1] at h; omega
  · rw [if_neg h1] at h
    by_cases h2 : 8 < (l[0]!).toNat
    · rw [if_pos h2] at h; omega
    · rw [if_neg h2] at h
      by_cases h3 : l.length ≤ (l[0]!).toNat
      · rw [if_pos h3] at h; omega
      · omega
theorem read_step (l : List UInt8) (n k y : Nat) (hk : k < n) (hn : n ≤ 8) (HN : (l[0]!).toNat = n) (HC : cd l = 0) (hy : y = val ((l.drop 1).take k)) :
    y < 72057594037927936 ∧ 256 * y + (dg l (1 + k)).toNat = val ((l.drop 1).take (k + 1)) := by
  obtain ⟨h1, _⟩ := cd_len l HC
  have hl : ((l.drop 1).take k).length = k := by simp; omega
  constructor
  · have := val_lt ((l.drop 1).take k)
    rw [hl, ← hy] at this
    have h2 : 256 ^ k ≤ 256 ^ 7 := Nat.pow_le_pow_right (by omega) (by omega)
    omega
  · rw [List.take_succ_eq_append_getElem (by simp; omega), val_snoc, ← hy]
    congr 2
    unfold dg
    rw [if_pos (by omega), getElem!_pos l (1 + k) (by omega), List.getElem_drop]
theorem or_byte (y b : Nat) (hy : y < 72057594037927936) (hb : b < 256) : bits .or .u64 ((y : Int) * 256) (IntKind.u64.wrap (b : Int)) = ((256 * y + b : Nat) : Int) := by
  rw [IntKind.wrap_u64, show ((b : Int) % 18446744073709551616) = (b : Int) from by omega, show ((y : Int) * 256) = ((256 * y : Nat) : Int) from by omega, u64_or_nat _ _ (by omega) (by omega)]
  congr 1
  exact (Nat.two_pow_add_eq_or_of_lt (i := 8) (b := b) (by omega) y).symm
theorem read_end (y x k : Nat) (h : y = x) : Ending.returned (.tuple #[.int .u64 (y : Int), .int .i64 (1 + (k : Int)), .int .i64 0]) = Ending.returned (.tuple #[.int .u64 (x : Int), .int .i64 ((k : Int) + 1), .int .i64 0]) := by
  subst h
  rw [Int.add_comm]
set_option maxRecDepth 100000 in
theorem read_ok (s : ByteArray) (t : UInt8) (l : List UInt8) (HL : Hid (turn t s.data.toList = l)) (n : Nat) (HN : Hid ((l[0]!).toNat = n)) (hn : n ≤ 8) (HC : Hid (cd l = 0)) (w : World) (hs : s.size ≤ maxLen) :
    Calls Tryz.prog 136 #[.string s, .int .u8 (t.toNat : Nat)] w fun e w' => e = .returned (.tuple #[.int .u64 (val ((l.drop 1).take n) : Nat), .int .i64 ((n : Int) + 1), .int .i64 0]) ∧ Kept w w' := by
  go_enter Tryz.func136, Tryz.ntmps136
  go_wp2_with fail
  refine (take_any s t _ hs).mono ?_
  rintro e w1 ⟨he, hg⟩
  have hd0 : (dg l 0).toNat = n := by unfold dg; rw [if_pos (by omega), HN.out]
  unfold TakeOut at he
  rw [HL.out, HC.out, if_pos rfl, arr_lit, hd0] at he
  subst he
  clear hd0
  have hsl := slice_lh n hn
  go_wp2_with fail
  clear hsl
  go_loopw [4, 10, 27] (fun x _ i wr => ∃ (k : Nat) (y : Nat), k ≤ n ∧ i = .int .i64 k ∧ x = .int .u64 (y : Nat) ∧ Hid (y = val ((l.drop 1).take k)) ∧ wr = w1.alloc (.cells (arr (dg l)) 193)) (fun _ _ i _ => n - (intOf i).toNat)
  case atStart => exact ⟨0, 0, Nat.zero_le _, rfl, rfl, rfl, by rw [arr_lit, dg_zero l n HN.out]⟩
  case round =>
    obtain ⟨k, y, hk, rfl, rfl, HY, rfl⟩ := hrel
    by_cases hlt : k < n
    · obtain ⟨hb, hq⟩ := read_step l n k y hlt hn HN.out HC.out HY.out
      have hget := arr_get (dg l) (1 + k) (by omega)
      go_wp2_with fail
      exact ⟨⟨k + 1, 256 * y + (dg l (1 + k)).toNat, by omega, by go_num, by rw [or_byte y _ hb (dg l (1 + k)).toNat_lt], hq, trivial⟩, by simp [intOf]; omega⟩
    · obtain rfl : k = n := by omega
      go_wp2_with fail
      go_ret3
      refine ⟨read_end y _ k HY.out, hg.alloc _⟩

/-- What read answers, of bytes as they come to be when they are turned. -/
def ReadOut (l : List UInt8) (e : Ending) : Prop := e = .returned (.tuple #[.int .u64 (rx l : Nat), .int .i64 (rn l : Nat), .int .i64 (cd l : Nat)])
theorem cd_le (l : List UInt8) : cd l ≤ 10 := by
  unfold cd
  split
  · omega
  · split
    · omega
    · split
      · omega
      · split <;> omega
theorem nread_any (s : ByteArray) (t : UInt8) (w : World) (hs : s.size ≤ maxLen) :
    Calls Tryz.prog 136 #[.string s, .int .u8 (t.toNat : Nat)] w fun e w' => ReadOut (turn t s.data.toList) e ∧ Kept w w' := by
  generalize hl : turn t s.data.toList = l
  unfold ReadOut rx rn
  by_cases h : cd l = 0
  · rw [if_pos h, if_pos h, h]
    refine (read_ok s t l hl _ rfl (cd_len l h).2 h w hs).mono ?_
    rintro e w' ⟨rfl, hg⟩
    exact ⟨by simp, hg⟩
  · rw [if_neg h, if_neg h]
    exact read_bad s t l hl (cd l) (by omega) (cd_le l) rfl w hs

theorem up_read (s : ByteArray) (w : World) (hs : s.size ≤ maxLen) :
    Calls Tryz.prog 125 #[.string s] w fun e w' => ReadOut s.data.toList e ∧ Kept w w' := by
  go_enter Tryz.func125, Tryz.ntmps125
  go_wp2_with fail
  refine (nread_any s 0 _ hs).mono ?_
  rintro e w' ⟨he, hg⟩
  rw [turn_zero] at he
  have he' := he
  unfold ReadOut at he
  subst he
  go_wp2_with fail
  go_ret3
  exact ⟨he', hg⟩
end Go.Proofs.YtmgkkoajjdgmbaaGreatDoor

/- What the document's own Read and ReadDown answer. -/
namespace Go.Proofs.YtmgkkoajjdgmbaaGreatDoor
open Go.RowKit Nm
set_option linter.unusedVariables false

theorem at_str (s : ByteArray) (k : Nat) (h : k < s.size) : s.data.toList[k]! = s[k] := by
  rw [getElem!_pos s.data.toList k (by simpa using h)]
  rfl
theorem not_empty (s : ByteArray) (h : 0 < s.size) : s.toList.isEmpty = false := by
  rw [ByteArray.toList_eq]
  cases hl : s.data.toList with
  | nil =>
    have : s.data.toList.length = s.size := by simp
    rw [hl] at this
    simp at this
    omega
  | cons _ _ => rfl
theorem out3 (l : List UInt8) (x n c : Int) (h : ((rx l : Nat) : Int) = x ∧ ((rn l : Nat) : Int) = n ∧ ((cd l : Nat) : Int) = c) : ReadOut l (.returned (.tuple #[.int .u64 x, .int .i64 n, .int .i64 c])) := by
  obtain ⟨rfl, rfl, rfl⟩ := h
  rfl
theorem rd_bad (l : List UInt8) (c : Nat) (h : cd l = c) (hc : 0 < c) : ((rx l : Nat) : Int) = 0 ∧ ((rn l : Nat) : Int) = 0 ∧ ((cd l : Nat) : Int) = c := by
  unfold rx rn
  rw [if_neg (by omega), if_neg (by omega), h]
  exact ⟨rfl, rfl, rfl⟩

theorem rd_good (l : List UInt8) (n y : Nat) (hn : (l[0]!).toNat = n) (h : cd l = 0) (hy : y = val ((l.drop 1).take n)) : ((rx l : Nat) : Int) = (y : Nat) ∧ ((rn l : Nat) : Int) = 1 + (n : Int) ∧ ((cd l : Nat) : Int) = 0 := by
  unfold rx rn
  rw [if_pos h, if_pos h, h, hn, ← hy]
  refine ⟨rfl, ?_, rfl⟩
  omega
theorem read_step2 (l : List UInt8) (n k y : Nat) (hk : k < n) (hn : n ≤ 8) (hl1 : n < l.length) (hy : y = val ((l.drop 1).take k)) :
    y < 72057594037927936 ∧ 256 * y + (l[1 + k]!).toNat = val ((l.drop 1).take (k + 1)) := by
  have hl : ((l.drop 1).take k).length = k := by simp; omega
  constructor
  · have := val_lt ((l.drop 1).take k)
    rw [hl, ← hy] at this
    have h2 : 256 ^ k ≤ 256 ^ 7 := Nat.pow_le_pow_right (by omega) (by omega)
    omega
  · rw [List.take_succ_eq_append_getElem (by simp; omega), val_snoc, ← hy]
    congr 2
    rw [getElem!_pos l (1 + k) (by omega), List.getElem_drop]
theorem front (m : List UInt8) (h : 9 < m.length) : cd (m.take 9) = cd m ∧ rx (m.take 9) = rx m ∧ rn (m.take 9) = rn m := by
  have e0 : (m.take 9)[0]! = m[0]! := by rw [getElem!_pos _ 0 (by simp; omega), getElem!_pos m 0 (by omega), List.getElem_take]
  have e1 : (m.take 9)[1]! = m[1]! := by rw [getElem!_pos _ 1 (by simp; omega), getElem!_pos m 1 (by omega), List.getElem_take]
  have hl : (m.take 9).length = 9 := by simp; omega
  have hc : cd (m.take 9) = cd m := by
    have n1 : m.take 9 ≠ [] := by intro e; rw [e] at hl; simp at hl
    have n2 : m ≠ [] := by intro e; rw [e] at h; simp at h
    unfold cd
    rw [if_neg n1, if_neg n2, e0, e1, hl]
    by_cases h8 : 8 < (m[0]!).toNat
    · rw [if_pos h8, if_pos h8]
    · rw [if_neg h8, if_neg h8, if_neg (show ¬ 9 ≤ (m[0]!).toNat by omega), if_neg (show ¬ m.length ≤ (m[0]!).toNat by omega)]
  refine ⟨hc, ?_, ?_⟩
  · unfold rx
    rw [hc, e0]
    by_cases h0 : cd m = 0
    · have := (cd_len m h0).2
      rw [if_pos h0, if_pos h0, List.drop_take, List.take_take, Nat.min_eq_left (by omega)]
    · rw [if_neg h0, if_neg h0]
  · unfold rn
    rw [hc, e0]
theorem turn_take (t : UInt8) (l : List UInt8) (k : Nat) : turn t (l.take k) = (turn t l).take k := by unfold turn; rw [List.map_take]

end Go.Proofs.YtmgkkoajjdgmbaaGreatDoor

/- Plain facts: what was written is read as itself; what is cut off is short; bytes that are read are the number's own. -/
namespace Go.Proofs.YtmgkkoajjdgmbaaGreatDoor
open Nm

theorem byte_nb (x : Nat) (h : nb x ≤ 8) : (UInt8.ofNat (nb x)).toNat = nb x := by rw [UInt8.toNat_ofNat']; omega
theorem first_not (x : Nat) (h : 0 < nb x) : UInt8.ofNat (x / 256 ^ (nb x - 1)) ≠ 0 := by
  intro e
  have h1 := nb_low (x := x) (k := nb x - 1) (by omega)
  have hp : 0 < 256 ^ (nb x - 1) := Nat.pow_pos (by omega)
  have h2 := Nat.div_pos h1 hp
  have h3 : x / 256 ^ (nb x - 1) < 256 := by
    rw [Nat.div_lt_iff_lt_mul hp, ← Nat.pow_succ']
    have := lt_nb x
    rwa [show (nb x - 1).succ = nb x from by omega]
  have h4 := congrArg UInt8.toNat e
  rw [UInt8.toNat_ofNat'] at h4
  have h5 : UInt8.toNat 0 = 0 := rfl
  omega
theorem read_up (x : Nat) (s : List UInt8) (h8 : nb x ≤ 8) : cd (up x ++ s) = 0 ∧ rx (up x ++ s) = x ∧ rn (up x ++ s) = nb x + 1 := by
  have e0 : ((up x ++ s)[0]!).toNat = nb x := by
    rw [← byte_nb x h8]
    rfl
  have hc : cd (up x ++ s) = 0 := by
    refine cd_ok _ (nb x) e0 (by rw [List.length_append, up_length]; omega) h8 ?_
    rcases Nat.eq_zero_or_pos (nb x) with h | h
    · exact Or.inl h
    · right
      have e1 : (up x ++ s)[1]? = some (UInt8.ofNat (x / 256 ^ (nb x - 1))) := by
        unfold up
        rw [List.cons_append, List.getElem?_cons_succ, List.getElem?_append_left (by rw [be_length]; exact h), be_getElem _ _ 0 h]
      rw [List.getElem!_eq_getElem?_getD, e1]
      exact first_not x h
  refine ⟨hc, ?_, ?_⟩
  · unfold rx
    rw [if_pos hc, e0]
    have e2 : ((up x ++ s).drop 1).take (nb x) = be (nb x) x := by
      unfold up
      rw [List.cons_append, List.drop_succ_cons, List.drop_zero, List.take_append_of_le_length (by rw [be_length]; omega), List.take_of_length_le (by rw [be_length]; omega)]
    rw [e2, val_nb]
  · unfold rn
    rw [if_pos hc, e0]
theorem read_cut (x i : Nat) (h8 : nb x ≤ 8) (hi : i < nb x + 1) : cd ((up x).take i) = 10 ∧ rn ((up x).take i) = 0 := by
  have hl : ((up x).take i).length = i := by rw [List.length_take, up_length]; omega
  have hc : cd ((up x).take i) = 10 := by
    rcases Nat.eq_zero_or_pos i with h | h
    · subst h
      rfl
    · refine cd_short _ (nb x) ?_ (Or.inr ⟨h8, by omega⟩)
      rw [getElem!_pos _ 0 (by omega), List.getElem_take]
      exact byte_nb x h8
  refine ⟨hc, ?_⟩
  unfold rn
  rw [hc]
  rfl
theorem up_read_own (l : List UInt8) (h : cd l = 0) : up (rx l) = l.take (rn l) ∧ rn l ≤ l.length ∧ rx l < 2 ^ 64 := by
  obtain ⟨h1, h8⟩ := cd_len l h
  obtain ⟨n, hn⟩ : ∃ n, (l[0]!).toNat = n := ⟨_, rfl⟩
  rw [hn] at h1 h8
  obtain ⟨m, hm⟩ : ∃ m, (l.drop 1).take n = m := ⟨_, rfl⟩
  have hml : m.length = n := by rw [← hm]; simp; omega
  have e : rx l = val m := by unfold rx; rw [if_pos h, hn, hm]
  have en : rn l = n + 1 := by unfold rn; rw [if_pos h, hn]
  have hlt := val_lt m
  rw [hml] at hlt
  have hb : be n (val m) = m := by have := be_val m; rwa [hml] at this
  have hnb : nb (val m) = n := by
    refine Nat.le_antisymm ((nb_le _ _).2 hlt) ?_
    rcases Nat.eq_zero_or_pos n with h0 | h0
    · omega
    · rcases Nat.lt_or_ge (nb (val m)) n with h2 | h2
      · exfalso
        have h3 := (nb_le (val m) (n - 1)).1 (by omega)
        have h4 := be_getElem n (val m) 0 h0
        rw [show n - (0 + 1) = n - 1 from rfl, Nat.div_eq_of_lt h3, hb, ← hm, List.getElem?_take_of_lt h0, List.getElem?_drop] at h4
        have h5 : l[1]! = 0 := by rw [List.getElem!_eq_getElem?_getD, h4]; rfl
        have h6 := cd_lead l n hn h1 h8 h0 h5
        omega
      · exact h2
  refine ⟨?_, by omega, ?_⟩
  · rw [e, en]
    unfold up
    rw [hnb, hb, ← hm]
    cases l with
    | nil => simp at h1
    | cons a r =>
      have ha : UInt8.ofNat n = a := by
        rw [← hn]
        simp
      rw [ha]
      rfl
  · rw [e]
    exact Nat.lt_of_lt_of_le hlt (by
      have := Nat.pow_le_pow_right (show 0 < 256 from by omega) h8
      exact this)
end Go.Proofs.YtmgkkoajjdgmbaaGreatDoor

/- Plain facts on the sum: one bit at a time, a byte at a time, by a table, and by division in a row of bits. Nothing here names the program. -/
namespace Go.Proofs.YtmgkkoajjdgmbaaGreatDoor.Sm

def poly : Nat := 3988292384
/-- One bit goes out. -/
def step (c : Nat) : Nat := if c % 2 = 1 then c / 2 ^^^ poly else c / 2
def steps : Nat → Nat → Nat
  | 0, c => c
  | k + 1, c => steps k (step c)
/-- One byte goes in, and out. -/
def byte (c : Nat) (b : UInt8) : Nat := steps 8 (c ^^^ b.toNat)
def reg (l : List UInt8) : Nat := l.foldl byte 4294967295
/-- The sum of a text. -/
def crc (l : List UInt8) : Nat := 4294967295 ^^^ reg l

theorem xor_mod2 (a b : Nat) : (a ^^^ b) % 2 = (a + b) % 2 := by
  have h := Nat.xor_mod_two_pow (a := a) (b := b) (n := 1)
  rw [show (2 : Nat) ^ 1 = 2 from rfl] at h
  rw [h]
  rcases Nat.mod_two_eq_zero_or_one a with ha | ha <;> rcases Nat.mod_two_eq_zero_or_one b with hb | hb <;> rw [ha, hb] <;> simp <;> omega
theorem xor_half (a b : Nat) : (a ^^^ b) / 2 = a / 2 ^^^ b / 2 := Nat.xor_div_two
theorem step_lin (a b : Nat) : step (a ^^^ b) = step a ^^^ step b := by
  unfold step
  rw [xor_mod2, xor_half]
  rcases Nat.mod_two_eq_zero_or_one a with ha | ha <;> rcases Nat.mod_two_eq_zero_or_one b with hb | hb
  · rw [if_neg (by omega), if_neg (by omega), if_neg (by omega)]
  · rw [if_pos (by omega), if_neg (by omega), if_pos (by omega), Nat.xor_assoc]
  · rw [if_pos (by omega), if_pos (by omega), if_neg (by omega), Nat.xor_assoc, Nat.xor_assoc, Nat.xor_comm poly]
  · rw [if_neg (by omega), if_pos (by omega), if_pos (by omega)]
    rw [Nat.xor_assoc, ← Nat.xor_assoc poly, Nat.xor_comm poly, Nat.xor_assoc, Nat.xor_self, Nat.xor_zero]
theorem steps_lin (k a b : Nat) : steps k (a ^^^ b) = steps k a ^^^ steps k b := by
  induction k generalizing a b with
  | zero => rfl
  | succ k ih => rw [steps, step_lin, ih]; rfl
theorem step_even (y : Nat) : step (2 * y) = y := by
  unfold step
  rw [if_neg (by omega)]
  omega
theorem step_lt (c : Nat) (h : c < 2 ^ 32) : step c < 2 ^ 32 := by
  unfold step
  split
  · exact Nat.xor_lt_two_pow (by omega) (by decide)
  · omega
theorem steps_lt (k c : Nat) (h : c < 2 ^ 32) : steps k c < 2 ^ 32 := by
  induction k generalizing c with
  | zero => exact h
  | succ k ih => exact ih _ (step_lt c h)
theorem byte_lt (c : Nat) (b : UInt8) (h : c < 2 ^ 32) : byte c b < 2 ^ 32 :=
  steps_lt _ _ (Nat.xor_lt_two_pow h (by have := b.toNat_lt; omega))
theorem fold_lt (l : List UInt8) (c : Nat) (h : c < 2 ^ 32) : l.foldl byte c < 2 ^ 32 := by
  induction l generalizing c with
  | nil => exact h
  | cons b l ih => exact ih _ (byte_lt c b h)
theorem reg_lt (l : List UInt8) : reg l < 2 ^ 32 := fold_lt l _ (by decide)
theorem crc_lt (l : List UInt8) : crc l < 2 ^ 32 := Nat.xor_lt_two_pow (by decide) (reg_lt l)
/-- A number is its low byte, and the rest. -/
theorem low_high (x : Nat) : x = (x % 256) ^^^ (256 * (x / 256)) := by
  have h := Nat.two_pow_add_eq_or_of_lt (i := 8) (b := x % 256) (by omega) (x / 256)
  apply Nat.eq_of_testBit_eq
  intro i
  rw [Nat.testBit_xor]
  have e : 256 * (x / 256) = 2 ^ 8 * (x / 2 ^ 8) := rfl
  have e2 : x % 256 = x % 2 ^ 8 := rfl
  rw [e, e2, Nat.testBit_mod_two_pow, Nat.testBit_two_pow_mul, Nat.testBit_div_two_pow]
  by_cases hi : i < 8
  · simp [hi, Nat.not_le.2 hi]
  · simp [hi, Nat.not_lt.1 hi, Nat.sub_add_cancel (Nat.not_lt.1 hi)]
/-- A byte by the table: the low byte's own, and the rest a byte lower. -/
theorem steps8 (x : Nat) : steps 8 x = steps 8 (x % 256) ^^^ (x / 256) := by
  conv => lhs; rw [low_high x, steps_lin]
  congr 1
  have e : 256 * (x / 256) = 2 * (2 * (2 * (2 * (2 * (2 * (2 * (2 * (x / 256)))))))) := by omega
  rw [e]
  simp only [steps, step_even]
theorem byte_table (c : Nat) (b : UInt8) : byte c b = steps 8 ((c ^^^ b.toNat) % 256) ^^^ (c / 256) := by
  unfold byte
  rw [steps8]
  congr 1
  have hb := b.toNat_lt
  apply Nat.eq_of_testBit_eq
  intro i
  show ((c ^^^ b.toNat) / 2 ^ 8).testBit i = (c / 2 ^ 8).testBit i
  rw [Nat.testBit_div_two_pow, Nat.testBit_div_two_pow, Nat.testBit_xor, Nat.testBit_lt_two_pow (x := b.toNat) (Nat.lt_of_lt_of_le hb (Nat.pow_le_pow_right (by omega) (by omega)))]
  simp
end Go.Proofs.YtmgkkoajjdgmbaaGreatDoor.Sm

/- Plain facts: division in a row of bits comes to the same register. -/
namespace Go.Proofs.YtmgkkoajjdgmbaaGreatDoor.Sm

/-- Bit j of a text (false behind its end). -/
def mbit (l : List UInt8) (j : Nat) : Bool := if j < 8 * l.length then (l[j / 8]!).toNat.testBit (j % 8) else false
/-- The register behind i bits. -/
def st (l : List UInt8) : Nat → Nat
  | 0 => 4294967295
  | i + 1 => step (st l i ^^^ (mbit l i).toNat)
theorem bool_lt (b : Bool) : b.toNat < 2 := by cases b <;> decide
theorem st_lt (l : List UInt8) (i : Nat) : st l i < 2 ^ 32 := by
  induction i with
  | zero => show (4294967295 : Nat) < 2 ^ 32; decide
  | succ i ih => exact step_lt _ (Nat.xor_lt_two_pow ih (by have := bool_lt (mbit l i); omega))

theorem step_steps (k c : Nat) : step (steps k c) = steps (k + 1) c := by
  induction k generalizing c with
  | zero => rfl
  | succ k ih => rw [steps, ih]; rfl
theorem steps_pow (k y : Nat) : steps k (2 ^ k * y) = y := by
  induction k with
  | zero => simp [steps]
  | succ k ih => rw [steps, Nat.pow_succ', Nat.mul_assoc, step_even, ih]
theorem mod_succ (b k : Nat) : b % 2 ^ (k + 1) = b % 2 ^ k ^^^ 2 ^ k * (b.testBit k).toNat := by
  apply Nat.eq_of_testBit_eq
  intro i
  rw [Nat.testBit_xor, Nat.testBit_mod_two_pow, Nat.testBit_mod_two_pow, Nat.testBit_two_pow_mul]
  rcases Nat.lt_trichotomy i k with h | h | h
  · simp [h, Nat.lt_succ_of_lt h, Nat.not_le.2 h]
  · subst h
    simp only [Nat.lt_succ_self, Nat.lt_irrefl, decide_true, decide_false, Bool.true_and, Bool.false_and, Nat.le_refl, Nat.sub_self, Bool.false_xor]
    cases b.testBit i <;> decide
  · have h1 : ¬ i < k + 1 := by omega
    have h2 : ¬ i < k := by omega
    have h3 : k ≤ i := by omega
    have h4 : (b.testBit k).toNat.testBit (i - k) = false := Nat.testBit_lt_two_pow (Nat.lt_of_lt_of_le (bool_lt _) (by
      have := Nat.pow_le_pow_right (show 0 < 2 by omega) (show 1 ≤ i - k by omega)
      omega))
    simp [h1, h2, h3, h4]
theorem mbit_old (l : List UInt8) (b : UInt8) (j : Nat) (h : j < 8 * l.length) : mbit (l ++ [b]) j = mbit l j := by
  unfold mbit
  rw [if_pos h, if_pos (by rw [List.length_append]; simp; omega)]
  have h2 : j / 8 < l.length := by omega
  rw [getElem!_pos (l ++ [b]) (j / 8) (by rw [List.length_append]; simp; omega), getElem!_pos l (j / 8) h2, List.getElem_append_left h2]
theorem mbit_new (l : List UInt8) (b : UInt8) (k : Nat) (h : k < 8) : mbit (l ++ [b]) (8 * l.length + k) = b.toNat.testBit k := by
  unfold mbit
  rw [if_pos (by rw [List.length_append]; simp; omega)]
  have e1 : (8 * l.length + k) / 8 = l.length := by omega
  have e2 : (8 * l.length + k) % 8 = k := by omega
  rw [e1, e2, getElem!_pos (l ++ [b]) l.length (by simp)]
  simp
theorem st_old (l : List UInt8) (b : UInt8) (i : Nat) (h : i ≤ 8 * l.length) : st (l ++ [b]) i = st l i := by
  induction i with
  | zero => rfl
  | succ i ih => rw [st, st, ih (by omega), mbit_old l b i (by omega)]
theorem st_new (l : List UInt8) (b : UInt8) (k : Nat) (h : k ≤ 8) : st (l ++ [b]) (8 * l.length + k) = steps k (st l (8 * l.length) ^^^ b.toNat % 2 ^ k) := by
  induction k with
  | zero => rw [Nat.add_zero, st_old l b _ (Nat.le_refl _), Nat.pow_zero, Nat.mod_one, Nat.xor_zero]; rfl
  | succ k ih =>
    rw [← Nat.add_assoc, st, ih (by omega), mbit_new l b k (by omega), mod_succ, ← Nat.xor_assoc, ← step_steps, steps_lin k _ (2 ^ k * _), steps_pow]
theorem snoc_ind {P : List UInt8 → Prop} (h0 : P []) (h1 : ∀ l b, P l → P (l ++ [b])) (l : List UInt8) : P l := by
  have h : ∀ r : List UInt8, P r.reverse := by
    intro r
    induction r with
    | nil => exact h0
    | cons b r ih => rw [List.reverse_cons]; exact h1 _ _ ih
  have := h l.reverse
  rwa [List.reverse_reverse] at this
theorem st_reg (l : List UInt8) : st l (8 * l.length) = reg l := by
  induction l using snoc_ind with
  | h0 => rfl
  | h1 l b ih =>
    have e : 8 * (l ++ [b]).length = 8 * l.length + 8 := by rw [List.length_append]; simp; omega
    rw [e, st_new l b 8 (Nat.le_refl _), ih]
    have er : reg (l ++ [b]) = byte (reg l) b := by unfold reg; rw [List.foldl_append, List.foldl_cons, List.foldl_nil]
    rw [er]
    unfold byte
    rw [Nat.mod_eq_of_lt (show b.toNat < 2 ^ 8 from b.toNat_lt)]

/-- The divisor's powers, but 32. -/
def pw : List Nat := [26, 23, 22, 16, 12, 11, 10, 8, 7, 5, 4, 2, 1, 0]
/-- What the first k powers turn, at place i: place j. -/
def fl (i k j : Nat) : Bool := (pw.take k).foldl (fun a p => a ^^ (j == i + 32 - p)) false
theorem fl_zero (i j : Nat) : fl i 0 j = false := rfl
theorem fl_step (i k j : Nat) (h : k < 14) : fl i (k + 1) j = (fl i k j ^^ (j == i + 32 - pw[k]!)) := by
  unfold fl
  rw [List.take_succ_eq_append_getElem (show k < pw.length from h), List.foldl_append, getElem!_pos pw k h]
  rfl
theorem shift_eq (i d p : Nat) (h : p ≤ 31) : ((i + 1 + d == i + 32 - p) : Bool) = (d == 31 - p) := by
  rw [Bool.eq_iff_iff, beq_iff_eq, beq_iff_eq]
  omega
theorem fl_all (i d : Nat) : fl i 14 (i + 1 + d) = (decide (d < 32) && poly.testBit d) := by
  have e : fl i 14 (i + 1 + d) = pw.foldl (fun a p => a ^^ (d == 31 - p)) false := by
    unfold fl pw
    simp only [List.take_succ_cons, List.take_nil, List.foldl_cons, List.foldl_nil, shift_eq i d _ (show 26 ≤ 31 by omega), shift_eq i d _ (show 23 ≤ 31 by omega), shift_eq i d _ (show 22 ≤ 31 by omega), shift_eq i d _ (show 16 ≤ 31 by omega), shift_eq i d _ (show 12 ≤ 31 by omega), shift_eq i d _ (show 11 ≤ 31 by omega), shift_eq i d _ (show 10 ≤ 31 by omega), shift_eq i d _ (show 8 ≤ 31 by omega), shift_eq i d _ (show 7 ≤ 31 by omega), shift_eq i d _ (show 5 ≤ 31 by omega), shift_eq i d _ (show 4 ≤ 31 by omega), shift_eq i d _ (show 2 ≤ 31 by omega), shift_eq i d _ (show 1 ≤ 31 by omega), shift_eq i d _ (show 0 ≤ 31 by omega)]
  rw [e]
  by_cases h : d < 32
  · have hd : ∀ d : Fin 32, pw.foldl (fun a p => a ^^ (d.val == 31 - p)) false = (decide (d.val < 32) && poly.testBit d.val) := by decide +kernel
    exact hd ⟨d, h⟩
  · have hb : ∀ p, ((d == 31 - p) : Bool) = false := fun p => by rw [beq_eq_false_iff_ne]; omega
    simp [pw, hb, h]
/-- The row of bits when i of them have been divided out: place j. -/
def win (l : List UInt8) (i j : Nat) : Bool := if j < i + 32 then (st l i).testBit (j - i) ^^ mbit l j else mbit l j
theorem bit0 (a : Nat) : a.testBit 0 = decide (a % 2 = 1) := by simp [Nat.testBit_zero]
theorem next (l : List UInt8) (i d : Nat) : (st l (i + 1)).testBit d = ((st l i).testBit (d + 1) ^^ (win l i i && poly.testBit d)) := by
  have ew : win l i i = decide ((st l i ^^^ (mbit l i).toNat) % 2 = 1) := by
    unfold win
    rw [if_pos (by omega), Nat.sub_self, ← bit0, Nat.testBit_xor]
    cases mbit l i <;> rfl
  have eh : (st l i ^^^ (mbit l i).toNat) / 2 = st l i / 2 := by
    rw [xor_half]
    have := bool_lt (mbit l i)
    rw [Nat.div_eq_of_lt this, Nat.xor_zero]
  rw [st, ew]
  unfold step
  rw [eh]
  by_cases h : (st l i ^^^ (mbit l i).toNat) % 2 = 1
  · rw [if_pos h, Nat.testBit_xor, Nat.testBit_div_two]
    simp [h]
  · rw [if_neg h, Nat.testBit_div_two]
    simp [h]
theorem win_on (l : List UInt8) (i j : Nat) (h : i + 1 ≤ j) : win l (i + 1) j = (win l i j ^^ (win l i i && fl i 14 j)) := by
  obtain ⟨d, rfl⟩ := Nat.exists_eq_add_of_le h
  rw [fl_all]
  have e1 : i + 1 + d - (i + 1) = d := by omega
  have e2 : i + 1 + d - i = d + 1 := by omega
  conv => lhs; unfold win
  conv => rhs; arg 1; unfold win
  rw [e1, e2, next]
  rcases Nat.lt_trichotomy d 31 with h1 | h1 | h1
  · rw [if_pos (by omega), if_pos (by omega)]
    have : d < 32 := by omega
    simp only [this, decide_true, Bool.true_and]
    cases (st l i).testBit (d + 1) <;> cases mbit l (i + 1 + d) <;> cases (win l i i && poly.testBit d) <;> rfl
  · subst h1
    rw [if_pos (by omega), if_neg (by omega), Nat.testBit_lt_two_pow (st_lt l i)]
    cases mbit l (i + 1 + 31) <;> cases (win l i i) <;> rfl
  · have : ¬ d < 32 := by omega
    rw [if_neg (by omega), if_neg (by omega)]
    simp [this]
theorem win_start (l : List UInt8) (j : Nat) : win l 0 j = if j < 32 then !mbit l j else mbit l j := by
  unfold win
  rw [Nat.zero_add, Nat.sub_zero]
  by_cases h : j < 32
  · rw [if_pos h, if_pos h]
    have e : (st l 0).testBit j = true := by
      have hd : ∀ d : Fin 32, (4294967295 : Nat).testBit d.val = true := by decide +kernel
      exact hd ⟨j, h⟩
    rw [e]
    cases mbit l j <;> rfl
  · rw [if_neg h, if_neg h]
theorem win_end (l : List UInt8) (j : Nat) (h : j < 32) : (!win l (8 * l.length) (8 * l.length + j)) = (crc l).testBit j := by
  have em : mbit l (8 * l.length + j) = false := by unfold mbit; rw [if_neg (by omega)]
  unfold win crc
  rw [if_pos (by omega), em, st_reg, Nat.testBit_xor]
  have e : (4294967295 : Nat).testBit j = true := by
    have hd : ∀ d : Fin 32, (4294967295 : Nat).testBit d.val = true := by decide +kernel
    exact hd ⟨j, h⟩
  have ej : 8 * l.length + j - 8 * l.length = j := by omega
  rw [e, ej]
  cases (reg l).testBit j <;> rfl
/-- A number made of its bits, from the highest down. -/
theorem made (v i : Nat) : v / 2 ^ i = 2 * (v / 2 ^ (i + 1)) + (v.testBit i).toNat := by
  rw [Nat.pow_succ, ← Nat.div_div_eq_div_mul, Nat.testBit_eq_decide_div_mod_eq]
  rcases Nat.mod_two_eq_zero_or_one (v / 2 ^ i) with h | h
  · rw [h]; simp; omega
  · rw [h]; simp; omega
end Go.Proofs.YtmgkkoajjdgmbaaGreatDoor.Sm

/- Plain facts: the sum of several texts, part by part. -/
namespace Go.Proofs.YtmgkkoajjdgmbaaGreatDoor.Sm
/-- All parts, one behind the other. -/
def cat (ss : List ByteArray) : List UInt8 := (ss.map fun s => s.data.toList).flatten
theorem cat_take (ss : List ByteArray) (k : Nat) (h : k < ss.length) : cat (ss.take (k + 1)) = cat (ss.take k) ++ ss[k].data.toList := by
  unfold cat
  rw [List.take_succ_eq_append_getElem h, List.map_append, List.flatten_append]
  simp only [List.map_cons, List.map_nil, List.flatten_cons, List.flatten_nil, List.append_nil]
theorem cat_all (ss : List ByteArray) : cat (ss.take ss.length) = cat ss := by rw [List.take_length]
theorem cat_one (s : ByteArray) : cat [s] = s.data.toList := by simp [cat]
theorem reg_snoc (l : List UInt8) (b : UInt8) : reg (l ++ [b]) = byte (reg l) b := by unfold reg; rw [List.foldl_append, List.foldl_cons, List.foldl_nil]
theorem take_snoc (s : ByteArray) (k : Nat) (h : k < s.size) : s.data.toList.take (k + 1) = s.data.toList.take k ++ [s[k]] := by
  rw [List.take_succ_eq_append_getElem (by simpa using h)]; rfl
end Go.Proofs.YtmgkkoajjdgmbaaGreatDoor.Sm

