/- What num.take and num.read answer. -/
import Derived.Test.YtdbhplahmnlgnaaRef
import Derived.BigQuiet
import Derived.Deep.QuietTactic
namespace Go.Proofs.Ytdbhplahmnlgnaa
open Go.RowKit Nm
set_option linter.unusedVariables false

/-- What is wrong with bytes at whose front a number should stand (0: nothing). -/
def cd (l : List UInt8) : Nat :=
  if l = [] then 10 else if 8 < (l[0]!).toNat then 8 else if l.length ≤ (l[0]!).toNat then 10 else if 0 < (l[0]!).toNat ∧ l[1]! = 0 then 8 else 0
/-- A number's bytes in an array of nine. -/
def dg (l : List UInt8) (j : Nat) : UInt8 := if j ≤ (l[0]!).toNat then l[j]! else 0
/-- The first k bytes, then 0. -/
def fr (l : List UInt8) (k j : Nat) : UInt8 := if j < k then l[j]! else 0

theorem arr_zero : #[Value.int .u8 0, .int .u8 0, .int .u8 0, .int .u8 0, .int .u8 0, .int .u8 0, .int .u8 0, .int .u8 0, .int .u8 0] = arr (fun _ => 0) := rfl
theorem arr_lit (f : Nat → UInt8) : arr f = #[.int .u8 ((f 0).toNat : Nat), .int .u8 ((f 1).toNat : Nat), .int .u8 ((f 2).toNat : Nat), .int .u8 ((f 3).toNat : Nat), .int .u8 ((f 4).toNat : Nat), .int .u8 ((f 5).toNat : Nat), .int .u8 ((f 6).toNat : Nat), .int .u8 ((f 7).toNat : Nat), .int .u8 ((f 8).toNat : Nat)] := rfl
theorem fr_zero (l : List UInt8) : fr l 0 = fun _ => 0 := by funext j; simp [fr]
theorem fr_step (l : List UInt8) (k : Nat) : (fun j => if j = k then l[k]! else fr l k j) = fr l (k + 1) := by
  funext j
  unfold fr
  by_cases h : j = k
  · subst h; rw [if_pos rfl, if_pos (by omega)]
  · rw [if_neg h]
    by_cases h1 : j < k
    · rw [if_pos h1, if_pos (by omega)]
    · rw [if_neg h1, if_neg (by omega)]
theorem turn_at (s : ByteArray) (t : UInt8) (k : Nat) (h : k < s.size) : (turn t s.data.toList)[k]! = s[k] ^^^ t := by
  rw [getElem!_pos _ k (by rw [turn_length]; simpa using h)]
  unfold turn
  rw [List.getElem_map]
  rfl

/-- What take answers. -/
def TakeOut (l : List UInt8) (e : Ending) : Prop := e = .returned (.tuple #[.agg (arr (if cd l = 0 then dg l else fun _ => 0)), .int .i64 (cd l : Nat)])
theorem cd_form (l : List UInt8) (h0 : 0 < l.length) (h : 8 < (l[0]!).toNat) : cd l = 8 := by
  unfold cd
  rw [if_neg (by intro e; subst e; simp at h0), if_pos h]
theorem cd_short (l : List UInt8) (n : Nat) (hn : (l[0]!).toNat = n) (h : l.length = 0 ∨ (n ≤ 8 ∧ l.length ≤ n)) : cd l = 10 := by
  subst hn
  unfold cd
  by_cases e : l = []
  · rw [if_pos e]
  · have : l.length ≠ 0 := fun h => e (List.length_eq_zero_iff.1 h)
    rw [if_neg e, if_neg (by omega), if_pos (by omega)]
theorem cd_lead (l : List UInt8) (n : Nat) (hn : (l[0]!).toNat = n) (h : n < l.length) (h8 : n ≤ 8) (h0 : 0 < n) (h1 : l[1]! = 0) : cd l = 8 := by
  subst hn
  unfold cd
  rw [if_neg (by intro e; subst e; simp at h), if_neg (by omega), if_neg (by omega), if_pos ⟨h0, h1⟩]
theorem cd_ok (l : List UInt8) (n : Nat) (hn : (l[0]!).toNat = n) (h : n < l.length) (h8 : n ≤ 8) (h1 : n = 0 ∨ l[1]! ≠ 0) : cd l = 0 := by
  subst hn
  unfold cd
  rw [if_neg (by intro e; subst e; simp at h), if_neg (by omega), if_neg (by omega), if_neg]
  rintro ⟨h2, h3⟩
  rcases h1 with h1 | h1
  · omega
  · exact h1 h3
theorem out_bad (l : List UInt8) (c : Nat) (h : cd l = c) (hc : c ≠ 0) : TakeOut l (.returned (.tuple #[.agg #[.int .u8 0, .int .u8 0, .int .u8 0, .int .u8 0, .int .u8 0, .int .u8 0, .int .u8 0, .int .u8 0, .int .u8 0], .int .i64 (c : Int)])) := by
  unfold TakeOut
  rw [h, if_neg hc, arr_zero]
theorem out_ok (l : List UInt8) (n : Nat) (hn : (l[0]!).toNat = n) (h : cd l = 0) : TakeOut l (.returned (.tuple #[.agg #[.int .u8 (n : Int), .int .u8 ((fr l (n + 1) 1).toNat : Nat), .int .u8 ((fr l (n + 1) 2).toNat : Nat), .int .u8 ((fr l (n + 1) 3).toNat : Nat), .int .u8 ((fr l (n + 1) 4).toNat : Nat), .int .u8 ((fr l (n + 1) 5).toNat : Nat), .int .u8 ((fr l (n + 1) 6).toNat : Nat), .int .u8 ((fr l (n + 1) 7).toNat : Nat), .int .u8 ((fr l (n + 1) 8).toNat : Nat)], .int .i64 0])) := by
  unfold TakeOut
  have e : dg l = fr l (n + 1) := by
    funext j
    unfold dg fr
    rw [hn]
    by_cases hj : j ≤ n
    · rw [if_pos hj, if_pos (by omega)]
    · rw [if_neg hj, if_neg (by omega)]
  have e0 : (fr l (n + 1) 0).toNat = n := by unfold fr; rw [if_pos (by omega), hn]
  rw [h, if_pos rfl, e, arr_lit, e0]
  rfl
set_option maxRecDepth 100000 in
theorem take_core (s : ByteArray) (t : UInt8) (l : List UInt8) (n : Nat) (HL : Hid (turn t s.data.toList = l)) (HN : Hid ((l[0]!).toNat = n)) (w : World) (hs : s.size ≤ maxLen) :
    Calls Try.prog 55 #[.string s, .int .u8 (t.toNat : Nat)] w fun e w' => TakeOut l e ∧ Kept w w' := by
  unfold maxLen at hs
  have HZ := Lib.hid arr_zero
  go_enter Try.func55, Try.ntmps55
  go_wp2_with fail
  go_step3
  go_wp2_with fail
  go_step3
  go_wp2_with fail
  go_loopw [7] (fun i wr => ∃ k : Nat, k ≤ s.size ∧ i = .int .i64 k ∧ Hid (k = 0 ∨ (k ≤ n ∧ n ≤ 8)) ∧ wr = (w.alloc (.cells #[.int .u8 0, .int .u8 0, .int .u8 0, .int .u8 0, .int .u8 0, .int .u8 0, .int .u8 0, .int .u8 0, .int .u8 0] 83)).alloc (.cells (arr (fr l k)) 83)) (fun i _ => s.size - (intOf i).toNat)
  case atStart =>
    exact ⟨0, Nat.zero_le _, rfl, Or.inl rfl, by rw [fr_zero, ← HZ.out]⟩
  case round =>
    obtain ⟨k, hk, rfl, HK, rfl⟩ := hrel
    by_cases hlt : k < s.size
    · have hk8 : k ≤ 8 := by rcases HK.out with h | h <;> omega
      have hset : (arr (fr l k)).setIfInBounds k (.int .u8 (bits .xor .u8 ((s[k].toNat : Nat) : Int) ((t.toNat : Nat) : Int))) = arr (fr l (k + 1)) := by
        rw [xor_u8]
        exact arr_set _ _ k _ (by omega) (by rw [← turn_at s t k hlt, HL.out]; exact fr_step l k)
      have hget := arr_get (fr l k) k (by omega)
      have hg0 : (arr (fr l (k + 1)))[0]? = some (.int .u8 (n : Nat)) := by
        rw [arr_get _ 0 (by omega)]
        unfold fr
        rw [if_pos (by omega), HN.out]
      have hls : s.size = l.length := by rw [← HL.out, turn_length]; simp
      have HLS := Lib.hid hls
      clear hls
      rcases Nat.lt_or_ge 8 n with h8 | h8
      · go_wp2_with fail
        rw [Exit.noGoto_ret]
        exact bodyPost_ret (v := .tuple #[.agg #[.int .u8 0, .int .u8 0, .int .u8 0, .int .u8 0, .int .u8 0, .int .u8 0, .int .u8 0, .int .u8 0, .int .u8 0], .int .i64 8]) (by simp [results, Try.results55, go_sem]) rfl ⟨out_bad l 8 (cd_form l (by have := HLS.out; omega) (by rw [HN.out]; exact h8)) (by omega), ((Kept.refl _).alloc _).alloc _⟩
      · rcases Nat.lt_or_ge n (k + 1) with hb | hb
        · obtain rfl : k = n := by rcases HK.out with h | h <;> omega
          rw [arr_lit (fr l (k + 1))] at hset
          have hf0 : (fr l (k + 1) 0).toNat = k := by unfold fr; rw [if_pos (by omega), HN.out]
          clear hg0
          by_cases hk0 : 0 < k
          · have hfr : fr l (k + 1) 1 = l[1]! := by unfold fr; rw [if_pos (by omega)]
            by_cases hf1 : (fr l (k + 1) 1).toNat = 0
            · have HB : Hid (l[1]! = 0) := by
                rw [hfr] at hf1
                exact UInt8.toNat_inj.1 hf1
              clear hfr
              go_wp2_with fail
              rw [Exit.noGoto_ret]
              exact bodyPost_ret (v := .tuple #[.agg #[.int .u8 0, .int .u8 0, .int .u8 0, .int .u8 0, .int .u8 0, .int .u8 0, .int .u8 0, .int .u8 0, .int .u8 0], .int .i64 8]) (by simp [results, Try.results55, go_sem]) rfl ⟨out_bad l 8 (cd_lead l k HN.out (by have := HLS.out; omega) (by omega) hk0 HB.out) (by omega), ((Kept.refl _).alloc _).alloc _⟩
            · have HOK : Hid (cd l = 0) := cd_ok l k HN.out (by have := HLS.out; omega) (by omega) (Or.inr fun e => hf1 (by rw [hfr, e]; rfl))
              have hf1' : ((((fr l (k + 1) 1).toNat : Nat) : Int) == 0) = false := beq_eq_false_iff_ne.2 (by omega)
              clear hfr hf1
              go_wp2_with fail
              rw [Exit.noGoto_ret]
              exact bodyPost_ret (v := .tuple #[.agg #[.int .u8 (k : Int), .int .u8 ((fr l (k + 1) 1).toNat : Nat), .int .u8 ((fr l (k + 1) 2).toNat : Nat), .int .u8 ((fr l (k + 1) 3).toNat : Nat), .int .u8 ((fr l (k + 1) 4).toNat : Nat), .int .u8 ((fr l (k + 1) 5).toNat : Nat), .int .u8 ((fr l (k + 1) 6).toNat : Nat), .int .u8 ((fr l (k + 1) 7).toNat : Nat), .int .u8 ((fr l (k + 1) 8).toNat : Nat)], .int .i64 0]) (by simp [results, Try.results55, go_sem]) rfl ⟨out_ok l k HN.out (HOK.out), ((Kept.refl _).alloc _).alloc _⟩
          · have HOK : Hid (cd l = 0) := cd_ok l k HN.out (by have := HLS.out; omega) (by omega) (Or.inl (by omega))
            go_wp2_with fail
            rw [Exit.noGoto_ret]
            exact bodyPost_ret (v := .tuple #[.agg #[.int .u8 (k : Int), .int .u8 ((fr l (k + 1) 1).toNat : Nat), .int .u8 ((fr l (k + 1) 2).toNat : Nat), .int .u8 ((fr l (k + 1) 3).toNat : Nat), .int .u8 ((fr l (k + 1) 4).toNat : Nat), .int .u8 ((fr l (k + 1) 5).toNat : Nat), .int .u8 ((fr l (k + 1) 6).toNat : Nat), .int .u8 ((fr l (k + 1) 7).toNat : Nat), .int .u8 ((fr l (k + 1) 8).toNat : Nat)], .int .i64 0]) (by simp [results, Try.results55, go_sem]) rfl ⟨out_ok l k HN.out (HOK.out), ((Kept.refl _).alloc _).alloc _⟩
        · go_wp2_with fail
          exact ⟨⟨k + 1, by omega, by go_num, Or.inr ⟨hb, h8⟩, rfl⟩, by simp [intOf]; omega⟩
    · have hls : s.size = l.length := by rw [← HL.out, turn_length]; simp
      have HB : Hid (cd l = 10) := cd_short l n HN.out (by rcases HK.out with h | h <;> omega)
      clear hls
      have hm : ∃ m : Nat, k ≤ m ∧ m ≤ 255 ∧ (arr (fr l k))[0]? = some (.int .u8 (m : Nat)) := by
        refine ⟨(fr l k 0).toNat, ?_, by have := (fr l k 0).toNat_lt; omega, arr_get _ 0 (by omega)⟩
        unfold fr
        by_cases hk0 : k = 0
        · omega
        · rw [if_pos (by omega), HN.out]
          rcases HK.out with h | h <;> omega
      obtain ⟨m, hkm, hm8, hg0⟩ := hm
      go_wp2_with fail
      rw [Exit.noGoto_ret]
      exact bodyPost_ret (v := .tuple #[.agg #[.int .u8 0, .int .u8 0, .int .u8 0, .int .u8 0, .int .u8 0, .int .u8 0, .int .u8 0, .int .u8 0, .int .u8 0], .int .i64 10]) (by simp [results, Try.results55, go_sem]) rfl ⟨out_bad l 10 (HB.out) (by omega), ((Kept.refl _).alloc _).alloc _⟩

theorem take_any (s : ByteArray) (t : UInt8) (w : World) (hs : s.size ≤ maxLen) :
    Calls Try.prog 55 #[.string s, .int .u8 (t.toNat : Nat)] w fun e w' => TakeOut (turn t s.data.toList) e ∧ Kept w w' :=
  take_core s t _ _ rfl rfl w hs
end Go.Proofs.Ytdbhplahmnlgnaa
