/- What the program's reader answers, and its writers: End, Bool, and the bytes of bricks. -/
import Derived.Test.YtdbhplahmnlgnaaWireCode4
import Derived.Test.YtdbhplahmnlgnaaPrefix
namespace Go.Proofs.Ytdbhplahmnlgnaa
open Go.RowKit _root_.Go.Proofs.Ytdbhplahmnlgnaa.Nm Wr
set_option linter.unusedVariables false
set_option maxRecDepth 100000 in
theorem end_any (b : Nat) (s : St) (w : World) (hR : WrAt w b s) :
    Calls Try.prog 26 #[.pointer (some ⟨b, 0, none⟩)] w fun e w' => e = .returned (.int .i64 ((qEnd s).1 : Nat)) ∧ WrAt w' b (qEnd s).2 ∧ But b w w' := by
  obtain ⟨t, ht, hl, hz⟩ := hR.text
  have HR := Lib.hid hR
  have hf2 := hR.soft2
  have he2 := hR.err
  by_cases hs : s.e = 0
  · obtain ⟨l, e⟩ := s
    obtain rfl : e = 0 := hs
    dsimp only at hl he2
    rcases Nat.eq_zero_or_pos t.size with h0 | h0
    · obtain rfl : t = ⟨#[]⟩ := by apply ByteArray.ext; exact Array.eq_empty_of_size_eq_zero h0
      have hl' : l = [] := hl.symm
      subst hl'
      have HQ : Hid (qEnd ⟨[], 0⟩ = (0, ⟨[], 0⟩)) := rfl
      clear hR hl hz h0
      go_enter Try.func26, Try.ntmps26
      go_wp2_with fail
      refine (err_same b ⟨[], 0⟩ _ HR.out).mono ?_
      rintro e w1 ⟨rfl, rfl⟩
      go_wp2_with fail
      refine (err_same b ⟨[], 0⟩ _ HR.out).mono ?_
      rintro e w2 ⟨rfl, rfl⟩
      go_wp2_with fail
      go_ret
      exact ⟨by rw [HQ.out]; rfl, by rw [HQ.out]; exact HR.out, But.refl _ _⟩
    · have hemp := not_empty t h0
      have HQ : Hid (qEnd ⟨l, 0⟩ = (8, ⟨l, 8⟩)) := by
        unfold qEnd
        rw [if_neg (by simp), if_neg (by
          dsimp only
          intro h
          rw [h] at hl
          have : t.data.toList.length = 0 := by rw [hl]; rfl
          rw [data_len] at this
          omega)]
        trivial
      clear hR hl hz
      go_enter Try.func26, Try.ntmps26
      go_wp2_with fail
      refine (err_same b ⟨l, 0⟩ _ HR.out).mono ?_
      rintro e w1 ⟨rfl, rfl⟩
      go_wp2_with fail
      refine (err_same b ⟨l, 8⟩ _ (HR.out.setErr 8)).mono ?_
      rintro e w2 ⟨rfl, rfl⟩
      go_wp2_with fail
      go_ret
      exact ⟨by rw [HQ.out]; rfl, by rw [HQ.out]; exact HR.out.setErr 8, (But.refl _ _).setCell _ _⟩
  · have hne := int_ne _ hs
    have HQ : Hid (qEnd s = (s.e, s)) := by unfold qEnd; rw [if_pos hs]; trivial
    clear hR hl hz hs
    go_enter Try.func26, Try.ntmps26
    go_wp2_with fail
    refine (err_same b s _ HR.out).mono ?_
    rintro e w1 ⟨rfl, rfl⟩
    go_wp2_with fail
    refine (err_same b s _ HR.out).mono ?_
    rintro e w2 ⟨rfl, rfl⟩
    go_wp2_with fail
    go_ret
    exact ⟨by rw [HQ.out]; rfl, by rw [HQ.out]; exact HR.out, But.refl _ _⟩
/-- What a truth's look tells: whether, of how many bytes, what is wrong. -/
def boolOf (l : List UInt8) : Bool × Nat × Nat := match l with
  | [] => (false, 0, 10)
  | c :: _ => if c = 0 then (false, 1, 0) else if c = 1 then (true, 1, 0) else (false, 0, 8)
set_option maxRecDepth 100000 in
theorem boollook (t : ByteArray) (is : Bool) (n c : Nat) (w : World) (h : boolOf t.data.toList = (is, n, c)) :
    Calls Try.prog 42 #[.string t] w fun e w' => e = .returned (.tuple #[.bool is, .int .i64 (n : Nat), .int .i64 (c : Nat)]) ∧ Kept w w' := by
  rcases Nat.eq_zero_or_pos t.size with h0 | h0
  · obtain rfl : t = ⟨#[]⟩ := by apply ByteArray.ext; exact Array.eq_empty_of_size_eq_zero h0
    obtain ⟨rfl, rfl, rfl⟩ : false = is ∧ 0 = n ∧ 10 = c := by simpa [boolOf] using h
    clear h h0
    go_enter Try.func42, Try.ntmps42
    go_wp2_with fail
    go_ret3
    exact ⟨rfl, Kept.refl _⟩
  · have hemp := not_empty t h0
    obtain ⟨d, m, hl⟩ : ∃ d m, t.data.toList = d :: m := by
      cases hl : t.data.toList with
      | nil => have : t.data.toList.length = 0 := by rw [hl]; rfl
               rw [data_len] at this
               omega
      | cons c m => exact ⟨c, m, rfl⟩
    rw [hl] at h
    unfold boolOf at h
    dsimp only at h
    have p0 : (⟨#[0]⟩ : ByteArray).data.toList.isPrefixOf t.data.toList = (d == 0) := by
      rw [hl]; show (0 == d && _) = _; simp [List.isPrefixOf, Bool.beq_comm]
    have p1 : (⟨#[1]⟩ : ByteArray).data.toList.isPrefixOf t.data.toList = (d == 1) := by
      rw [hl]; show (1 == d && _) = _; simp [List.isPrefixOf, Bool.beq_comm]
    have P0 := Lib.hid p0
    have P1 := Lib.hid p1
    clear p0 p1 hl
    go_enter Try.func42, Try.ntmps42
    go_wp2_with fail
    refine (prefix_any t ⟨#[0]⟩ _).mono ?_
    rintro e w1 ⟨rfl, rfl⟩
    rw [P0.out]
    by_cases d0 : d = 0
    · rw [if_pos d0] at h
      obtain ⟨rfl, rfl, rfl⟩ : false = is ∧ 1 = n ∧ 0 = c := by simpa using h
      have hb : (d == 0) = true := by rw [d0]; rfl
      rw [hb]
      clear h
      go_wp2_with fail
      go_ret3
      exact ⟨rfl, Kept.refl _⟩
    · rw [if_neg d0] at h
      have hb : (d == 0) = false := beq_eq_false_iff_ne.2 d0
      rw [hb]
      go_wp2_with fail
      refine (prefix_any t ⟨#[1]⟩ _).mono ?_
      rintro e w1 ⟨rfl, rfl⟩
      rw [P1.out]
      by_cases d1 : d = 1
      · rw [if_pos d1] at h
        obtain ⟨rfl, rfl, rfl⟩ : true = is ∧ 1 = n ∧ 0 = c := by simpa using h
        have hb : (d == 1) = true := by rw [d1]; rfl
        rw [hb]
        clear h
        go_wp2_with fail
        go_ret3
        exact ⟨rfl, Kept.refl _⟩
      · rw [if_neg d1] at h
        obtain ⟨rfl, rfl, rfl⟩ : false = is ∧ 0 = n ∧ 8 = c := by simpa using h
        have hb : (d == 1) = false := beq_eq_false_iff_ne.2 d1
        rw [hb]
        clear h
        go_wp2_with fail
        go_ret3
        exact ⟨rfl, Kept.refl _⟩
theorem boolOf_q (l : List UInt8) : qBool ⟨l, 0⟩ = if (boolOf l).2.2 = 0 then ((boolOf l).1, ⟨l.drop (boolOf l).2.1, 0⟩) else (false, ⟨l, (boolOf l).2.2⟩) := by
  unfold qBool
  rw [if_neg (by simp)]
  cases l with
  | nil => rfl
  | cons d m =>
    unfold boolOf
    dsimp only
    by_cases d0 : d = 0
    · subst d0; rfl
    · by_cases d1 : d = 1
      · subst d1; rfl
      · have h0 : d.toNat ≠ 0 := fun h => d0 (UInt8.toNat_inj.1 h)
        have h1 : d.toNat ≠ 1 := fun h => d1 (UInt8.toNat_inj.1 h)
        rw [if_pos (show 1 < d.toNat by omega)]
        simp only [if_neg d0, if_neg d1]
        rfl
theorem boolOf_le (l : List UInt8) : (boolOf l).2.1 ≤ l.length := by
  cases l with
  | nil => exact Nat.le_refl _
  | cons d m =>
    unfold boolOf
    dsimp only
    split
    · simp
    · split <;> simp
set_option maxRecDepth 100000 in
theorem bool_any (b : Nat) (s : St) (w : World) (hR : WrAt w b s) :
    Calls Try.prog 20 #[.pointer (some ⟨b, 0, none⟩)] w fun e w' => e = .returned (.bool (qBool s).1) ∧ WrAt w' b (qBool s).2 ∧ But b w w' := by
  obtain ⟨t, ht, hl, hz⟩ := hR.text
  have HR := Lib.hid hR
  have hen := enters_of Try.func42 (by kernel_rfl) rfl
  by_cases hs : s.e = 0
  · obtain ⟨l, e⟩ := s
    obtain rfl : e = 0 := hs
    dsimp only at hl
    have hq := boolOf_q l
    have hle := boolOf_le l
    have hll : l.length = t.size := by rw [← hl, data_len]
    obtain ⟨a, n, c, hanc⟩ : ∃ a n c, boolOf l = (a, n, c) := ⟨_, _, _, rfl⟩
    rw [hanc] at hq hle
    dsimp only at hq hle
    have hj := boollook t a n c w (by rw [hl]; exact hanc)
    by_cases hc : c = 0
    · subst hc
      rw [if_pos rfl] at hq
      have HQ := Lib.hid hq
      have HJ := Lib.hid (ok_bool b l t _ #[] a n _ HR.out ht (by omega) hen hj)
      clear hR ht hl hz hen hq hle hll hanc hj
      go_enter Try.func20, Try.ntmps20
      go_wp2_with fail
      refine HJ.out.mono ?_
      rintro e w1 ⟨rfl, hW, hB⟩
      have HW := Lib.hid hW
      have HB := Lib.hid hB
      clear hW hB
      go_wp2_with fail
      go_ret
      exact ⟨by rw [HQ.out]; rfl, by rw [HQ.out]; exact HW.out, HB.out⟩
    · rw [if_neg hc] at hq
      have HQ := Lib.hid hq
      have HJ := Lib.hid (bad_bool b l t _ #[] a n c _ HR.out ht hc hen hj)
      clear hR ht hl hz hen hq hle hll hanc hj hc
      go_enter Try.func20, Try.ntmps20
      go_wp2_with fail
      refine HJ.out.mono ?_
      rintro e w1 ⟨rfl, hW, hB⟩
      have HW := Lib.hid hW
      have HB := Lib.hid hB
      clear hW hB
      go_wp2_with fail
      go_ret
      exact ⟨by rw [HQ.out]; rfl, by rw [HQ.out]; exact HW.out, HB.out⟩
  · have HQ : Hid (qBool s = (false, s)) := by show _ = _; unfold qBool; rw [if_pos hs]
    have HJ := Lib.hid (fault_bool b s (.func (.func 42) #[] #[]) _ HR.out hs)
    clear hR ht hl hz hen
    go_enter Try.func20, Try.ntmps20
    go_wp2_with fail
    refine HJ.out.mono ?_
    rintro e w1 ⟨rfl, rfl⟩
    go_wp2_with fail
    go_ret
    exact ⟨by rw [HQ.out]; rfl, by rw [HQ.out]; exact HR.out, But.refl _ _⟩
theorem wbool_any (is : Bool) (w : World) :
    Calls Try.prog 13 #[.bool is] w fun e w' => e = .returned (.string ⟨#[if is then 1 else 0]⟩) ∧ Kept w w' := by
  cases is
  · go_enter Try.func13, Try.ntmps13
    go_wp2_with fail
    go_ret
    exact ⟨rfl, Kept.refl _⟩
  · go_enter Try.func13, Try.ntmps13
    go_wp2_with fail
    go_ret
    exact ⟨rfl, Kept.refl _⟩
set_option maxRecDepth 100000 in
theorem nums_any (a : Option Addr) (cap : Nat) (xs : List Nat) (w : World) (hU : U64s w a xs) (hn : xs.length ≤ 1000000) :
    Calls Try.prog 11 #[.slice a xs.length cap] w fun e w' => e = .returned (.string ⟨(nums xs).toArray⟩) ∧ Kept w w' := by
  have HU := Lib.hid hU
  have HN := Lib.hid (nums_le xs hU.2)
  clear hU
  go_enter Try.func11, Try.ntmps11
  go_wp2_with fail
  have HB0 : Hid (Bld w.heap.size w.heap.size [] (w.alloc (.cells #[.pointer none, .slice none 0 0] 56))) := bld_new w
  have HK0 : Hid (Kept w (w.alloc (.cells #[.pointer none, .slice none 0 0] 56))) := (Kept.refl _).alloc _
  generalize hB : w.heap.size = B at *
  have hB := Lib.hid hB
  go_loopw [8] (fun i wr => ∃ k : Nat, k ≤ xs.length ∧ i = .int .i64 k ∧ Hid (Bld B B (nums (xs.take k)) wr) ∧ Hid (Kept w wr)) (fun i _ => xs.length - (intOf i).toNat)
  case atStart => exact ⟨0, Nat.zero_le _, rfl, HB0.out, HK0.out⟩
  case round =>
    obtain ⟨k, hk, rfl, HB, HK⟩ := hrel
    have hBw : B ≤ wr.heap.size := by rw [← hB.out]; exact HK.out.size
    by_cases hlt : k < xs.length
    · have hU := HU.out.kept HK.out
      rcases hU with ⟨rfl | ⟨b, o, ha, hc⟩, hb⟩
      · exact absurd hlt (by simp)
      have hck := hc k hlt
      have hxk : xs[k] < 18446744073709551616 := hb _ (List.getElem_mem hlt)
      rw [List.getD_eq_getElem?_getD, List.getElem?_eq_getElem hlt, Option.getD_some] at hck
      have HCT := Lib.hid (nums_take xs k hlt)
      have HLE : Hid ((nums (xs.take k)).length ≤ 9 * xs.length) := by
        have h1 := nums_le (xs.take k) (fun x hx => hb x (List.mem_of_mem_take hx))
        have h2 : (xs.take k).length ≤ xs.length := by rw [List.length_take]; omega
        show _ ≤ _
        omega
      have HX := Lib.hid (up_le xs[k] hxk)
      rw [ha]
      generalize xs[k] = x at *
      clear hc hb
      go_wp2_with fail
      refine (up_any x _ (by omega) (by omega)).mono ?_
      rintro e w3 ⟨rfl, k3⟩
      rw [Int.toNat_natCast]
      have HS : Hid ((⟨(up x).toArray⟩ : ByteArray).size ≤ 9) := by show (up x).toArray.size ≤ _; rw [List.size_toArray]; exact HX.out
      have HD : Hid ((⟨(up x).toArray⟩ : ByteArray).data.toList = up x) := by show _ = _; simp
      generalize (⟨(up x).toArray⟩ : ByteArray) = p at *
      have HK3 := Lib.hid k3
      clear k3
      go_wp2_with fail
      refine (bld_write B B (nums (xs.take k)) p _ (HB.out.kept HK3.out) (by have := HLE.out; have := HS.out; omega) (by have := HK3.out.size; omega)).mono ?_
      rintro e w4 ⟨rfl, h4, k4⟩
      have H4 := Lib.hid h4
      have HK4 : Hid (Kept w w4) := by
        show Below _ _ _
        have := HK.out.trans HK3.out
        have k4' := k4
        rw [← hB.out] at k4'
        exact Below.trans this k4'
      clear h4 k4
      go_wp2_with fail
      refine ⟨⟨k + 1, by omega, by go_num, ?_, HK4.out⟩, by simp [intOf]; omega⟩
      show Bld B B (nums (xs.take (k + 1))) _
      rw [HCT.out, ← HD.out]
      exact H4.out
    · obtain rfl : k = xs.length := by omega
      rw [nums_all] at HB
      go_wp2_with fail
      refine (bld_string B B _ _ HB.out hBw).mono ?_
      rintro e w4 ⟨rfl, k4⟩
      have HK4 : Hid (Kept w w4) := by
        show Below _ _ _
        have k4' := k4
        rw [← hB.out] at k4'
        exact Below.trans HK.out k4'
      clear k4
      go_wp2_with fail
      go_ret
      exact ⟨rfl, HK4.out⟩
set_option maxRecDepth 100000 in
theorem texts_any (a : Option Addr) (cap : Nat) (ss : List ByteArray) (w : World) (hU : Strs w a ss) (hn : ss.length ≤ 1000000) (hz : ∀ x ∈ ss, x.size ≤ 4096) :
    Calls Try.prog 12 #[.slice a ss.length cap] w fun e w' => e = .returned (.string ⟨(texts ss).toArray⟩) ∧ Kept w w' := by
  have HU := Lib.hid hU
  have HZ := Lib.hid hz
  clear hU hz
  go_enter Try.func12, Try.ntmps12
  go_wp2_with fail
  have HB0 : Hid (Bld w.heap.size w.heap.size [] (w.alloc (.cells #[.pointer none, .slice none 0 0] 56))) := bld_new w
  have HK0 : Hid (Kept w (w.alloc (.cells #[.pointer none, .slice none 0 0] 56))) := (Kept.refl _).alloc _
  generalize hB : w.heap.size = B at *
  have hB := Lib.hid hB
  go_loopw [8] (fun i wr => ∃ k : Nat, k ≤ ss.length ∧ i = .int .i64 k ∧ Hid (Bld B B (texts (ss.take k)) wr) ∧ Hid (Kept w wr)) (fun i _ => ss.length - (intOf i).toNat)
  case atStart => exact ⟨0, Nat.zero_le _, rfl, HB0.out, HK0.out⟩
  case round =>
    obtain ⟨k, hk, rfl, HB, HK⟩ := hrel
    have hBw : B ≤ wr.heap.size := by rw [← hB.out]; exact HK.out.size
    by_cases hlt : k < ss.length
    · have hU := HU.out.kept HK.out
      rcases hU with rfl | ⟨b, o, ha, hc⟩
      · exact absurd hlt (by simp)
      have hck := hc k hlt
      have hsk : ss[k].size ≤ 4096 := HZ.out _ (List.getElem_mem hlt)
      rw [List.getD_eq_getElem?_getD, List.getElem?_eq_getElem hlt, Option.getD_some] at hck
      have HCT := Lib.hid (texts_take ss k hlt)
      have HLE : Hid ((texts (ss.take k)).length ≤ 4105 * ss.length) := by
        have h1 := texts_le 4096 (by omega) (ss.take k) (fun x hx => HZ.out x (List.mem_of_mem_take hx))
        have h2 : (ss.take k).length ≤ ss.length := by rw [List.length_take]; omega
        show _ ≤ _
        omega
      rw [ha]
      generalize ss[k] = x at *
      clear hc
      have HX : Hid ((up x.size).length ≤ 9) := up_le x.size (by omega)
      have HTX : Hid (txt x.data.toList = up x.size ++ x.data.toList) := by show _ = _; unfold txt; rw [data_len]
      go_wp2_with fail
      refine (up_any (x.size : Nat) _ (by omega) (by omega)).mono ?_
      rintro e w3 ⟨rfl, k3⟩
      rw [Int.toNat_natCast]
      have HS : Hid ((⟨(up x.size).toArray⟩ : ByteArray).size ≤ 9) := by show (up x.size).toArray.size ≤ _; rw [List.size_toArray]; exact HX.out
      have HD : Hid ((⟨(up x.size).toArray⟩ : ByteArray).data.toList = up x.size) := by show _ = _; simp
      generalize (⟨(up x.size).toArray⟩ : ByteArray) = p at *
      have HK3 := Lib.hid k3
      clear k3
      go_wp2_with fail
      refine (bld_write B B (texts (ss.take k)) p _ (HB.out.kept HK3.out) (by have := HLE.out; have := HS.out; omega) (by have := HK3.out.size; omega)).mono ?_
      rintro e w4 ⟨rfl, h4, k4⟩
      have H4 := Lib.hid h4
      have HK4 : Hid (Kept w w4) := by
        show Below _ _ _
        have := HK.out.trans HK3.out
        have k4' := k4
        rw [← hB.out] at k4'
        exact Below.trans this k4'
      have HB4 : Hid (B ≤ w4.heap.size) := by have := HK3.out.size; have := k4.size; show _ ≤ _; omega
      clear h4 k4
      go_wp2_with fail
      refine (bld_write B B _ x _ H4.out (by have := HLE.out; have := HS.out; rw [List.length_append, data_len]; omega) HB4.out).mono ?_
      rintro e w5 ⟨rfl, h5, k5⟩
      have H5 := Lib.hid h5
      have HK5 : Hid (Kept w w5) := by
        show Below _ _ _
        have k5' := k5
        rw [← hB.out] at k5'
        exact Below.trans HK4.out k5'
      clear h5 k5
      go_wp2_with fail
      refine ⟨⟨k + 1, by omega, by go_num, ?_, HK5.out⟩, by simp [intOf]; omega⟩
      show Bld B B (texts (ss.take (k + 1))) _
      rw [HCT.out, HTX.out, ← HD.out, ← List.append_assoc]
      exact H5.out
    · obtain rfl : k = ss.length := by omega
      rw [texts_all] at HB
      go_wp2_with fail
      refine (bld_string B B _ _ HB.out hBw).mono ?_
      rintro e w4 ⟨rfl, k4⟩
      have HK4 : Hid (Kept w w4) := by
        show Below _ _ _
        have k4' := k4
        rw [← hB.out] at k4'
        exact Below.trans HK.out k4'
      clear k4
      go_wp2_with fail
      go_ret
      exact ⟨rfl, HK4.out⟩
end Go.Proofs.Ytdbhplahmnlgnaa
