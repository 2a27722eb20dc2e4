/- What the document's own reader answers: Count, Text; what bricks' bytes are. -/
import Derived.Test.YtdbhplahmnlgnaaWireRef2
namespace Go.Proofs.Ytdbhplahmnlgnaa
open Go.RowKit Nm Wr
set_option linter.unusedVariables false
theorem rx_lt (l : List UInt8) : rx l < 18446744073709551616 := by
  unfold rx
  split
  · rename_i h
    have h1 := cd_len l h
    have h2 := val_lt ((l.drop 1).take (l[0]!).toNat)
    have h3 : ((l.drop 1).take (l[0]!).toNat).length ≤ 8 := by rw [List.length_take]; omega
    have h4 : 256 ^ ((l.drop 1).take (l[0]!).toNat).length ≤ 256 ^ 8 := Nat.pow_le_pow_right (by omega) h3
    omega
  · omega
theorem ext_take (t : ByteArray) (n : Nat) : (t.extract 0 n).data.toList = t.data.toList.take n := by simp
theorem qnum_all (l : List UInt8) (h : cd l = 0) : qNum 18446744073709551615 ⟨l, 0⟩ = (rx l, ⟨l.drop (rn l), 0⟩) := qnum_ok _ l h (by have := rx_lt l; omega)
theorem qcount_fault (m : Int) (s : St) (h : s.e ≠ 0) : qCount m s = (0, s) := by unfold qCount; rw [if_pos h]
theorem qcount_bad (m : Int) (l : List UInt8) (h : cd l ≠ 0) : qCount m ⟨l, 0⟩ = (0, ⟨l, cd l⟩) := by unfold qCount; rw [if_neg (by simp), if_pos h]
theorem qcount_long (m : Int) (l : List UInt8) (h : cd l = 0) (hm : m < 0 ∨ m < rx l) : qCount m ⟨l, 0⟩ = (0, ⟨l, 4⟩) := by unfold qCount; rw [if_neg (by simp), if_neg (by simpa using h), if_pos hm]
theorem qcount_short (m : Int) (l : List UInt8) (h : cd l = 0) (hm : ¬(m < 0 ∨ m < rx l)) (hx : (l.drop (rn l)).length < rx l) : qCount m ⟨l, 0⟩ = (0, ⟨l, 10⟩) := by unfold qCount; rw [if_neg (by simp), if_neg (by simpa using h), if_neg hm, if_pos hx]
theorem qcount_ok (m : Int) (l : List UInt8) (h : cd l = 0) (hm : ¬(m < 0 ∨ m < rx l)) (hx : ¬(l.drop (rn l)).length < rx l) : qCount m ⟨l, 0⟩ = (rx l, ⟨l.drop (rn l), 0⟩) := by unfold qCount; rw [if_neg (by simp), if_neg (by simpa using h), if_neg hm, if_neg hx]
set_option maxRecDepth 100000 in
theorem refcount_any (b : Nat) (s : St) (m : Int) (w : World) (hR : RdAt w b s) (h0 : -9223372036854775808 ≤ m) (h1 : m ≤ 9223372036854775807) :
    Calls Try.prog 23 #[.pointer (some ⟨b, 0, none⟩), .int .i64 m] w fun e w' => e = .returned (.int .i64 ((qCount m s).1 : Nat)) ∧ RdAt w' b (qCount m s).2 ∧ But b w w' := by
  obtain ⟨t, ht, hl, hz⟩ := hR.text
  have HR := Lib.hid hR
  have HL : Hid (t.data.toList = s.l) := hl
  have HZ := Lib.hid hz
  clear hR hl hz
  go_enter Try.func23, Try.ntmps23
  go_wp2_with fail
  refine (refnum_any b s 18446744073709551615 _ HR.out (by omega) (by omega)).mono ?_
  rw [show Int.toNat 18446744073709551615 = 18446744073709551615 from rfl]
  rintro e w1 ⟨rfl, hR1, hB⟩
  have HB := Lib.hid hB
  clear hB
  by_cases hs : s.e = 0
  · obtain ⟨l, e⟩ := s
    obtain rfl : e = 0 := hs
    by_cases hc : cd l = 0
    · rw [qnum_all l hc] at hR1 ⊢
      obtain ⟨t1, ht1, hl1, hz1⟩ := hR1.text
      have he1 : w1.cell? ⟨b, 1, none⟩ = some (.int .i64 0) := hR1.err
      have hf0 := hR1.soft0
      have hf1 := hR1.soft1
      have HR1 := Lib.hid hR1
      have hxl := rx_lt l
      have hlen : t1.size = (l.drop (rn l)).length := by rw [← data_len, hl1]
      have HL1 := Lib.hid hl1
      have HZ1 := Lib.hid hz1
      have hz1' : t1.size ≤ 9223372036854775807 := by unfold maxLen at hz1; omega
      clear hR1 hl1 hz1
      dsimp only
      by_cases hm : m < 0 ∨ m < rx l
      · have HQ := Lib.hid (qcount_long m l hc hm)
        generalize rx l = x at *
        clear hc hlen
        by_cases hm0 : m < 0
        · clear hm
          go_wp2_with fail
          go_ret
          exact ⟨by rw [HQ.out]; rfl, by rw [HQ.out]; exact (HR1.out.setText t l HL.out HZ.out).setErr 4, (HB.out.setCell _ _).setCell _ _⟩
        · have hmx : m < (x : Int) := by omega
          have hm1 : 0 ≤ m := by omega
          clear hm hm0
          go_wp2_with fail
          go_ret
          exact ⟨by rw [HQ.out]; rfl, by rw [HQ.out]; exact (HR1.out.setText t l HL.out HZ.out).setErr 4, (HB.out.setCell _ _).setCell _ _⟩
      · by_cases hx : (l.drop (rn l)).length < rx l
        · have HQ := Lib.hid (qcount_short m l hc hm hx)
          rw [← hlen] at hx
          clear hlen
          have hm0 : 0 ≤ m := by omega
          have hmx : (rx l : Int) ≤ m := by omega
          generalize rx l = x at *
          clear hc hm
          go_wp2_with fail
          go_ret
          exact ⟨by rw [HQ.out]; rfl, by rw [HQ.out]; exact (HR1.out.setText t l HL.out HZ.out).setErr 10, (HB.out.setCell _ _).setCell _ _⟩
        · have HQ := Lib.hid (qcount_ok m l hc hm hx)
          rw [← hlen] at hx
          clear hlen
          have hm0 : 0 ≤ m := by omega
          have hmx : (rx l : Int) ≤ m := by omega
          generalize hxx : rx l = x at *
          clear hc hm
          go_wp2_with fail
          go_ret
          exact ⟨by rw [HQ.out]; rfl, by rw [HQ.out]; exact HR1.out, HB.out⟩
    · rw [qnum_bad _ l hc] at hR1 ⊢
      have HQ := Lib.hid (qcount_bad m l hc)
      have he1 := hR1.err
      have HR1 := Lib.hid hR1
      have hne := int_ne _ hc
      generalize hcl : cd l = c at *
      dsimp only at he1 ⊢
      clear hR1 hcl
      go_wp2_with fail
      go_ret
      exact ⟨by rw [HQ.out]; rfl, by rw [HQ.out]; exact HR1.out, HB.out⟩
  · rw [qnum_fault _ s hs] at hR1 ⊢
    have HQ := Lib.hid (qcount_fault m s hs)
    have he1 := hR1.err
    have HR1 := Lib.hid hR1
    have hne := int_ne _ hs
    dsimp only at he1 ⊢
    clear hR1
    go_wp2_with fail
    go_ret
    exact ⟨by rw [HQ.out]; rfl, by rw [HQ.out]; exact HR1.out, HB.out⟩
set_option maxRecDepth 100000 in
theorem reftext_any (b : Nat) (s : St) (m : Int) (w : World) (hR : RdAt w b s) (h0 : -9223372036854775808 ≤ m) (h1 : m ≤ 9223372036854775807) :
    Calls Try.prog 19 #[.pointer (some ⟨b, 0, none⟩), .int .i64 m] w fun e w' => e = .returned (.string ⟨(qText m s).1.toArray⟩) ∧ RdAt w' b (qText m s).2 ∧ But b w w' := by
  have HR := Lib.hid hR
  clear hR
  go_enter Try.func19, Try.ntmps19
  go_wp2_with fail
  refine (refcount_any b s m _ HR.out h0 h1).mono ?_
  rintro e w1 ⟨rfl, hR1, hB⟩
  have hle := qCount_le m s
  have HQ : Hid (qText m s = (((qCount m s).2.l).take (qCount m s).1, ⟨((qCount m s).2.l).drop (qCount m s).1, (qCount m s).2.e⟩)) := rfl
  generalize (qCount m s).1 = k at *
  generalize (qCount m s).2 = s1 at *
  obtain ⟨t, ht, hl, hz⟩ := hR1.text
  have hf0 := hR1.soft0
  have HR1 := Lib.hid hR1
  have HB := Lib.hid hB
  have hk : k ≤ t.size := by rw [← data_len, hl]; exact hle
  have HL := Lib.hid hl
  have HZ := Lib.hid hz
  have hz1' : t.size ≤ 9223372036854775807 := by unfold maxLen at hz; omega
  clear hR1 hB hle hl hz
  go_wp2_with fail
  go_ret
  exact ⟨by rw [HQ.out]; exact congrArg (fun x => Ending.returned (.string x)) (by apply ByteArray.ext; rw [← HL.out, ← ext_take]), by rw [HQ.out]; exact HR1.out.setText _ _ (by rw [ext_drop, HL.out]) (by rw [ByteArray.size_extract]; have := HZ.out; omega), HB.out.setCell _ _⟩
theorem refwnum_any (x : Int) (w : World) (h0 : 0 ≤ x) (h1 : x ≤ 18446744073709551615) :
    Calls Try.prog 9 #[.int .u64 x] w fun e w' => e = .returned (.string ⟨(up x.toNat).toArray⟩) ∧ Kept w w' := by
  go_enter Try.func9, Try.ntmps9
  go_wp2_with fail
  refine (refup_any x _ h0 h1).mono ?_
  rintro e w1 ⟨rfl, hk⟩
  go_wp2_with fail
  go_ret
  exact ⟨rfl, hk⟩
set_option maxRecDepth 100000 in
theorem refwtext_any (s : ByteArray) (w : World) (hs : s.size ≤ 1000000) :
    Calls Try.prog 10 #[.string s] w fun e w' => e = .returned (.string ⟨(txt s.data.toList).toArray⟩) ∧ Kept w w' := by
  have hup := up_length s.size
  have hnb := nb_le8 (x := s.size) (by omega)
  go_enter Try.func10, Try.ntmps10
  go_wp2_with fail
  refine (refwnum_any s.size _ (by omega) (by omega)).mono ?_
  rintro e w1 ⟨rfl, hk⟩
  rw [show ((s.size : Nat) : Int).toNat = s.size from by omega]
  have hsz : (⟨(up s.size).toArray⟩ : ByteArray).size = nb s.size + 1 := by show (up s.size).toArray.size = _; rw [List.size_toArray, hup]
  generalize hu : (⟨(up s.size).toArray⟩ : ByteArray) = u at *
  go_wp2_with fail
  go_ret
  exact ⟨congrArg (fun x => Ending.returned (.string x)) (by rw [← hu]; apply ByteArray.ext; unfold txt; rw [data_len]; simp), hk⟩
theorem refwbool_any (is : Bool) (w : World) :
    Calls Try.prog 14 #[.bool is] w fun e w' => e = .returned (.string ⟨#[if is then 1 else 0]⟩) ∧ w' = w := by
  cases is
  · go_enter Try.func14, Try.ntmps14
    go_wp2_with fail
    go_ret
    exact ⟨rfl, rfl⟩
  · go_enter Try.func14, Try.ntmps14
    go_wp2_with fail
    go_ret
    exact ⟨rfl, rfl⟩
end Go.Proofs.Ytdbhplahmnlgnaa
