/- WireCode2, WireCode3, WireCode4, WireCode5. -/
import Derived.Test.YtmgkkoajjdgmbaaGreatDoorPart13
import Derived.Shelf.Strings.Prefix
set_option linter.unusedVariables false
set_option linter.unusedSimpArgs false
set_option linter.unusedSectionVars false
set_option linter.unnecessarySimpa false
set_option linter.deprecated false
/- What the program's reader answers, call by call. -/
namespace Go.Proofs.YtmgkkoajjdgmbaaGreatDoor
open Go.RowKit _root_.Go.Proofs.YtmgkkoajjdgmbaaGreatDoor.Nm Wr
set_option linter.unusedVariables false
set_option maxRecDepth 100000 in
theorem new_any (s : ByteArray) (w : World) (hs : s.size ≤ 281474976710656) :
    Calls Tryz.prog 100 #[.string s] w fun e w' => ∃ b, e = .returned (.pointer (some ⟨b, 0, none⟩)) ∧ w.heap.size ≤ b ∧ WrAt w' b ⟨s.data.toList, 0⟩ ∧ Kept w w' := by
  go_enter Tryz.func100, Tryz.ntmps100
  go_wp2_with fail
  refine (clone_any s _ hs).mono ?_
  rintro e w1 ⟨rfl, hk⟩
  have HK := Lib.hid hk
  clear hk
  go_wp2_with fail
  go_ret
  exact ⟨w1.heap.size, rfl, HK.out.size, ⟨⟨s, by rw [World.cell?_alloc_mark]; rfl, rfl, hs⟩, by rw [World.cell?_alloc_mark]; rfl, by rw [World.cell?_alloc_mark]; rfl, by rw [World.frozen?_alloc_mark]; rfl, by rw [World.frozen?_alloc_mark]; rfl⟩, HK.out.alloc _⟩
theorem numlook_bad (t : ByteArray) (x n c : Nat) (m : Int) (q : Addr) (w : World) (hz : t.size ≤ 281474976710656) (hq : w.cell? q = some (.int .u64 m)) (hx : rx t.data.toList = x) (hn : rn t.data.toList = n) (hcc : cd t.data.toList = c) (hc : c ≠ 0) :
    Calls Tryz.prog 124 #[.string t, .pointer (some q)] w fun e w' => e = .returned (.tuple #[.int .u64 (x : Nat), .int .i64 (n : Nat), .int .i64 (c : Nat)]) ∧ Kept w w' := by
  have HZ := Lib.hid hz
  have hne := int_ne _ hc
  go_enter Tryz.func124, Tryz.ntmps124
  go_wp2_with fail
  refine (up_read t _ (by unfold maxLen; have := HZ.out; omega)).mono ?_
  rintro e w1 ⟨he, hk⟩
  unfold ReadOut at he
  rw [hx, hn, hcc] at he
  subst he
  have HK := Lib.hid hk
  clear hk hx hn hcc hq
  go_wp2_with fail
  go_ret3
  exact ⟨rfl, HK.out⟩
theorem numlook_ok (t : ByteArray) (x n c : Nat) (m : Int) (q : Addr) (w : World) (hz : t.size ≤ 281474976710656) (hq : w.cell? q = some (.int .u64 m)) (h0 : 0 ≤ m) (h1 : m ≤ 18446744073709551615) (hx : rx t.data.toList = x) (hn : rn t.data.toList = n) (hcc : cd t.data.toList = 0) (hc : c = if m < (x : Nat) then 9 else 0) :
    Calls Tryz.prog 124 #[.string t, .pointer (some q)] w fun e w' => e = .returned (.tuple #[.int .u64 (x : Nat), .int .i64 (n : Nat), .int .i64 (c : Nat)]) ∧ Kept w w' := by
  have HZ := Lib.hid hz
  have HQ := Lib.hid (block_lt_of_cell hq)
  have hxl := rx_lt t.data.toList
  rw [hx] at hxl
  go_enter Tryz.func124, Tryz.ntmps124
  go_wp2_with fail
  refine (up_read t _ (by unfold maxLen; have := HZ.out; omega)).mono ?_
  rintro e w1 ⟨he, hk⟩
  unfold ReadOut at he
  rw [hx, hn, hcc] at he
  subst he
  have hq1 : w1.cell? q = some (.int .u64 m) := by rw [Below.cell hk (p := q) HQ.out]; exact hq
  have HK := Lib.hid hk
  clear hk hx hn hcc hq
  by_cases hm : m < (x : Int)
  · rw [if_pos hm] at hc
    subst hc
    go_wp2_with fail
    go_ret3
    exact ⟨rfl, HK.out⟩
  · rw [if_neg hm] at hc
    subst hc
    go_wp2_with fail
    go_ret3
    exact ⟨rfl, HK.out⟩
set_option maxRecDepth 100000 in
theorem num_any (b : Nat) (s : St) (m : Int) (w : World) (hR : WrAt w b s) (h0 : 0 ≤ m) (h1 : m ≤ 18446744073709551615) :
    Calls Tryz.prog 101 #[.pointer (some ⟨b, 0, none⟩), .int .u64 m] w fun e w' => e = .returned (.int .u64 ((qNum m.toNat s).1 : Nat)) ∧ WrAt w' b (qNum m.toNat s).2 ∧ But b w w' := by
  obtain ⟨t, ht, hl, hz⟩ := hR.text
  have HR := Lib.hid hR
  have hen := enters_of Tryz.func124 (by kernel_rfl) rfl
  have HA : Hid (Kept w (w.alloc (.cells #[.int .u64 m] 37))) := (Kept.refl _).alloc _
  have HT : Hid ((w.alloc (.cells #[.int .u64 m] 37)).cell? ⟨b, 1, none⟩ = some (.string t)) := by show _ = _; rw [Below.cell HA.out (p := ⟨b, 1, none⟩) hR.lt]; exact ht
  have HC : Hid ((w.alloc (.cells #[.int .u64 m] 37)).cell? ⟨w.heap.size, 0, none⟩ = some (.int .u64 m)) := by show _ = _; rw [World.cell?_alloc_mark]; rfl
  by_cases hs : s.e = 0
  · obtain ⟨l, e⟩ := s
    obtain rfl : e = 0 := hs
    dsimp only at hl
    by_cases hc : cd l = 0
    · by_cases hm : m < (rx l : Nat)
      · have HQ := Lib.hid (qnum_over m.toNat l hc (by omega))
        have HJ := Lib.hid (bad_num b l t _ #[.pointer (some ⟨w.heap.size, 0, none⟩)] (rx l : Nat) (rn l) 9 _ (HR.out.kept HA.out) HT.out (by omega) hen (numlook_ok t (rx l) (rn l) 9 m _ _ hz HC.out h0 h1 (by rw [hl]) (by rw [hl]) (by rw [hl]; exact hc) (by rw [if_pos hm])))
        clear hR ht hl hz hc hm hen
        go_enter Tryz.func101, Tryz.ntmps101
        go_wp2_with fail
        refine HJ.out.mono ?_
        rintro e w1 ⟨rfl, hW, hB⟩
        have HW := Lib.hid hW
        have HB := Lib.hid hB
        clear hW hB
        go_wp2_with fail
        go_ret
        exact ⟨by rw [HQ.out]; rfl, by rw [HQ.out]; exact HW.out, (HA.out.but b).trans HB.out⟩
      · have HQ := Lib.hid (qnum_ok m.toNat l hc (by omega))
        have hn : rn l ≤ t.size := by have := rn_le l; rw [← hl, data_len] at this; rw [← hl]; exact this
        have HJ := Lib.hid (ok_num b l t _ #[.pointer (some ⟨w.heap.size, 0, none⟩)] (rx l : Nat) (rn l) _ (HR.out.kept HA.out) HT.out hn hen (numlook_ok t (rx l) (rn l) 0 m _ _ hz HC.out h0 h1 (by rw [hl]) (by rw [hl]) (by rw [hl]; exact hc) (by rw [if_neg hm])))
        clear hR ht hl hz hc hm hen hn
        go_enter Tryz.func101, Tryz.ntmps101
        go_wp2_with fail
        refine HJ.out.mono ?_
        rintro e w1 ⟨rfl, hW, hB⟩
        have HW := Lib.hid hW
        have HB := Lib.hid hB
        clear hW hB
        go_wp2_with fail
        go_ret
        exact ⟨by rw [HQ.out]; rfl, by rw [HQ.out]; exact HW.out, (HA.out.but b).trans HB.out⟩
    · have HQ := Lib.hid (qnum_bad m.toNat l hc)
      have HJ := Lib.hid (bad_num b l t _ #[.pointer (some ⟨w.heap.size, 0, none⟩)] (rx l : Nat) (rn l) (cd l) _ (HR.out.kept HA.out) HT.out hc hen (numlook_bad t (rx l) (rn l) (cd l) m _ _ hz HC.out (by rw [hl]) (by rw [hl]) (by rw [hl]) hc))
      clear hR ht hl hz hc hen
      go_enter Tryz.func101, Tryz.ntmps101
      go_wp2_with fail
      refine HJ.out.mono ?_
      rintro e w1 ⟨rfl, hW, hB⟩
      have HW := Lib.hid hW
      have HB := Lib.hid hB
      clear hW hB
      go_wp2_with fail
      go_ret
      exact ⟨by rw [HQ.out]; rfl, by rw [HQ.out]; exact HW.out, (HA.out.but b).trans HB.out⟩
  · have HQ := Lib.hid (qnum_fault m.toNat s hs)
    have HJ := Lib.hid (fault_num b s (.func (.func 124) #[] #[.pointer (some ⟨w.heap.size, 0, none⟩)]) _ (HR.out.kept HA.out) hs)
    clear hR ht hl hz hen
    go_enter Tryz.func101, Tryz.ntmps101
    go_wp2_with fail
    refine HJ.out.mono ?_
    rintro e w1 ⟨rfl, rfl⟩
    go_wp2_with fail
    go_ret
    exact ⟨by rw [HQ.out]; rfl, by rw [HQ.out]; exact HR.out.kept HA.out, HA.out.but b⟩
end Go.Proofs.YtmgkkoajjdgmbaaGreatDoor

/- What the program's reader answers: Count, Text, Rest, End, Bool. -/
namespace Go.Proofs.YtmgkkoajjdgmbaaGreatDoor
open Go.RowKit _root_.Go.Proofs.YtmgkkoajjdgmbaaGreatDoor.Nm Wr
set_option linter.unusedVariables false
/-- What stands at the front of bytes as the number of things behind it: that number, its own bytes, what is wrong. -/
def lenOf (m : Int) (l : List UInt8) : Nat × Nat × Nat :=
  if cd l ≠ 0 then (0, 0, cd l) else if m < 0 ∨ m < rx l then (0, 0, 4) else if (l.drop (rn l)).length < rx l then (0, 0, 10) else (rx l, rn l, 0)
theorem lenOf_bad (m : Int) (l : List UInt8) (hc : cd l ≠ 0) : lenOf m l = (0, 0, cd l) := by unfold lenOf; rw [if_pos hc]
theorem lenOf_long (m : Int) (l : List UInt8) (hc : cd l = 0) (hm : m < 0 ∨ m < rx l) : lenOf m l = (0, 0, 4) := by unfold lenOf; rw [if_neg (not_not_intro hc), if_pos hm]
theorem lenOf_short (m : Int) (l : List UInt8) (hc : cd l = 0) (hm : ¬(m < 0 ∨ m < rx l)) (hx : (l.drop (rn l)).length < rx l) : lenOf m l = (0, 0, 10) := by unfold lenOf; rw [if_neg (not_not_intro hc), if_neg hm, if_pos hx]
theorem lenOf_ok (m : Int) (l : List UInt8) (hc : cd l = 0) (hm : ¬(m < 0 ∨ m < rx l)) (hx : ¬(l.drop (rn l)).length < rx l) : lenOf m l = (rx l, rn l, 0) := by unfold lenOf; rw [if_neg (not_not_intro hc), if_neg hm, if_neg hx]
theorem lenOf_count (m : Int) (l : List UInt8) : qCount m ⟨l, 0⟩ = if (lenOf m l).2.2 = 0 then ((lenOf m l).1, ⟨l.drop (lenOf m l).2.1, 0⟩) else (0, ⟨l, (lenOf m l).2.2⟩) := by
  by_cases hc : cd l = 0
  · by_cases hm : m < 0 ∨ m < rx l
    · rw [qcount_long m l hc hm, lenOf_long m l hc hm, if_neg (by decide)]
    · by_cases hx : (l.drop (rn l)).length < rx l
      · rw [qcount_short m l hc hm hx, lenOf_short m l hc hm hx, if_neg (by decide)]
      · rw [qcount_ok m l hc hm hx, lenOf_ok m l hc hm hx, if_pos rfl]
  · rw [qcount_bad m l hc, lenOf_bad m l hc, if_neg hc]
theorem lenOf_le (m : Int) (l : List UInt8) : (lenOf m l).2.1 + (lenOf m l).1 ≤ l.length := by
  unfold lenOf
  by_cases hc : cd l = 0
  · rw [if_neg (by simpa using hc)]
    by_cases hm : m < 0 ∨ m < rx l
    · rw [if_pos hm]; simp
    · rw [if_neg hm]
      by_cases hx : (l.drop (rn l)).length < rx l
      · rw [if_pos hx]; simp
      · rw [if_neg hx]
        have := rn_le l
        rw [List.length_drop] at hx
        dsimp only
        omega
  · rw [if_pos hc]; simp
theorem lenOf_zero (m : Int) (l : List UInt8) (h : (lenOf m l).2.2 ≠ 0) : (lenOf m l).1 = 0 ∧ (lenOf m l).2.1 = 0 := by
  unfold lenOf at *
  by_cases hc : cd l = 0
  · rw [if_neg (by simpa using hc)] at *
    by_cases hm : m < 0 ∨ m < rx l
    · rw [if_pos hm] at *; exact ⟨rfl, rfl⟩
    · rw [if_neg hm] at *
      by_cases hx : (l.drop (rn l)).length < rx l
      · rw [if_pos hx] at *; exact ⟨rfl, rfl⟩
      · rw [if_neg hx] at *; exact absurd rfl h
  · rw [if_pos hc]; exact ⟨rfl, rfl⟩
end Go.Proofs.YtmgkkoajjdgmbaaGreatDoor

/- What the program's reader answers, and its writers. -/
namespace Go.Proofs.YtmgkkoajjdgmbaaGreatDoor
open Go.RowKit _root_.Go.Proofs.YtmgkkoajjdgmbaaGreatDoor.Nm Wr
set_option linter.unusedVariables false
theorem ext_mid (t : ByteArray) (n a : Nat) : (t.extract n (n + a)) = ⟨((t.data.toList.drop n).take a).toArray⟩ := by
  apply ByteArray.ext
  rw [ByteArray.data_extract]
  apply Array.ext'
  simp
set_option maxRecDepth 100000 in
theorem restlook (t : ByteArray) (w : World) (hz : t.size ≤ 281474976710656) :
    Calls Tryz.prog 127 #[.string t] w fun e w' => e = .returned (.tuple #[.string t, .int .i64 (t.size : Nat), .int .i64 0]) ∧ Kept w w' := by
  go_enter Tryz.func127, Tryz.ntmps127
  go_wp2_with fail
  refine (clone_any t _ hz).mono ?_
  rintro e w1 ⟨rfl, hk⟩
  have HK := Lib.hid hk
  clear hk
  go_wp2_with fail
  go_ret3
  exact ⟨rfl, HK.out⟩
set_option maxRecDepth 100000 in
theorem rest_any (b : Nat) (s : St) (w : World) (hR : WrAt w b s) :
    Calls Tryz.prog 102 #[.pointer (some ⟨b, 0, none⟩)] w fun e w' => e = .returned (.string ⟨(qRest s).1.toArray⟩) ∧ WrAt w' b (qRest s).2 ∧ But b w w' := by
  obtain ⟨t, ht, hl, hz⟩ := hR.text
  have HR := Lib.hid hR
  have hen := enters_of Tryz.func127 (by kernel_rfl) rfl
  by_cases hs : s.e = 0
  · obtain ⟨l, e⟩ := s
    obtain rfl : e = 0 := hs
    dsimp only at hl
    have hll : l.length = t.size := by rw [← hl, data_len]
    have HQ : Hid (qRest ⟨l, 0⟩ = (l, ⟨[], 0⟩)) := by show _ = _; unfold qRest; rw [if_neg (by simp)]
    have HJ := Lib.hid (ok_text b l t _ #[] t t.size _ HR.out ht (Nat.le_refl _) hen (restlook t w hz))
    rw [← hll, List.drop_length] at HJ
    have HE : Hid (t = ⟨l.toArray⟩) := by show _ = _; rw [← hl]
    clear hR ht hl hz hen hll
    go_enter Tryz.func102, Tryz.ntmps102
    go_wp2_with fail
    refine HJ.out.mono ?_
    rintro e w1 ⟨rfl, hW, hB⟩
    have HW := Lib.hid hW
    have HB := Lib.hid hB
    clear hW hB
    go_wp2_with fail
    go_ret
    exact ⟨by rw [HQ.out]; dsimp only; rw [← HE.out]; rfl, by rw [HQ.out]; exact HW.out, HB.out⟩
  · have HQ : Hid (qRest s = ([], s)) := by show _ = _; unfold qRest; rw [if_pos hs]
    have HJ := Lib.hid (fault_text b s (.func (.func 127) #[] #[]) _ HR.out hs)
    clear hR ht hl hz hen
    go_enter Tryz.func102, Tryz.ntmps102
    go_wp2_with fail
    refine HJ.out.mono ?_
    rintro e w1 ⟨rfl, rfl⟩
    go_wp2_with fail
    go_ret
    exact ⟨by rw [HQ.out]; rfl, by rw [HQ.out]; exact HR.out, But.refl _ _⟩
end Go.Proofs.YtmgkkoajjdgmbaaGreatDoor

/- What the program's reader answers, and its writers: End, Bool, and the bytes of bricks. -/
namespace Go.Proofs.YtmgkkoajjdgmbaaGreatDoor
open Go.RowKit _root_.Go.Proofs.YtmgkkoajjdgmbaaGreatDoor.Nm Wr
set_option linter.unusedVariables false
/-- What a truth's look tells: whether, of how many bytes, what is wrong. -/
def boolOf (l : List UInt8) : Bool × Nat × Nat := match l with
  | [] => (false, 0, 10)
  | c :: _ => if c = 0 then (false, 1, 0) else if c = 1 then (true, 1, 0) else (false, 0, 8)
theorem boolOf_q (l : List UInt8) : qBool ⟨l, 0⟩ = if (boolOf l).2.2 = 0 then ((boolOf l).1, ⟨l.drop (boolOf l).2.1, 0⟩) else (false, ⟨l, (boolOf l).2.2⟩) := by
  unfold qBool
  rw [if_neg (by simp)]
  cases l with
  | nil => rfl
  | cons d m =>
    unfold boolOf
    dsimp only
    by_cases d0 : d = 0
    · subst d0; rfl
    · by_cases d1 : d = 1
      · subst d1; rfl
      · have h0 : d.toNat ≠ 0 := fun h => d0 (UInt8.toNat_inj.1 h)
        have h1 : d.toNat ≠ 1 := fun h => d1 (UInt8.toNat_inj.1 h)
        rw [if_pos (show 1 < d.toNat by omega)]
        simp only [if_neg d0, if_neg d1]
        rfl
theorem boolOf_le (l : List UInt8) : (boolOf l).2.1 ≤ l.length := by
  cases l with
  | nil => exact Nat.le_refl _
  | cons d m =>
    unfold boolOf
    dsimp only
    split
    · simp
    · split <;> simp
set_option maxRecDepth 100000 in
theorem nums_any (a : Option Addr) (cap : Nat) (xs : List Nat) (w : World) (hU : U64s w a xs) (hn : xs.length ≤ 1000000) :
    Calls Tryz.prog 70 #[.slice a xs.length cap] w fun e w' => e = .returned (.string ⟨(nums xs).toArray⟩) ∧ Kept w w' := by
  have HU := Lib.hid hU
  have HN := Lib.hid (nums_le xs hU.2)
  clear hU
  go_enter Tryz.func70, Tryz.ntmps70
  go_wp2_with fail
  have HB0 : Hid (Bld w.heap.size w.heap.size [] (w.alloc (.cells #[.pointer none, .slice none 0 0] 151))) := bld_new w
  have HK0 : Hid (Kept w (w.alloc (.cells #[.pointer none, .slice none 0 0] 151))) := (Kept.refl _).alloc _
  generalize hB : w.heap.size = B at *
  have hB := Lib.hid hB
  go_loopw [8] (fun i wr => ∃ k : Nat, k ≤ xs.length ∧ i = .int .i64 k ∧ Hid (Bld B B (nums (xs.take k)) wr) ∧ Hid (Kept w wr)) (fun i _ => xs.length - (intOf i).toNat)
  case atStart => exact ⟨0, Nat.zero_le _, rfl, HB0.out, HK0.out⟩
  case round =>
    obtain ⟨k, hk, rfl, HB, HK⟩ := hrel
    have hBw : B ≤ wr.heap.size := by rw [← hB.out]; exact HK.out.size
    by_cases hlt : k < xs.length
    · have hU := HU.out.kept HK.out
      rcases hU with ⟨rfl | ⟨b, o, ha, hc⟩, hb⟩
      · exact absurd hlt (by simp)
      have hck := hc k hlt
      have hxk : xs[k] < 18446744073709551616 := hb _ (List.getElem_mem hlt)
      rw [List.getD_eq_getElem?_getD, List.getElem?_eq_getElem hlt, Option.getD_some] at hck
      have HCT := Lib.hid (nums_take xs k hlt)
      have HLE : Hid ((nums (xs.take k)).length ≤ 9 * xs.length) := by
        have h1 := nums_le (xs.take k) (fun x hx => hb x (List.mem_of_mem_take hx))
        have h2 : (xs.take k).length ≤ xs.length := by rw [List.length_take]; omega
        show _ ≤ _
        omega
      have HX := Lib.hid (up_le xs[k] hxk)
      rw [ha]
      generalize xs[k] = x at *
      clear hc hb
      go_wp2_with fail
      refine (up_any x _ (by omega) (by omega)).mono ?_
      rintro e w3 ⟨rfl, k3⟩
      rw [Int.toNat_natCast]
      have HS : Hid ((⟨(up x).toArray⟩ : ByteArray).size ≤ 9) := by show (up x).toArray.size ≤ _; rw [List.size_toArray]; exact HX.out
      have HD : Hid ((⟨(up x).toArray⟩ : ByteArray).data.toList = up x) := by show _ = _; simp
      generalize (⟨(up x).toArray⟩ : ByteArray) = p at *
      have HK3 := Lib.hid k3
      clear k3
      go_wp2_with fail
      refine (bld_write B B (nums (xs.take k)) p _ (HB.out.kept HK3.out) (by have := HLE.out; have := HS.out; omega) (by have := HK3.out.size; omega)).mono ?_
      rintro e w4 ⟨rfl, h4, k4⟩
      have H4 := Lib.hid h4
      have HK4 : Hid (Kept w w4) := by
        show Below _ _ _
        have := HK.out.trans HK3.out
        have k4' := k4
        rw [← hB.out] at k4'
        exact Below.trans this k4'
      clear h4 k4
      go_wp2_with fail
      refine ⟨⟨k + 1, by omega, by go_num, ?_, HK4.out⟩, by simp [intOf]; omega⟩
      show Bld B B (nums (xs.take (k + 1))) _
      rw [HCT.out, ← HD.out]
      exact H4.out
    · obtain rfl : k = xs.length := by omega
      rw [nums_all] at HB
      go_wp2_with fail
      refine (bld_string B B _ _ HB.out hBw).mono ?_
      rintro e w4 ⟨rfl, k4⟩
      have HK4 : Hid (Kept w w4) := by
        show Below _ _ _
        have k4' := k4
        rw [← hB.out] at k4'
        exact Below.trans HK.out k4'
      clear k4
      go_wp2_with fail
      go_ret
      exact ⟨rfl, HK4.out⟩
end Go.Proofs.YtmgkkoajjdgmbaaGreatDoor

