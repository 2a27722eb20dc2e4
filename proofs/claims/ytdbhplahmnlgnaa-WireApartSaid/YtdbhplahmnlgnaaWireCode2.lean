/- What the program's reader answers, call by call. -/
import Derived.Test.YtdbhplahmnlgnaaWireCode
import Derived.Shelf.Strings.Prefix
namespace Go.Proofs.Ytdbhplahmnlgnaa
open Go.RowKit _root_.Go.Proofs.Ytdbhplahmnlgnaa.Nm Wr
set_option linter.unusedVariables false
set_option maxRecDepth 100000 in
theorem new_any (s : ByteArray) (w : World) (hs : s.size ≤ 281474976710656) :
    Calls Try.prog 15 #[.string s] w fun e w' => ∃ b, e = .returned (.pointer (some ⟨b, 0, none⟩)) ∧ w.heap.size ≤ b ∧ WrAt w' b ⟨s.data.toList, 0⟩ ∧ Kept w w' := by
  go_enter Try.func15, Try.ntmps15
  go_wp2_with fail
  refine (clone_any s _ hs).mono ?_
  rintro e w1 ⟨rfl, hk⟩
  have HK := Lib.hid hk
  clear hk
  go_wp2_with fail
  go_ret
  exact ⟨w1.heap.size, rfl, HK.out.size, ⟨⟨s, by rw [World.cell?_alloc_mark]; rfl, rfl, hs⟩, by rw [World.cell?_alloc_mark]; rfl, by rw [World.cell?_alloc_mark]; rfl, by rw [World.frozen?_alloc_mark]; rfl, by rw [World.frozen?_alloc_mark]; rfl⟩, HK.out.alloc _⟩
theorem numlook_bad (t : ByteArray) (x n c : Nat) (m : Int) (q : Addr) (w : World) (hz : t.size ≤ 281474976710656) (hq : w.cell? q = some (.int .u64 m)) (hx : rx t.data.toList = x) (hn : rn t.data.toList = n) (hcc : cd t.data.toList = c) (hc : c ≠ 0) :
    Calls Try.prog 35 #[.string t, .pointer (some q)] w fun e w' => e = .returned (.tuple #[.int .u64 (x : Nat), .int .i64 (n : Nat), .int .i64 (c : Nat)]) ∧ Kept w w' := by
  have HZ := Lib.hid hz
  have hne := int_ne _ hc
  go_enter Try.func35, Try.ntmps35
  go_wp2_with fail
  refine (up_read t _ (by unfold maxLen; have := HZ.out; omega)).mono ?_
  rintro e w1 ⟨he, hk⟩
  unfold ReadOut at he
  rw [hx, hn, hcc] at he
  subst he
  have HK := Lib.hid hk
  clear hk hx hn hcc hq
  go_wp2_with fail
  go_ret3
  exact ⟨rfl, HK.out⟩
theorem numlook_ok (t : ByteArray) (x n c : Nat) (m : Int) (q : Addr) (w : World) (hz : t.size ≤ 281474976710656) (hq : w.cell? q = some (.int .u64 m)) (h0 : 0 ≤ m) (h1 : m ≤ 18446744073709551615) (hx : rx t.data.toList = x) (hn : rn t.data.toList = n) (hcc : cd t.data.toList = 0) (hc : c = if m < (x : Nat) then 9 else 0) :
    Calls Try.prog 35 #[.string t, .pointer (some q)] w fun e w' => e = .returned (.tuple #[.int .u64 (x : Nat), .int .i64 (n : Nat), .int .i64 (c : Nat)]) ∧ Kept w w' := by
  have HZ := Lib.hid hz
  have HQ := Lib.hid (block_lt_of_cell hq)
  have hxl := rx_lt t.data.toList
  rw [hx] at hxl
  go_enter Try.func35, Try.ntmps35
  go_wp2_with fail
  refine (up_read t _ (by unfold maxLen; have := HZ.out; omega)).mono ?_
  rintro e w1 ⟨he, hk⟩
  unfold ReadOut at he
  rw [hx, hn, hcc] at he
  subst he
  have hq1 : w1.cell? q = some (.int .u64 m) := by rw [Below.cell hk (p := q) HQ.out]; exact hq
  have HK := Lib.hid hk
  clear hk hx hn hcc hq
  by_cases hm : m < (x : Int)
  · rw [if_pos hm] at hc
    subst hc
    go_wp2_with fail
    go_ret3
    exact ⟨rfl, HK.out⟩
  · rw [if_neg hm] at hc
    subst hc
    go_wp2_with fail
    go_ret3
    exact ⟨rfl, HK.out⟩
set_option maxRecDepth 100000 in
theorem num_any (b : Nat) (s : St) (m : Int) (w : World) (hR : WrAt w b s) (h0 : 0 ≤ m) (h1 : m ≤ 18446744073709551615) :
    Calls Try.prog 16 #[.pointer (some ⟨b, 0, none⟩), .int .u64 m] w fun e w' => e = .returned (.int .u64 ((qNum m.toNat s).1 : Nat)) ∧ WrAt w' b (qNum m.toNat s).2 ∧ But b w w' := by
  obtain ⟨t, ht, hl, hz⟩ := hR.text
  have HR := Lib.hid hR
  have hen := enters_of Try.func35 (by kernel_rfl) rfl
  have HA : Hid (Kept w (w.alloc (.cells #[.int .u64 m] 26))) := (Kept.refl _).alloc _
  have HT : Hid ((w.alloc (.cells #[.int .u64 m] 26)).cell? ⟨b, 1, none⟩ = some (.string t)) := by show _ = _; rw [Below.cell HA.out (p := ⟨b, 1, none⟩) hR.lt]; exact ht
  have HC : Hid ((w.alloc (.cells #[.int .u64 m] 26)).cell? ⟨w.heap.size, 0, none⟩ = some (.int .u64 m)) := by show _ = _; rw [World.cell?_alloc_mark]; rfl
  by_cases hs : s.e = 0
  · obtain ⟨l, e⟩ := s
    obtain rfl : e = 0 := hs
    dsimp only at hl
    by_cases hc : cd l = 0
    · by_cases hm : m < (rx l : Nat)
      · have HQ := Lib.hid (qnum_over m.toNat l hc (by omega))
        have HJ := Lib.hid (bad_num b l t _ #[.pointer (some ⟨w.heap.size, 0, none⟩)] (rx l : Nat) (rn l) 9 _ (HR.out.kept HA.out) HT.out (by omega) hen (numlook_ok t (rx l) (rn l) 9 m _ _ hz HC.out h0 h1 (by rw [hl]) (by rw [hl]) (by rw [hl]; exact hc) (by rw [if_pos hm])))
        clear hR ht hl hz hc hm hen
        go_enter Try.func16, Try.ntmps16
        go_wp2_with fail
        refine HJ.out.mono ?_
        rintro e w1 ⟨rfl, hW, hB⟩
        have HW := Lib.hid hW
        have HB := Lib.hid hB
        clear hW hB
        go_wp2_with fail
        go_ret
        exact ⟨by rw [HQ.out]; rfl, by rw [HQ.out]; exact HW.out, (HA.out.but b).trans HB.out⟩
      · have HQ := Lib.hid (qnum_ok m.toNat l hc (by omega))
        have hn : rn l ≤ t.size := by have := rn_le l; rw [← hl, data_len] at this; rw [← hl]; exact this
        have HJ := Lib.hid (ok_num b l t _ #[.pointer (some ⟨w.heap.size, 0, none⟩)] (rx l : Nat) (rn l) _ (HR.out.kept HA.out) HT.out hn hen (numlook_ok t (rx l) (rn l) 0 m _ _ hz HC.out h0 h1 (by rw [hl]) (by rw [hl]) (by rw [hl]; exact hc) (by rw [if_neg hm])))
        clear hR ht hl hz hc hm hen hn
        go_enter Try.func16, Try.ntmps16
        go_wp2_with fail
        refine HJ.out.mono ?_
        rintro e w1 ⟨rfl, hW, hB⟩
        have HW := Lib.hid hW
        have HB := Lib.hid hB
        clear hW hB
        go_wp2_with fail
        go_ret
        exact ⟨by rw [HQ.out]; rfl, by rw [HQ.out]; exact HW.out, (HA.out.but b).trans HB.out⟩
    · have HQ := Lib.hid (qnum_bad m.toNat l hc)
      have HJ := Lib.hid (bad_num b l t _ #[.pointer (some ⟨w.heap.size, 0, none⟩)] (rx l : Nat) (rn l) (cd l) _ (HR.out.kept HA.out) HT.out hc hen (numlook_bad t (rx l) (rn l) (cd l) m _ _ hz HC.out (by rw [hl]) (by rw [hl]) (by rw [hl]) hc))
      clear hR ht hl hz hc hen
      go_enter Try.func16, Try.ntmps16
      go_wp2_with fail
      refine HJ.out.mono ?_
      rintro e w1 ⟨rfl, hW, hB⟩
      have HW := Lib.hid hW
      have HB := Lib.hid hB
      clear hW hB
      go_wp2_with fail
      go_ret
      exact ⟨by rw [HQ.out]; rfl, by rw [HQ.out]; exact HW.out, (HA.out.but b).trans HB.out⟩
  · have HQ := Lib.hid (qnum_fault m.toNat s hs)
    have HJ := Lib.hid (fault_num b s (.func (.func 35) #[] #[.pointer (some ⟨w.heap.size, 0, none⟩)]) _ (HR.out.kept HA.out) hs)
    clear hR ht hl hz hen
    go_enter Try.func16, Try.ntmps16
    go_wp2_with fail
    refine HJ.out.mono ?_
    rintro e w1 ⟨rfl, rfl⟩
    go_wp2_with fail
    go_ret
    exact ⟨by rw [HQ.out]; rfl, by rw [HQ.out]; exact HR.out.kept HA.out, HA.out.but b⟩
end Go.Proofs.Ytdbhplahmnlgnaa
