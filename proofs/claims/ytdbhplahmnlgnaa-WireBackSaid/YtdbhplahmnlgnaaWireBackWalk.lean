/- The walk of WireBack. -/
import Derived.Test.YtdbhplahmnlgnaaWireAlive
import Derived.Test.YtdbhplahmnlgnaaWireBackMath
import Derived.OpenShut
import Derived.Lib.Strings
import Derived.Deep.DeepCutAuto
import Derived.Deep.CutBlock
namespace Go.Proofs.Ytdbhplahmnlgnaa
open Go.RowKit _root_.Go.Proofs.Ytdbhplahmnlgnaa.Nm Wr
set_option linter.unusedVariables false
/-- What part p reads: all of it, or what is cut off. -/
def Part (p : Nat) (l : List UInt8) (t : ByteArray) : Prop := Rd (p == 0) ⟨t.data.toList, 0⟩ l
set_option maxHeartbeats 2000000 in
set_option maxRecDepth 100000 in
theorem wireBack_walk (a0 : Option Addr) (len0 cap0 : Nat) (z0 : List Int) (a1 : Option Addr) (len1 cap1 : Nat) (z1 : List ByteArray) (a2 : Bool) (a3 : Int) (w : World) (w0 : IsRow .u64 w a0 len0 cap0 z0) (w1 : IsStrs w a1 len1 cap1 z1) (w3 : (Lit.int .u16 a3).wf = true) :
    Calls Try.prog 5 #[.slice a0 len0 cap0, .slice a1 len1 cap1, .bool a2, .int .u16 a3] w fun e w' => e = .returned (.bool true) ∧ Kept w w' := by
  obtain ⟨xs, hxl, hU⟩ := w0.u64s
  obtain ⟨hS, hl, hz⟩ := w1.strs
  obtain ⟨y0, y1⟩ := bounds_u16 w3
  clear w0 w1 w3
  generalize z1.take len1 = ss at *
  subst hl hxl
  rcases Nat.lt_or_ge 100 xs.length with h | h
  · clear hS hz hU
    go_enter Try.func5, Try.ntmps5
    go_wp2_with fail
    refine (wireAlive_any _).mono ?_
    rintro e w7 ⟨rfl, g7⟩
    go_wp2_with fail
    go_ret
    exact ⟨rfl, g7⟩
  rcases Nat.lt_or_ge 100 ss.length with h2 | h2
  · clear hS hz hU
    go_enter Try.func5, Try.ntmps5
    go_wp2_with fail
    refine (wireAlive_any _).mono ?_
    rintro e w7 ⟨rfl, g7⟩
    go_wp2_with fail
    go_ret
    exact ⟨rfl, g7⟩
  have HU := Lib.hid hU
  have HS := Lib.hid hS
  have HZ := Lib.hid hz
  clear hU hS hz
  go_enter Try.func5, Try.ntmps5
  go_wp2_with fail
  go_loopw [9] (fun i wr => ∃ k : Nat, k ≤ ss.length ∧ i = .int .i64 k ∧ Hid (∀ x ∈ ss.take k, x.size ≤ 1024) ∧ wr = w) (fun i _ => ss.length - (intOf i).toNat)
  case atStart => exact ⟨0, Nat.zero_le _, rfl, by intro x hx; simp at hx, rfl⟩
  case round =>
    obtain ⟨k, hk, rfl, HB, rfl⟩ := hrel
    by_cases hlt : k < ss.length
    · rcases HS.out with rfl | ⟨b, o, ha, hc⟩
      · exact absurd hlt (by simp)
      have hck := hc k hlt
      have hsk : ss[k].size ≤ maxLen := HZ.out _ (List.getElem_mem hlt)
      rw [List.getD_eq_getElem?_getD, List.getElem?_eq_getElem hlt, Option.getD_some] at hck
      have HTK : Hid (ss.take (k + 1) = ss.take k ++ [ss[k]]) := List.take_succ_eq_append_getElem hlt
      rw [ha]
      generalize ss[k] = p at *
      unfold maxLen at hsk
      clear hc
      rcases Nat.lt_or_ge 1024 p.size with hp | hp
      · go_wp2_with fail
        refine (wireAlive_any _).mono ?_
        rintro e w7 ⟨rfl, g7⟩
        go_wp2_with fail
        go_ret
        exact ⟨rfl, g7⟩
      · go_wp2_with fail
        refine ⟨⟨k + 1, by omega, by go_num, ?_, trivial⟩, by simp [intOf]; omega⟩
        show ∀ x ∈ ss.take (k + 1), x.size ≤ 1024
        intro x hx
        rw [HTK.out] at hx
        rcases List.mem_append.1 hx with hx | hx
        · exact HB.out x hx
        · rw [List.mem_singleton.1 hx]; exact hp
    · obtain rfl : k = ss.length := by omega
      rw [List.take_length] at HB
      clear hlt
      have hn1 := nums_le xs HU.out.2
      have hn2 := texts_le 1024 (by omega) ss HB.out
      rw [← lit_size] at hn1 hn2
      go_wp2_with fail
      refine (nums_any a0 cap0 xs _ HU.out (by omega)).mono ?_
      rintro e w3 ⟨rfl, k3⟩
      generalize hr1 : (⟨(nums xs).toArray⟩ : ByteArray) = r1 at *
      have HR1 : Hid (r1.data.toList = nums xs) := by show _ = _; rw [← hr1]
      clear hr1
      go_wp2_with fail
      refine (texts_any a1 cap1 ss _ (HS.out.kept k3) (by omega) (fun s hs => by have := HB.out s hs; omega)).mono ?_
      rintro e w4 ⟨rfl, k4⟩
      generalize hr2 : (⟨(texts ss).toArray⟩ : ByteArray) = r2 at *
      have HR2 : Hid (r2.data.toList = texts ss) := by show _ = _; rw [← hr2]
      clear hr2
      go_wp2_with fail
      refine (wbool_any a2 _).mono ?_
      rintro e w5 ⟨rfl, k5⟩
      have HR3 : Hid ((⟨#[if a2 then 1 else 0]⟩ : ByteArray).data.toList = [if a2 then 1 else 0]) := rfl
      have hn3 : (⟨#[if a2 then 1 else 0]⟩ : ByteArray).size = 1 := rfl
      generalize (⟨#[if a2 then 1 else 0]⟩ : ByteArray) = r3 at *
      have hne : 0 < ((r1 ++ r2) ++ r3).size := by rw [ByteArray.size_append, ByteArray.size_append]; omega
      have hemp := not_empty _ hne
      have hsz : ((r1 ++ r2) ++ r3).size ≤ 104300 := by rw [ByteArray.size_append, ByteArray.size_append]; omega
      have HD : Hid (((r1 ++ r2) ++ r3).data.toList = restN xs ss a2 0) := by
        show _ = _
        rw [← rest_all, ← HR1.out, ← HR2.out, ← HR3.out]
        simp
      go_wp2_with fail
      generalize hs : ((r1 ++ r2) ++ r3) = s at *
      clear hs HR1 HR2 HR3 hn1 hn2 hn3
      have K5 : Hid (Kept wr w5) := k3.trans (k4.trans k5)
      clear k3 k4 k5
      go_loopw [11] (fun i wx => ∃ p : Nat, p ≤ 2 ∧ i = .int .i64 p ∧ Hid (Kept wr wx)) (fun i _ => 2 - (intOf i).toNat)
      case atStart => exact ⟨0, by omega, rfl, K5.out⟩
      case round =>
        obtain ⟨p, hp, rfl, HK⟩ := hrel
        by_cases hp2 : p < 2
        · go_upto_if 58 with fail
          go_cut [12] from 52 to 133 (fun v wx => ∃ t : ByteArray, v = .string t ∧ t.size ≤ 104300 ∧ Hid (Part p (restN xs ss a2 0) t) ∧ wx = wr)
          case first =>
            have hp01 : p = 0 ∨ p = 1 := by omega
            rcases hp01 with rfl | rfl
            · go_wp2_with fail
              go_meet
              exact ⟨s, rfl, hsz, by unfold Part; rw [HD.out]; exact .inl ⟨rfl, rfl⟩, rfl⟩
            · obtain ⟨j, hj⟩ := Int.eq_ofNat_of_zero_le (show 0 ≤ a3 % (s.size : Int) from Int.emod_nonneg _ (by omega))
              have hjs : j < s.size := by have := Int.emod_lt_of_pos a3 (show (0 : Int) < (s.size : Int) by omega); omega
              go_wp2_with fail
              go_meet
              refine ⟨s.extract 0 j, rfl, by rw [ByteArray.size_extract]; omega, ?_, rfl⟩
              unfold Part
              rw [ext_take]
              refine .inr ⟨rfl, .inr ⟨j, by rw [← HD.out, data_len]; exact hjs, by rw [HD.out]⟩⟩
          case rest =>
            obtain ⟨t, rfl, ht, HP, rfl⟩ := hcut
            go_wp2_with fail
            refine (new_any t _ (by omega)).mono ?_
            rintro e w6 ⟨b, rfl, hb, hW, k6⟩
            have hb0 : wc.heap.size ≤ b := hb
            have HK6 : Hid (Kept wc w6) := k6
            have HW6 := Lib.hid hW
            clear k6 hW hb
            go_wp2_with fail
            go_loopw [14, 15] (fun sm i wx => ∃ (k : Nat) (st : St) (same : Bool), k ≤ xs.length ∧ i = .int .i64 k ∧ sm = .bool same ∧ Hid ((p == 0) = true → same = true) ∧ Hid (WrAt wx b st ∧ Rd (p == 0) st (restN xs ss a2 k) ∧ Kept wc wx)) (fun _ i _ => xs.length - (intOf i).toNat)
            case atStart => exact ⟨0, _, true, Nat.zero_le _, rfl, rfl, fun _ => rfl, HW6.out, HP.out, HK6.out⟩
            case round =>
              obtain ⟨k, st, same, hk, rfl, rfl, HSm, HI⟩ := hrel
              by_cases hlt : k < xs.length
              · rcases HU.out.kept HK.out with ⟨rfl | ⟨bl, o, ha, hc⟩, hb⟩
                · exact absurd hlt (by simp)
                have hck := hc k hlt
                have hxk : xs[k] < 18446744073709551616 := hb _ (List.getElem_mem hlt)
                rw [List.getD_eq_getElem?_getD, List.getElem?_eq_getElem hlt, Option.getD_some] at hck
                have HC := Lib.hid hck
                have HRS := restN_step xs ss a2 k hlt
                rw [HRS] at HI
                have HRn := Lib.hid (rd_num _ _ xs[k] _ hxk HI.out.2.1)
                rw [ha]
                generalize xs[k] = x at *
                clear HRS hc hb hck
                go_wp2_with fail
                refine (num_any b st 18446744073709551615 _ HI.out.1 (by omega) (by omega)).mono ?_
                rw [show Int.toNat 18446744073709551615 = 18446744073709551615 from rfl]
                rintro e w7 ⟨rfl, hW7, hB7⟩
                have HK7 : Hid (Kept wc w7) := But.kept HI.out.2.2 hb0 hB7
                have HW7 := Lib.hid hW7
                have hck : w7.cell? ⟨bl, o + k, none⟩ = some (.int .u64 (x : Int)) := by
                  rw [Below.cell HK7.out (p := ⟨bl, o + k, none⟩) (block_lt_of_cell HC.out)]
                  exact HC.out
                clear hW7 hB7
                generalize qNum 18446744073709551615 st = q at *
                obtain ⟨v, st2⟩ := q
                dsimp only at HW7 ⊢
                cases same
                · go_wp2_with fail
                  exact ⟨⟨k + 1, st2, _, by omega, by go_num, rfl, fun h => HSm.out h, HW7.out, HRn.out.1, HK7.out⟩, by simp [intOf]; omega⟩
                · go_wp2_with fail
                  refine ⟨⟨k + 1, st2, _, by omega, by go_num, rfl, fun h => ?_, HW7.out, HRn.out.1, HK7.out⟩, by simp [intOf]; omega⟩
                  have hv : v = x := HRn.out.2 h
                  rw [hv]
                  simp
              · obtain rfl : k = xs.length := by omega
                clear hlt
                rw [restN_end] at HI
                go_wp2_with fail
                go_loopw [14, 17] (fun sm i wx => ∃ (k : Nat) (st : St) (same : Bool), k ≤ ss.length ∧ i = .int .i64 k ∧ sm = .bool same ∧ Hid ((p == 0) = true → same = true) ∧ Hid (WrAt wx b st ∧ Rd (p == 0) st (restT ss a2 k) ∧ Kept wc wx)) (fun _ i _ => ss.length - (intOf i).toNat)
                case atStart => exact ⟨0, st, same, Nat.zero_le _, rfl, rfl, HSm.out, HI.out⟩
                case round =>
                  obtain ⟨k, st, same, hk, rfl, rfl, HSm, HI⟩ := hrel
                  by_cases hlt : k < ss.length
                  · rcases HS.out.kept HK.out with rfl | ⟨bl, o, ha, hc⟩
                    · exact absurd hlt (by simp)
                    have hck := hc k hlt
                    have hsk : ss[k].size ≤ 1024 := HB.out _ (List.getElem_mem hlt)
                    rw [List.getD_eq_getElem?_getD, List.getElem?_eq_getElem hlt, Option.getD_some] at hck
                    have HC := Lib.hid hck
                    have HRS := restT_step ss a2 k hlt
                    rw [HRS] at HI
                    have HRn := Lib.hid (rd_text _ _ ss[k].data.toList _ (by rw [data_len]; omega) HI.out.2.1)
                    rw [data_len] at HRn
                    rw [ha]
                    generalize ss[k] = x at *
                    have hck0 : wr.cell? ⟨bl, o + k, none⟩ = some (.string x) := by
                      rw [Below.cell HI.out.2.2 (p := ⟨bl, o + k, none⟩) (block_lt_of_cell HC.out)]
                      exact HC.out
                    clear HRS hc hck
                    go_wp2_with fail
                    refine (text_any b st x.size _ HI.out.1 (by omega) (by omega)).mono ?_
                    rintro e w7 ⟨rfl, hW7, hB7⟩
                    have HK7 : Hid (Kept wc w7) := But.kept HI.out.2.2 hb0 hB7
                    have HW7 := Lib.hid hW7
                    have hck : w7.cell? ⟨bl, o + k, none⟩ = some (.string x) := by
                      rw [Below.cell HK7.out (p := ⟨bl, o + k, none⟩) (block_lt_of_cell HC.out)]
                      exact HC.out
                    clear hW7 hB7 hck0
                    generalize qText x.size st = q at *
                    obtain ⟨v, st2⟩ := q
                    dsimp only at HW7 ⊢
                    cases same
                    · go_wp2_with fail
                      exact ⟨⟨k + 1, st2, _, by omega, by go_num, rfl, fun h => HSm.out h, HW7.out, HRn.out.1, HK7.out⟩, by simp [intOf]; omega⟩
                    · go_wp2_with fail
                      refine ⟨⟨k + 1, st2, _, by omega, by go_num, rfl, fun h => ?_, HW7.out, HRn.out.1, HK7.out⟩, by simp [intOf]; omega⟩
                      have hv : v = x.data.toList := HRn.out.2 h
                      rw [hv]
                      simp
                      rw [ByteArray.toList_eq]
                  · obtain rfl : k = ss.length := by omega
                    clear hlt
                    rw [restT_end] at HI
                    go_wp2_with fail
                    refine (bool_any b st _ HI.out.1).mono ?_
                    rintro e w8 ⟨rfl, hW8, hB8⟩
                    have HB := Lib.hid (rd_bool _ _ _ HI.out.2.1)
                    have HW8 := Lib.hid hW8
                    have HK8 : Hid (Kept wc w8) := But.kept HI.out.2.2 hb0 hB8
                    clear hW8 hB8
                    have hp01 : p = 0 ∨ p = 1 := by omega
                    rcases hp01 with rfl | rfl
                    · have e1 := HB.out.1 rfl
                      have e2 : same = true := HSm.out rfl
                      subst e2
                      rw [e1] at HW8 ⊢
                      dsimp only
                      cases a2
                      · go_wp2_with fail
                        refine (end_any b _ _ HW8.out).mono ?_
                        rintro e w9 ⟨he, hW9, hB9⟩
                        rw [show qEnd _ = _ from wa9] at he
                        subst he
                        have HK9 : Hid (Kept wc w9) := But.kept HK8.out hb0 hB9
                        clear hW9 hB9
                        go_wp2_with fail
                        exact ⟨⟨1, by omega, by go_num, HK.out.trans HK9.out⟩, by simp [intOf]⟩
                      · go_wp2_with fail
                        refine (end_any b _ _ HW8.out).mono ?_
                        rintro e w9 ⟨he, hW9, hB9⟩
                        rw [show qEnd _ = _ from wa9] at he
                        subst he
                        have HK9 : Hid (Kept wc w9) := But.kept HK8.out hb0 hB9
                        clear hW9 hB9
                        go_wp2_with fail
                        exact ⟨⟨1, by omega, by go_num, HK.out.trans HK9.out⟩, by simp [intOf]⟩
                    · have e1 := HB.out.2 rfl
                      go_wp2_with fail
                      refine (err_any b _ _ HW8.out).mono ?_
                      rintro e w9 ⟨rfl, hB9, hW9⟩
                      rw [e1]
                      have HK9 : Hid (Kept wc w9) := But.kept HK8.out hb0 hB9
                      clear hW9 hB9
                      go_wp2_with fail
                      exact ⟨⟨2, by omega, by go_num, HK.out.trans HK9.out⟩, by simp [intOf]⟩
        · obtain rfl : p = 2 := by omega
          go_wp2_with fail
          refine (wireAlive_any _).mono ?_
          rintro e w7 ⟨rfl, g7⟩
          go_wp2_with fail
          go_ret
          exact ⟨rfl, HK.out.trans g7⟩
end Go.Proofs.Ytdbhplahmnlgnaa
