/- The walk of WireWrites. -/
import Derived.Test.YtdbhplahmnlgnaaWireAlive
import Derived.OpenShut
import Derived.Lib.Strings
namespace Go.Proofs.Ytdbhplahmnlgnaa
open Go.RowKit _root_.Go.Proofs.Ytdbhplahmnlgnaa.Nm Wr
set_option linter.unusedVariables false
set_option maxHeartbeats 1000000 in
set_option maxRecDepth 100000 in
theorem wireWrites_walk (a0 : Option Addr) (len0 cap0 : Nat) (z0 : List Int) (a1 : Option Addr) (len1 cap1 : Nat) (z1 : List ByteArray) (a2 : Bool) (w : World) (w0 : IsRow .u64 w a0 len0 cap0 z0) (w1 : IsStrs w a1 len1 cap1 z1) :
    Calls Try.prog 3 #[.slice a0 len0 cap0, .slice a1 len1 cap1, .bool a2] w fun e w' => e = .returned (.bool true) ∧ Kept w w' := by
  obtain ⟨xs, hxl, hU⟩ := w0.u64s
  obtain ⟨hS, hl, hz⟩ := w1.strs
  clear w0 w1
  generalize z1.take len1 = ss at *
  subst hl hxl
  rcases Nat.lt_or_ge 200 xs.length with h | h
  · clear hS hz hU
    go_enter Try.func3, Try.ntmps3
    go_wp2_with fail
    refine (wireAlive_any _).mono ?_
    rintro e w7 ⟨rfl, g7⟩
    go_wp2_with fail
    go_ret
    exact ⟨rfl, g7⟩
  rcases Nat.lt_or_ge 200 ss.length with h2 | h2
  · clear hS hz hU
    go_enter Try.func3, Try.ntmps3
    go_wp2_with fail
    refine (wireAlive_any _).mono ?_
    rintro e w7 ⟨rfl, g7⟩
    go_wp2_with fail
    go_ret
    exact ⟨rfl, g7⟩
  have HU := Lib.hid hU
  have HS := Lib.hid hS
  have HZ := Lib.hid hz
  clear hU hS hz
  go_enter Try.func3, Try.ntmps3
  go_wp2_with fail
  go_loopw [7, 9] (fun s i wr => ∃ (k : Nat) (t : ByteArray), k ≤ xs.length ∧ i = .int .i64 k ∧ s = .string t ∧ t.size ≤ 9 * k ∧ Hid (t.data.toList = nums (xs.take k)) ∧ Hid (Kept w wr)) (fun _ i _ => xs.length - (intOf i).toNat)
  case atStart => exact ⟨0, ⟨#[]⟩, Nat.zero_le _, rfl, rfl, Nat.le_refl _, rfl, Kept.refl _⟩
  case round =>
    obtain ⟨k, t, hk, rfl, rfl, ht, HT, HK⟩ := hrel
    by_cases hlt : k < xs.length
    · have hU := HU.out.kept HK.out
      rcases hU with ⟨rfl | ⟨b, o, ha, hc⟩, hb⟩
      · exact absurd hlt (by simp)
      have hck := hc k hlt
      have hxk : xs[k] < 18446744073709551616 := hb _ (List.getElem_mem hlt)
      rw [List.getD_eq_getElem?_getD, List.getElem?_eq_getElem hlt, Option.getD_some] at hck
      have HCT := Lib.hid (nums_take xs k hlt)
      have hle := up_le xs[k] hxk
      rw [ha]
      generalize xs[k] = x at *
      clear hc hb
      go_wp2_with fail
      refine (refwnum_any x _ (by omega) (by omega)).mono ?_
      rintro e w3 ⟨rfl, k3⟩
      rw [Int.toNat_natCast]
      have hsz : (⟨(up x).toArray⟩ : ByteArray).size ≤ 9 := by show (up x).toArray.size ≤ _; rw [List.size_toArray]; exact hle
      have hdt : (⟨(up x).toArray⟩ : ByteArray).data.toList = up x := by simp
      generalize (⟨(up x).toArray⟩ : ByteArray) = p at *
      have HD := Lib.hid hdt
      clear hdt hle
      go_wp2_with fail
      refine ⟨⟨k + 1, t ++ p, by omega, by go_num, rfl, by rw [ByteArray.size_append]; omega, ?_, HK.out.trans k3⟩, by simp [intOf]; omega⟩
      show (t ++ p).data.toList = nums (xs.take (k + 1))
      rw [HCT.out, ← HT.out, ← HD.out]
      simp
    · obtain rfl : k = xs.length := by omega
      rw [nums_all] at HT
      clear hlt
      have HK0 := HK
      clear HK
      go_wp2_with fail
      go_loopw [8, 10] (fun s i wr => ∃ (k : Nat) (t : ByteArray), k ≤ ss.length ∧ i = .int .i64 k ∧ s = .string t ∧ t.size ≤ 4200 * k ∧ Hid (t.data.toList = texts (ss.take k)) ∧ Hid (∀ x ∈ ss.take k, x.size ≤ 4096) ∧ Hid (Kept w wr)) (fun _ i _ => ss.length - (intOf i).toNat)
      case atStart => exact ⟨0, ⟨#[]⟩, Nat.zero_le _, rfl, rfl, Nat.le_refl _, rfl, by intro x hx; simp at hx, HK0.out⟩
      case round =>
        obtain ⟨k, q, hk, rfl, rfl, hq, HQ, HB, HK⟩ := hrel
        by_cases hlt : k < ss.length
        · have hS := HS.out.kept HK.out
          rcases hS with rfl | ⟨b, o, ha, hc⟩
          · exact absurd hlt (by simp)
          have hck := hc k hlt
          have hsk : ss[k].size ≤ maxLen := HZ.out _ (List.getElem_mem hlt)
          rw [List.getD_eq_getElem?_getD, List.getElem?_eq_getElem hlt, Option.getD_some] at hck
          have HCT := Lib.hid (texts_take ss k hlt)
          have HTK : Hid (ss.take (k + 1) = ss.take k ++ [ss[k]]) := List.take_succ_eq_append_getElem hlt
          rw [ha]
          generalize ss[k] = p at *
          unfold maxLen at hsk
          clear hc
          rcases Nat.lt_or_ge 4096 p.size with hp | hp
          · go_wp2_with fail
            refine (wireAlive_any _).mono ?_
            rintro e w7 ⟨rfl, g7⟩
            go_wp2_with fail
            go_ret
            exact ⟨rfl, HK.out.trans g7⟩
          · go_wp2_with fail
            refine (refwtext_any p _ (by omega)).mono ?_
            rintro e w3 ⟨rfl, k3⟩
            have hle := txt_le p.data.toList (by rw [data_len]; omega)
            rw [data_len] at hle
            have hsz : (⟨(txt p.data.toList).toArray⟩ : ByteArray).size ≤ p.size + 9 := by show (txt p.data.toList).toArray.size ≤ _; rw [List.size_toArray]; exact hle
            have hdt : (⟨(txt p.data.toList).toArray⟩ : ByteArray).data.toList = txt p.data.toList := by simp
            generalize (⟨(txt p.data.toList).toArray⟩ : ByteArray) = r at *
            have HD := Lib.hid hdt
            clear hdt hle
            go_wp2_with fail
            refine ⟨⟨k + 1, q ++ r, by omega, by go_num, rfl, by rw [ByteArray.size_append]; omega, ?_, ?_, HK.out.trans k3⟩, by simp [intOf]; omega⟩
            · show (q ++ r).data.toList = texts (ss.take (k + 1))
              rw [HCT.out, ← HQ.out, ← HD.out]
              simp
            · show ∀ x ∈ ss.take (k + 1), x.size ≤ 4096
              intro x hx
              rw [HTK.out] at hx
              rcases List.mem_append.1 hx with hx | hx
              · exact HB.out x hx
              · rw [List.mem_singleton.1 hx]; exact hp
        · obtain rfl : k = ss.length := by omega
          rw [texts_all] at HQ
          rw [List.take_length] at HB
          clear hlt
          go_wp2_with fail
          refine (nums_any a0 cap0 xs _ (HU.out.kept HK.out) (by omega)).mono ?_
          rintro e w3 ⟨rfl, k3⟩
          have ht' : (⟨(nums xs).toArray⟩ : ByteArray) = t := by rw [← HT.out]
          rw [ht']
          go_wp2_with fail
          refine (texts_any a1 cap1 ss _ (HS.out.kept (HK.out.trans k3)) (by omega) HB.out).mono ?_
          rintro e w4 ⟨rfl, k4⟩
          have hq' : (⟨(texts ss).toArray⟩ : ByteArray) = q := by rw [← HQ.out]
          rw [hq']
          go_wp2_with fail
          cases a2
          · refine (wbool_any false _).mono ?_
            rintro e w5 ⟨rfl, k5⟩
            rw [show (if false = true then (1 : UInt8) else 0) = 0 from rfl]
            go_wp2_with fail
            refine (refwbool_any false _).mono ?_
            rintro e w6 ⟨rfl, rfl⟩
            rw [show (if false = true then (1 : UInt8) else 0) = 0 from rfl]
            go_wp2_with fail
            refine (wireAlive_any _).mono ?_
            rintro e w7 ⟨rfl, k7⟩
            go_wp2_with fail
            go_ret
            exact ⟨rfl, HK.out.trans (k3.trans (k4.trans (k5.trans k7)))⟩
          · refine (wbool_any true _).mono ?_
            rintro e w5 ⟨rfl, k5⟩
            rw [show (if true = true then (1 : UInt8) else 0) = 1 from rfl]
            go_wp2_with fail
            refine (refwbool_any true _).mono ?_
            rintro e w6 ⟨rfl, rfl⟩
            rw [show (if true = true then (1 : UInt8) else 0) = 1 from rfl]
            go_wp2_with fail
            refine (wireAlive_any _).mono ?_
            rintro e w7 ⟨rfl, k7⟩
            go_wp2_with fail
            go_ret
            exact ⟨rfl, HK.out.trans (k3.trans (k4.trans (k5.trans k7)))⟩
end Go.Proofs.Ytdbhplahmnlgnaa
