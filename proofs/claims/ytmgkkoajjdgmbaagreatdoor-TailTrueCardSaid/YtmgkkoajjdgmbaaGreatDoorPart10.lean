/- What the developers' Bytes and Seal answer. -/
import Derived.Test.YtmgkkoajjdgmbaaGreatDoorPart9
import Derived.Test.YtmgkkoajjdgmbaaGreatDoorPart8
import Derived.Deep.RegionWith
import Derived.Deep.RegionHeld3
import Derived.Deep.DeepCutAuto
import Derived.Deep.QuietTactic
import Derived.BigQuiet
import Derived.IntWalk
set_option linter.unusedVariables false
set_option linter.unusedSimpArgs false
set_option linter.unusedSectionVars false
set_option linter.unnecessarySimpa false
set_option linter.deprecated false
namespace Go.Proofs.YtmgkkoajjdgmbaaGreatDoor
open Go.RowKit Sm
set_option linter.unusedVariables false

theorem of_one (s : ByteArray) (w : World) (t : TypeId) (hs : s.size ≤ maxLen) :
    Calls Tryz.prog 55 #[.slice (some ⟨w.heap.size, 0, none⟩) 1 1] (w.alloc (.cells #[.string s] t)) fun e w' => e = .returned (.int .u32 (crc s.data.toList : Nat)) ∧ Kept w w' := by
  refine (of_any (some ⟨w.heap.size, 0, none⟩) 1 [s] _ (strs_one w s t) (by simp) (fun x hx => by simp at hx; subst hx; exact hs)).mono ?_
  rintro e w' ⟨rfl, hk⟩
  exact ⟨by rw [cat_one], ((Kept.refl _).alloc _).trans hk⟩
theorem of_oned (s : ByteArray) (w : World) (t : TypeId) (hs : s.size ≤ maxLen) :
    Calls Tryz.prog 55 #[.slice (some ⟨w.heap.size, 0, none⟩) 1 1] (w.alloc (.cells #[.string s] t)).drew fun e w' => e = .returned (.int .u32 (crc s.data.toList : Nat)) ∧ Kept w w' := by
  have h0 := (Kept.refl (w.alloc (.cells #[.string s] t))).drew
  refine (of_any (some ⟨w.heap.size, 0, none⟩) 1 [s] _ ((strs_one w s t).kept h0) (by simp) (fun x hx => by simp at hx; subst hx; exact hs)).mono ?_
  rintro e w' ⟨rfl, hk⟩
  exact ⟨by rw [cat_one], ((Kept.refl _).alloc _).drew.trans hk⟩
theorem b4_conv2 (w : World) (x : Nat) (hx : x ≤ 4294967295) :
    (convert 24 9 (.slice (some ⟨w.heap.size, 0, none⟩) 4 4)).run Tryz.prog (w.alloc (.cells #[.int .u8 ((x : Int) / 16777216), .int .u8 ((x : Int) / 65536 % 256), .int .u8 ((x : Int) / 256 % 256), .int .u8 ((x : Int) % 256)] 170)) = .ok (.string ⟨(b4 x).toArray⟩) (w.alloc (.cells #[.int .u8 ((x : Int) / 16777216), .int .u8 ((x : Int) / 65536 % 256), .int .u8 ((x : Int) / 256 % 256), .int .u8 ((x : Int) % 256)] 170)) := by
  refine run_convert_bytes_back (P := Tryz.prog) _ 24 9 5 ⟨w.heap.size, 0, none⟩ 4 (b4 x) Tryz.underlying24 Tryz.underlying5 Tryz.underlying9 (fun j hj => ?_)
  have hj4 : j < 4 := hj
  have ea : (⟨w.heap.size, 0, none⟩ : Addr).add j = ⟨w.heap.size, j, none⟩ := by
    unfold Addr.add
    split
    · rename_i h0; subst h0; rfl
    · simp
  rw [ea, World.cell?_alloc_mark]
  match j, hj4 with
  | 0, _ => simp [b4]; omega
  | 1, _ => simp [b4]
  | 2, _ => simp [b4]
  | 3, _ => simp [b4]
set_option maxRecDepth 100000 in
theorem bytes_any (x : Int) (w : World) (h0 : 0 ≤ x) (h1 : x ≤ 4294967295) :
    Calls Tryz.prog 91 #[.int .u32 x] w fun e w' => e = .returned (.string ⟨(b4 x.toNat).toArray⟩) ∧ Kept w w' := by
  obtain ⟨n, rfl⟩ := Int.eq_ofNat_of_zero_le h0
  have hc := b4_conv2 w n (by omega)
  go_enter Tryz.func91, Tryz.ntmps91
  go_wp2_with fail
  go_ret
  exact ⟨by rw [Int.toNat_natCast]; rfl, (Kept.refl _).alloc _⟩
set_option maxRecDepth 100000 in
theorem seal_any (s : ByteArray) (w : World) (hs : s.size ≤ 1000000) :
    Calls Tryz.prog 69 #[.string s] w fun e w' => (∃ r : ByteArray, e = .returned (.string r) ∧ Hid (r.data.toList = sealL s.data.toList) ∧ r.size = s.size + 4) ∧ Kept w w' := by
  have hc := crc_lt s.data.toList
  obtain ⟨x, hx⟩ : ∃ x, crc s.data.toList = x := ⟨_, rfl⟩
  have HX := Lib.hid hx
  have hx32 : (x : Int) ≤ 4294967295 := by omega
  clear hc hx
  go_enter Tryz.func69, Tryz.ntmps69
  go_wp2_with fail
  refine (of_one s w _ (by unfold maxLen; omega)).mono ?_
  rintro e w1 ⟨rfl, hk1⟩
  rw [HX.out]
  go_wp2_with fail
  refine (bytes_any x _ (by omega) hx32).mono ?_
  rintro e w2 ⟨rfl, hk2⟩
  have hz : (⟨(b4 (x : Int).toNat).toArray⟩ : ByteArray).size = 4 := by rw [mk_len]; rfl
  obtain ⟨r4, hr4⟩ : ∃ r4 : ByteArray, (⟨(b4 (x : Int).toNat).toArray⟩ : ByteArray) = r4 := ⟨_, rfl⟩
  have HR : Hid (r4.data.toList = b4 x) := by show _ = _; rw [← hr4]; simp
  rw [hr4] at hz
  rw [hr4]
  clear hr4
  go_wp2_with fail
  go_ret
  refine ⟨⟨_, rfl, ?_, ?_⟩, hk1.trans hk2⟩
  · show (s ++ r4).data.toList = _
    unfold sealL
    rw [HX.out, ← HR.out]
    simp
  · rw [ByteArray.size_append, hz]

theorem bytes_as (x : Int) (r4 : ByteArray) (w : World) (h0 : 0 ≤ x) (h1 : x ≤ 4294967295) (hr : r4.data.toList = b4 x.toNat) :
    Calls Tryz.prog 91 #[.int .u32 x] w fun e w' => e = .returned (.string r4) ∧ Kept w w' := by
  refine (bytes_any x w h0 h1).mono ?_
  rintro e w' ⟨rfl, hk⟩
  exact ⟨by rw [← hr], hk⟩
theorem sealed_end (s r4 : ByteArray) (h4 : 4 ≤ s.size) (hr : r4.data.toList = b4 (crc (s.extract 0 (s.size - 4)).data.toList)) : ((s.extract (s.size - 4) s.size).toList == r4.toList) = isSealed s.data.toList := by
  have hl : s.data.toList.length = s.size := by simp
  have hx : (s.extract 0 (s.size - 4)).data.toList = s.data.toList.take (s.size - 4) := by simp
  have hy : (s.extract (s.size - 4) s.size).data.toList = s.data.toList.drop (s.size - 4) := by
    simp
    rw [List.take_of_length_le (by simp)]
  unfold isSealed sealL
  rw [ByteArray.toList_eq, ByteArray.toList_eq, hr, hx, hl, hy]
  rw [show decide (4 ≤ s.size) = true from decide_eq_true h4, Bool.true_and]
  rw [Bool.eq_iff_iff, beq_iff_eq, beq_iff_eq]
  constructor
  · intro h
    rw [← h, List.take_append_drop]
  · intro h
    have e := List.take_append_drop (s.size - 4) s.data.toList
    have e2 := h.trans e.symm
    exact (List.append_cancel_left e2).symm
set_option maxRecDepth 100000 in
theorem open_any (s : ByteArray) (w : World) (hs : s.size ≤ 1000000) :
    Calls Tryz.prog 99 #[.string s] w fun e w' => e = .returned (.tuple #[.string (opened s), .bool (isSealed s.data.toList)]) ∧ Kept w w' := by
  have hl : s.data.toList.length = s.size := by simp
  have HL := Lib.hid hl
  clear hl
  rcases Nat.lt_or_ge s.size 4 with h4 | h4
  · have hb : isSealed s.data.toList = false := by
      unfold isSealed
      rw [HL.out]
      simp
      omega
    rw [opened_no s hb, hb]
    clear hb
    have h1 : decide ((s.size : Int) - 4 < 0) = true := by simp; omega
    have h2 : IntKind.i64.wrap ((s.size : Int) - 4) = (s.size : Int) - 4 := IntWalk.i64_in _ (by omega)
    go_enter Tryz.func99, Tryz.ntmps99
    go_wp2_with fail
    go_quiet (fail)
    go_wp2_with fail
    go_ret2
    exact ⟨rfl, (Kept.refl _).drewN _⟩
  · obtain ⟨k, hk⟩ : ∃ k, s.size = k + 4 := ⟨s.size - 4, by omega⟩
    have hk4 : s.size - 4 = k := by omega
    obtain ⟨x, hx⟩ : ∃ x, crc (s.extract 0 k).data.toList = x := ⟨_, rfl⟩
    have hx32 : (x : Int) ≤ 4294967295 := by have := crc_lt (s.extract 0 k).data.toList; omega
    obtain ⟨r4, hr⟩ : ∃ r4 : ByteArray, r4.data.toList = b4 x := ⟨⟨(b4 x).toArray⟩, by simp⟩
    have hse := sealed_end s r4 h4 (by rw [hk4, hx, hr])
    rw [hk4] at hse
    have HOF := Lib.hid (fun w t => of_oned (s.extract 0 k) w t (by simp; unfold maxLen; omega))
    have HBY := Lib.hid (fun w => bytes_as x r4 w (by omega) hx32 (by rw [Int.toNat_natCast]; exact hr))
    rw [hx] at HOF
    have HSE := Lib.hid hse
    have HR := Lib.hid hr
    have HK4 := Lib.hid hk4
    have hki : (s.size : Int) - 4 = (k : Int) := by omega
    have hkn : ¬ (k : Int) < 0 := by omega
    have hks : (k : Int) ≤ (s.size : Int) := by omega
    have hks2 : k ≤ s.size := by omega
    clear hse hr hk4 hx hk
    go_enter Tryz.func99, Tryz.ntmps99
    go_upto_region 2 with fail
    go_cut [21] (fun b wx => b = .bool (!isSealed s.data.toList) ∧ Kept w wx)
    case first =>
      have hb1 : decide ((k : Int) < 0) = false := by simp
      clear hki
      go_region_held3 (fun _ => True) (first | exact trivial) (first | (go_at_call 55; refine (HOF.out _ _).mono ?_; rintro e w' ⟨rfl, hg⟩) | (go_at_call 91; refine (HBY.out _).mono ?_; rintro e w' ⟨rfl, hg⟩))
      go_wp2_with fail
      go_meet
      exact ⟨by rw [HSE.out], Kept.trans (by assumption) hg⟩
    case rest =>
      obtain ⟨rfl, hk⟩ := hcut
      cases hB : isSealed s.data.toList with
      | true =>
        have HB := Lib.hid hB
        clear hB
        have hcl := clone_any (s.extract 0 k) wc (by simp; omega)
        have HCL := Lib.hid hcl
        clear hcl
        go_wp2_with fail
        refine HCL.out.mono ?_
        rintro e w3 ⟨rfl, hk3⟩
        go_wp2_with fail
        go_ret2
        exact ⟨by rw [opened_yes s HB.out, HK4.out, HB.out]; rfl, hk.trans hk3⟩
      | false =>
        have HB := Lib.hid hB
        clear hB
        go_wp2_with fail
        go_ret2
        exact ⟨by rw [opened_no s HB.out, HB.out]; rfl, hk⟩
end Go.Proofs.YtmgkkoajjdgmbaaGreatDoor
