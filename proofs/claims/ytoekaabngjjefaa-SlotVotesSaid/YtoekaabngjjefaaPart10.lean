/- What the developers' Bytes and Seal answer. -/
import Derived.Test.YtoekaabngjjefaaPart9
import Derived.Test.YtoekaabngjjefaaClone
import Derived.Deep.RegionWith
import Derived.Deep.RegionHeld3
import Derived.Deep.DeepCutAuto
import Derived.Deep.QuietTactic
import Derived.BigQuiet
import Derived.IntWalk
namespace Go.Proofs.Ytoekaabngjjefaa
open Go.RowKit Sm
set_option linter.unusedVariables false

theorem of_one (s : ByteArray) (w : World) (t : TypeId) (hs : s.size ≤ maxLen) :
    Calls Try.prog 48 #[.slice (some ⟨w.heap.size, 0, none⟩) 1 1] (w.alloc (.cells #[.string s] t)) fun e w' => e = .returned (.int .u32 (crc s.data.toList : Nat)) ∧ Kept w w' := by
  refine (of_any (some ⟨w.heap.size, 0, none⟩) 1 [s] _ (strs_one w s t) (by simp) (fun x hx => by simp at hx; subst hx; exact hs)).mono ?_
  rintro e w' ⟨rfl, hk⟩
  exact ⟨by rw [cat_one], ((Kept.refl _).alloc _).trans hk⟩
theorem of_oned (s : ByteArray) (w : World) (t : TypeId) (hs : s.size ≤ maxLen) :
    Calls Try.prog 48 #[.slice (some ⟨w.heap.size, 0, none⟩) 1 1] (w.alloc (.cells #[.string s] t)).drew fun e w' => e = .returned (.int .u32 (crc s.data.toList : Nat)) ∧ Kept w w' := by
  have h0 := (Kept.refl (w.alloc (.cells #[.string s] t))).drew
  refine (of_any (some ⟨w.heap.size, 0, none⟩) 1 [s] _ ((strs_one w s t).kept h0) (by simp) (fun x hx => by simp at hx; subst hx; exact hs)).mono ?_
  rintro e w' ⟨rfl, hk⟩
  exact ⟨by rw [cat_one], ((Kept.refl _).alloc _).drew.trans hk⟩
theorem b4_conv2 (w : World) (x : Nat) (hx : x ≤ 4294967295) :
    (convert 38 9 (.slice (some ⟨w.heap.size, 0, none⟩) 4 4)).run Try.prog (w.alloc (.cells #[.int .u8 ((x : Int) / 16777216), .int .u8 ((x : Int) / 65536 % 256), .int .u8 ((x : Int) / 256 % 256), .int .u8 ((x : Int) % 256)] 121)) = .ok (.string ⟨(b4 x).toArray⟩) (w.alloc (.cells #[.int .u8 ((x : Int) / 16777216), .int .u8 ((x : Int) / 65536 % 256), .int .u8 ((x : Int) / 256 % 256), .int .u8 ((x : Int) % 256)] 121)) := by
  refine run_convert_bytes_back (P := Try.prog) _ 38 9 5 ⟨w.heap.size, 0, none⟩ 4 (b4 x) Try.underlying38 Try.underlying5 Try.underlying9 (fun j hj => ?_)
  have hj4 : j < 4 := hj
  have ea : (⟨w.heap.size, 0, none⟩ : Addr).add j = ⟨w.heap.size, j, none⟩ := by
    unfold Addr.add
    split
    · rename_i h0; subst h0; rfl
    · simp
  rw [ea, World.cell?_alloc_mark]
  match j, hj4 with
  | 0, _ => simp [b4]; omega
  | 1, _ => simp [b4]
  | 2, _ => simp [b4]
  | 3, _ => simp [b4]
set_option maxRecDepth 100000 in
theorem bytes_any (x : Int) (w : World) (h0 : 0 ≤ x) (h1 : x ≤ 4294967295) :
    Calls Try.prog 47 #[.int .u32 x] w fun e w' => e = .returned (.string ⟨(b4 x.toNat).toArray⟩) ∧ Kept w w' := by
  obtain ⟨n, rfl⟩ := Int.eq_ofNat_of_zero_le h0
  have hc := b4_conv2 w n (by omega)
  go_enter Try.func47, Try.ntmps47
  go_wp2_with fail
  go_ret
  exact ⟨by rw [Int.toNat_natCast]; rfl, (Kept.refl _).alloc _⟩
set_option maxRecDepth 100000 in
theorem seal_any (s : ByteArray) (w : World) (hs : s.size ≤ 1000000) :
    Calls Try.prog 24 #[.string s] w fun e w' => (∃ r : ByteArray, e = .returned (.string r) ∧ Hid (r.data.toList = sealL s.data.toList) ∧ r.size = s.size + 4) ∧ Kept w w' := by
  have hc := crc_lt s.data.toList
  obtain ⟨x, hx⟩ : ∃ x, crc s.data.toList = x := ⟨_, rfl⟩
  have HX := Lib.hid hx
  have hx32 : (x : Int) ≤ 4294967295 := by omega
  clear hc hx
  go_enter Try.func24, Try.ntmps24
  go_wp2_with fail
  refine (of_one s w _ (by unfold maxLen; omega)).mono ?_
  rintro e w1 ⟨rfl, hk1⟩
  rw [HX.out]
  go_wp2_with fail
  refine (bytes_any x _ (by omega) hx32).mono ?_
  rintro e w2 ⟨rfl, hk2⟩
  have hz : (⟨(b4 (x : Int).toNat).toArray⟩ : ByteArray).size = 4 := by rw [mk_len]; rfl
  obtain ⟨r4, hr4⟩ : ∃ r4 : ByteArray, (⟨(b4 (x : Int).toNat).toArray⟩ : ByteArray) = r4 := ⟨_, rfl⟩
  have HR : Hid (r4.data.toList = b4 x) := by show _ = _; rw [← hr4]; simp
  rw [hr4] at hz
  rw [hr4]
  clear hr4
  go_wp2_with fail
  go_ret
  refine ⟨⟨_, rfl, ?_, ?_⟩, hk1.trans hk2⟩
  · show (s ++ r4).data.toList = _
    unfold sealL
    rw [HX.out, ← HR.out]
    simp
  · rw [ByteArray.size_append, hz]

theorem bytes_as (x : Int) (r4 : ByteArray) (w : World) (h0 : 0 ≤ x) (h1 : x ≤ 4294967295) (hr : r4.data.toList = b4 x.toNat) :
    Calls Try.prog 47 #[.int .u32 x] w fun e w' => e = .returned (.string r4) ∧ Kept w w' := by
  refine (bytes_any x w h0 h1).mono ?_
  rintro e w' ⟨rfl, hk⟩
  exact ⟨by rw [← hr], hk⟩
theorem sealed_end (s r4 : ByteArray) (h4 : 4 ≤ s.size) (hr : r4.data.toList = b4 (crc (s.extract 0 (s.size - 4)).data.toList)) : ((s.extract (s.size - 4) s.size).toList == r4.toList) = isSealed s.data.toList := by
  have hl : s.data.toList.length = s.size := by simp
  have hx : (s.extract 0 (s.size - 4)).data.toList = s.data.toList.take (s.size - 4) := by simp
  have hy : (s.extract (s.size - 4) s.size).data.toList = s.data.toList.drop (s.size - 4) := by
    simp
    rw [List.take_of_length_le (by simp)]
  unfold isSealed sealL
  rw [ByteArray.toList_eq, ByteArray.toList_eq, hr, hx, hl, hy]
  rw [show decide (4 ≤ s.size) = true from decide_eq_true h4, Bool.true_and]
  rw [Bool.eq_iff_iff, beq_iff_eq, beq_iff_eq]
  constructor
  · intro h
    rw [← h, List.take_append_drop]
  · intro h
    have e := List.take_append_drop (s.size - 4) s.data.toList
    have e2 := h.trans e.symm
    exact (List.append_cancel_left e2).symm
end Go.Proofs.Ytoekaabngjjefaa
