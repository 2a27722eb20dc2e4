/- The document's: what is behind a prefix, a name's bytes, eight bytes, a number, how texts stand. -/
import Derived.Test.YtccpbgkaeldlaaaNyBeh
import Derived.Test.YtccpbgkaeldlaaaNyMay
namespace Go.Proofs.Ytccpbgkaeldlaaa
open Go.RowKit _root_.Go.Proofs.Ytccpbgkaeldlaaa.Nm Ny
set_option linter.unusedVariables false
set_option linter.unusedSimpArgs false
set_option maxHeartbeats 1000000 in
set_option maxRecDepth 100000 in
theorem rBehind_any (s : ByteArray) (w : World) (hs : s.size ≤ 1000000) :
    Calls Try.prog 23 #[.string s] w fun e w' => e = .returned (.string ⟨(behL s.data.toList).toArray⟩) ∧ Kept w w' := by
  have HSL := Lib.hid (list_size s)
  go_enter Try.func23, Try.ntmps23
  go_wp2_with fail
  go_loopw [3] (fun i wr => ∃ k : Nat, k ≤ s.size ∧ i = .int .i64 k ∧ Hid (∀ j, k ≤ j → j < s.size → s.data.toList[j]!.toNat = 255) ∧ wr = w) (fun i _ => (intOf i).toNat)
  case atStart => exact ⟨s.size, Nat.le_refl _, rfl, fun j h1 h2 => by omega, rfl⟩
  case round =>
    obtain ⟨k, hk, rfl, HI, rfl⟩ := hrel
    by_cases h0 : 0 < k
    · obtain ⟨m, rfl⟩ : ∃ m, k = m + 1 := ⟨k - 1, by omega⟩
      have hm : m < s.size := by omega
      obtain ⟨c, hc0⟩ : ∃ c, s[m] = c := ⟨_, rfl⟩
      have HC : Hid (s.data.toList[m]! = c) := by show _ = _; rw [getElem!_pos _ m (by rw [HSL.out]; exact hm), ← hc0]; rfl
      have hw : IntKind.i64.wrap (((m + 1 : Nat) : Int) - 1) = (m : Int) := by rw [IntWalk.i64_in _ (by omega)]; omega
      have hw2 : ((m + 1 : Nat) : Int) - 1 = (m : Int) := by omega
      by_cases h255 : c.toNat < 255
      · have b1 : (((c.toNat : Nat) : Int) == 255) = false := beq_eq_false_iff_ne.2 (by omega)
        have b2 : (((m + 1 : Nat) : Int) == 0) = false := beq_eq_false_iff_ne.2 (by omega)
        have HB := Lib.hid (beh_at s.data.toList m (by rw [HSL.out]; exact hm) (fun j h1 h2 => HI.out j (by omega) (by rw [← HSL.out]; exact h2)) (by rw [HC.out]; exact h255))
        rw [HC.out] at HB
        have hone := one_byteN wr ((((c.toNat : Nat) : Int) + 1) % 256) (c + 1) (by rw [add_one_nat h255]; omega)
        have hsl : ∀ W : World, (Instr.slice 9 (.string s) none (some (.int .i64 (m : Int))) none).run Try.prog W = .ok (.string ⟨(s.data.toList.take m).toArray⟩) W := fun W => by
          have h := run_slice_string_h (P := Try.prog) W 9 s Try.underlying9 .i64 (m : Int) (by omega) (by omega)
          rw [Int.toNat_natCast, ext_take] at h
          exact h
        have hadd := fun W => add_strN ⟨(s.data.toList.take m).toArray⟩ ⟨#[c + 1]⟩ (behL s.data.toList) (by rw [HB.out]) (by rw [HB.out]; simp; omega) W
        clear HI h255
        go_wp2_with fail
        go_region
        all_goals
          go_wp2_with fail
          go_ret
          exact ⟨rfl, ((Kept.refl _).alloc _).drew⟩
      · have b1 : (((c.toNat : Nat) : Int) == 255) = true := by rw [beq_iff_eq]; have := c.toNat_lt; omega
        have HI2 : Hid (∀ j, m ≤ j → j < s.size → s.data.toList[j]!.toNat = 255) := fun j h1 h2 => by
          by_cases e : j = m
          · rw [e, HC.out]; have := c.toNat_lt; omega
          · exact HI.out j (by omega) h2
        clear HI h255
        go_wp2_with fail
        go_roundw
        case rel => exact ⟨m, by omega, by first | rfl | go_num, HI2.out, by first | rfl | trivial⟩
        case measure => simp [intOf]
    · obtain rfl : k = 0 := by omega
      have HB := Lib.hid (beh_no s.data.toList (fun j h => HI.out j (Nat.zero_le _) (by rw [← HSL.out]; exact h)))
      clear HI
      go_wp2_with fail
      go_ret
      exact ⟨by rw [HB.out]; rfl, Kept.refl _⟩
set_option maxHeartbeats 1000000 in
set_option maxRecDepth 100000 in
theorem rName_any (s : ByteArray) (w : World) (hs : s.size ≤ 1000000) :
    Calls Try.prog 35 #[.string s] w fun e w' => e = .returned (.string ⟨(nmL s.data.toList).toArray⟩) ∧ w' = w := by
  have HSL := Lib.hid (list_size s)
  go_enter Try.func35, Try.ntmps35
  go_wp2_with fail
  go_loopw [3, 4] (fun t i wr => ∃ k : Nat, k ≤ s.size ∧ i = .int .i64 k ∧ t = .string ⟨(nmL (s.data.toList.take k)).toArray⟩ ∧ wr = w) (fun _ i _ => s.size - (intOf i).toNat)
  case atStart => exact ⟨0, Nat.zero_le _, rfl, rfl, rfl⟩
  case round =>
    obtain ⟨k, hk, rfl, rfl, rfl⟩ := hrel
    by_cases hlt : k < s.size
    · have HT := Lib.hid (nm_take s.data.toList k (by rw [HSL.out]; exact hlt))
      have HN : Hid ((nmL (s.data.toList.take k)).length ≤ 2000000) := by show _ ≤ _; have := nm_len s.data.toList k s.size HSL.out; omega
      obtain ⟨c, hc0⟩ : ∃ c, s[k] = c := ⟨_, rfl⟩
      have HE : Hid (s.data.toList[k]'(by rw [HSL.out]; exact hlt) = c) := hc0
      rw [HE.out] at HT
      have hsl : ∀ W : World, (Instr.slice 9 (.string s) (some (.int .i64 (k : Int))) (some (.int .i64 ((k : Int) + 1))) none).run Try.prog W = .ok (.string ⟨#[c]⟩) W := fun W => by
        have h := run_slice_string (P := Try.prog) W 9 s .i64 .i64 (k : Int) ((k : Int) + 1) Try.underlying9 (by omega) (by omega) (by omega)
        have e : s.extract (k : Int).toNat ((k : Int) + 1).toNat = ⟨#[c]⟩ := by
          apply ba_ext
          rw [Int.toNat_natCast, show ((k : Int) + 1).toNat = k + 1 by omega]
          simp only [ByteArray.data_extract, Array.toList_extract, List.extract_eq_take_drop]
          rw [show k + 1 - k = 1 by omega, List.drop_eq_getElem_cons (by rw [HSL.out]; exact hlt), HE.out]
          rfl
        rw [e] at h
        exact h
      have hw : IntKind.i64.wrap ((k : Int) + 1) = (k : Int) + 1 := IntWalk.i64_in _ (by omega)
      generalize nmL (s.data.toList.take k) = q at *
      have hadd := fun W => add_strN ⟨q.toArray⟩ ⟨#[c]⟩ (q ++ [c]) rfl (by rw [List.length_append]; have := HN.out; simp; omega) W
      by_cases h0 : c = 0
      · have hz : (((c.toNat : Nat) : Int) == 0) = true := by rw [h0]; rfl
        have HQ : Hid (nmL (s.data.toList.take (k + 1)) = (q ++ [c]) ++ [255]) := by show _ = _; rw [HT.out, h0]; simp [nmL]
        have hadd2 := fun W => add_strN ⟨(q ++ [c]).toArray⟩ ⟨#[255]⟩ ((q ++ [c]) ++ [255]) rfl (by simp only [List.length_append]; have := HN.out; simp; omega) W
        clear HT h0
        go_wp2_with fail
        exact ⟨⟨k + 1, by omega, by go_num, by rw [HQ.out]; first | rfl | simp, by first | rfl | trivial⟩, by simp [intOf]; omega⟩
      · have hz : (((c.toNat : Nat) : Int) == 0) = false := by rw [beq_eq_false_iff_ne]; have := pos_nat h0; omega
        have HQ : Hid (nmL (s.data.toList.take (k + 1)) = q ++ [c]) := by show _ = _; rw [HT.out, nmL, if_neg h0]; rfl
        clear HT h0
        go_wp2_with fail
        exact ⟨⟨k + 1, by omega, by go_num, by rw [HQ.out], by first | rfl | trivial⟩, by simp [intOf]; omega⟩
    · obtain rfl : k = s.size := by omega
      have HT : Hid (s.data.toList.take s.size = s.data.toList) := List.take_of_length_le (by rw [HSL.out]; exact Nat.le_refl _)
      go_wp2_with fail
      go_ret
      refine ⟨?_, rfl⟩
      show Ending.returned (Value.string ⟨(nmL (s.data.toList.take s.size)).toArray⟩) = _
      rw [HT.out]
set_option maxHeartbeats 1000000 in
set_option maxRecDepth 100000 in
theorem rEight_any (x : Nat) (w : World) (hx : x < 18446744073709551616) :
    Calls Try.prog 34 #[.int .u64 (x : Nat)] w fun e w' => e = .returned (.string ⟨(be 8 x).toArray⟩) ∧ Kept w w' := by
  go_enter Try.func34, Try.ntmps34
  go_wp2_with fail
  go_loopw [3, 4] (fun u i wr => ∃ m : Nat, m ≤ 8 ∧ i = .int .i64 ((m : Int) - 1) ∧ Hid (∃ q, q ++ be m x = be 8 x ∧ GatU w.heap.size u q wr ∧ Kept w wr)) (fun _ i _ => (intOf i + 1).toNat)
  case atStart => exact ⟨8, Nat.le_refl _, rfl, [], rfl, GatU.nil _ _, Kept.refl _⟩
  case round =>
    obtain ⟨m, hm, rfl, HI⟩ := hrel
    obtain ⟨q, hq, hG, hb⟩ := HI.out
    have HQ := Lib.hid hq
    have HG := Lib.hid hG
    have HB := Lib.hid hb
    clear HI hq hG hb
    by_cases h0 : 0 < m
    · have HY := Lib.hid (byte_at x (m - 1))
      have HN : Hid (q.length ≤ 1000000000) := by
        have := congrArg List.length HQ.out
        rw [List.length_append, be_length, be_length] at this
        show _ ≤ _
        omega
      have HS := Lib.hid (be_step m x h0)
      go_wp2_with (at_builtin; (refine wpList_gatu _ rfl (.tmp 9) (.tmp 16) rfl w.heap.size (by rw [World.size_alloc]; have := HB.out.size; omega) _ q rfl (HG.out.alloc _) (UInt8.ofNat (x / 256 ^ (m - 1))) wr.heap.size rfl (by rw [World.cell?_alloc_mark, ← HY.out]; rfl) HN.out ?_; intro v1 w1 hG1 hb1; have HG1 := Lib.hid hG1; have HB1 : Hid (Kept w w1) := Below.trans (HB.out.alloc _) hb1; clear hG1 hb1))
      go_roundw
      case rel => exact ⟨m - 1, by omega, by go_num, q ++ [UInt8.ofNat (x / 256 ^ (m - 1))], by rw [← HQ.out, HS.out]; simp, HG1.out, HB1.out⟩
      case measure => simp [intOf]; omega
    · obtain rfl : m = 0 := by omega
      have HQ2 : Hid (q = be 8 x) := by have e := HQ.out; rw [be, List.append_nil] at e; exact e
      have hcv := HG.out.text (by rw [HQ2.out, be_length]; omega)
      go_wp2_with fail
      go_ret
      exact ⟨by rw [← HQ2.out]; rfl, HB.out⟩
end Go.Proofs.Ytccpbgkaeldlaaa
