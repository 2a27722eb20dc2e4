/- What is behind a prefix: the program's, the document's. -/
import Derived.Test.YtccpbgkaeldlaaaNyTake2
namespace Go.Proofs.Ytccpbgkaeldlaaa
open Go.RowKit _root_.Go.Proofs.Ytccpbgkaeldlaaa.Nm Ny
set_option linter.unusedVariables false
set_option linter.unusedSimpArgs false
theorem beh_at (l : List UInt8) (n : Nat) (hn : n < l.length) (h : ∀ j, n < j → j < l.length → l[j]!.toNat = 255) (hc : l[n]!.toNat < 255) : behL l = l.take n ++ [l[n]! + 1] := by
  have e : l = l.take n ++ l[n]! :: l.drop (n + 1) := by
    conv => lhs; rw [← List.take_append_drop n l]
    rw [List.drop_eq_getElem_cons hn, getElem!_pos l n hn]
  unfold behL
  conv => lhs; rw [e]
  rw [behO_at _ _ _ hc]
  · rfl
  · intro x hx
    obtain ⟨i, hi, rfl⟩ := List.getElem_of_mem hx
    rw [List.length_drop] at hi
    rw [List.getElem_drop]
    have := h (n + 1 + i) (by omega) (by omega)
    rwa [getElem!_pos l (n + 1 + i) (by omega)] at this
theorem beh_no (l : List UInt8) (h : ∀ j, j < l.length → l[j]!.toNat = 255) : behL l = [] := by
  unfold behL
  rw [behO_all]
  · rfl
  · intro x hx
    obtain ⟨i, hi, rfl⟩ := List.getElem_of_mem hx
    have := h i hi
    rwa [getElem!_pos l i hi] at this
/-- A slice of one byte as a text. -/
theorem one_byteN (w : World) (y : Int) (b : UInt8) (h : y = (b.toNat : Nat)) : (convert 50 9 (.slice (some ⟨w.heap.size, 0, none⟩) 1 1)).run Try.prog (w.alloc (.cells #[.int .u8 y] 5)).drew = .ok (.string ⟨#[b]⟩) (w.alloc (.cells #[.int .u8 y] 5)).drew := by
  subst h
  exact ((GatU.one (B := 0) (w := w) b (Nat.zero_le _)).kept ((Kept.refl _).drew)).text (by simp)
theorem one_byteM (w : World) (y : Int) (b : UInt8) (h : y = (b.toNat : Nat)) : (convert 50 9 (.slice (some ⟨w.heap.size, 0, none⟩) 1 1)).run Try.prog (w.alloc (.cells #[.int .u8 y] 5)) = .ok (.string ⟨#[b]⟩) (w.alloc (.cells #[.int .u8 y] 5)) := by
  subst h
  exact (GatU.one (B := 0) (w := w) b (Nat.zero_le _)).text (by simp)
theorem add_strN (a b : ByteArray) (c : List UInt8) (h : a.data.toList ++ b.data.toList = c) (hz : c.length ≤ 1000000000) (w : World) : (Op.stringOp .add a b).run Try.prog w = .ok (.string ⟨c.toArray⟩) w := by
  have e : a ++ b = ⟨c.toArray⟩ := by apply ba_ext; rw [add_list, h]
  have hl : a.size + b.size ≤ 1000000000 := by rw [← list_size, ← list_size, ← List.length_append, h]; exact hz
  rw [run_string_add_sum w _ _ (by omega), e]
set_option maxHeartbeats 1000000 in
set_option maxRecDepth 100000 in
theorem pBehind_any (s : ByteArray) (w : World) (hs : s.size ≤ 1000000) :
    Calls Try.prog 22 #[.string s] w fun e w' => e = .returned (.string ⟨(behL s.data.toList).toArray⟩) ∧ Kept w w' := by
  have HSL := Lib.hid (list_size s)
  go_enter Try.func22, Try.ntmps22
  go_wp2_with fail
  go_loopw [3] (fun i wr => ∃ k : Nat, k ≤ s.size ∧ i = .int .i64 k ∧ Hid (∀ j, k ≤ j → j < s.size → s.data.toList[j]!.toNat = 255) ∧ wr = w) (fun i _ => (intOf i).toNat)
  case atStart => exact ⟨s.size, Nat.le_refl _, rfl, fun j h1 h2 => by omega, rfl⟩
  case round =>
    obtain ⟨k, hk, rfl, HI, rfl⟩ := hrel
    by_cases h0 : 0 < k
    · obtain ⟨m, rfl⟩ : ∃ m, k = m + 1 := ⟨k - 1, by omega⟩
      have hm : m < s.size := by omega
      obtain ⟨c, hc0⟩ : ∃ c, s[m] = c := ⟨_, rfl⟩
      have HC : Hid (s.data.toList[m]! = c) := by show _ = _; rw [getElem!_pos _ m (by rw [HSL.out]; exact hm), ← hc0]; rfl
      have hw : IntKind.i64.wrap (((m + 1 : Nat) : Int) - 1) = (m : Int) := by rw [IntWalk.i64_in _ (by omega)]; omega
      have hw2 : ((m + 1 : Nat) : Int) - 1 = (m : Int) := by omega
      by_cases h255 : c.toNat < 255
      · have b1 : decide (((c.toNat : Nat) : Int) < 255) = true := decide_eq_true (by omega)
        have HB := Lib.hid (beh_at s.data.toList m (by rw [HSL.out]; exact hm) (fun j h1 h2 => HI.out j (by omega) (by rw [← HSL.out]; exact h2)) (by rw [HC.out]; exact h255))
        rw [HC.out] at HB
        have hone := one_byteN wr ((((c.toNat : Nat) : Int) + 1) % 256) (c + 1) (by rw [add_one_nat h255]; omega)
        have hsl : ∀ W : World, (Instr.slice 9 (.string s) none (some (.int .i64 (m : Int))) none).run Try.prog W = .ok (.string ⟨(s.data.toList.take m).toArray⟩) W := fun W => by
          have h := run_slice_string_h (P := Try.prog) W 9 s Try.underlying9 .i64 (m : Int) (by omega) (by omega)
          rw [Int.toNat_natCast, ext_take] at h
          exact h
        have hadd := fun W => add_strN ⟨(s.data.toList.take m).toArray⟩ ⟨#[c + 1]⟩ (behL s.data.toList) (by rw [HB.out]) (by rw [HB.out]; simp; omega) W
        clear HI h255
        go_wp2_with fail
        go_region
        all_goals
          go_wp2_with fail
          go_ret
          exact ⟨rfl, ((Kept.refl _).alloc _).drew⟩
      · have b1 : decide (((c.toNat : Nat) : Int) < 255) = false := decide_eq_false (by omega)
        have HI2 : Hid (∀ j, m ≤ j → j < s.size → s.data.toList[j]!.toNat = 255) := fun j h1 h2 => by
          by_cases e : j = m
          · rw [e, HC.out]; have := c.toNat_lt; omega
          · exact HI.out j (by omega) h2
        clear HI h255
        go_wp2_with fail
        go_roundw
        case rel => exact ⟨m, by omega, by first | rfl | go_num, HI2.out, by first | rfl | trivial⟩
        case measure => simp [intOf]
    · obtain rfl : k = 0 := by omega
      have HB := Lib.hid (beh_no s.data.toList (fun j h => HI.out j (Nat.zero_le _) (by rw [← HSL.out]; exact h)))
      clear HI
      go_wp2_with fail
      go_ret
      exact ⟨by rw [HB.out]; rfl, Kept.refl _⟩
end Go.Proofs.Ytccpbgkaeldlaaa
