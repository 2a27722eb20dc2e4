/- Which names of buckets may be: the document's. -/
import Derived.Test.YtccpbgkaeldlaaaNyBkt
namespace Go.Proofs.Ytccpbgkaeldlaaa
open Go.RowKit _root_.Go.Proofs.Ytccpbgkaeldlaaa.Nm Ny
set_option linter.unusedVariables false
set_option linter.unusedSimpArgs false
set_option maxHeartbeats 2000000 in
set_option maxRecDepth 100000 in
theorem rBucket_any (s : ByteArray) (w : World) (hs : s.size ≤ maxLen) :
    Calls Try.prog 15 #[.string s] w fun e w' => e = .returned (.bool (bktB s.data.toList)) ∧ w' = w := by
  unfold maxLen at hs
  have HSL := Lib.hid (list_size s)
  by_cases h1 : 1 ≤ s.size ∧ s.size ≤ 63
  · obtain ⟨h1, h2⟩ := h1
    have b1 : decide ((s.size : Int) < 1) = false := decide_eq_false (by omega)
    have b2 : decide ((63 : Int) < s.size) = false := decide_eq_false (by omega)
    go_enter Try.func15, Try.ntmps15
    go_wp2_with fail
    go_loopw [3] (fun i wr => ∃ k : Nat, k ≤ s.size ∧ i = .int .i64 k ∧ Hid (∀ j, j < k → goodAt s.data.toList j = true) ∧ wr = w) (fun i _ => s.size - (intOf i).toNat)
    case atStart => exact ⟨0, Nat.zero_le _, rfl, fun j hj => absurd hj (Nat.not_lt_zero _), rfl⟩
    case round =>
      obtain ⟨k, hk, rfl, HI, rfl⟩ := hrel
      by_cases hlt : k < s.size
      · obtain ⟨c, hc⟩ : ∃ c, s[k].toNat = c := ⟨_, rfl⟩
        have HCC : Hid (s.data.toList[k]!.toNat = c) := by
          show _ = _
          rw [getElem!_pos s.data.toList k (by rw [HSL.out]; exact hlt), ← hc]
          rfl
        have hc256 : c < 256 := by rw [← hc]; exact UInt8.toNat_lt _
        by_cases hg : goodAt s.data.toList k = true
        · have hgy := good_yes HCC.out HSL.out hg
          have HI2 : Hid (∀ j, j < k + 1 → goodAt s.data.toList j = true) := fun j hj => by
            by_cases e : j = k
            · rw [e]; exact hg
            · exact HI.out j (by omega)
          clear hg HI HCC
          have hgy2 : (decide ((97 : Int) ≤ c) = true ∧ decide ((c : Int) ≤ 122) = true) ∨ (decide ((97 : Int) ≤ c) = false ∧ decide ((48 : Int) ≤ c) = true ∧ decide ((c : Int) ≤ 57) = true) ∨ (decide ((97 : Int) ≤ c) = false ∧ decide ((48 : Int) ≤ c) = false ∧ ((k : Int) == 0) = false ∧ ((k : Int) == (s.size : Int) - 1) = false ∧ ((c : Int) != 45) = false) ∨ (decide ((97 : Int) ≤ c) = false ∧ decide ((48 : Int) ≤ c) = false ∧ ((k : Int) == 0) = false ∧ ((k : Int) == (s.size : Int) - 1) = false ∧ ((c : Int) != 45) = true ∧ ((c : Int) != 46) = false) := by
            simp only [decide_eq_true_eq, decide_eq_false_iff_not, beq_iff_eq, beq_eq_false_iff_ne, bne_iff_ne, bne_eq_false_iff_eq]
            omega
          clear hgy
          rcases hgy2 with ⟨t1, t2⟩ | ⟨t1, t2, t3⟩ | ⟨t1, t2, t3, t4, t5⟩ | ⟨t1, t2, t3, t4, t5, t6⟩
          all_goals
            go_wp2_with fail
            go_roundw
            case rel => exact ⟨k + 1, by omega, by go_num, HI2, by first | rfl | trivial⟩
            case measure => simp [intOf]; omega
        · have hgn := good_no HCC.out HSL.out hg
          have HBF : Hid (bktB s.data.toList = false) := bkt_bad (j := k) (by rw [HSL.out]; exact hlt) hg
          clear hg HI HCC
          obtain ⟨ha, hb⟩ := hgn
          have ha2 : (decide ((97 : Int) ≤ c) = false ∧ decide ((48 : Int) ≤ c) = false) ∨ (decide ((97 : Int) ≤ c) = false ∧ decide ((48 : Int) ≤ c) = true ∧ decide ((c : Int) ≤ 57) = false) ∨ (decide ((97 : Int) ≤ c) = true ∧ decide ((c : Int) ≤ 122) = false ∧ decide ((48 : Int) ≤ c) = true ∧ decide ((c : Int) ≤ 57) = false) := by
            simp only [decide_eq_true_eq, decide_eq_false_iff_not]
            omega
          have hb2 : ((k : Int) == 0) = true ∨ (((k : Int) == 0) = false ∧ ((k : Int) == (s.size : Int) - 1) = true) ∨ (((k : Int) == 0) = false ∧ ((k : Int) == (s.size : Int) - 1) = false ∧ ((c : Int) != 45) = true ∧ ((c : Int) != 46) = true) := by
            simp only [beq_iff_eq, beq_eq_false_iff_ne, bne_iff_ne]
            omega
          clear ha hb
          rcases ha2 with ⟨t1, t2⟩ | ⟨t1, t2, t3⟩ | ⟨t1, t2, t3, t4⟩ <;> rcases hb2 with q1 | ⟨q1, q2⟩ | ⟨q1, q2, q3, q4⟩
          all_goals
            go_wp2_with fail
            first | (go_ret; exact ⟨by rw [HBF.out]; rfl, rfl⟩)
      · obtain rfl : k = s.size := by omega
        have HBT : Hid (bktB s.data.toList = true) := bkt_all (by rw [HSL.out]; exact h1) (by rw [HSL.out]; exact h2) (by rw [HSL.out]; exact HI.out)
        go_wp2_with fail
        go_ret
        exact ⟨by rw [HBT.out]; rfl, rfl⟩
  · have HBF : Hid (bktB s.data.toList = false) := bkt_len (by rw [HSL.out]; exact h1)
    by_cases h0 : s.size = 0
    · obtain rfl : s = ⟨#[]⟩ := ba_nil h0
      clear h0 h1 HSL hs
      go_enter Try.func15, Try.ntmps15
      go_wp2_with fail
      go_ret
      exact ⟨by rw [HBF.out]; rfl, rfl⟩
    · have b1 : decide ((s.size : Int) < 1) = false := decide_eq_false (by omega)
      have b2 : decide ((63 : Int) < s.size) = true := decide_eq_true (by omega)
      clear h0 h1
      go_enter Try.func15, Try.ntmps15
      go_wp2_with fail
      go_ret
      exact ⟨by rw [HBF.out]; rfl, rfl⟩
end Go.Proofs.Ytccpbgkaeldlaaa
