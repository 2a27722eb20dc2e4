/- Which names of buckets may be: the program's, the document's. -/
import Derived.Test.YtccpbgkaeldlaaaNyPut
namespace Go.Proofs.Ytccpbgkaeldlaaa
open Go.RowKit _root_.Go.Proofs.Ytccpbgkaeldlaaa.Nm Ny
set_option linter.unusedVariables false
set_option linter.unusedSimpArgs false
theorem good_yes {l : List UInt8} {k c n : Nat} (hc : l[k]!.toNat = c) (hn : l.length = n) (h : goodAt l k = true) : (97 ≤ c ∧ c ≤ 122) ∨ (48 ≤ c ∧ c ≤ 57) ∨ (0 < k ∧ k + 1 < n ∧ c = 45) ∨ (0 < k ∧ k + 1 < n ∧ c = 46) := by
  unfold goodAt letB at h
  rw [hc, hn] at h
  simp only [Bool.or_eq_true, Bool.and_eq_true, decide_eq_true_eq] at h
  omega
theorem good_no {l : List UInt8} {k c n : Nat} (hc : l[k]!.toNat = c) (hn : l.length = n) (h : ¬ goodAt l k = true) : (c < 48 ∨ (58 ≤ c ∧ c < 97) ∨ 122 < c) ∧ (k = 0 ∨ (0 < k ∧ n ≤ k + 1) ∨ (0 < k ∧ k + 1 < n ∧ c ≠ 45 ∧ c ≠ 46)) := by
  unfold goodAt letB at h
  rw [hc, hn] at h
  simp only [Bool.or_eq_true, Bool.and_eq_true, decide_eq_true_eq] at h
  omega
theorem bkt_all {l : List UInt8} (h1 : 1 ≤ l.length) (h2 : l.length ≤ 63) (h : ∀ j, j < l.length → goodAt l j = true) : bktB l = true := by
  unfold bktB
  simp only [Bool.and_eq_true, decide_eq_true_eq, List.all_eq_true, List.mem_range]
  exact ⟨⟨h1, h2⟩, h⟩
theorem bkt_bad {l : List UInt8} {j : Nat} (hj : j < l.length) (h : ¬ goodAt l j = true) : bktB l = false := by
  rw [← Bool.not_eq_true]
  intro hb
  unfold bktB at hb
  simp only [Bool.and_eq_true, decide_eq_true_eq, List.all_eq_true, List.mem_range] at hb
  exact h (hb.2 j hj)
theorem bkt_len {l : List UInt8} (h : ¬ (1 ≤ l.length ∧ l.length ≤ 63)) : bktB l = false := by
  rw [← Bool.not_eq_true]
  intro hb
  unfold bktB at hb
  simp only [Bool.and_eq_true, decide_eq_true_eq] at hb
  exact h hb.1
theorem conv_cells (w : World) (s : ByteArray) (cap : Nat) (t : TypeId) : ∀ j, j < s.size → (w.drew.alloc (.cells (bytesRow s cap) t ((bytesRow s cap).size, (bytesRow s cap).size + 1))).cell? ⟨w.heap.size, j, none⟩ = some (.int .u8 ((s.data.toList[j]!).toNat : Nat)) := by
  intro j hj
  show (w.alloc (Obj.cells (bytesRow s cap) _ _)).cell? _ = _
  rw [World.cell?_alloc_mark, bytesRow_at s cap j (by simpa using hj), getElem!_pos s.data.toList j (by simpa using hj)]
  simp
set_option maxHeartbeats 2000000 in
set_option maxRecDepth 100000 in
theorem pBucket_any (s : ByteArray) (w : World) (hs : s.size ≤ maxLen) :
    Calls Try.prog 14 #[.string s] w fun e w' => e = .returned (.bool (bktB s.data.toList)) ∧ Kept w w' := by
  unfold maxLen at hs
  have HSL := Lib.hid (list_size s)
  by_cases h1 : 1 ≤ s.size ∧ s.size ≤ 63
  · obtain ⟨h1, h2⟩ := h1
    have b1 : decide ((s.size : Int) < 1) = false := decide_eq_false (by omega)
    have b2 : decide ((63 : Int) < s.size) = false := decide_eq_false (by omega)
    have hcv := run_bytes_of_string (P := Try.prog) w 9 50 5 s Try.underlying9 Try.underlying50 Try.underlying5
    obtain ⟨cap, hcap⟩ : ∃ cap, grownCap w s.size 0 5 = cap := ⟨_, rfl⟩
    rw [hcap] at hcv
    have HC := Lib.hid (conv_cells w s cap 5)
    have HK : Hid (Kept w (w.drew.alloc (.cells (bytesRow s cap) 5 ((bytesRow s cap).size, (bytesRow s cap).size + 1)))) := (Kept.refl _).drew.alloc _
    generalize w.drew.alloc (.cells (bytesRow s cap) 5 ((bytesRow s cap).size, (bytesRow s cap).size + 1)) = w1 at *
    clear hcap
    go_enter Try.func14, Try.ntmps14
    go_wp2_with fail
    go_step3
    go_wp2_with fail
    go_step3
    go_wp2_with fail
    go_loopw [16] (fun i wr => ∃ k : Nat, k ≤ s.size ∧ i = .int .i64 k ∧ Hid (∀ j, j < k → goodAt s.data.toList j = true) ∧ wr = w1) (fun i _ => s.size - (intOf i).toNat)
    case atStart => exact ⟨0, Nat.zero_le _, rfl, fun j hj => absurd hj (Nat.not_lt_zero _), rfl⟩
    case round =>
      obtain ⟨k, hk, rfl, HI, rfl⟩ := hrel
      by_cases hlt : k < s.size
      · have hck := HC.out k hlt
        obtain ⟨c, hc⟩ : ∃ c, s.data.toList[k]!.toNat = c := ⟨_, rfl⟩
        have HCC := Lib.hid hc
        have hc256 : c < 256 := by rw [← hc]; exact UInt8.toNat_lt _
        rw [hc] at hck
        clear hc
        by_cases hg : goodAt s.data.toList k = true
        · have hgy := good_yes HCC.out HSL.out hg
          have HI2 : Hid (∀ j, j < k + 1 → goodAt s.data.toList j = true) := fun j hj => by
            by_cases e : j = k
            · rw [e]; exact hg
            · exact HI.out j (by omega)
          clear hg HI HCC
          have hgy2 : (decide ((97 : Int) ≤ c) = true ∧ decide ((c : Int) ≤ 122) = true) ∨ (decide ((97 : Int) ≤ c) = false ∧ decide ((48 : Int) ≤ c) = true ∧ decide ((c : Int) ≤ 57) = true) ∨ (decide ((97 : Int) ≤ c) = false ∧ decide ((48 : Int) ≤ c) = false ∧ 0 < k ∧ decide ((k : Int) < (s.size : Int) - 1) = true ∧ ((c : Int) == 45) = true) ∨ (decide ((97 : Int) ≤ c) = false ∧ decide ((48 : Int) ≤ c) = false ∧ 0 < k ∧ decide ((k : Int) < (s.size : Int) - 1) = true ∧ ((c : Int) == 45) = false ∧ ((c : Int) == 46) = true) := by
            simp only [decide_eq_true_eq, decide_eq_false_iff_not, beq_iff_eq, beq_eq_false_iff_ne]
            omega
          clear hgy
          rcases hgy2 with ⟨t1, t2⟩ | ⟨t1, t2, t3⟩ | ⟨t1, t2, t3, t4, t5⟩ | ⟨t1, t2, t3, t4, t5, t6⟩
          all_goals
            go_wp2_with fail
            go_roundw
            case rel => exact ⟨k + 1, by omega, by go_num, HI2, by first | rfl | trivial⟩
            case measure => simp [intOf]; omega
        · have hgn := good_no HCC.out HSL.out hg
          have HBF : Hid (bktB s.data.toList = false) := bkt_bad (j := k) (by rw [HSL.out]; exact hlt) hg
          clear hg HI HCC
          obtain ⟨ha, hb⟩ := hgn
          have ha2 : (decide ((97 : Int) ≤ c) = false ∧ decide ((48 : Int) ≤ c) = false) ∨ (decide ((97 : Int) ≤ c) = false ∧ decide ((48 : Int) ≤ c) = true ∧ decide ((c : Int) ≤ 57) = false) ∨ (decide ((97 : Int) ≤ c) = true ∧ decide ((c : Int) ≤ 122) = false ∧ decide ((48 : Int) ≤ c) = true ∧ decide ((c : Int) ≤ 57) = false) := by
            simp only [decide_eq_true_eq, decide_eq_false_iff_not]
            omega
          have hb2 : ¬ 0 < k ∨ (0 < k ∧ decide ((k : Int) < (s.size : Int) - 1) = false) ∨ (0 < k ∧ decide ((k : Int) < (s.size : Int) - 1) = true ∧ ((c : Int) == 45) = false ∧ ((c : Int) == 46) = false) := by
            simp only [decide_eq_true_eq, decide_eq_false_iff_not, beq_eq_false_iff_ne]
            omega
          clear ha hb
          rcases ha2 with ⟨t1, t2⟩ | ⟨t1, t2, t3⟩ | ⟨t1, t2, t3, t4⟩ <;> rcases hb2 with q1 | ⟨q1, q2⟩ | ⟨q1, q2, q3, q4⟩
          all_goals
            go_wp2_with fail
            (try rw [Exit.noGoto_ret])
            go_ret
            exact ⟨by rw [HBF.out]; rfl, HK.out⟩
      · obtain rfl : k = s.size := by omega
        have HBT : Hid (bktB s.data.toList = true) := bkt_all (by rw [HSL.out]; exact h1) (by rw [HSL.out]; exact h2) (by rw [HSL.out]; exact HI.out)
        go_wp2_with fail
        (try rw [Exit.noGoto_ret])
        go_ret
        exact ⟨by rw [HBT.out]; rfl, HK.out⟩
  · have HBF : Hid (bktB s.data.toList = false) := bkt_len (by rw [HSL.out]; exact h1)
    by_cases h0 : s.size = 0
    · obtain rfl : s = ⟨#[]⟩ := ba_nil h0
      clear h0 h1 HSL hs
      go_enter Try.func14, Try.ntmps14
      go_wp2_with fail
      go_step3
      go_wp2_with fail
      (try rw [Exit.noGoto_ret])
      first | (go_ret; exact ⟨by rw [HBF.out]; rfl, Kept.refl _⟩)
    · have b1 : decide ((s.size : Int) < 1) = false := decide_eq_false (by omega)
      have b2 : decide ((63 : Int) < s.size) = true := decide_eq_true (by omega)
      clear h0 h1
      go_enter Try.func14, Try.ntmps14
      go_wp2_with fail
      go_step3
      go_wp2_with fail
      (try rw [Exit.noGoto_ret])
      first | (go_ret; exact ⟨by rw [HBF.out]; rfl, Kept.refl _⟩)
end Go.Proofs.Ytccpbgkaeldlaaa
