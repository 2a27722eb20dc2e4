/- slices.Grow of no slice, slices.Concat of slices of texts. -/
import Derived.Test.YthifdfbdekkmgaaPart11
import Derived.Lib.AppendZerosOnto
import Derived.Deep.DeepMust
set_option linter.unusedVariables false
set_option linter.unusedSimpArgs false
set_option linter.unusedSectionVars false
set_option linter.unnecessarySimpa false
set_option linter.deprecated false
namespace Go.Proofs.Ythifdfbdekkmgaa
open Go.RowKit
set_option linter.unusedVariables false
set_option maxHeartbeats 1000000 in
set_option maxRecDepth 100000 in
theorem growS_any (n : Nat) (hn : n ≤ 1000000) (h0 : 0 < n) (w : World) :
    Calls Seq.prog 98 #[.slice none 0 0, .int .i64 (n : Int)] w fun e w' => ∃ v, e = .returned v ∧ Gat w.heap.size v [] w' ∧ Kept w w' := by
  obtain ⟨i0, hi0, hzz⟩ := Option.map_eq_some_iff.1 info_string
  simp only [Prod.mk.injEq] at hzz
  obtain ⟨hz0, hs0, hb0⟩ := hzz
  have hrz : ∀ ty, (Builtin.append_ #[50, 3] ty #[.slice none 0 0, .int .i64 (n : Int)]).run Seq.prog w =
      .ok (.slice (some ⟨w.heap.size, 0, none⟩) n (grownCap w n 0 9)) (w.drew.alloc (.cells (#[] ++ Builtin.zeroCells (Value.string ByteArray.empty).cells n ++ Builtin.zeroCells (Value.string ByteArray.empty).cells (grownCap w n 0 9 - n)) 9)) := fun ty => by
    have h := Lib.run_append_grow_zeros (P := Seq.prog) w 50 3 ty 9 i0 (.string ByteArray.empty) .i64 .i64 Seq.underlying50 Seq.underlying3 hi0 hz0 none 0 0 [] (run_firstCells_none w.drew i0.size 0 0 0) n h0 (by rw [hs0]; omega) (by omega) (by omega) (by rw [hb0]; omega)
      (by rw [Nat.zero_add]; exact growslice_fits h0 (by rw [hb0]; omega))
    rw [Nat.zero_add] at h
    exact h
  have hGn : n ≤ grownCap w n 0 9 := grownCap_ge w _ _ _
  have hGm : grownCap w n 0 9 ≤ maxLen := grownCap_le_maxLen w n 0 9 (by unfold maxLen; omega)
  obtain ⟨G, hG⟩ : ∃ G, G = grownCap w n 0 9 := ⟨_, rfl⟩
  rw [← hG] at hrz hGn hGm
  have hC : (#[] ++ Builtin.zeroCells (Value.string ByteArray.empty).cells n ++ Builtin.zeroCells (Value.string ByteArray.empty).cells (G - n)).size = G := by
    have e : (Value.string ByteArray.empty).cells.size = 1 := rfl
    rw [Array.size_append, Array.size_append, size_zeroCells, size_zeroCells, e]
    simp
    omega
  generalize (#[] ++ Builtin.zeroCells (Value.string ByteArray.empty).cells n ++ Builtin.zeroCells (Value.string ByteArray.empty).cells (G - n)) = C at *
  have HEND : Hid (Gat w.heap.size (.slice (some ⟨w.heap.size, 0, none⟩) 0 G) [] (w.drew.alloc (.cells C 9)) ∧ Kept w (w.drew.alloc (.cells C 9))) := by
    refine ⟨⟨rfl, .inr ⟨w.heap.size, G, C, rfl, Nat.le_refl _, heap_alloc_last w.drew _, Nat.zero_le _, hGm, by omega, by simp⟩⟩, ((Kept.refl w).drew).alloc _⟩
  unfold maxLen at hGm
  clear hG hC hz0 hs0 hb0 hi0
  go_enter Seq.func98, Seq.ntmps98
  go_wp2_with (at_builtin; refine Lib.wpList_append_run _ rfl _ _ _ _ rfl _ _ rfl rfl _ _ (hrz _) ?_)
  go_ret
  exact ⟨_, rfl, HEND.out⟩
/-- The first k lists, one behind the other. -/
def catK (L : Nat → List ByteArray) : Nat → List ByteArray
  | 0 => []
  | k + 1 => catK L k ++ L k
theorem catK_mono (L : Nat → List ByteArray) (k n : Nat) (h : k ≤ n) : (catK L k).length ≤ (catK L n).length := by
  induction n with
  | zero => obtain rfl : k = 0 := by omega
            exact Nat.le_refl _
  | succ n ih =>
    rcases Nat.eq_or_lt_of_le h with e | e
    · subst e; exact Nat.le_refl _
    · have := ih (by omega)
      rw [catK, List.length_append]
      omega
set_option maxHeartbeats 1000000 in
set_option maxRecDepth 100000 in
theorem concatS_any (h : Nat) (m cap : Nat) (L : Nat → List ByteArray) (b o c : Nat → Nat) (w : World) (hm : 0 < m) (hL : ∀ j, j < m → 0 < (L j).length) (htot : (catK L m).length ≤ 1000000)
    (hc : ∀ j, j < m → w.cell? ⟨h, j, none⟩ = some (.slice (some ⟨b j, o j, none⟩) (L j).length (c j))) (hs : ∀ j, j < m → ∀ i, i < (L j).length → w.cell? ⟨b j, o j + i, none⟩ = some (.string (nth (L j) i))) :
    Calls Seq.prog 81 #[.slice (some ⟨h, 0, none⟩) m cap] w fun e w' => ∃ v, e = .returned v ∧ Gat w.heap.size v (catK L m) w' ∧ Kept w w' := by
  have HC := Lib.hid hc
  have HS := Lib.hid hs
  have HL := Lib.hid hL
  have HM := Lib.hid (fun k (hk : k ≤ m) => catK_mono L k m hk)
  have hmm : m ≤ 1000000 := by
    have : ∀ k, k ≤ m → k ≤ (catK L k).length := fun k => by
      induction k with
      | zero => intro _; exact Nat.zero_le _
      | succ k ih =>
        intro hk
        have h1 := ih (by omega)
        have h2 := hL k (by omega)
        rw [catK, List.length_append]
        omega
    have := this m (Nat.le_refl _)
    omega
  clear hc hs hL
  go_enter Seq.func81, Seq.ntmps81
  go_wp2_with fail
  go_loop [3, 5, 11] (fun s _ i => ∃ k : Nat, k ≤ m ∧ i = .int .i64 k ∧ ∃ t : Nat, s = .int .i64 t ∧ t = (catK L k).length) (fun _ _ i => m - (intOf i).toNat)
  case atStart => exact ⟨0, Nat.zero_le _, rfl, 0, rfl, rfl⟩
  case round =>
    obtain ⟨k, hk, rfl, t, rfl, ht⟩ := hrel
    by_cases hlt : k < m
    · have hck := HC.out k hlt
      have hmo := HM.out (k + 1) hlt
      have hcat : (catK L (k + 1)).length = t + (L k).length := by rw [catK, List.length_append, ht]
      rw [hcat] at hmo
      have HCAT := Lib.hid hcat
      clear ht hcat
      generalize (L k).length = l at *
      go_wp2_with fail
      exact ⟨⟨k + 1, by omega, by go_num, t + l, by go_num, HCAT.out.symm⟩, by simp [intOf]; omega⟩
    · obtain rfl : k = m := by omega
      have ht0 : 0 < t := by
        have h1 := HM.out 1 (by omega)
        have h2 := HL.out 0 (by omega)
        rw [show catK L 1 = [] ++ L 0 from rfl, List.nil_append] at h1
        omega
      have htm : t ≤ 1000000 := by omega
      clear htot
      have HT := Lib.hid ht
      clear ht
      go_wp2_with fail
      refine (growS_any t htm ht0 _).mono ?_
      rintro e w1 ⟨v1, rfl, hg1, hk1⟩
      have H1 : Hid (Gat w.heap.size v1 (catK L 0) w1 ∧ Kept w w1) := ⟨hg1, hk1⟩
      clear hg1 hk1
      go_wp2_with fail
      go_loopw [6, 8, 27] (fun v _ i wr => ∃ q : Nat, q ≤ k ∧ i = .int .i64 q ∧ Hid (Gat w.heap.size v (catK L q) wr ∧ Kept w wr)) (fun _ _ i _ => k - (intOf i).toNat)
      case atStart => exact ⟨0, Nat.zero_le _, rfl, H1⟩
      case round =>
        obtain ⟨q, hq, rfl, HI⟩ := hrel
        by_cases hlq : q < k
        · have hck : wr.cell? ⟨h, q, none⟩ = some (.slice (some ⟨b q, o q, none⟩) (L q).length (c q)) := by rw [Below.cell HI.out.2 (block_lt_of_cell (HC.out q hlq))]; exact HC.out q hlq
          have HSQ : Hid (∀ i, i < (L q).length → wr.cell? ⟨b q, o q + i, none⟩ = some (.string ((L q).getD i ByteArray.empty))) := fun i hi => by rw [Below.cell HI.out.2 (block_lt_of_cell (HS.out q hlq i hi))]; exact HS.out q hlq i hi
          have HLE : Hid ((catK L q).length + (L q).length ≤ 1000000000) := by
            have h1 := HM.out (q + 1) hlq
            rw [catK, List.length_append] at h1
            have h2 := HT.out
            show _ ≤ _
            omega
          go_wp2_with (first | (at_builtin; go_must (refine wpList_gats _ rfl (.tmp 31) (.tmp 32) 50 rfl Seq.underlying50 w _ (catK L q) (by rfl) HI.out.1 HI.out.2 (L q) (b q) (o q) (c q) rfl HSQ.out HLE.out ?_); intro v9 w9 hG9 hK9))
          exact ⟨⟨q + 1, by omega, by go_num, hG9, hK9⟩, by simp [intOf]; omega⟩
        · obtain rfl : q = k := by omega
          go_wp2_with fail
          go_ret
          exact ⟨_, rfl, HI.out⟩
/-- Texts that were gathered lie in a block of the call's own. -/
theorem Gat.txt {B : Nat} {v : Value} {ss : List ByteArray} {w : World} (h : Gat B v ss w) (h0 : 0 < ss.length) : ∃ g cap, v = .slice (some ⟨g, 0, none⟩) ss.length cap ∧ B ≤ g ∧ Txt g ss.length (nth ss) w := by
  obtain ⟨h1, h2⟩ := h
  rcases h2 with ⟨rfl, h2⟩ | ⟨g, cap, cur, rfl, h3, h4, h5, h6, h7, h8⟩
  · omega
  · refine ⟨g, cap, rfl, h3, fun i hi => ?_, fun i hi => frozen_of_row _ _ _ _ _ h4⟩
    rw [cell_of_row _ _ i _ _ _ h4]
    have e : (cur.toList.take (ss.length * 1))[i]? = (ss.map Value.string)[i]? := by rw [h8]
    rw [List.getElem?_take_of_lt (by omega)] at e
    rw [← Array.getElem?_toList, e, List.getElem?_map, List.getElem?_eq_getElem hi, nth_get ss i hi]
    rfl
end Go.Proofs.Ythifdfbdekkmgaa
