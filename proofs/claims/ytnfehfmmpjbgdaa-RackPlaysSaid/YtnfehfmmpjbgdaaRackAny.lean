/- What the program's rack answers, whatever is asked. -/
import Derived.Test.YtnfehfmmpjbgdaaRackAll
namespace Go.Proofs.Ytnfehfmmpjbgdaa
open Go.RowKit
set_option linter.unusedVariables false
theorem there_of (s : RSt) (d i : Int) : secE s d i = if s.there d i = false then 70 else 0 := by
  unfold secE
  cases s.there d i <;> rfl
theorem write_code (s : RSt) (h : s.Wf) (d i : Int) (t : ByteArray) : or2 (or2 (or2 (noneE s.n) (secE s d i)) (longE t)) (ifE s.down 71) = s.writeE d i t := by
  have h1 : noneE s.n = 0 := if_neg (by have := h.n1; omega)
  rw [h1, there_of]
  unfold RSt.writeE longE ifE or2
  cases s.there d i <;> cases s.down <;> by_cases h2 : 64 < t.size <;> simp [h2]
theorem read_code (s : RSt) (h : s.Wf) (d i : Int) : or2 (or2 (or2 (noneE s.n) (ifE s.down 71)) (secE s d i)) (ifE (s.bad d.toNat i.toNat) 72) = s.readE d i := by
  have h1 : noneE s.n = 0 := if_neg (by have := h.n1; omega)
  rw [h1, there_of]
  unfold RSt.readE ifE or2
  cases s.there d i <;> cases s.down <;> cases s.bad d.toNat i.toNat <;> rfl
theorem write_any (g : Nat) (s : RSt) (d i : Int) (hd1 : -9223372036854775808 ≤ d) (hd2 : d ≤ 9223372036854775807) (hi1 : -9223372036854775808 ≤ i) (hi2 : i ≤ 9223372036854775807) (t : ByteArray) (ht : t.size ≤ 9223372036854775807) (w : World) (hR : RackAt g s w) :
    Calls Try.prog 19 #[.pointer (some ⟨g + 1, 0, none⟩), .int .i64 d, .int .i64 i, .string t] w fun r w' => r = .returned (.int .i64 (s.writeE d i t : Nat)) ∧ RackAt g (s.writeS d i t) w' ∧ Only g (g + 2 + s.n) w w' := by
  by_cases he : s.writeE d i t = 0
  · have h1 : s.there d i = true := by
      unfold RSt.writeE at he
      split at he
      · cases he
      · rename_i h; cases h2 : s.there d i
        · exact absurd h2 h
        · rfl
    have h2 : t.size ≤ 64 := by
      unfold RSt.writeE at he
      rw [if_neg (by rw [h1]; decide)] at he
      split at he
      · cases he
      · omega
    have h3 : s.down = false := by
      unfold RSt.writeE at he
      rw [if_neg (by rw [h1]; decide), if_neg (by omega)] at he
      split at he
      · cases he
      · rename_i h; simpa using h
    have hs : s.writeS d i t = s.wr d.toNat i.toNat (padL t) := if_pos he
    rw [he, hs]
    obtain ⟨d', i', rfl, rfl, hd, hi⟩ := RSt.there_iff h1
    rw [Int.toNat_natCast, Int.toNat_natCast]
    exact pWrite_ok g s d' i' hd hi t h2 h3 w hR
  · have hs : s.writeS d i t = s := if_neg he
    rw [hs]
    refine (pWrite_bad g s.n s (some ⟨g + 1, 0, none⟩) d i hd1 hd2 hi1 hi2 t ht (s.writeE d i t) w (.inr ⟨rfl, rfl, hR⟩) (write_code s hR.wf d i t) he).mono ?_
    rintro r w' ⟨rfl, hk⟩
    exact ⟨rfl, hR.kept hk, hk.only _ _⟩
theorem read_any (g : Nat) (s : RSt) (d i : Int) (hd1 : -9223372036854775808 ≤ d) (hd2 : d ≤ 9223372036854775807) (hi1 : -9223372036854775808 ≤ i) (hi2 : i ≤ 9223372036854775807) (w : World) (hR : RackAt g s w) :
    Calls Try.prog 21 #[.pointer (some ⟨g + 1, 0, none⟩), .int .i64 d, .int .i64 i] w fun r w' => r = .returned (.tuple #[.string (s.readT d i), .int .i64 (s.readE d i : Nat)]) ∧ Kept w w' := by
  by_cases he : s.readE d i = 0
  · have h1 : s.down = false := by
      unfold RSt.readE at he
      split at he
      · cases he
      · rename_i h; simpa using h
    have h2 : s.there d i = true := by
      unfold RSt.readE at he
      rw [if_neg (by rw [h1]; decide)] at he
      split at he
      · cases he
      · rename_i h; cases h2 : s.there d i
        · exact absurd h2 h
        · rfl
    have h3 : s.bad d.toNat i.toNat = false := by
      unfold RSt.readE at he
      rw [if_neg (by rw [h1]; decide), if_neg (by rw [h2]; decide)] at he
      split at he
      · cases he
      · rename_i h; simpa using h
    have hs : s.readT d i = ⟨(s.T d.toNat i.toNat).toArray⟩ := if_pos he
    rw [he, hs]
    obtain ⟨d', i', rfl, rfl, hd, hi⟩ := RSt.there_iff h2
    rw [Int.toNat_natCast, Int.toNat_natCast] at *
    exact pRead_ok g s d' i' hd hi h1 h3 w hR
  · have hs : s.readT d i = ByteArray.empty := if_neg he
    rw [hs]
    exact pRead_bad g s.n s (some ⟨g + 1, 0, none⟩) d i hd1 hd2 hi1 hi2 (s.readE d i) w (.inr ⟨rfl, rfl, hR⟩) (read_code s hR.wf d i) he
theorem cut_any (g : Nat) (s : RSt) (k : Int) (hk1 : -9223372036854775808 ≤ k) (hk2 : k ≤ 9223372036854775807) (w : World) (hR : RackAt g s w) :
    Calls Try.prog 18 #[.pointer (some ⟨g + 1, 0, none⟩), .int .i64 k] w fun r w' => r = .returned (.int .i64 (RSt.cutE k : Nat)) ∧ RackAt g (s.cutS k) w' ∧ Only g (g + 2 + s.n) w w' := by
  have h1 : noneE s.n = 0 := if_neg (by have := hR.wf.n1; omega)
  by_cases h : k < 0
  · have he : RSt.cutE k = 2 := if_pos h
    have hs : s.cutS k = s := if_pos h
    rw [hs]
    refine (pCut_bad g s.n s (some ⟨g + 1, 0, none⟩) k hk1 hk2 (RSt.cutE k) w (.inr ⟨rfl, rfl, hR⟩) (by rw [h1]; rfl) (by omega)).mono ?_
    rintro r w' ⟨rfl, hk⟩
    exact ⟨rfl, hR.kept hk, hk.only _ _⟩
  · have he : RSt.cutE k = 0 := if_neg h
    have hs : s.cutS k = s.lim true k.toNat := if_neg h
    obtain ⟨k', rfl⟩ : ∃ k' : Nat, k = k' := ⟨k.toNat, by omega⟩
    rw [hs, he]
    exact pCut_ok g s k' (by omega) w hR
theorem lift_any (g : Nat) (s : RSt) (w : World) (hR : RackAt g s w) :
    Calls Try.prog 20 #[.pointer (some ⟨g + 1, 0, none⟩)] w fun r w' => r = .returned (.int .i64 0) ∧ RackAt g s.liftS w' ∧ Only g (g + 2 + s.n) w w' := pLift_ok g s w hR
theorem wipe_any (g : Nat) (s : RSt) (d : Int) (hd1 : -9223372036854775808 ≤ d) (hd2 : d ≤ 9223372036854775807) (w : World) (hR : RackAt g s w) :
    Calls Try.prog 23 #[.pointer (some ⟨g + 1, 0, none⟩), .int .i64 d] w fun r w' => r = .returned (.int .i64 (s.wipeE d : Nat)) ∧ RackAt g (s.wipeS d) w' ∧ Only g (g + 2 + s.n) w w' := by
  have h1 : noneE s.n = 0 := if_neg (by have := hR.wf.n1; omega)
  unfold RSt.wipeE RSt.wipeS
  cases h : s.drive d
  · have he : drvE s.n d = 70 := if_neg (by unfold RSt.drive at h; exact of_decide_eq_false h)
    rw [if_neg (by decide), if_neg (by decide)]
    refine (pWipe_bad g s.n s (some ⟨g + 1, 0, none⟩) d hd1 hd2 70 w (.inr ⟨rfl, rfl, hR⟩) (by rw [h1, he]; rfl) (by decide)).mono ?_
    rintro r w' ⟨rfl, hk⟩
    exact ⟨rfl, hR.kept hk, hk.only _ _⟩
  · rw [if_pos rfl, if_pos rfl]
    obtain ⟨d', rfl, hd⟩ := RSt.drive_iff h
    exact pWipe_ok g s d' hd w hR
theorem spoil_any (g : Nat) (s : RSt) (d i : Int) (hd1 : -9223372036854775808 ≤ d) (hd2 : d ≤ 9223372036854775807) (hi1 : -9223372036854775808 ≤ i) (hi2 : i ≤ 9223372036854775807) (w : World) (hR : RackAt g s w) :
    Calls Try.prog 22 #[.pointer (some ⟨g + 1, 0, none⟩), .int .i64 d, .int .i64 i] w fun r w' => r = .returned (.int .i64 (s.spoilE d i : Nat)) ∧ RackAt g (s.spoilS d i) w' ∧ Only g (g + 2 + s.n) w w' := by
  have h1 : noneE s.n = 0 := if_neg (by have := hR.wf.n1; omega)
  unfold RSt.spoilE RSt.spoilS
  cases h : s.there d i
  · have he : secE s d i = 70 := by rw [there_of, h]; rfl
    rw [if_neg (by decide), if_neg (by decide)]
    refine (pSpoil_bad g s.n s (some ⟨g + 1, 0, none⟩) d i hd1 hd2 hi1 hi2 70 w (.inr ⟨rfl, rfl, hR⟩) (by rw [h1, he]; rfl) (by decide)).mono ?_
    rintro r w' ⟨rfl, hk⟩
    exact ⟨rfl, hR.kept hk, hk.only _ _⟩
  · rw [if_pos rfl, if_pos rfl]
    obtain ⟨d', i', rfl, rfl, hd, hi⟩ := RSt.there_iff h
    exact pSpoil_ok g s d' i' hd hi w hR
theorem writes_any (g : Nat) (s : RSt) (d : Int) (hd1 : -9223372036854775808 ≤ d) (hd2 : d ≤ 9223372036854775807) (w : World) (hR : RackAt g s w) :
    Calls Try.prog 14 #[.pointer (some ⟨g + 1, 0, none⟩), .int .i64 d] w fun r w' => r = .returned (.int .u64 (s.writes d : Nat)) ∧ Kept w w' := by
  refine pWrites_any g s.n s (some ⟨g + 1, 0, none⟩) d hd1 hd2 w (.inr ⟨rfl, rfl, hR⟩) (s.writes d) ?_
  unfold RSt.writes RSt.drive
  by_cases h : 0 ≤ d ∧ d < s.n
  · rw [if_pos h, if_pos (decide_eq_true h)]
  · rw [if_neg h, if_neg (by simpa using h)]
theorem all_any (g : Nat) (s : RSt) (d : Int) (hd1 : -9223372036854775808 ≤ d) (hd2 : d ≤ 9223372036854775807) (w : World) (hR : RackAt g s w) :
    Calls Try.prog 12 #[.pointer (some ⟨g + 1, 0, none⟩), .int .i64 d] w fun r w' => r = .returned (.string (s.all d)) ∧ Kept w w' := by
  unfold RSt.all
  cases h : s.drive d
  · rw [if_neg (by decide)]
    exact pAll_bad g s.n s (some ⟨g + 1, 0, none⟩) d hd1 hd2 w hR.has (by have := hR.wf.n2; omega) (by unfold RSt.drive at h; exact of_decide_eq_false h)
  · rw [if_pos rfl]
    obtain ⟨d', rfl, hd⟩ := RSt.drive_iff h
    exact pAll_ok g s d' hd w hR
/- No rack. -/
theorem read_nil (d i : Int) (hd1 : -9223372036854775808 ≤ d) (hd2 : d ≤ 9223372036854775807) (hi1 : -9223372036854775808 ≤ i) (hi2 : i ≤ 9223372036854775807) (w : World) :
    Calls Try.prog 21 #[.pointer none, .int .i64 d, .int .i64 i] w fun r w' => r = .returned (.tuple #[.string ⟨#[]⟩, .int .i64 1]) ∧ Kept w w' :=
  pRead_bad 0 0 (rack0 1 1) none d i hd1 hd2 hi1 hi2 1 w (.inl ⟨rfl, rfl⟩) rfl (by decide)
theorem write_nil (d i : Int) (hd1 : -9223372036854775808 ≤ d) (hd2 : d ≤ 9223372036854775807) (hi1 : -9223372036854775808 ≤ i) (hi2 : i ≤ 9223372036854775807) (t : ByteArray) (ht : t.size ≤ 9223372036854775807) (w : World) :
    Calls Try.prog 19 #[.pointer none, .int .i64 d, .int .i64 i, .string t] w fun r w' => r = .returned (.int .i64 1) ∧ Kept w w' :=
  pWrite_bad 0 0 (rack0 1 1) none d i hd1 hd2 hi1 hi2 t ht 1 w (.inl ⟨rfl, rfl⟩) rfl (by decide)
theorem cut_nil (k : Int) (hk1 : -9223372036854775808 ≤ k) (hk2 : k ≤ 9223372036854775807) (w : World) :
    Calls Try.prog 18 #[.pointer none, .int .i64 k] w fun r w' => r = .returned (.int .i64 1) ∧ Kept w w' :=
  pCut_bad 0 0 (rack0 1 1) none k hk1 hk2 1 w (.inl ⟨rfl, rfl⟩) rfl (by decide)
theorem lift_nil (w : World) : Calls Try.prog 20 #[.pointer none] w fun r w' => r = .returned (.int .i64 1) ∧ Kept w w' :=
  pLift_bad 0 0 (rack0 1 1) none 1 w (.inl ⟨rfl, rfl⟩) rfl (by decide)
theorem wipe_nil (d : Int) (hd1 : -9223372036854775808 ≤ d) (hd2 : d ≤ 9223372036854775807) (w : World) :
    Calls Try.prog 23 #[.pointer none, .int .i64 d] w fun r w' => r = .returned (.int .i64 1) ∧ Kept w w' :=
  pWipe_bad 0 0 (rack0 1 1) none d hd1 hd2 1 w (.inl ⟨rfl, rfl⟩) rfl (by decide)
theorem spoil_nil (d i : Int) (hd1 : -9223372036854775808 ≤ d) (hd2 : d ≤ 9223372036854775807) (hi1 : -9223372036854775808 ≤ i) (hi2 : i ≤ 9223372036854775807) (w : World) :
    Calls Try.prog 22 #[.pointer none, .int .i64 d, .int .i64 i] w fun r w' => r = .returned (.int .i64 1) ∧ Kept w w' :=
  pSpoil_bad 0 0 (rack0 1 1) none d i hd1 hd2 hi1 hi2 1 w (.inl ⟨rfl, rfl⟩) rfl (by decide)
theorem writes_nil (d : Int) (hd1 : -9223372036854775808 ≤ d) (hd2 : d ≤ 9223372036854775807) (w : World) :
    Calls Try.prog 14 #[.pointer none, .int .i64 d] w fun r w' => r = .returned (.int .u64 0) ∧ Kept w w' :=
  pWrites_any 0 0 (rack0 1 1) none d hd1 hd2 w (.inl ⟨rfl, rfl⟩) 0 (by rw [if_neg (by omega)])
theorem all_nil (d : Int) (hd1 : -9223372036854775808 ≤ d) (hd2 : d ≤ 9223372036854775807) (w : World) :
    Calls Try.prog 12 #[.pointer none, .int .i64 d] w fun r w' => r = .returned (.string ⟨#[]⟩) ∧ Kept w w' :=
  pAll_bad 0 0 (rack0 1 1) none d hd1 hd2 w (.inl ⟨rfl, rfl⟩) (by decide) (by omega)
end Go.Proofs.Ytnfehfmmpjbgdaa
