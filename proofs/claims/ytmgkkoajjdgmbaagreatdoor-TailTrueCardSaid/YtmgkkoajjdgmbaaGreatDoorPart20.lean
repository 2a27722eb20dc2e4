/- RackAll, RackAny, RackMath, RackAlive, BytL. -/
import Derived.Test.YtmgkkoajjdgmbaaGreatDoorPart19
import Derived.Test.YtmgkkoajjdgmbaaGreatDoorPart12
import Derived.Test.YtmgkkoajjdgmbaaGreatDoorPart0
import Derived.Test.YtmgkkoajjdgmbaaGreatDoorPart3
import Derived.Test.YtmgkkoajjdgmbaaGreatDoorPart2
import Derived.Deep.OwnRows
import Derived.OwnWalk
import Derived.Laws.OwnMore
set_option linter.unusedVariables false
set_option linter.unusedSimpArgs false
set_option linter.unusedSectionVars false
set_option linter.unnecessarySimpa false
set_option linter.deprecated false
/- All bytes of a drive. -/
namespace Go.Proofs.YtmgkkoajjdgmbaaGreatDoor
open Go.RowKit
set_option linter.unusedVariables false
theorem allTo_length {s : RSt} (h : s.Wf) (d : Nat) (hd : d < s.n) : ∀ k, k ≤ s.m → (s.allTo d k).length = k * 64
  | 0, _ => by simp [RSt.allTo]
  | k + 1, hk => by
    unfold RSt.allTo
    rw [List.length_append, allTo_length h d hd k (by omega), h.shown hd (by omega)]
    omega
theorem sec_news {b o : Nat} {l : List UInt8} {x : Bool} {w : World} (h : w.rangeAt b o (secL l x)) : ∀ j u, (Lib.byteCells l)[j]? = some u → w.cell? ((⟨b, o, none⟩ : Addr).add j) = some u := by
  intro j u hj
  rw [Addr.add_mid]
  refine h j u ?_
  unfold secL
  have hlt : j < (Lib.byteCells l).length := (List.getElem?_eq_some_iff.1 hj).1
  rw [Lib.byteCells_length] at hlt
  rw [List.getElem?_append_left (by rw [List.length_map]; exact hlt)]
  exact hj
end Go.Proofs.YtmgkkoajjdgmbaaGreatDoor

/- What the program's rack answers, whatever is asked. -/
namespace Go.Proofs.YtmgkkoajjdgmbaaGreatDoor
open Go.RowKit
set_option linter.unusedVariables false
theorem there_of (s : RSt) (d i : Int) : secE s d i = if s.there d i = false then 70 else 0 := by
  unfold secE
  cases s.there d i <;> rfl
theorem write_code (s : RSt) (h : s.Wf) (d i : Int) (t : ByteArray) : or2 (or2 (or2 (noneE s.n) (secE s d i)) (longE t)) (ifE s.down 71) = s.writeE d i t := by
  have h1 : noneE s.n = 0 := if_neg (by have := h.n1; omega)
  rw [h1, there_of]
  unfold RSt.writeE longE ifE or2
  cases s.there d i <;> cases s.down <;> by_cases h2 : 64 < t.size <;> simp [h2]
theorem read_code (s : RSt) (h : s.Wf) (d i : Int) : or2 (or2 (or2 (noneE s.n) (ifE s.down 71)) (secE s d i)) (ifE (s.bad d.toNat i.toNat) 72) = s.readE d i := by
  have h1 : noneE s.n = 0 := if_neg (by have := h.n1; omega)
  rw [h1, there_of]
  unfold RSt.readE ifE or2
  cases s.there d i <;> cases s.down <;> cases s.bad d.toNat i.toNat <;> rfl
theorem write_any (g : Nat) (s : RSt) (d i : Int) (hd1 : -9223372036854775808 ≤ d) (hd2 : d ≤ 9223372036854775807) (hi1 : -9223372036854775808 ≤ i) (hi2 : i ≤ 9223372036854775807) (t : ByteArray) (ht : t.size ≤ 9223372036854775807) (w : World) (hR : RackAt g s w) :
    Calls Tryz.prog 57 #[.pointer (some ⟨g + 1, 0, none⟩), .int .i64 d, .int .i64 i, .string t] w fun r w' => r = .returned (.int .i64 (s.writeE d i t : Nat)) ∧ RackAt g (s.writeS d i t) w' ∧ Only g (g + 2 + s.n) w w' := by
  by_cases he : s.writeE d i t = 0
  · have h1 : s.there d i = true := by
      unfold RSt.writeE at he
      split at he
      · cases he
      · rename_i h; cases h2 : s.there d i
        · exact absurd h2 h
        · rfl
    have h2 : t.size ≤ 64 := by
      unfold RSt.writeE at he
      rw [if_neg (by rw [h1]; decide)] at he
      split at he
      · cases he
      · omega
    have h3 : s.down = false := by
      unfold RSt.writeE at he
      rw [if_neg (by rw [h1]; decide), if_neg (by omega)] at he
      split at he
      · cases he
      · rename_i h; simpa using h
    have hs : s.writeS d i t = s.wr d.toNat i.toNat (padL t) := if_pos he
    rw [he, hs]
    obtain ⟨d', i', rfl, rfl, hd, hi⟩ := RSt.there_iff h1
    rw [Int.toNat_natCast, Int.toNat_natCast]
    exact pWrite_ok g s d' i' hd hi t h2 h3 w hR
  · have hs : s.writeS d i t = s := if_neg he
    rw [hs]
    refine (pWrite_bad g s.n s (some ⟨g + 1, 0, none⟩) d i hd1 hd2 hi1 hi2 t ht (s.writeE d i t) w (.inr ⟨rfl, rfl, hR⟩) (write_code s hR.wf d i t) he).mono ?_
    rintro r w' ⟨rfl, hk⟩
    exact ⟨rfl, hR.kept hk, hk.only _ _⟩
theorem read_any (g : Nat) (s : RSt) (d i : Int) (hd1 : -9223372036854775808 ≤ d) (hd2 : d ≤ 9223372036854775807) (hi1 : -9223372036854775808 ≤ i) (hi2 : i ≤ 9223372036854775807) (w : World) (hR : RackAt g s w) :
    Calls Tryz.prog 76 #[.pointer (some ⟨g + 1, 0, none⟩), .int .i64 d, .int .i64 i] w fun r w' => r = .returned (.tuple #[.string (s.readT d i), .int .i64 (s.readE d i : Nat)]) ∧ Kept w w' := by
  by_cases he : s.readE d i = 0
  · have h1 : s.down = false := by
      unfold RSt.readE at he
      split at he
      · cases he
      · rename_i h; simpa using h
    have h2 : s.there d i = true := by
      unfold RSt.readE at he
      rw [if_neg (by rw [h1]; decide)] at he
      split at he
      · cases he
      · rename_i h; cases h2 : s.there d i
        · exact absurd h2 h
        · rfl
    have h3 : s.bad d.toNat i.toNat = false := by
      unfold RSt.readE at he
      rw [if_neg (by rw [h1]; decide), if_neg (by rw [h2]; decide)] at he
      split at he
      · cases he
      · rename_i h; simpa using h
    have hs : s.readT d i = ⟨(s.T d.toNat i.toNat).toArray⟩ := if_pos he
    rw [he, hs]
    obtain ⟨d', i', rfl, rfl, hd, hi⟩ := RSt.there_iff h2
    rw [Int.toNat_natCast, Int.toNat_natCast] at *
    exact pRead_ok g s d' i' hd hi h1 h3 w hR
  · have hs : s.readT d i = ByteArray.empty := if_neg he
    rw [hs]
    exact pRead_bad g s.n s (some ⟨g + 1, 0, none⟩) d i hd1 hd2 hi1 hi2 (s.readE d i) w (.inr ⟨rfl, rfl, hR⟩) (read_code s hR.wf d i) he
theorem cut_any (g : Nat) (s : RSt) (k : Int) (hk1 : -9223372036854775808 ≤ k) (hk2 : k ≤ 9223372036854775807) (w : World) (hR : RackAt g s w) :
    Calls Tryz.prog 13 #[.pointer (some ⟨g + 1, 0, none⟩), .int .i64 k] w fun r w' => r = .returned (.int .i64 (RSt.cutE k : Nat)) ∧ RackAt g (s.cutS k) w' ∧ Only g (g + 2 + s.n) w w' := by
  have h1 : noneE s.n = 0 := if_neg (by have := hR.wf.n1; omega)
  by_cases h : k < 0
  · have he : RSt.cutE k = 2 := if_pos h
    have hs : s.cutS k = s := if_pos h
    rw [hs]
    refine (pCut_bad g s.n s (some ⟨g + 1, 0, none⟩) k hk1 hk2 (RSt.cutE k) w (.inr ⟨rfl, rfl, hR⟩) (by rw [h1]; rfl) (by omega)).mono ?_
    rintro r w' ⟨rfl, hk⟩
    exact ⟨rfl, hR.kept hk, hk.only _ _⟩
  · have he : RSt.cutE k = 0 := if_neg h
    have hs : s.cutS k = s.lim true k.toNat := if_neg h
    obtain ⟨k', rfl⟩ : ∃ k' : Nat, k = k' := ⟨k.toNat, by omega⟩
    rw [hs, he]
    exact pCut_ok g s k' (by omega) w hR
theorem lift_any (g : Nat) (s : RSt) (w : World) (hR : RackAt g s w) :
    Calls Tryz.prog 15 #[.pointer (some ⟨g + 1, 0, none⟩)] w fun r w' => r = .returned (.int .i64 0) ∧ RackAt g s.liftS w' ∧ Only g (g + 2 + s.n) w w' := pLift_ok g s w hR
theorem wipe_any (g : Nat) (s : RSt) (d : Int) (hd1 : -9223372036854775808 ≤ d) (hd2 : d ≤ 9223372036854775807) (w : World) (hR : RackAt g s w) :
    Calls Tryz.prog 26 #[.pointer (some ⟨g + 1, 0, none⟩), .int .i64 d] w fun r w' => r = .returned (.int .i64 (s.wipeE d : Nat)) ∧ RackAt g (s.wipeS d) w' ∧ Only g (g + 2 + s.n) w w' := by
  have h1 : noneE s.n = 0 := if_neg (by have := hR.wf.n1; omega)
  unfold RSt.wipeE RSt.wipeS
  cases h : s.drive d
  · have he : drvE s.n d = 70 := if_neg (by unfold RSt.drive at h; exact of_decide_eq_false h)
    rw [if_neg (by decide), if_neg (by decide)]
    refine (pWipe_bad g s.n s (some ⟨g + 1, 0, none⟩) d hd1 hd2 70 w (.inr ⟨rfl, rfl, hR⟩) (by rw [h1, he]; rfl) (by decide)).mono ?_
    rintro r w' ⟨rfl, hk⟩
    exact ⟨rfl, hR.kept hk, hk.only _ _⟩
  · rw [if_pos rfl, if_pos rfl]
    obtain ⟨d', rfl, hd⟩ := RSt.drive_iff h
    exact pWipe_ok g s d' hd w hR
theorem spoil_any (g : Nat) (s : RSt) (d i : Int) (hd1 : -9223372036854775808 ≤ d) (hd2 : d ≤ 9223372036854775807) (hi1 : -9223372036854775808 ≤ i) (hi2 : i ≤ 9223372036854775807) (w : World) (hR : RackAt g s w) :
    Calls Tryz.prog 41 #[.pointer (some ⟨g + 1, 0, none⟩), .int .i64 d, .int .i64 i] w fun r w' => r = .returned (.int .i64 (s.spoilE d i : Nat)) ∧ RackAt g (s.spoilS d i) w' ∧ Only g (g + 2 + s.n) w w' := by
  have h1 : noneE s.n = 0 := if_neg (by have := hR.wf.n1; omega)
  unfold RSt.spoilE RSt.spoilS
  cases h : s.there d i
  · have he : secE s d i = 70 := by rw [there_of, h]; rfl
    rw [if_neg (by decide), if_neg (by decide)]
    refine (pSpoil_bad g s.n s (some ⟨g + 1, 0, none⟩) d i hd1 hd2 hi1 hi2 70 w (.inr ⟨rfl, rfl, hR⟩) (by rw [h1, he]; rfl) (by decide)).mono ?_
    rintro r w' ⟨rfl, hk⟩
    exact ⟨rfl, hR.kept hk, hk.only _ _⟩
  · rw [if_pos rfl, if_pos rfl]
    obtain ⟨d', i', rfl, rfl, hd, hi⟩ := RSt.there_iff h
    exact pSpoil_ok g s d' i' hd hi w hR
/- No rack. -/
theorem read_nil (d i : Int) (hd1 : -9223372036854775808 ≤ d) (hd2 : d ≤ 9223372036854775807) (hi1 : -9223372036854775808 ≤ i) (hi2 : i ≤ 9223372036854775807) (w : World) :
    Calls Tryz.prog 76 #[.pointer none, .int .i64 d, .int .i64 i] w fun r w' => r = .returned (.tuple #[.string ⟨#[]⟩, .int .i64 1]) ∧ Kept w w' :=
  pRead_bad 0 0 (rack0 1 1) none d i hd1 hd2 hi1 hi2 1 w (.inl ⟨rfl, rfl⟩) rfl (by decide)
theorem write_nil (d i : Int) (hd1 : -9223372036854775808 ≤ d) (hd2 : d ≤ 9223372036854775807) (hi1 : -9223372036854775808 ≤ i) (hi2 : i ≤ 9223372036854775807) (t : ByteArray) (ht : t.size ≤ 9223372036854775807) (w : World) :
    Calls Tryz.prog 57 #[.pointer none, .int .i64 d, .int .i64 i, .string t] w fun r w' => r = .returned (.int .i64 1) ∧ Kept w w' :=
  pWrite_bad 0 0 (rack0 1 1) none d i hd1 hd2 hi1 hi2 t ht 1 w (.inl ⟨rfl, rfl⟩) rfl (by decide)
theorem cut_nil (k : Int) (hk1 : -9223372036854775808 ≤ k) (hk2 : k ≤ 9223372036854775807) (w : World) :
    Calls Tryz.prog 13 #[.pointer none, .int .i64 k] w fun r w' => r = .returned (.int .i64 1) ∧ Kept w w' :=
  pCut_bad 0 0 (rack0 1 1) none k hk1 hk2 1 w (.inl ⟨rfl, rfl⟩) rfl (by decide)
theorem lift_nil (w : World) : Calls Tryz.prog 15 #[.pointer none] w fun r w' => r = .returned (.int .i64 1) ∧ Kept w w' :=
  pLift_bad 0 0 (rack0 1 1) none 1 w (.inl ⟨rfl, rfl⟩) rfl (by decide)
theorem wipe_nil (d : Int) (hd1 : -9223372036854775808 ≤ d) (hd2 : d ≤ 9223372036854775807) (w : World) :
    Calls Tryz.prog 26 #[.pointer none, .int .i64 d] w fun r w' => r = .returned (.int .i64 1) ∧ Kept w w' :=
  pWipe_bad 0 0 (rack0 1 1) none d hd1 hd2 1 w (.inl ⟨rfl, rfl⟩) rfl (by decide)
theorem spoil_nil (d i : Int) (hd1 : -9223372036854775808 ≤ d) (hd2 : d ≤ 9223372036854775807) (hi1 : -9223372036854775808 ≤ i) (hi2 : i ≤ 9223372036854775807) (w : World) :
    Calls Tryz.prog 41 #[.pointer none, .int .i64 d, .int .i64 i] w fun r w' => r = .returned (.int .i64 1) ∧ Kept w w' :=
  pSpoil_bad 0 0 (rack0 1 1) none d i hd1 hd2 hi1 hi2 1 w (.inl ⟨rfl, rfl⟩) rfl (by decide)
end Go.Proofs.YtmgkkoajjdgmbaaGreatDoor

/- What is known of the document's rack, without the program. -/
namespace Go.Proofs.YtmgkkoajjdgmbaaGreatDoor
open Go.RowKit
set_option linter.unusedVariables false
namespace RSt
theorem up2_same {α : Type} (f : Nat → Nat → α) (d i : Nat) (v : α) : up2 f d i v d i = v := if_pos ⟨rfl, rfl⟩
theorem up2_other {α : Type} (f : Nat → Nat → α) (d i : Nat) (v : α) (d' i' : Nat) (h : ¬ (d' = d ∧ i' = i)) : up2 f d i v d' i' = f d' i' := if_neg h
/-- A rack of three drives of eight sectors, none of them spoilt, without a cut. -/
structure Plain (s : RSt) : Prop where
  wf : s.Wf
  n : s.n = 3
  m : s.m = 8
  cut : s.cut = false
  bad : ∀ d i, s.bad d i = false
theorem plain0 : Plain (rack0 3 8) :=
  ⟨⟨by decide, by decide, by decide, by decide, fun _ _ _ _ => zero64_length, fun _ => by show 0 < _; decide, by show 0 ≤ _; decide⟩, rfl, rfl, rfl, fun _ _ => rfl⟩
theorem writeS_cases (s : RSt) (d i : Int) (t : ByteArray) : (s.writeE d i t ≠ 0 ∧ s.writeS d i t = s) ∨ (s.writeE d i t = 0 ∧ s.there d i = true ∧ t.size ≤ 64 ∧ s.down = false ∧ s.writeS d i t = s.wr d.toNat i.toNat (padL t)) := by
  by_cases he : s.writeE d i t = 0
  · refine .inr ⟨he, ?_, ?_, ?_, if_pos he⟩
    · unfold writeE at he
      cases h : s.there d i
      · rw [if_pos h] at he; cases he
      · rfl
    · unfold writeE at he
      split at he
      · cases he
      · split at he
        · cases he
        · omega
    · unfold writeE at he
      split at he
      · cases he
      · split at he
        · cases he
        · split at he
          · cases he
          · rename_i h; simpa using h
  · exact .inl ⟨he, if_neg he⟩
theorem Plain.write {s : RSt} (h : s.Plain) (d i : Int) (t : ByteArray) : (s.writeS d i t).Plain := by
  rcases s.writeS_cases d i t with ⟨_, e⟩ | ⟨_, _, hs, _, e⟩
  · rw [e]; exact h
  · rw [e]
    refine ⟨h.wf.wr _ _ _ (padL_length t hs), h.n, h.m, h.cut, fun d' i' => ?_⟩
    show up2 s.bad _ _ false d' i' = false
    unfold up2
    split
    · rfl
    · exact h.bad d' i'
theorem Plain.down {s : RSt} (h : s.Plain) : s.down = false := by unfold RSt.down; rw [h.cut]; rfl
theorem Plain.drive {s : RSt} (h : s.Plain) {d : Nat} (hd : d < 3) : s.drive d = true := by
  unfold RSt.drive; rw [h.n]; exact decide_eq_true ⟨by omega, by omega⟩
theorem Plain.there {s : RSt} (h : s.Plain) {d i : Nat} (hd : d < 3) (hi : i < 8) : s.there d i = true := by
  unfold RSt.there; rw [h.n, h.m]; exact decide_eq_true ⟨by omega, by omega, by omega, by omega⟩
theorem allTo_congr {s s' : RSt} {d : Nat} : ∀ (k : Nat), (∀ i, i < k → s.shown d i = s'.shown d i) → s.allTo d k = s'.allTo d k
  | 0, _ => rfl
  | k + 1, h => by
    unfold allTo
    rw [allTo_congr k (fun i hi => h i (by omega)), h k (by omega)]
theorem allTo_zero {s : RSt} {d : Nat} : ∀ (k : Nat), (∀ i, i < k → s.shown d i = zero64) → s.allTo d k = List.replicate (k * 64) 0
  | 0, _ => rfl
  | k + 1, h => by
    unfold allTo
    rw [allTo_zero k (fun i hi => h i (by omega)), h k (by omega)]
    unfold zero64
    rw [List.replicate_append_replicate]
    congr 1
    omega
theorem allTo_part {s : RSt} (hw : s.Wf) {d : Nat} (hd : d < s.n) (i : Nat) : ∀ k, k ≤ s.m → i < k → ((s.allTo d k).drop (i * 64)).take 64 = s.shown d i
  | k + 1, hk, hi => by
    unfold allTo
    have hl := allTo_length hw d hd k (by omega)
    have hs := hw.shown hd (show k < s.m by omega)
    by_cases e : i = k
    · subst e
      rw [List.drop_append, hl, Nat.sub_self, List.drop_zero, List.drop_of_length_le (by omega), List.nil_append, List.take_of_length_le (by omega)]
    · rw [List.drop_append_of_le_length (by rw [hl]; have : i * 64 ≤ k * 64 := Nat.mul_le_mul_right _ (by omega); omega), List.take_append_of_le_length (by rw [List.length_drop, hl]; have : (i + 1) * 64 ≤ k * 64 := Nat.mul_le_mul_right _ (by omega); omega)]
      exact allTo_part hw hd i k (by omega) (by omega)
theorem Plain.all_size {s : RSt} (h : s.Plain) {d : Nat} (hd : d < 3) : (s.all d).size = 512 := by
  unfold RSt.all
  rw [if_pos (h.drive hd), Int.toNat_natCast]
  have := allTo_length h.wf d (by rw [h.n]; exact hd) s.m (Nat.le_refl _)
  rw [h.m] at this ⊢
  show (s.allTo d 8).toArray.size = 512
  rw [List.size_toArray, this]
theorem Plain.shown {s : RSt} (h : s.Plain) (d i : Nat) : s.shown d i = s.T d i := by unfold RSt.shown; rw [h.bad]; rfl
theorem ext_list (l : List UInt8) (a b : Nat) : (⟨l.toArray⟩ : ByteArray).extract a b = ⟨((l.drop a).take (b - a)).toArray⟩ := by
  apply ByteArray.ext
  simp [ByteArray.data_extract, List.extract_eq_take_drop]
/-- A sector's part of all. -/
theorem Plain.part {s : RSt} (h : s.Plain) {d i : Nat} (hd : d < 3) (hi : i < 8) : (s.all d).extract (i * 64) ((i + 1) * 64) = ⟨(s.T d i).toArray⟩ := by
  unfold RSt.all
  rw [if_pos (h.drive hd), Int.toNat_natCast, ext_list, show (i + 1) * 64 - i * 64 = 64 by omega, allTo_part h.wf (by rw [h.n]; exact hd) i s.m (Nat.le_refl _) (by rw [h.m]; exact hi), h.shown]
/-- Behind Spoil: what is read. -/
theorem Plain.spoilE {s : RSt} (h : s.Plain) {K A : Nat} (hK : K < 3) (hA : A < 8) : s.spoilE K A = 0 ∧ s.spoilS K A = s.spoil K A := by
  have ht := h.there hK hA
  refine ⟨if_pos ht, ?_⟩
  unfold RSt.spoilS
  rw [if_pos ht, Int.toNat_natCast, Int.toNat_natCast]
theorem Plain.spoil_read {s : RSt} (h : s.Plain) (K A : Nat) {d i : Nat} (hd : d < 3) (hi : i < 8) :
    (s.spoil K A).readE d i = (if d = K ∧ i = A then 72 else 0) ∧ (s.spoil K A).readT d i = if d = K ∧ i = A then ByteArray.empty else ⟨(s.T d i).toArray⟩ := by
  have hdn : (s.spoil K A).down = false := h.down
  have hth : (s.spoil K A).there d i = true := h.there hd hi
  have hbad : (s.spoil K A).bad d i = decide (d = K ∧ i = A) := by
    show up2 s.bad K A true d i = _
    unfold up2
    split
    · rename_i e; exact (decide_eq_true e).symm
    · rename_i e; rw [h.bad]; exact (decide_eq_false e).symm
  have he : (s.spoil K A).readE d i = if d = K ∧ i = A then 72 else 0 := by
    unfold RSt.readE
    rw [hdn, hth, Int.toNat_natCast, Int.toNat_natCast, hbad]
    by_cases e : d = K ∧ i = A
    · rw [if_pos e, decide_eq_true e]; rfl
    · rw [if_neg e, decide_eq_false e]; rfl
  refine ⟨he, ?_⟩
  unfold RSt.readT
  rw [he]
  by_cases e : d = K ∧ i = A
  · rw [if_pos e, if_neg (by decide), if_pos e]
  · rw [if_neg e, if_pos rfl, if_neg e, Int.toNat_natCast, Int.toNat_natCast]
    show (⟨(up2 s.T K A (s.T K A) d i).toArray⟩ : ByteArray) = _
    unfold up2
    split
    · rename_i e2; exact absurd e2 e
    · rfl
/-- Behind the write that follows. -/
theorem Plain.write_again {s : RSt} (h : s.Plain) {K A : Nat} (hK : K < 3) (hA : A < 8) (t : ByteArray) (ht : t.size ≤ 64) :
    (s.spoil K A).writeE K A t = 0 ∧ (s.spoil K A).writeS K A t = (s.spoil K A).wr K A (padL t) := by
  have he : (s.spoil K A).writeE K A t = 0 := by
    unfold RSt.writeE
    rw [show (s.spoil K A).there K A = true from h.there hK hA, show (s.spoil K A).down = false from h.down, if_neg (by decide), if_neg (by omega), if_neg (by decide)]
  refine ⟨he, ?_⟩
  unfold RSt.writeS
  rw [if_pos he, Int.toNat_natCast, Int.toNat_natCast]
theorem wr_read (s : RSt) {K A : Nat} (l : List UInt8) (hdn : s.cut = false) (hth : s.there K A = true) : (s.wr K A l).readE K A = 0 ∧ (s.wr K A l).readT K A = ⟨l.toArray⟩ := by
  have he : (s.wr K A l).readE K A = 0 := by
    unfold RSt.readE
    rw [show (s.wr K A l).down = false from by unfold RSt.down; rw [show (s.wr K A l).cut = s.cut from rfl, hdn]; rfl, show (s.wr K A l).there K A = true from hth, Int.toNat_natCast, Int.toNat_natCast,
      show (s.wr K A l).bad K A = false from up2_same _ _ _ _]
    rfl
  refine ⟨he, ?_⟩
  unfold RSt.readT
  rw [if_pos he, Int.toNat_natCast, Int.toNat_natCast, show (s.wr K A l).T K A = l from up2_same _ _ _ _]
/-- And behind the wipe. -/
theorem Plain.wiped_all {s : RSt} (h : s.Plain) {K A : Nat} (hK : K < 3) (l : List UInt8) {d : Nat} (hd : d < 3) :
    (((s.spoil K A).wr K A l).wipe K).all d = if d = K then ⟨(List.replicate 512 0).toArray⟩ else s.all d := by
  have hdr : (((s.spoil K A).wr K A l).wipe K).drive d = true := h.drive hd
  unfold RSt.all
  rw [if_pos hdr, if_pos (h.drive hd), Int.toNat_natCast, show (((s.spoil K A).wr K A l).wipe K).m = 8 from h.m, h.m]
  by_cases e : d = K
  · rw [if_pos e, allTo_zero 8 (fun i hi => ?_)]
    unfold RSt.shown
    show (if (if d = K then false else _) then zero64 else if d = K then zero64 else _) = zero64
    rw [if_pos e, if_pos e]; rfl
  · rw [if_neg e, allTo_congr (s' := s) 8 (fun i hi => ?_)]
    unfold RSt.shown
    show (if (if d = K then false else up2 (up2 s.bad K A true) K A false d i) then zero64 else if d = K then zero64 else up2 (up2 s.T K A (s.T K A)) K A l d i) = if s.bad d i then zero64 else s.T d i
    rw [if_neg e, if_neg e, up2_other _ _ _ _ _ _ (fun c => e c.1), up2_other _ _ _ _ _ _ (fun c => e c.1), up2_other _ _ _ _ _ _ (fun c => e c.1), up2_other _ _ _ _ _ _ (fun c => e c.1)]
end RSt
end Go.Proofs.YtmgkkoajjdgmbaaGreatDoor

/- Some answers that the document fixes. -/
namespace Go.Proofs.YtmgkkoajjdgmbaaGreatDoor
open Go.RowKit
set_option linter.unusedVariables false
namespace Al
def A0 : RSt := rack0 2 3
def A1 : RSt := A0.writeS 0 1 ⟨#[97, 98]⟩
def A2 : RSt := A1.spoilS 0 1
def A3 : RSt := A2.writeS 0 1 ⟨#[99]⟩
def A4 : RSt := A3.cutS 1
def A5 : RSt := A4.writeS 1 0 ⟨#[120]⟩
def A6 : RSt := A5.writeS 1 0 ⟨#[121]⟩
def A7 : RSt := A6.liftS
def A8 : RSt := A7.writeS 2 0 ⟨#[]⟩
def A9 : RSt := A8.wipeS 0
end Al
open Al
end Go.Proofs.YtmgkkoajjdgmbaaGreatDoor

/- Bytes of the call's own, told by a list. -/
namespace Go.Proofs.YtmgkkoajjdgmbaaGreatDoor
open Go.RowKit
set_option linter.unusedVariables false
structure BytL (g : Nat) (l : List UInt8) (w : World) : Prop where
  cell : ∀ (j : Nat) (h : j < l.length), w.cell? ⟨g, j, none⟩ = some (.int .u8 (l[j].toNat : Nat))
  free : ∀ j, j < l.length → w.frozen? ⟨g, j, none⟩ = false
theorem BytL.set {g : Nat} {l : List UInt8} {w : World} (h : BytL g l w) (k : Nat) (hk : k < l.length) (v : UInt8) : BytL g (l.set k v) (w.setCell ⟨g, k, none⟩ (.int .u8 (v.toNat : Nat))) := by
  refine ⟨fun j hj => ?_, fun j hj => by rw [World.frozen?_setCell]; exact h.free j (by simpa using hj)⟩
  have hj' : j < l.length := by simpa using hj
  rw [List.getElem_set]
  by_cases e : k = j
  · subst e
    rw [if_pos rfl, World.cell?_setCell_same _ _ _ (h.cell k hk)]
  · rw [if_neg e, World.cell?_setCell_other _ _ _ _ (fun h => e (by injection h with _ e2)), h.cell j hj']
theorem BytL.kept {g : Nat} {l : List UInt8} {w w' : World} (h : BytL g l w) (k : Kept w w') : BytL g l w' := by
  refine ⟨fun j hj => ?_, fun j hj => ?_⟩
  · have hb : g < w.heap.size := block_lt_of_cell (h.cell j hj)
    rw [Below.cell k (p := ⟨g, j, none⟩) hb]; exact h.cell j hj
  · have hb : g < w.heap.size := block_lt_of_cell (h.cell j hj)
    rw [Below.frozen k (p := ⟨g, j, none⟩) hb]; exact h.free j hj
theorem BytL.only {g lo hi : Nat} {l : List UInt8} {w w' : World} (h : BytL g l w) (k : Only lo hi w w') (hg : hi ≤ g) : BytL g l w' := by
  refine ⟨fun j hj => ?_, fun j hj => ?_⟩
  · have hb : g < w.heap.size := block_lt_of_cell (h.cell j hj)
    rw [k.cell (p := ⟨g, j, none⟩) hb (.inr hg)]; exact h.cell j hj
  · have hb : g < w.heap.size := block_lt_of_cell (h.cell j hj)
    rw [k.frozen (p := ⟨g, j, none⟩) hb (.inr hg)]; exact h.free j hj
/-- The bytes that '[]byte(s)' makes. -/
theorem BytL.conv (w : World) (s : ByteArray) (cap : Nat) (t : TypeId) : BytL w.heap.size s.data.toList (w.drew.alloc (.cells (bytesRow s cap) t ((bytesRow s cap).size, (bytesRow s cap).size + 1))) := by
  have hz : s.size ≤ (bytesRow s cap).size := by unfold bytesRow; rw [Array.size_append, Array.size_map]; exact Nat.le_add_right _ _
  have hl : s.data.toList.length = s.size := by simp
  refine ⟨fun j hj => ?_, fun j hj => ?_⟩
  · show (w.alloc (Obj.cells (bytesRow s cap) _ _)).cell? _ = _
    rw [World.cell?_alloc_mark, bytesRow_at s cap j (by simpa using hj)]
    simp
  · show (w.alloc (Obj.cells (bytesRow s cap) _ _)).frozen? _ = _
    rw [World.frozen?_alloc_mark]
    simp
    omega
/-- A part of them as a text. -/
theorem BytL.text {g : Nat} {l : List UInt8} {w : World} (h : BytL g l w) (lo n cap : Nat) (hn : lo + n ≤ l.length) :
    (convert 24 9 (.slice (some ⟨g, lo, none⟩) n cap)).run Tryz.prog w = .ok (.string ⟨((l.drop lo).take n).toArray⟩) w := by
  have hr := run_convert_bytes_back (P := Tryz.prog) w 24 9 5 ⟨g, lo, none⟩ cap ((l.drop lo).take n) Tryz.underlying24 Tryz.underlying5 Tryz.underlying9 (fun j hj => by
    have hj' : j < n := by simp at hj; omega
    have hjl : lo + j < l.length := by omega
    have := h.cell (lo + j) hjl
    have ha : (⟨g, lo, none⟩ : Addr).add j = ⟨g, lo + j, none⟩ := by
      unfold Addr.add
      split
      · rename_i h0; subst h0; rfl
      · rfl
    rw [ha]
    simpa using this)
  rw [show ((l.drop lo).take n).length = n from by simp; omega] at hr
  exact hr
end Go.Proofs.YtmgkkoajjdgmbaaGreatDoor

