/- RackAll, RackAny, RackMath, Burst. -/
import Derived.Test.YtdpkmonlkdegjaaDoorPart19
import Derived.Test.YtdpkmonlkdegjaaDoorPart12
import Derived.Test.YtdpkmonlkdegjaaDoorPart6
/- All bytes of a drive. -/
namespace Go.Proofs.YtdpkmonlkdegjaaDoor
open Go.RowKit
set_option linter.unusedVariables false
theorem allTo_length {s : RSt} (h : s.Wf) (d : Nat) (hd : d < s.n) : ∀ k, k ≤ s.m → (s.allTo d k).length = k * 64
  | 0, _ => by simp [RSt.allTo]
  | k + 1, hk => by
    unfold RSt.allTo
    rw [List.length_append, allTo_length h d hd k (by omega), h.shown hd (by omega)]
    omega
theorem sec_news {b o : Nat} {l : List UInt8} {x : Bool} {w : World} (h : w.rangeAt b o (secL l x)) : ∀ j u, (Lib.byteCells l)[j]? = some u → w.cell? ((⟨b, o, none⟩ : Addr).add j) = some u := by
  intro j u hj
  rw [Addr.add_mid]
  refine h j u ?_
  unfold secL
  have hlt : j < (Lib.byteCells l).length := (List.getElem?_eq_some_iff.1 hj).1
  rw [Lib.byteCells_length] at hlt
  rw [List.getElem?_append_left (by rw [List.length_map]; exact hlt)]
  exact hj
end Go.Proofs.YtdpkmonlkdegjaaDoor

/- What the program's rack answers, whatever is asked. -/
namespace Go.Proofs.YtdpkmonlkdegjaaDoor
open Go.RowKit
set_option linter.unusedVariables false
theorem there_of (s : RSt) (d i : Int) : secE s d i = if s.there d i = false then 70 else 0 := by
  unfold secE
  cases s.there d i <;> rfl
theorem write_code (s : RSt) (h : s.Wf) (d i : Int) (t : ByteArray) : or2 (or2 (or2 (noneE s.n) (secE s d i)) (longE t)) (ifE s.down 71) = s.writeE d i t := by
  have h1 : noneE s.n = 0 := if_neg (by have := h.n1; omega)
  rw [h1, there_of]
  unfold RSt.writeE longE ifE or2
  cases s.there d i <;> cases s.down <;> by_cases h2 : 64 < t.size <;> simp [h2]
theorem read_code (s : RSt) (h : s.Wf) (d i : Int) : or2 (or2 (or2 (noneE s.n) (ifE s.down 71)) (secE s d i)) (ifE (s.bad d.toNat i.toNat) 72) = s.readE d i := by
  have h1 : noneE s.n = 0 := if_neg (by have := h.n1; omega)
  rw [h1, there_of]
  unfold RSt.readE ifE or2
  cases s.there d i <;> cases s.down <;> cases s.bad d.toNat i.toNat <;> rfl
theorem write_any (g : Nat) (s : RSt) (d i : Int) (hd1 : -9223372036854775808 ≤ d) (hd2 : d ≤ 9223372036854775807) (hi1 : -9223372036854775808 ≤ i) (hi2 : i ≤ 9223372036854775807) (t : ByteArray) (ht : t.size ≤ 9223372036854775807) (w : World) (hR : RackAt g s w) :
    Calls Tryd.prog 10 #[.pointer (some ⟨g + 1, 0, none⟩), .int .i64 d, .int .i64 i, .string t] w fun r w' => r = .returned (.int .i64 (s.writeE d i t : Nat)) ∧ RackAt g (s.writeS d i t) w' ∧ Only g (g + 2 + s.n) w w' := by
  by_cases he : s.writeE d i t = 0
  · have h1 : s.there d i = true := by
      unfold RSt.writeE at he
      split at he
      · cases he
      · rename_i h; cases h2 : s.there d i
        · exact absurd h2 h
        · rfl
    have h2 : t.size ≤ 64 := by
      unfold RSt.writeE at he
      rw [if_neg (by rw [h1]; decide)] at he
      split at he
      · cases he
      · omega
    have h3 : s.down = false := by
      unfold RSt.writeE at he
      rw [if_neg (by rw [h1]; decide), if_neg (by omega)] at he
      split at he
      · cases he
      · rename_i h; simpa using h
    have hs : s.writeS d i t = s.wr d.toNat i.toNat (padL t) := if_pos he
    rw [he, hs]
    obtain ⟨d', i', rfl, rfl, hd, hi⟩ := RSt.there_iff h1
    rw [Int.toNat_natCast, Int.toNat_natCast]
    exact pWrite_ok g s d' i' hd hi t h2 h3 w hR
  · have hs : s.writeS d i t = s := if_neg he
    rw [hs]
    refine (pWrite_bad g s.n s (some ⟨g + 1, 0, none⟩) d i hd1 hd2 hi1 hi2 t ht (s.writeE d i t) w (.inr ⟨rfl, rfl, hR⟩) (write_code s hR.wf d i t) he).mono ?_
    rintro r w' ⟨rfl, hk⟩
    exact ⟨rfl, hR.kept hk, hk.only _ _⟩
theorem read_any (g : Nat) (s : RSt) (d i : Int) (hd1 : -9223372036854775808 ≤ d) (hd2 : d ≤ 9223372036854775807) (hi1 : -9223372036854775808 ≤ i) (hi2 : i ≤ 9223372036854775807) (w : World) (hR : RackAt g s w) :
    Calls Tryd.prog 13 #[.pointer (some ⟨g + 1, 0, none⟩), .int .i64 d, .int .i64 i] w fun r w' => r = .returned (.tuple #[.string (s.readT d i), .int .i64 (s.readE d i : Nat)]) ∧ Kept w w' := by
  by_cases he : s.readE d i = 0
  · have h1 : s.down = false := by
      unfold RSt.readE at he
      split at he
      · cases he
      · rename_i h; simpa using h
    have h2 : s.there d i = true := by
      unfold RSt.readE at he
      rw [if_neg (by rw [h1]; decide)] at he
      split at he
      · cases he
      · rename_i h; cases h2 : s.there d i
        · exact absurd h2 h
        · rfl
    have h3 : s.bad d.toNat i.toNat = false := by
      unfold RSt.readE at he
      rw [if_neg (by rw [h1]; decide), if_neg (by rw [h2]; decide)] at he
      split at he
      · cases he
      · rename_i h; simpa using h
    have hs : s.readT d i = ⟨(s.T d.toNat i.toNat).toArray⟩ := if_pos he
    rw [he, hs]
    obtain ⟨d', i', rfl, rfl, hd, hi⟩ := RSt.there_iff h2
    rw [Int.toNat_natCast, Int.toNat_natCast] at *
    exact pRead_ok g s d' i' hd hi h1 h3 w hR
  · have hs : s.readT d i = ByteArray.empty := if_neg he
    rw [hs]
    exact pRead_bad g s.n s (some ⟨g + 1, 0, none⟩) d i hd1 hd2 hi1 hi2 (s.readE d i) w (.inr ⟨rfl, rfl, hR⟩) (read_code s hR.wf d i) he
theorem spoil_any (g : Nat) (s : RSt) (d i : Int) (hd1 : -9223372036854775808 ≤ d) (hd2 : d ≤ 9223372036854775807) (hi1 : -9223372036854775808 ≤ i) (hi2 : i ≤ 9223372036854775807) (w : World) (hR : RackAt g s w) :
    Calls Tryd.prog 8 #[.pointer (some ⟨g + 1, 0, none⟩), .int .i64 d, .int .i64 i] w fun r w' => r = .returned (.int .i64 (s.spoilE d i : Nat)) ∧ RackAt g (s.spoilS d i) w' ∧ Only g (g + 2 + s.n) w w' := by
  have h1 : noneE s.n = 0 := if_neg (by have := hR.wf.n1; omega)
  unfold RSt.spoilE RSt.spoilS
  cases h : s.there d i
  · have he : secE s d i = 70 := by rw [there_of, h]; rfl
    rw [if_neg (by decide), if_neg (by decide)]
    refine (pSpoil_bad g s.n s (some ⟨g + 1, 0, none⟩) d i hd1 hd2 hi1 hi2 70 w (.inr ⟨rfl, rfl, hR⟩) (by rw [h1, he]; rfl) (by decide)).mono ?_
    rintro r w' ⟨rfl, hk⟩
    exact ⟨rfl, hR.kept hk, hk.only _ _⟩
  · rw [if_pos rfl, if_pos rfl]
    obtain ⟨d', i', rfl, rfl, hd, hi⟩ := RSt.there_iff h
    exact pSpoil_ok g s d' i' hd hi w hR
/- No rack. -/
theorem read_nil (d i : Int) (hd1 : -9223372036854775808 ≤ d) (hd2 : d ≤ 9223372036854775807) (hi1 : -9223372036854775808 ≤ i) (hi2 : i ≤ 9223372036854775807) (w : World) :
    Calls Tryd.prog 13 #[.pointer none, .int .i64 d, .int .i64 i] w fun r w' => r = .returned (.tuple #[.string ⟨#[]⟩, .int .i64 1]) ∧ Kept w w' :=
  pRead_bad 0 0 (rack0 1 1) none d i hd1 hd2 hi1 hi2 1 w (.inl ⟨rfl, rfl⟩) rfl (by decide)
theorem write_nil (d i : Int) (hd1 : -9223372036854775808 ≤ d) (hd2 : d ≤ 9223372036854775807) (hi1 : -9223372036854775808 ≤ i) (hi2 : i ≤ 9223372036854775807) (t : ByteArray) (ht : t.size ≤ 9223372036854775807) (w : World) :
    Calls Tryd.prog 10 #[.pointer none, .int .i64 d, .int .i64 i, .string t] w fun r w' => r = .returned (.int .i64 1) ∧ Kept w w' :=
  pWrite_bad 0 0 (rack0 1 1) none d i hd1 hd2 hi1 hi2 t ht 1 w (.inl ⟨rfl, rfl⟩) rfl (by decide)
theorem spoil_nil (d i : Int) (hd1 : -9223372036854775808 ≤ d) (hd2 : d ≤ 9223372036854775807) (hi1 : -9223372036854775808 ≤ i) (hi2 : i ≤ 9223372036854775807) (w : World) :
    Calls Tryd.prog 8 #[.pointer none, .int .i64 d, .int .i64 i] w fun r w' => r = .returned (.int .i64 1) ∧ Kept w w' :=
  pSpoil_bad 0 0 (rack0 1 1) none d i hd1 hd2 hi1 hi2 1 w (.inl ⟨rfl, rfl⟩) rfl (by decide)
end Go.Proofs.YtdpkmonlkdegjaaDoor

/- What is known of the document's rack, without the program. -/
namespace Go.Proofs.YtdpkmonlkdegjaaDoor
open Go.RowKit
set_option linter.unusedVariables false
namespace RSt
theorem up2_same {α : Type} (f : Nat → Nat → α) (d i : Nat) (v : α) : up2 f d i v d i = v := if_pos ⟨rfl, rfl⟩
theorem up2_other {α : Type} (f : Nat → Nat → α) (d i : Nat) (v : α) (d' i' : Nat) (h : ¬ (d' = d ∧ i' = i)) : up2 f d i v d' i' = f d' i' := if_neg h
/-- A rack of three drives of eight sectors, none of them spoilt, without a cut. -/
structure Plain (s : RSt) : Prop where
  wf : s.Wf
  n : s.n = 3
  m : s.m = 8
  cut : s.cut = false
  bad : ∀ d i, s.bad d i = false
theorem plain0 : Plain (rack0 3 8) :=
  ⟨⟨by decide, by decide, by decide, by decide, fun _ _ _ _ => zero64_length, fun _ => by show 0 < _; decide, by show 0 ≤ _; decide⟩, rfl, rfl, rfl, fun _ _ => rfl⟩
theorem writeS_cases (s : RSt) (d i : Int) (t : ByteArray) : (s.writeE d i t ≠ 0 ∧ s.writeS d i t = s) ∨ (s.writeE d i t = 0 ∧ s.there d i = true ∧ t.size ≤ 64 ∧ s.down = false ∧ s.writeS d i t = s.wr d.toNat i.toNat (padL t)) := by
  by_cases he : s.writeE d i t = 0
  · refine .inr ⟨he, ?_, ?_, ?_, if_pos he⟩
    · unfold writeE at he
      cases h : s.there d i
      · rw [if_pos h] at he; cases he
      · rfl
    · unfold writeE at he
      split at he
      · cases he
      · split at he
        · cases he
        · omega
    · unfold writeE at he
      split at he
      · cases he
      · split at he
        · cases he
        · split at he
          · cases he
          · rename_i h; simpa using h
  · exact .inl ⟨he, if_neg he⟩
theorem Plain.write {s : RSt} (h : s.Plain) (d i : Int) (t : ByteArray) : (s.writeS d i t).Plain := by
  rcases s.writeS_cases d i t with ⟨_, e⟩ | ⟨_, _, hs, _, e⟩
  · rw [e]; exact h
  · rw [e]
    refine ⟨h.wf.wr _ _ _ (padL_length t hs), h.n, h.m, h.cut, fun d' i' => ?_⟩
    show up2 s.bad _ _ false d' i' = false
    unfold up2
    split
    · rfl
    · exact h.bad d' i'
theorem Plain.down {s : RSt} (h : s.Plain) : s.down = false := by unfold RSt.down; rw [h.cut]; rfl
theorem Plain.drive {s : RSt} (h : s.Plain) {d : Nat} (hd : d < 3) : s.drive d = true := by
  unfold RSt.drive; rw [h.n]; exact decide_eq_true ⟨by omega, by omega⟩
theorem Plain.there {s : RSt} (h : s.Plain) {d i : Nat} (hd : d < 3) (hi : i < 8) : s.there d i = true := by
  unfold RSt.there; rw [h.n, h.m]; exact decide_eq_true ⟨by omega, by omega, by omega, by omega⟩
theorem allTo_congr {s s' : RSt} {d : Nat} : ∀ (k : Nat), (∀ i, i < k → s.shown d i = s'.shown d i) → s.allTo d k = s'.allTo d k
  | 0, _ => rfl
  | k + 1, h => by
    unfold allTo
    rw [allTo_congr k (fun i hi => h i (by omega)), h k (by omega)]
theorem allTo_zero {s : RSt} {d : Nat} : ∀ (k : Nat), (∀ i, i < k → s.shown d i = zero64) → s.allTo d k = List.replicate (k * 64) 0
  | 0, _ => rfl
  | k + 1, h => by
    unfold allTo
    rw [allTo_zero k (fun i hi => h i (by omega)), h k (by omega)]
    unfold zero64
    rw [List.replicate_append_replicate]
    congr 1
    omega
theorem allTo_part {s : RSt} (hw : s.Wf) {d : Nat} (hd : d < s.n) (i : Nat) : ∀ k, k ≤ s.m → i < k → ((s.allTo d k).drop (i * 64)).take 64 = s.shown d i
  | k + 1, hk, hi => by
    unfold allTo
    have hl := allTo_length hw d hd k (by omega)
    have hs := hw.shown hd (show k < s.m by omega)
    by_cases e : i = k
    · subst e
      rw [List.drop_append, hl, Nat.sub_self, List.drop_zero, List.drop_of_length_le (by omega), List.nil_append, List.take_of_length_le (by omega)]
    · rw [List.drop_append_of_le_length (by rw [hl]; have : i * 64 ≤ k * 64 := Nat.mul_le_mul_right _ (by omega); omega), List.take_append_of_le_length (by rw [List.length_drop, hl]; have : (i + 1) * 64 ≤ k * 64 := Nat.mul_le_mul_right _ (by omega); omega)]
      exact allTo_part hw hd i k (by omega) (by omega)
theorem Plain.all_size {s : RSt} (h : s.Plain) {d : Nat} (hd : d < 3) : (s.all d).size = 512 := by
  unfold RSt.all
  rw [if_pos (h.drive hd), Int.toNat_natCast]
  have := allTo_length h.wf d (by rw [h.n]; exact hd) s.m (Nat.le_refl _)
  rw [h.m] at this ⊢
  show (s.allTo d 8).toArray.size = 512
  rw [List.size_toArray, this]
theorem Plain.shown {s : RSt} (h : s.Plain) (d i : Nat) : s.shown d i = s.T d i := by unfold RSt.shown; rw [h.bad]; rfl
theorem ext_list (l : List UInt8) (a b : Nat) : (⟨l.toArray⟩ : ByteArray).extract a b = ⟨((l.drop a).take (b - a)).toArray⟩ := by
  apply ByteArray.ext
  simp [ByteArray.data_extract, List.extract_eq_take_drop]
/-- A sector's part of all. -/
theorem Plain.part {s : RSt} (h : s.Plain) {d i : Nat} (hd : d < 3) (hi : i < 8) : (s.all d).extract (i * 64) ((i + 1) * 64) = ⟨(s.T d i).toArray⟩ := by
  unfold RSt.all
  rw [if_pos (h.drive hd), Int.toNat_natCast, ext_list, show (i + 1) * 64 - i * 64 = 64 by omega, allTo_part h.wf (by rw [h.n]; exact hd) i s.m (Nat.le_refl _) (by rw [h.m]; exact hi), h.shown]
/-- Behind Spoil: what is read. -/
theorem Plain.spoilE {s : RSt} (h : s.Plain) {K A : Nat} (hK : K < 3) (hA : A < 8) : s.spoilE K A = 0 ∧ s.spoilS K A = s.spoil K A := by
  have ht := h.there hK hA
  refine ⟨if_pos ht, ?_⟩
  unfold RSt.spoilS
  rw [if_pos ht, Int.toNat_natCast, Int.toNat_natCast]
theorem Plain.spoil_read {s : RSt} (h : s.Plain) (K A : Nat) {d i : Nat} (hd : d < 3) (hi : i < 8) :
    (s.spoil K A).readE d i = (if d = K ∧ i = A then 72 else 0) ∧ (s.spoil K A).readT d i = if d = K ∧ i = A then ByteArray.empty else ⟨(s.T d i).toArray⟩ := by
  have hdn : (s.spoil K A).down = false := h.down
  have hth : (s.spoil K A).there d i = true := h.there hd hi
  have hbad : (s.spoil K A).bad d i = decide (d = K ∧ i = A) := by
    show up2 s.bad K A true d i = _
    unfold up2
    split
    · rename_i e; exact (decide_eq_true e).symm
    · rename_i e; rw [h.bad]; exact (decide_eq_false e).symm
  have he : (s.spoil K A).readE d i = if d = K ∧ i = A then 72 else 0 := by
    unfold RSt.readE
    rw [hdn, hth, Int.toNat_natCast, Int.toNat_natCast, hbad]
    by_cases e : d = K ∧ i = A
    · rw [if_pos e, decide_eq_true e]; rfl
    · rw [if_neg e, decide_eq_false e]; rfl
  refine ⟨he, ?_⟩
  unfold RSt.readT
  rw [he]
  by_cases e : d = K ∧ i = A
  · rw [if_pos e, if_neg (by decide), if_pos e]
  · rw [if_neg e, if_pos rfl, if_neg e, Int.toNat_natCast, Int.toNat_natCast]
    show (⟨(up2 s.T K A (s.T K A) d i).toArray⟩ : ByteArray) = _
    unfold up2
    split
    · rename_i e2; exact absurd e2 e
    · rfl
/-- Behind the write that follows. -/
theorem Plain.write_again {s : RSt} (h : s.Plain) {K A : Nat} (hK : K < 3) (hA : A < 8) (t : ByteArray) (ht : t.size ≤ 64) :
    (s.spoil K A).writeE K A t = 0 ∧ (s.spoil K A).writeS K A t = (s.spoil K A).wr K A (padL t) := by
  have he : (s.spoil K A).writeE K A t = 0 := by
    unfold RSt.writeE
    rw [show (s.spoil K A).there K A = true from h.there hK hA, show (s.spoil K A).down = false from h.down, if_neg (by decide), if_neg (by omega), if_neg (by decide)]
  refine ⟨he, ?_⟩
  unfold RSt.writeS
  rw [if_pos he, Int.toNat_natCast, Int.toNat_natCast]
theorem wr_read (s : RSt) {K A : Nat} (l : List UInt8) (hdn : s.cut = false) (hth : s.there K A = true) : (s.wr K A l).readE K A = 0 ∧ (s.wr K A l).readT K A = ⟨l.toArray⟩ := by
  have he : (s.wr K A l).readE K A = 0 := by
    unfold RSt.readE
    rw [show (s.wr K A l).down = false from by unfold RSt.down; rw [show (s.wr K A l).cut = s.cut from rfl, hdn]; rfl, show (s.wr K A l).there K A = true from hth, Int.toNat_natCast, Int.toNat_natCast,
      show (s.wr K A l).bad K A = false from up2_same _ _ _ _]
    rfl
  refine ⟨he, ?_⟩
  unfold RSt.readT
  rw [if_pos he, Int.toNat_natCast, Int.toNat_natCast, show (s.wr K A l).T K A = l from up2_same _ _ _ _]
/-- And behind the wipe. -/
theorem Plain.wiped_all {s : RSt} (h : s.Plain) {K A : Nat} (hK : K < 3) (l : List UInt8) {d : Nat} (hd : d < 3) :
    (((s.spoil K A).wr K A l).wipe K).all d = if d = K then ⟨(List.replicate 512 0).toArray⟩ else s.all d := by
  have hdr : (((s.spoil K A).wr K A l).wipe K).drive d = true := h.drive hd
  unfold RSt.all
  rw [if_pos hdr, if_pos (h.drive hd), Int.toNat_natCast, show (((s.spoil K A).wr K A l).wipe K).m = 8 from h.m, h.m]
  by_cases e : d = K
  · rw [if_pos e, allTo_zero 8 (fun i hi => ?_)]
    unfold RSt.shown
    show (if (if d = K then false else _) then zero64 else if d = K then zero64 else _) = zero64
    rw [if_pos e, if_pos e]; rfl
  · rw [if_neg e, allTo_congr (s' := s) 8 (fun i hi => ?_)]
    unfold RSt.shown
    show (if (if d = K then false else up2 (up2 s.bad K A true) K A false d i) then zero64 else if d = K then zero64 else up2 (up2 s.T K A (s.T K A)) K A l d i) = if s.bad d i then zero64 else s.T d i
    rw [if_neg e, if_neg e, up2_other _ _ _ _ _ _ (fun c => e c.1), up2_other _ _ _ _ _ _ (fun c => e c.1), up2_other _ _ _ _ _ _ (fun c => e c.1), up2_other _ _ _ _ _ _ (fun c => e c.1)]
end RSt
end Go.Proofs.YtdpkmonlkdegjaaDoor

/- Turned bits that lie within 32 in a row change the sum. Plain. -/
namespace Go.Proofs.YtdpkmonlkdegjaaDoor.Sm
/-- A text as a number, the lowest byte first. -/
def numL : List UInt8 → Nat
  | [] => 0
  | b :: l => b.toNat + 256 * numL l
theorem numL_lt (l : List UInt8) : numL l < 2 ^ (8 * l.length) := by
  induction l with
  | nil => decide
  | cons b l ih =>
    have hb := b.toNat_lt
    rw [numL, List.length_cons, Nat.mul_succ, Nat.pow_add]
    show _ < _ * 256
    omega
theorem low_xor (b y : Nat) (hb : b < 256) : b + 256 * y = b ^^^ (256 * y) := by
  have h := low_high (b + 256 * y)
  rw [show (b + 256 * y) % 256 = b by omega, show (b + 256 * y) / 256 = y by omega] at h
  exact h
theorem steps_add (j k c : Nat) : steps (j + k) c = steps k (steps j c) := by
  induction j generalizing c with
  | zero => rw [Nat.zero_add]; rfl
  | succ j ih => rw [Nat.succ_add]; show steps (j + k) (step c) = _; rw [ih]; rfl
theorem bsteps_pow (n y : Nat) : steps n (2 ^ n * y) = y := by
  induction n with
  | zero => simp [steps]
  | succ n ih =>
    show steps n (step (2 ^ (n + 1) * y)) = y
    rw [Nat.pow_succ, Nat.mul_assoc, Nat.mul_left_comm, step_even, ih]
theorem fold_num (l : List UInt8) (c : Nat) : l.foldl byte c = steps (8 * l.length) (c ^^^ numL l) := by
  induction l generalizing c with
  | nil => simp [numL, steps]
  | cons b l ih =>
    rw [List.foldl_cons, ih, List.length_cons, Nat.mul_succ, Nat.add_comm, steps_add, numL, low_xor _ _ b.toNat_lt, ← Nat.xor_assoc, steps_lin 8, show steps 8 (256 * numL l) = numL l from bsteps_pow 8 _]
    rfl
theorem step_zero (c : Nat) (h : c < 2 ^ 32) (h0 : step c = 0) : c = 0 := by
  unfold step at h0
  split at h0
  · exfalso
    have h1 : c / 2 = poly := by
      have := congrArg (· ^^^ poly) h0
      simpa [Nat.xor_assoc] using this
    unfold poly at h1
    omega
  · omega
theorem steps_zero (k c : Nat) (h : c < 2 ^ 32) (h0 : steps k c = 0) : c = 0 := by
  induction k generalizing c with
  | zero => exact h0
  | succ k ih => exact step_zero c h (ih _ (step_lt c h) h0)
/-- Two texts of one length, whose bits differ within 32 in a row alone, have one sum only if they are the same. -/
theorem crc_burst (l l' : List UInt8) (hl : l.length = l'.length) (n x : Nat) (hn : n ≤ 8 * l.length) (hx : x < 2 ^ 32) (h : numL l ^^^ numL l' = 2 ^ n * x) (hc : crc l = crc l') : x = 0 := by
  have h1 : reg l = reg l' := by
    unfold crc at hc
    have := congrArg (4294967295 ^^^ ·) hc
    simpa [← Nat.xor_assoc] using this
  unfold reg at h1
  rw [fold_num, fold_num, ← hl] at h1
  have h2 : steps (8 * l.length) (numL l ^^^ numL l') = 0 := by
    have e : numL l ^^^ numL l' = (4294967295 ^^^ numL l) ^^^ (4294967295 ^^^ numL l') := by
      rw [Nat.xor_comm 4294967295 (numL l), Nat.xor_assoc, ← Nat.xor_assoc 4294967295, Nat.xor_self, Nat.zero_xor]
    rw [e, steps_lin, h1, Nat.xor_self]
  rw [h, show 8 * l.length = n + (8 * l.length - n) by omega, steps_add, bsteps_pow] at h2
  exact steps_zero _ _ hx h2
theorem numL_testBit (l : List UInt8) (j r : Nat) (hr : r < 8) : (numL l).testBit (8 * j + r) = ((l[j]?).getD 0).toNat.testBit r := by
  induction l generalizing j with
  | nil => simp [numL]
  | cons b l ih =>
    have hb := b.toNat_lt
    rw [numL, low_xor _ _ hb, Nat.testBit_xor]
    have e : 256 * numL l = 2 ^ 8 * numL l := rfl
    rw [e, Nat.testBit_two_pow_mul]
    cases j with
    | zero =>
      simp only [Nat.mul_zero, Nat.zero_add]
      rw [show decide (r ≥ 8) = false from decide_eq_false (by omega)]
      simp
    | succ j =>
      have : 8 * (j + 1) + r = 8 + (8 * j + r) := by omega
      rw [this, Nat.testBit_lt_two_pow (x := b.toNat) (Nat.lt_of_lt_of_le hb (Nat.pow_le_pow_right (by omega) (by omega : 8 ≤ 8 + (8 * j + r))))]
      rw [show 8 + (8 * j + r) - 8 = 8 * j + r by omega, ih j]
      simp
/-- One bit is turned. -/
theorem numL_set (l : List UInt8) (j r : Nat) (hj : j < l.length) (hr : r < 8) (v : UInt8) (hv : v.toNat = l[j].toNat ^^^ 2 ^ r) : numL (l.set j v) = numL l ^^^ 2 ^ (8 * j + r) := by
  apply Nat.eq_of_testBit_eq
  intro i
  obtain ⟨q, s, hs, rfl⟩ : ∃ q s, s < 8 ∧ i = 8 * q + s := ⟨i / 8, i % 8, by omega, by omega⟩
  rw [Nat.testBit_xor, numL_testBit _ _ _ hs, numL_testBit _ _ _ hs, Nat.testBit_two_pow]
  rw [List.getElem?_set]
  by_cases e : j = q
  · subst e
    rw [if_pos rfl, if_pos hj, List.getElem?_eq_getElem hj]
    simp only [Option.getD_some]
    rw [hv, Nat.testBit_xor, Nat.testBit_two_pow]
    congr 1
    rw [Bool.eq_iff_iff]; simp
  · rw [if_neg e, show decide (8 * j + r = 8 * q + s) = false from decide_eq_false (by omega)]
    simp
theorem numL_inj : ∀ (l l' : List UInt8), l.length = l'.length → numL l = numL l' → l = l'
  | [], [], _, _ => rfl
  | a :: l, b :: l', hl, h => by
    have ha := a.toNat_lt
    have hb := b.toNat_lt
    simp only [numL] at h
    have h1 : a.toNat = b.toNat := by omega
    have h2 : numL l = numL l' := by omega
    rw [numL_inj l l' (by simpa using hl) h2, UInt8.toNat_inj.1 h1]
end Go.Proofs.YtdpkmonlkdegjaaDoor.Sm

