/- Heavy, RackMath. -/
import Derived.Test.YtoekaabngjjefaaGreatSteps
import Derived.Test.YtoekaabngjjefaaGreatPart22
/- A slice of steps lies there; whether there are too many, or a text is too long. -/
namespace Go.Proofs.YtoekaabngjjefaaGreat
open Go.RowKit
set_option linter.unusedVariables false
/-- The steps lie there, behind a pointer of the slice. -/
def Stps (w : World) (a : Option Addr) (zs : List Stp) : Prop :=
  zs = [] ∨ ∃ b o, a = some ⟨b, o, none⟩ ∧ ∀ (i : Nat) (h : i < zs.length), StpAt w b o i zs[i]
theorem IsSteps.stps {w : World} {a : Option Addr} {len cap : Nat} {zs : List Stp} (h : IsSteps w a len cap zs) : Stps w a zs ∧ zs.length = len ∧ len ≤ maxLen := by
  rcases h with ⟨rfl, rfl, rfl, rfl⟩ | ⟨p, rfl, hl, hm, hz, hq⟩
  · exact ⟨.inl rfl, rfl, by decide⟩
  · refine ⟨?_, hz, by omega⟩
    rcases Nat.eq_zero_or_pos zs.length with h0 | h0
    · exact .inl (List.length_eq_zero_iff.1 h0)
    · obtain ⟨b, o, spot⟩ := p
      have := (hq 0 h0).1
      dsimp only at this
      subst this
      exact .inr ⟨b, o, rfl, fun i hi => (hq i hi).2⟩
theorem StpAt.kept {w w' : World} {b o i : Nat} {z : Stp} (h : StpAt w b o i z) (k : Kept w w') : StpAt w' b o i z := by
  obtain ⟨h0, h1, h2, h3, h4⟩ := h
  exact ⟨cell_kept h0 k, cell_kept h1 k, cell_kept h2 k, cell_kept h3 k, h4⟩
theorem Stps.kept {w w' : World} {a : Option Addr} {zs : List Stp} (h : Stps w a zs) (k : Kept w w') : Stps w' a zs := by
  rcases h with h | ⟨b, o, rfl, h⟩
  · exact .inl h
  · exact .inr ⟨b, o, rfl, fun i hi => (h i hi).kept k⟩
/-- Too many steps, or a text that is too long. -/
def heavyB (zs : List Stp) : Bool := decide (300 < zs.length) || zs.any fun z => decide (1024 < z.t.size)
theorem heavy_not {zs : List Stp} (h : heavyB zs = false) : zs.length ≤ 300 ∧ ∀ (i : Nat) (hi : i < zs.length), zs[i].t.size ≤ 1024 := by
  unfold heavyB at h
  rw [Bool.or_eq_false_iff] at h
  refine ⟨by have := of_decide_eq_false h.1; omega, fun i hi => ?_⟩
  have h2 := List.any_eq_false.1 h.2 zs[i] (List.getElem_mem hi)
  have := of_decide_eq_false (by simpa using h2 : decide (1024 < zs[i].t.size) = false)
  omega
end Go.Proofs.YtoekaabngjjefaaGreat

/- What is known of the document's rack, without the program. -/
namespace Go.Proofs.YtoekaabngjjefaaGreat
open Go.RowKit
set_option linter.unusedVariables false
namespace RSt
theorem up2_same {α : Type} (f : Nat → Nat → α) (d i : Nat) (v : α) : up2 f d i v d i = v := if_pos ⟨rfl, rfl⟩
theorem up2_other {α : Type} (f : Nat → Nat → α) (d i : Nat) (v : α) (d' i' : Nat) (h : ¬ (d' = d ∧ i' = i)) : up2 f d i v d' i' = f d' i' := if_neg h
/-- A rack of three drives of eight sectors, none of them spoilt, without a cut. -/
structure Plain (s : RSt) : Prop where
  wf : s.Wf
  n : s.n = 3
  m : s.m = 8
  cut : s.cut = false
  bad : ∀ d i, s.bad d i = false
theorem plain0 : Plain (rack0 3 8) :=
  ⟨⟨by decide, by decide, by decide, by decide, fun _ _ _ _ => zero64_length, fun _ => by show 0 < _; decide, by show 0 ≤ _; decide⟩, rfl, rfl, rfl, fun _ _ => rfl⟩
theorem writeS_cases (s : RSt) (d i : Int) (t : ByteArray) : (s.writeE d i t ≠ 0 ∧ s.writeS d i t = s) ∨ (s.writeE d i t = 0 ∧ s.there d i = true ∧ t.size ≤ 64 ∧ s.down = false ∧ s.writeS d i t = s.wr d.toNat i.toNat (padL t)) := by
  by_cases he : s.writeE d i t = 0
  · refine .inr ⟨he, ?_, ?_, ?_, if_pos he⟩
    · unfold writeE at he
      cases h : s.there d i
      · rw [if_pos h] at he; cases he
      · rfl
    · unfold writeE at he
      split at he
      · cases he
      · split at he
        · cases he
        · omega
    · unfold writeE at he
      split at he
      · cases he
      · split at he
        · cases he
        · split at he
          · cases he
          · rename_i h; simpa using h
  · exact .inl ⟨he, if_neg he⟩
theorem Plain.write {s : RSt} (h : s.Plain) (d i : Int) (t : ByteArray) : (s.writeS d i t).Plain := by
  rcases s.writeS_cases d i t with ⟨_, e⟩ | ⟨_, _, hs, _, e⟩
  · rw [e]; exact h
  · rw [e]
    refine ⟨h.wf.wr _ _ _ (padL_length t hs), h.n, h.m, h.cut, fun d' i' => ?_⟩
    show up2 s.bad _ _ false d' i' = false
    unfold up2
    split
    · rfl
    · exact h.bad d' i'
theorem Plain.down {s : RSt} (h : s.Plain) : s.down = false := by unfold RSt.down; rw [h.cut]; rfl
theorem Plain.drive {s : RSt} (h : s.Plain) {d : Nat} (hd : d < 3) : s.drive d = true := by
  unfold RSt.drive; rw [h.n]; exact decide_eq_true ⟨by omega, by omega⟩
theorem Plain.there {s : RSt} (h : s.Plain) {d i : Nat} (hd : d < 3) (hi : i < 8) : s.there d i = true := by
  unfold RSt.there; rw [h.n, h.m]; exact decide_eq_true ⟨by omega, by omega, by omega, by omega⟩
theorem allTo_congr {s s' : RSt} {d : Nat} : ∀ (k : Nat), (∀ i, i < k → s.shown d i = s'.shown d i) → s.allTo d k = s'.allTo d k
  | 0, _ => rfl
  | k + 1, h => by
    unfold allTo
    rw [allTo_congr k (fun i hi => h i (by omega)), h k (by omega)]
theorem allTo_zero {s : RSt} {d : Nat} : ∀ (k : Nat), (∀ i, i < k → s.shown d i = zero64) → s.allTo d k = List.replicate (k * 64) 0
  | 0, _ => rfl
  | k + 1, h => by
    unfold allTo
    rw [allTo_zero k (fun i hi => h i (by omega)), h k (by omega)]
    unfold zero64
    rw [List.replicate_append_replicate]
    congr 1
    omega
theorem allTo_part {s : RSt} (hw : s.Wf) {d : Nat} (hd : d < s.n) (i : Nat) : ∀ k, k ≤ s.m → i < k → ((s.allTo d k).drop (i * 64)).take 64 = s.shown d i
  | k + 1, hk, hi => by
    unfold allTo
    have hl := allTo_length hw d hd k (by omega)
    have hs := hw.shown hd (show k < s.m by omega)
    by_cases e : i = k
    · subst e
      rw [List.drop_append, hl, Nat.sub_self, List.drop_zero, List.drop_of_length_le (by omega), List.nil_append, List.take_of_length_le (by omega)]
    · rw [List.drop_append_of_le_length (by rw [hl]; have : i * 64 ≤ k * 64 := Nat.mul_le_mul_right _ (by omega); omega), List.take_append_of_le_length (by rw [List.length_drop, hl]; have : (i + 1) * 64 ≤ k * 64 := Nat.mul_le_mul_right _ (by omega); omega)]
      exact allTo_part hw hd i k (by omega) (by omega)
theorem Plain.all_size {s : RSt} (h : s.Plain) {d : Nat} (hd : d < 3) : (s.all d).size = 512 := by
  unfold RSt.all
  rw [if_pos (h.drive hd), Int.toNat_natCast]
  have := allTo_length h.wf d (by rw [h.n]; exact hd) s.m (Nat.le_refl _)
  rw [h.m] at this ⊢
  show (s.allTo d 8).toArray.size = 512
  rw [List.size_toArray, this]
theorem Plain.shown {s : RSt} (h : s.Plain) (d i : Nat) : s.shown d i = s.T d i := by unfold RSt.shown; rw [h.bad]; rfl
theorem ext_list (l : List UInt8) (a b : Nat) : (⟨l.toArray⟩ : ByteArray).extract a b = ⟨((l.drop a).take (b - a)).toArray⟩ := by
  apply ByteArray.ext
  simp [ByteArray.data_extract, List.extract_eq_take_drop]
/-- A sector's part of all. -/
theorem Plain.part {s : RSt} (h : s.Plain) {d i : Nat} (hd : d < 3) (hi : i < 8) : (s.all d).extract (i * 64) ((i + 1) * 64) = ⟨(s.T d i).toArray⟩ := by
  unfold RSt.all
  rw [if_pos (h.drive hd), Int.toNat_natCast, ext_list, show (i + 1) * 64 - i * 64 = 64 by omega, allTo_part h.wf (by rw [h.n]; exact hd) i s.m (Nat.le_refl _) (by rw [h.m]; exact hi), h.shown]
/-- Behind Spoil: what is read. -/
theorem Plain.spoilE {s : RSt} (h : s.Plain) {K A : Nat} (hK : K < 3) (hA : A < 8) : s.spoilE K A = 0 ∧ s.spoilS K A = s.spoil K A := by
  have ht := h.there hK hA
  refine ⟨if_pos ht, ?_⟩
  unfold RSt.spoilS
  rw [if_pos ht, Int.toNat_natCast, Int.toNat_natCast]
theorem Plain.spoil_read {s : RSt} (h : s.Plain) (K A : Nat) {d i : Nat} (hd : d < 3) (hi : i < 8) :
    (s.spoil K A).readE d i = (if d = K ∧ i = A then 72 else 0) ∧ (s.spoil K A).readT d i = if d = K ∧ i = A then ByteArray.empty else ⟨(s.T d i).toArray⟩ := by
  have hdn : (s.spoil K A).down = false := h.down
  have hth : (s.spoil K A).there d i = true := h.there hd hi
  have hbad : (s.spoil K A).bad d i = decide (d = K ∧ i = A) := by
    show up2 s.bad K A true d i = _
    unfold up2
    split
    · rename_i e; exact (decide_eq_true e).symm
    · rename_i e; rw [h.bad]; exact (decide_eq_false e).symm
  have he : (s.spoil K A).readE d i = if d = K ∧ i = A then 72 else 0 := by
    unfold RSt.readE
    rw [hdn, hth, Int.toNat_natCast, Int.toNat_natCast, hbad]
    by_cases e : d = K ∧ i = A
    · rw [if_pos e, decide_eq_true e]; rfl
    · rw [if_neg e, decide_eq_false e]; rfl
  refine ⟨he, ?_⟩
  unfold RSt.readT
  rw [he]
  by_cases e : d = K ∧ i = A
  · rw [if_pos e, if_neg (by decide), if_pos e]
  · rw [if_neg e, if_pos rfl, if_neg e, Int.toNat_natCast, Int.toNat_natCast]
    show (⟨(up2 s.T K A (s.T K A) d i).toArray⟩ : ByteArray) = _
    unfold up2
    split
    · rename_i e2; exact absurd e2 e
    · rfl
/-- Behind the write that follows. -/
theorem Plain.write_again {s : RSt} (h : s.Plain) {K A : Nat} (hK : K < 3) (hA : A < 8) (t : ByteArray) (ht : t.size ≤ 64) :
    (s.spoil K A).writeE K A t = 0 ∧ (s.spoil K A).writeS K A t = (s.spoil K A).wr K A (padL t) := by
  have he : (s.spoil K A).writeE K A t = 0 := by
    unfold RSt.writeE
    rw [show (s.spoil K A).there K A = true from h.there hK hA, show (s.spoil K A).down = false from h.down, if_neg (by decide), if_neg (by omega), if_neg (by decide)]
  refine ⟨he, ?_⟩
  unfold RSt.writeS
  rw [if_pos he, Int.toNat_natCast, Int.toNat_natCast]
theorem wr_read (s : RSt) {K A : Nat} (l : List UInt8) (hdn : s.cut = false) (hth : s.there K A = true) : (s.wr K A l).readE K A = 0 ∧ (s.wr K A l).readT K A = ⟨l.toArray⟩ := by
  have he : (s.wr K A l).readE K A = 0 := by
    unfold RSt.readE
    rw [show (s.wr K A l).down = false from by unfold RSt.down; rw [show (s.wr K A l).cut = s.cut from rfl, hdn]; rfl, show (s.wr K A l).there K A = true from hth, Int.toNat_natCast, Int.toNat_natCast,
      show (s.wr K A l).bad K A = false from up2_same _ _ _ _]
    rfl
  refine ⟨he, ?_⟩
  unfold RSt.readT
  rw [if_pos he, Int.toNat_natCast, Int.toNat_natCast, show (s.wr K A l).T K A = l from up2_same _ _ _ _]
/-- And behind the wipe. -/
theorem Plain.wiped_all {s : RSt} (h : s.Plain) {K A : Nat} (hK : K < 3) (l : List UInt8) {d : Nat} (hd : d < 3) :
    (((s.spoil K A).wr K A l).wipe K).all d = if d = K then ⟨(List.replicate 512 0).toArray⟩ else s.all d := by
  have hdr : (((s.spoil K A).wr K A l).wipe K).drive d = true := h.drive hd
  unfold RSt.all
  rw [if_pos hdr, if_pos (h.drive hd), Int.toNat_natCast, show (((s.spoil K A).wr K A l).wipe K).m = 8 from h.m, h.m]
  by_cases e : d = K
  · rw [if_pos e, allTo_zero 8 (fun i hi => ?_)]
    unfold RSt.shown
    show (if (if d = K then false else _) then zero64 else if d = K then zero64 else _) = zero64
    rw [if_pos e, if_pos e]; rfl
  · rw [if_neg e, allTo_congr (s' := s) 8 (fun i hi => ?_)]
    unfold RSt.shown
    show (if (if d = K then false else up2 (up2 s.bad K A true) K A false d i) then zero64 else if d = K then zero64 else up2 (up2 s.T K A (s.T K A)) K A l d i) = if s.bad d i then zero64 else s.T d i
    rw [if_neg e, if_neg e, up2_other _ _ _ _ _ _ (fun c => e c.1), up2_other _ _ _ _ _ _ (fun c => e c.1), up2_other _ _ _ _ _ _ (fun c => e c.1), up2_other _ _ _ _ _ _ (fun c => e c.1)]
end RSt
end Go.Proofs.YtoekaabngjjefaaGreat

