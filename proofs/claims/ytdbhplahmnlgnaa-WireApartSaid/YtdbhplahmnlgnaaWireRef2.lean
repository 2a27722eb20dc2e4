/- What the document's own reader answers: Rest, End, Bool, Count, Text. -/
import Derived.Test.YtdbhplahmnlgnaaWireRef
namespace Go.Proofs.Ytdbhplahmnlgnaa
open Go.RowKit Nm Wr
set_option linter.unusedVariables false
theorem int_ne (n : Nat) (h : n ≠ 0) : ((n : Int) == 0) = false := beq_eq_false_iff_ne.2 (by omega)
theorem data_len (t : ByteArray) : t.data.toList.length = t.size := by simp
theorem one_beq (n : Nat) : ((n : Int) == 1) = (n == 1) := by rw [Bool.eq_iff_iff]; simp; omega
set_option maxRecDepth 100000 in
theorem refrest_any (b : Nat) (s : St) (w : World) (hR : RdAt w b s) :
    Calls Try.prog 25 #[.pointer (some ⟨b, 0, none⟩)] w fun e w' => e = .returned (.string ⟨(qRest s).1.toArray⟩) ∧ RdAt w' b (qRest s).2 ∧ But b w w' := by
  obtain ⟨t, ht, hl, hz⟩ := hR.text
  have he := hR.err
  have hf0 := hR.soft0
  have HR := Lib.hid hR
  obtain ⟨l, e⟩ := s
  dsimp only at he hl
  by_cases hs : e = 0
  · subst hs
    have HL : Hid (t = ⟨l.toArray⟩) := by rw [← hl]; show t = _; apply ByteArray.ext; simp
    have HQ : Hid (qRest ⟨l, 0⟩ = (l, ⟨[], 0⟩)) := by unfold qRest; rw [if_neg (by simp)]; trivial
    clear hR hl hz
    go_enter Try.func25, Try.ntmps25
    go_wp2_with fail
    go_ret
    exact ⟨by rw [HQ.out, ← HL.out]; rfl, by rw [HQ.out]; exact HR.out.setText ⟨#[]⟩ [] rfl (by show 0 ≤ _; omega), (But.refl _ _).setCell _ _⟩
  · have hne := int_ne _ hs
    have HQ : Hid (qRest ⟨l, e⟩ = ([], ⟨l, e⟩)) := by unfold qRest; rw [if_pos hs]; trivial
    clear hR hl hz
    go_enter Try.func25, Try.ntmps25
    go_wp2_with fail
    go_ret
    exact ⟨by rw [HQ.out]; rfl, by rw [HQ.out]; exact HR.out, But.refl _ _⟩
set_option maxRecDepth 100000 in
theorem refend_any (b : Nat) (s : St) (w : World) (hR : RdAt w b s) :
    Calls Try.prog 27 #[.pointer (some ⟨b, 0, none⟩)] w fun e w' => e = .returned (.int .i64 ((qEnd s).1 : Nat)) ∧ RdAt w' b (qEnd s).2 ∧ But b w w' := by
  obtain ⟨t, ht, hl, hz⟩ := hR.text
  have he := hR.err
  have hf1 := hR.soft1
  have HR := Lib.hid hR
  obtain ⟨l, e⟩ := s
  dsimp only at he hl
  by_cases hs : e = 0
  · subst hs
    rcases Nat.eq_zero_or_pos t.size with h0 | h0
    · obtain rfl : t = ⟨#[]⟩ := by apply ByteArray.ext; exact Array.eq_empty_of_size_eq_zero h0
      have hl' : l = [] := hl.symm
      subst hl'
      have HQ : Hid (qEnd ⟨[], 0⟩ = (0, ⟨[], 0⟩)) := rfl
      clear hR hl hz h0
      go_enter Try.func27, Try.ntmps27
      go_wp2_with fail
      go_ret
      exact ⟨by rw [HQ.out]; rfl, by rw [HQ.out]; exact HR.out, But.refl _ _⟩
    · have hemp := not_empty t h0
      have HQ : Hid (qEnd ⟨l, 0⟩ = (8, ⟨l, 8⟩)) := by
        unfold qEnd
        rw [if_neg (by simp), if_neg (by
          dsimp only
          intro h
          rw [h] at hl
          have : t.data.toList.length = 0 := by rw [hl]; rfl
          rw [data_len] at this
          omega)]
        trivial
      clear hR hl hz
      go_enter Try.func27, Try.ntmps27
      go_wp2_with fail
      go_ret
      exact ⟨by rw [HQ.out]; rfl, by rw [HQ.out]; exact HR.out.setErr 8, (But.refl _ _).setCell _ _⟩
  · have hne := int_ne _ hs
    have HQ : Hid (qEnd ⟨l, e⟩ = (e, ⟨l, e⟩)) := by unfold qEnd; rw [if_pos hs]; trivial
    clear hR hl hz
    go_enter Try.func27, Try.ntmps27
    go_wp2_with fail
    go_ret
    exact ⟨by rw [HQ.out]; rfl, by rw [HQ.out]; exact HR.out, But.refl _ _⟩
set_option maxRecDepth 100000 in
theorem refbool_any (b : Nat) (s : St) (w : World) (hR : RdAt w b s) :
    Calls Try.prog 21 #[.pointer (some ⟨b, 0, none⟩)] w fun e w' => e = .returned (.bool (qBool s).1) ∧ RdAt w' b (qBool s).2 ∧ But b w w' := by
  obtain ⟨t, ht, hl, hz⟩ := hR.text
  have he := hR.err
  have hf0 := hR.soft0
  have hf1 := hR.soft1
  have HR := Lib.hid hR
  obtain ⟨l, e⟩ := s
  dsimp only at he hl
  by_cases hs : e = 0
  · subst hs
    rcases Nat.eq_zero_or_pos t.size with h0 | h0
    · obtain rfl : t = ⟨#[]⟩ := by apply ByteArray.ext; exact Array.eq_empty_of_size_eq_zero h0
      have hl' : l = [] := hl.symm
      subst hl'
      have HQ : Hid (qBool ⟨[], 0⟩ = (false, ⟨[], 10⟩)) := rfl
      clear hR hl hz h0
      go_enter Try.func21, Try.ntmps21
      go_wp2_with fail
      go_ret
      exact ⟨by rw [HQ.out]; rfl, by rw [HQ.out]; exact HR.out.setErr 10, (But.refl _ _).setCell _ _⟩
    · have hemp := not_empty t h0
      obtain ⟨c, m, rfl⟩ : ∃ c m, l = c :: m := by
        cases l with
        | nil => have : t.data.toList.length = 0 := by rw [hl]; rfl
                 rw [data_len] at this
                 omega
        | cons c m => exact ⟨c, m, rfl⟩
      have h0c : t[0] = c := by rw [← at_str t 0 h0, hl]; rfl
      have hc2 := c.toNat_lt
      have HL : Hid (t.data.toList = c :: m) := hl
      have HZ := Lib.hid hz
      clear hR hl hz
      by_cases h1 : 1 < c.toNat
      · have HQ : Hid (qBool ⟨c :: m, 0⟩ = (false, ⟨c :: m, 8⟩)) := by unfold qBool; rw [if_neg (by simp)]; dsimp only; rw [if_pos h1]; trivial
        go_enter Try.func21, Try.ntmps21
        go_wp2_with fail
        go_ret
        exact ⟨by rw [HQ.out]; rfl, by rw [HQ.out]; exact HR.out.setErr 8, (But.refl _ _).setCell _ _⟩
      · have HQ : Hid (qBool ⟨c :: m, 0⟩ = (c.toNat == 1, ⟨m, 0⟩)) := by unfold qBool; rw [if_neg (by simp)]; dsimp only; rw [if_neg h1]; trivial
        go_enter Try.func21, Try.ntmps21
        go_wp2_with fail
        go_ret
        exact ⟨by rw [HQ.out]; show Ending.returned (.bool (((c.toNat : Nat) : Int) == 1)) = _; rw [one_beq], by rw [HQ.out]; exact HR.out.setText _ _ (by rw [ext_drop, HL.out]; rfl) (by rw [ByteArray.size_extract]; have := HZ.out; omega), (But.refl _ _).setCell _ _⟩
  · have hne := int_ne _ hs
    have HQ : Hid (qBool ⟨l, e⟩ = (false, ⟨l, e⟩)) := by unfold qBool; rw [if_pos hs]; trivial
    clear hR hl hz
    go_enter Try.func21, Try.ntmps21
    go_wp2_with fail
    go_ret
    exact ⟨by rw [HQ.out]; rfl, by rw [HQ.out]; exact HR.out, But.refl _ _⟩
end Go.Proofs.Ytdbhplahmnlgnaa
