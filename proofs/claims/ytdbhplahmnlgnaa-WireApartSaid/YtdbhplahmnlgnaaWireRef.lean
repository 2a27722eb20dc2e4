/- What the document's own reader answers. -/
import Derived.Test.YtdbhplahmnlgnaaWireMath
import Derived.Test.YtdbhplahmnlgnaaBut
import Derived.Test.YtdbhplahmnlgnaaRefRead
namespace Go.Proofs.Ytdbhplahmnlgnaa
open Go.RowKit Nm Wr
set_option linter.unusedVariables false
/-- The document's reader stands in block b. -/
structure RdAt (w : World) (b : Nat) (s : St) : Prop where
  text : ∃ t : ByteArray, w.cell? ⟨b, 0, none⟩ = some (.string t) ∧ t.data.toList = s.l ∧ t.size ≤ maxLen
  err : w.cell? ⟨b, 1, none⟩ = some (.int .i64 (s.e : Nat))
  soft0 : w.frozen? ⟨b, 0, none⟩ = false
  soft1 : w.frozen? ⟨b, 1, none⟩ = false
theorem RdAt.lt {w : World} {b : Nat} {s : St} (h : RdAt w b s) : b < w.heap.size := block_lt_of_cell h.err
theorem RdAt.kept {w w' : World} {b : Nat} {s : St} (h : RdAt w b s) (k : Kept w w') : RdAt w' b s := by
  obtain ⟨t, h1, h2, h3⟩ := h.text
  exact ⟨⟨t, by rw [Below.cell k (p := ⟨b, 0, none⟩) h.lt]; exact h1, h2, h3⟩, by rw [Below.cell k (p := ⟨b, 1, none⟩) h.lt]; exact h.err, by rw [Below.frozen k (p := ⟨b, 0, none⟩) h.lt]; exact h.soft0, by rw [Below.frozen k (p := ⟨b, 1, none⟩) h.lt]; exact h.soft1⟩
theorem RdAt.but {w w' : World} {b c : Nat} {s : St} (h : RdAt w b s) (k : But c w w') (hc : b ≠ c) : RdAt w' b s := by
  obtain ⟨t, h1, h2, h3⟩ := h.text
  exact ⟨⟨t, by rw [k.cell (p := ⟨b, 0, none⟩) h.lt hc]; exact h1, h2, h3⟩, by rw [k.cell (p := ⟨b, 1, none⟩) h.lt hc]; exact h.err, by rw [k.frozen (p := ⟨b, 0, none⟩) h.lt hc]; exact h.soft0, by rw [k.frozen (p := ⟨b, 1, none⟩) h.lt hc]; exact h.soft1⟩
theorem RdAt.setErr {w : World} {b : Nat} {s : St} (h : RdAt w b s) (e : Nat) : RdAt (w.setCell ⟨b, 1, none⟩ (.int .i64 (e : Nat))) b ⟨s.l, e⟩ := by
  obtain ⟨t, h1, h2, h3⟩ := h.text
  exact ⟨⟨t, by rw [World.cell?_setCell_other _ _ _ _ (by simp)]; exact h1, h2, h3⟩, World.cell?_setCell_same _ _ _ h.err, by rw [World.frozen?_setCell]; exact h.soft0, by rw [World.frozen?_setCell]; exact h.soft1⟩
theorem RdAt.setText {w : World} {b : Nat} {s : St} (h : RdAt w b s) (t : ByteArray) (l : List UInt8) (hl : t.data.toList = l) (ht : t.size ≤ maxLen) : RdAt (w.setCell ⟨b, 0, none⟩ (.string t)) b ⟨l, s.e⟩ := by
  obtain ⟨t0, h1, h2, h3⟩ := h.text
  exact ⟨⟨t, World.cell?_setCell_same _ _ _ h1, hl, ht⟩, by rw [World.cell?_setCell_other _ _ _ _ (by simp)]; exact h.err, by rw [World.frozen?_setCell]; exact h.soft0, by rw [World.frozen?_setCell]; exact h.soft1⟩

theorem qnum_fault (m : Nat) (s : St) (h : s.e ≠ 0) : qNum m s = (0, s) := by unfold qNum; rw [if_pos h]
theorem qnum_bad (m : Nat) (l : List UInt8) (h : cd l ≠ 0) : qNum m ⟨l, 0⟩ = (0, ⟨l, cd l⟩) := by unfold qNum; rw [if_neg (by simp), if_pos h]
theorem qnum_over (m : Nat) (l : List UInt8) (h : cd l = 0) (hm : m < rx l) : qNum m ⟨l, 0⟩ = (0, ⟨l, 9⟩) := by unfold qNum; rw [if_neg (by simp), if_neg (by simpa using h), if_pos hm]
theorem qnum_ok (m : Nat) (l : List UInt8) (h : cd l = 0) (hm : rx l ≤ m) : qNum m ⟨l, 0⟩ = (rx l, ⟨l.drop (rn l), 0⟩) := by unfold qNum; rw [if_neg (by simp), if_neg (by simpa using h), if_neg (by simpa using hm)]
theorem ext_drop (t : ByteArray) (n : Nat) : (t.extract n t.size).data.toList = t.data.toList.drop n := by
  simp
  apply List.take_of_length_le
  simp
theorem rn_le (l : List UInt8) : rn l ≤ l.length := by
  unfold rn
  split
  · rename_i h; have := cd_len l h; omega
  · omega
set_option maxRecDepth 100000 in
theorem refnum_any (b : Nat) (s : St) (m : Int) (w : World) (hR : RdAt w b s) (h0 : 0 ≤ m) (h1 : m ≤ 18446744073709551615) :
    Calls Try.prog 17 #[.pointer (some ⟨b, 0, none⟩), .int .u64 m] w fun e w' => e = .returned (.int .u64 ((qNum m.toNat s).1 : Nat)) ∧ RdAt w' b (qNum m.toNat s).2 ∧ But b w w' := by
  obtain ⟨t, ht, hl, hz⟩ := hR.text
  have he := hR.err
  have HR := Lib.hid hR
  by_cases hs : s.e = 0
  · obtain ⟨l, e⟩ := s
    obtain rfl : e = 0 := hs
    clear hR
    have HZ := Lib.hid hz
    have HL : Hid (t.data.toList = l) := hl
    clear hl hz
    go_enter Try.func17, Try.ntmps17
    go_wp2_with fail
    refine (refread_any t _ HZ.out).mono ?_
    rintro e w1 ⟨ho, hk⟩
    have HR1 : Hid (RdAt w1 b ⟨l, 0⟩) := RdAt.kept HR.out hk
    have HK := Lib.hid hk
    rw [HL.out] at ho
    unfold ReadOut at ho
    subst ho
    have he1 : w1.cell? ⟨b, 1, none⟩ = some (.int .i64 0) := HR1.out.err
    have hf0 := HR1.out.soft0
    have hf1 := HR1.out.soft1
    have ht1 : w1.cell? ⟨b, 0, none⟩ = some (.string t) := by rw [Below.cell hk (p := ⟨b, 0, none⟩) HR.out.lt]; exact ht
    have hn : rn l ≤ t.size := by have := rn_le l; have h2 : t.size = l.length := by rw [← HL.out]; simp
                                  omega
    clear he ht hk
    generalize hx : rx l = x at *
    generalize hn2 : rn l = n at *
    by_cases hc : cd l = 0
    · rw [hc]
      by_cases hm : m < (x : Int)
      · have HQ := Lib.hid (qnum_over m.toNat l hc (by omega))
        clear hc
        go_wp2_with fail
        go_ret
        exact ⟨by rw [HQ.out]; rfl, by rw [HQ.out]; exact HR1.out.setErr 9, (HK.out.but b).setCell _ _⟩
      · have HQ := Lib.hid (qnum_ok m.toNat l hc (by omega))
        clear hc
        go_wp2_with fail
        go_ret
        exact ⟨by rw [HQ.out, hx]; rfl, by rw [HQ.out, hn2]; exact HR1.out.setText _ _ (by rw [ext_drop, HL.out]) (by rw [ByteArray.size_extract]; have := HZ.out; omega), (HK.out.but b).setCell _ _⟩
    · have HQ := Lib.hid (qnum_bad m.toNat l hc)
      have hne : (((cd l : Nat) : Int) == 0) = false := beq_eq_false_iff_ne.2 (by omega)
      generalize hcl : cd l = c at *
      clear hcl
      go_wp2_with fail
      go_ret
      exact ⟨by rw [HQ.out]; rfl, by rw [HQ.out]; exact HR1.out.setErr c, (HK.out.but b).setCell _ _⟩
  · have hne : (((s.e : Nat) : Int) == 0) = false := beq_eq_false_iff_ne.2 (by omega)
    have HQ := Lib.hid (qnum_fault m.toNat s hs)
    clear hR
    go_enter Try.func17, Try.ntmps17
    go_wp2_with fail
    go_ret
    exact ⟨by rw [HQ.out]; rfl, by rw [HQ.out]; exact HR.out, But.refl _ _⟩
end Go.Proofs.Ytdbhplahmnlgnaa
