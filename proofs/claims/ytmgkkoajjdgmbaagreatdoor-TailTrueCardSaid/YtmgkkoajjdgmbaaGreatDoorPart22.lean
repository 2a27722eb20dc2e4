/- A strings.Builder of the call's own that is read again and again: its bytes may be frozen. -/
import Derived.Test.YtmgkkoajjdgmbaaGreatDoorPart12
import Derived.Test.YtmgkkoajjdgmbaaGreatDoorPart2
import Derived.BigQuiet
set_option linter.unusedVariables false
set_option linter.unusedSimpArgs false
set_option linter.unusedSectionVars false
set_option linter.unnecessarySimpa false
set_option linter.deprecated false
namespace Go.Proofs.YtmgkkoajjdgmbaaGreatDoor
open Go.Shelf Go.RowKit
set_option linter.unusedVariables false
/-- A builder in block b, it and its bytes in blocks from N on, that holds l; frozen or not. -/
def BlR (N b : Nat) (l : List UInt8) (w : World) : Prop :=
  N ≤ b ∧ ∃ p v, w.heap[b]? = some (.cells #[p, v] 151 (0, 0)) ∧
    ((v = .slice none 0 0 ∧ l = []) ∨ ∃ g cap cur fz, v = .slice (some ⟨g, 0, none⟩) l.length cap ∧ N ≤ g ∧ g ≠ b ∧ w.heap[g]? = some (.cells cur 5 fz) ∧ l.length ≤ cap ∧ cap ≤ maxLen ∧ cur.size = cap ∧ cur.toList.take l.length = Lib.byteCells l)
theorem Bld.blR {N b : Nat} {l : List UInt8} {w : World} (h : Bld N b l w) : BlR N b l w := by
  have one : ∀ p, Lib.BuilderAt 151 5 N b p (Lib.byteCells l) w → BlR N b l w := by
    intro p h
    obtain ⟨hB, v, hb, hown, hne⟩ := h
    have hl : (Lib.byteCells l).length = l.length := by simp [Lib.byteCells]
    refine ⟨hB, p, v, hb, ?_⟩
    rcases hown.2 with ⟨rfl, h0⟩ | ⟨g, cap, cur, rfl, hbg, hg, hnc, hcm, hcs, htake⟩
    · exact .inl ⟨rfl, List.length_eq_zero_iff.1 (by omega)⟩
    · refine .inr ⟨g, cap, cur, (0, 0), by rw [hl], hbg, ?_, hg, by omega, hcm, by omega, by rw [hl, Nat.mul_one] at htake; exact htake⟩
      intro e
      exact hne (by rw [e]; rfl)
  rcases h with h | h
  · exact one _ h
  · exact one _ h
theorem BlR.lt {N b : Nat} {l : List UInt8} {w : World} (h : BlR N b l w) : b < w.heap.size := by
  obtain ⟨_, p, v, hb, _⟩ := h
  exact (Array.getElem?_eq_some_iff.1 hb).1
theorem BlR.kept {N b : Nat} {l : List UInt8} {w w' : World} (h : BlR N b l w) (k : Kept w w') : BlR N b l w' := by
  have hlt := h.lt
  obtain ⟨hN, p, v, hb, hv⟩ := h
  refine ⟨hN, p, v, by rw [k.block b hlt]; exact hb, ?_⟩
  rcases hv with hv | ⟨g, cap, cur, fz, h1, h2, h3, h4, h5⟩
  · exact .inl hv
  · exact .inr ⟨g, cap, cur, fz, h1, h2, h3, by rw [k.block g (Array.getElem?_eq_some_iff.1 h4).1]; exact h4, h5⟩
set_option maxHeartbeats 1000000 in
set_option maxRecDepth 100000 in
theorem blR_string (N b : Nat) (l : List UInt8) (w : World) (h : BlR N b l w) (hN : N ≤ w.heap.size) :
    Calls Tryz.prog 94 #[.pointer (some ⟨b, 0, none⟩)] w fun e w' => e = .returned (.string ⟨l.toArray⟩) ∧ BlR N b l w' ∧ Below N w w' := by
  have hlt := h.lt
  have HH := Lib.hid h
  obtain ⟨hNb, p, v, hb, hv⟩ := h
  have hUN := fun (W : World) (q : Option Addr) => Lib.run_unsafeString_none (P := Tryz.prog) W 172 3 9 q
  have hdk : ∀ (o : World), o.heap = w.heap → o.cell? ⟨b, 1, none⟩ = some v := fun o e => by
    have : o.heap[b]? = some (.cells #[p, v] 151 (0, 0)) := by rw [e]; exact hb
    rw [Lib.cell_of_heap this]; rfl
  have c1 : w.drew.cell? ⟨b, 1, none⟩ = some v := hdk _ rfl
  have HDR : Hid (BlR N b l w.drew) := HH.out.kept ((Kept.refl w).drew)
  have HDA : Hid (∀ o, BlR N b l (w.drew.alloc o)) := fun o => HH.out.kept (((Kept.refl w).drew).alloc o)
  have HBD : Hid (Below N w w.drew) := Below.mono ((Kept.refl w).drew) hN
  have HBA : Hid (∀ o, Below N w (w.drew.alloc o)) := fun o => Below.mono (((Kept.refl w).drew).alloc o) hN
  rcases hv with ⟨rfl, rfl⟩ | ⟨g, cap, cur, fz, rfl, hbg, hgb, hg, hnc, hcm, hcs, htake⟩
  · have hSD : (Builtin.unsafeSliceData_ #[24] 172 #[.slice none 0 0]).run Tryz.prog w.drew = .ok (.pointer none) w.drew := rfl
    clear hb hdk
    go_enter Tryz.func94, Tryz.ntmps94
    go_wp2_with fail
    go_region
    all_goals (go_wp2_with fail; go_ret; exact ⟨rfl, HDR.out, HBD.out⟩)
  · have hgd : w.drew.heap[g]? = some (.cells cur 5 fz) := hg
    have hcell : ∀ j x, l[j]? = some x → w.cell? ⟨g, j, none⟩ = some (.int .u8 x.toNat) := fun j x hx => by
      have hj : j < l.length := (List.getElem?_eq_some_iff.1 hx).1
      have e : (cur.toList.take l.length)[j]? = (Lib.byteCells l)[j]? := by rw [htake]
      rw [List.getElem?_take_of_lt hj] at e
      rw [World.cell?, hg]
      show (if _ then _ else _) = _
      simp only [Option.isSome_none, Bool.false_eq_true, if_false]
      rw [← Array.getElem?_toList, e]
      simp [Lib.byteCells, hx]
    by_cases hl0 : l = []
    · subst hl0
      by_cases hc0 : cap = 0
      · subst hc0
        have hSD : (Builtin.unsafeSliceData_ #[24] 172 #[.slice (some ⟨g, 0, none⟩) 0 0]).run Tryz.prog w.drew = .ok (.pointer (some ⟨w.drew.heap.size, 0, none⟩)) (w.drew.alloc (.view ⟨g, 0, none⟩ 5)) :=
          Lib.run_unsafeSliceData_zero w.drew _ _ 5 Tryz.underlying172 ⟨g, 0, none⟩ 0 (5, cur.size) (by simp [World.shape?, hgd])
        have c2 : (w.drew.alloc (.view ⟨g, 0, none⟩ 5)).cell? ⟨b, 1, none⟩ = some (.slice (some ⟨g, 0, none⟩) 0 0) := by
          have : (w.drew.alloc (.view ⟨g, 0, none⟩ 5)).heap[b]? = _ := (Lib.alloc_old w.drew _ b hlt).trans hb
          rw [Lib.cell_of_heap this]; rfl
        have c3 : (w.alloc (.view ⟨g, 0, none⟩ 5)).drew.cell? ⟨b, 1, none⟩ = some (.slice (some ⟨g, 0, none⟩) 0 0) := c2
        have c0 : w.cell? ⟨b, 1, none⟩ = some (.slice (some ⟨g, 0, none⟩) 0 0) := c1
        clear hb hdk
        go_enter Tryz.func94, Tryz.ntmps94
        go_wp2_with fail
        go_region
        all_goals (go_wp2_with fail; go_ret; exact ⟨rfl, HDA.out _, HBA.out _⟩)
      · have hSD : (Builtin.unsafeSliceData_ #[24] 172 #[.slice (some ⟨g, 0, none⟩) 0 cap]).run Tryz.prog w.drew = .ok (.pointer (some ⟨g, 0, none⟩)) w.drew :=
          Lib.run_unsafeSliceData_row _ _ _ _ _ _ hc0
        have c0 : w.drew.cell? ⟨b, 1, none⟩ = some (.slice (some ⟨g, 0, none⟩) 0 cap) := c1
        clear hc0 hb hdk
        go_enter Tryz.func94, Tryz.ntmps94
        go_wp2_with fail
        go_region
        all_goals (go_wp2_with fail; go_ret; exact ⟨rfl, HDR.out, HBD.out⟩)
    · have hln : l.length ≠ 0 := fun c => hl0 (List.length_eq_zero_iff.1 c)
      have hSD : (Builtin.unsafeSliceData_ #[24] 172 #[.slice (some ⟨g, 0, none⟩) l.length cap]).run Tryz.prog w.drew = .ok (.pointer (some ⟨g, 0, none⟩)) w.drew :=
        Lib.run_unsafeSliceData_row _ _ _ _ _ _ (by omega)
      have hUS : (Builtin.unsafeString_ #[172, 3] 9 #[.pointer (some ⟨g, 0, none⟩), .int .i64 l.length]).run Tryz.prog w.drew = .ok (.string ⟨l.toArray⟩) (w.drew.freeze ⟨g, 0, none⟩ l.length) := by
        refine Lib.run_unsafeString_row w.drew 172 3 9 5 Tryz.underlying172 bldX.cellsByte g cur.size (by simp [World.shape?, hgd]) l hl0 (by omega) (by unfold maxLen at hcm; omega) ?_
        intro j x hx
        rw [add_at]
        exact hcell j x hx
      have HFR : Hid (BlR N b l (w.drew.freeze ⟨g, 0, none⟩ l.length) ∧ Below N w (w.drew.freeze ⟨g, 0, none⟩ l.length)) := by
        refine ⟨⟨hNb, p, _, ?_, .inr ⟨g, cap, cur, (if fz.1 == fz.2 then (0, l.length) else (min fz.1 0, max fz.2 l.length)), rfl, hbg, hgb, ?_, hnc, hcm, hcs, htake⟩⟩, Lib.below_freeze HBD.out (p := ⟨g, 0, none⟩) hbg _⟩
        · unfold World.freeze
          rw [if_neg hln]
          show (w.drew.heap.modify g _)[b]? = _
          rw [Array.getElem?_modify, if_neg hgb]
          exact hb
        · unfold World.freeze
          rw [if_neg hln]
          show (w.drew.heap.modify g _)[g]? = _
          rw [Array.getElem?_modify, if_pos rfl, hgd]
          obtain ⟨a, c⟩ := fz
          simp
      clear hln hl0 hb hdk hcell htake
      go_enter Tryz.func94, Tryz.ntmps94
      go_wp2_with fail
      go_region
      all_goals (go_wp2_with fail; go_ret; exact ⟨rfl, HFR.out.1, HFR.out.2⟩)
set_option maxRecDepth 100000 in
theorem blR_len (N b : Nat) (l : List UInt8) (w : World) (h : BlR N b l w) :
    Calls Tryz.prog 105 #[.pointer (some ⟨b, 0, none⟩)] w fun e w' => e = .returned (.int .i64 (l.length : Nat)) ∧ BlR N b l w' ∧ Kept w w' := by
  have HH := Lib.hid h
  obtain ⟨hNb, p, v, hb, hv⟩ := h
  have c1 : ∃ a cap, w.cell? ⟨b, 1, none⟩ = some (.slice a l.length cap) := by
    rcases hv with ⟨rfl, rfl⟩ | ⟨g, cap, cur, fz, rfl, _⟩
    · exact ⟨none, 0, by rw [Lib.cell_of_heap hb]; rfl⟩
    · exact ⟨_, cap, by rw [Lib.cell_of_heap hb]; rfl⟩
  obtain ⟨a, cap, c1⟩ := c1
  clear hv hb
  go_enter Tryz.func105, Tryz.ntmps105
  go_wp2_with fail
  go_ret
  exact ⟨rfl, HH.out, Kept.refl _⟩
end Go.Proofs.YtmgkkoajjdgmbaaGreatDoor
