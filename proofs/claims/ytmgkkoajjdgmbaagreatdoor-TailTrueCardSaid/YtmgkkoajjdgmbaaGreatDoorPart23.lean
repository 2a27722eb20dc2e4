/- A strings.Builder whose bytes lie from block N on, while it stands itself ahead of that: for a loop over an iterator. -/
import Derived.Test.YtmgkkoajjdgmbaaGreatDoorPart12
import Derived.Deep.Onto
import Derived.RangeFuncNested
set_option linter.unusedVariables false
set_option linter.unusedSimpArgs false
set_option linter.unusedSectionVars false
set_option linter.unnecessarySimpa false
set_option linter.deprecated false
namespace Go.Proofs.YtmgkkoajjdgmbaaGreatDoor
open Go.Shelf Go.RowKit
set_option linter.unusedVariables false
/-- The builder stands in block b, its bytes, l, in blocks from N on. -/
def Bl (N b : Nat) (l : List UInt8) (w : World) : Prop :=
  ∃ p v, (p = .pointer none ∨ p = .pointer (some ⟨b, 0, none⟩)) ∧ w.heap[b]? = some (.cells #[p, v] 151 (0, 0)) ∧ w.ownsRow N 5 1 v l.length (Lib.byteCells l)
/-- Below N all is as it was, block b aside. -/
structure ButB (N b : Nat) (w w' : World) : Prop where
  os : w'.os = w.os
  tape : w'.tape = w.tape
  output : w'.output = w.output
  size : w.heap.size ≤ w'.heap.size
  block : ∀ k, k < N → k ≠ b → w'.heap[k]? = w.heap[k]?
theorem ButB.refl (N b : Nat) (w : World) : ButB N b w w := ⟨rfl, rfl, rfl, Nat.le_refl _, fun _ _ _ => rfl⟩
theorem ButB.trans {N b : Nat} {u v w : World} (h : ButB N b u v) (k : ButB N b v w) : ButB N b u w :=
  ⟨k.os.trans h.os, k.tape.trans h.tape, k.output.trans h.output, Nat.le_trans h.size k.size, fun i hi hb => (k.block i hi hb).trans (h.block i hi hb)⟩
theorem Kept.butB {N b : Nat} {w w' : World} (h : Kept w w') (hN : N ≤ w.heap.size) : ButB N b w w' := ⟨h.os, h.tape, h.output, h.size, fun k hk _ => h.block k (by omega)⟩
theorem ButB.grown {N b : Nat} {u v v' : World} {row : Option Nat} (h : ButB N b u v) (hg : v.grownBy v' row) (hr : ∀ r, row = some r → N ≤ r) (hN : N ≤ v.heap.size) : ButB N b u v' :=
  h.trans ⟨hg.os, hg.tape, hg.output, hg.size, fun k hk _ => hg.block k (by omega) (fun e => by have := hr k e.symm; omega)⟩
theorem Bl.lt {N b : Nat} {l : List UInt8} {w : World} (h : Bl N b l w) : b < w.heap.size := by
  obtain ⟨p, v, _, hb, _⟩ := h
  exact (Array.getElem?_eq_some_iff.1 hb).1
theorem Bl.kept {N b : Nat} {l : List UInt8} {w w' : World} (h : Bl N b l w) (k : Kept w w') : Bl N b l w' := by
  have hlt := h.lt
  obtain ⟨p, v, hp, hb, hown⟩ := h
  exact ⟨p, v, hp, by rw [k.block b hlt]; exact hb, hown.kept (row := none) ⟨k.os, k.tape, k.output, k.size, fun j hj _ => k.block j hj⟩ (by cases hv : v.ownBlock <;> simp)⟩
theorem Bl.own (B N b : Nat) (l : List UInt8) {A A' : World} {row : Option Nat} (h : Bl N b l A) (hg : A.grownBy A' row) (hr : ∀ r, row = some r → B ≤ r ∧ ∃ o : Obj, A.heap[r]? = some o ∧ o.isCells = false) : Bl N b l A' := by
  obtain ⟨p, v, hp, hb, hown⟩ := h
  refine ⟨p, v, hp, ?_, hown.kept hg ?_⟩
  · rw [hg.block b (Array.getElem?_eq_some_iff.1 hb).1 (fun e => by obtain ⟨_, o, ho, hc⟩ := hr b e.symm; rw [hb] at ho; cases ho; cases hc)]; exact hb
  · rcases hown.2 with ⟨rfl, _⟩ | ⟨g, cap, cur, rfl, _, hgb, _⟩
    · exact .inl rfl
    · refine .inr fun e' => ?_
      obtain ⟨_, o, ho, hc⟩ := hr g (by simpa [Value.ownBlock] using e'.symm)
      rw [hgb] at ho; cases ho; cases hc
theorem Bl.new (w w' : World) (N : Nat) (hk : Kept (w.alloc (.cells #[.pointer none, .slice none 0 0] 151)) w') : Bl N w.heap.size [] w' := by
  refine ⟨_, _, .inl rfl, ?_, World.ownsRow_nil _ _ _ _⟩
  rw [hk.block w.heap.size (by simp)]
  exact heap_alloc_new w _
theorem Bl.ne {N b : Nat} {l : List UInt8} {w : World} {p v : Value} (hb : w.heap[b]? = some (.cells #[p, v] 151 (0, 0))) (hown : w.ownsRow N 5 1 v l.length (Lib.byteCells l)) : v.ownBlock ≠ some b := by
  rcases hown.2 with ⟨rfl, _⟩ | ⟨g, cap, cur, rfl, _, hgb, _⟩
  · simp [Value.ownBlock]
  · intro e
    obtain rfl : g = b := by simpa [Value.ownBlock] using e
    rw [hb] at hgb
    injection hgb with hgb
    injection hgb with _ ht _
    exact bldX.neB5 ht
theorem keepsOthers_freeze (w : World) (p : Addr) (n : Nat) : KeepsOthers w (w.freeze p n) := by
  unfold World.freeze
  split
  · exact KeepsOthers.refl w
  · refine ⟨by simp, fun k o hk ho => ?_⟩
    show (w.heap.modify p.block _)[k]? = _
    rw [Array.getElem?_modify]
    split
    · rename_i e
      subst e
      rw [hk]; cases o <;> first | rfl | cases ho
    · exact hk
theorem butB_freeze {N b : Nat} {u w : World} (h : ButB N b u w) {p : Addr} (hp : N ≤ p.block) (n : Nat) : ButB N b u (w.freeze p n) := by
  have := Lib.below_freeze (B := N) (Below.refl N w) (p := p) hp n
  exact h.trans ⟨this.os, this.tape, this.output, this.size, fun k hk _ => this.block k hk⟩
set_option maxHeartbeats 1000000 in
set_option maxRecDepth 100000 in
/-- Handed to String, it tells its bytes. -/
theorem bl_string (N b : Nat) (l : List UInt8) (w : World) (h : Bl N b l w) (hN : N ≤ w.heap.size) :
    Calls Tryz.prog 94 #[.pointer (some ⟨b, 0, none⟩)] w fun e w' => e = .returned (.string ⟨l.toArray⟩) ∧ ButB N b w w' ∧ KeepsOthers w w' := by
  have hlt := h.lt
  obtain ⟨p, v, hp, hb, hown⟩ := h
  have hUN := fun (W : World) (q : Option Addr) => Lib.run_unsafeString_none (P := Tryz.prog) W 172 3 9 q
  have hdk : ∀ (o : World), o.heap = w.heap → o.cell? ⟨b, 1, none⟩ = some v := fun o e => by
    have : o.heap[b]? = some (.cells #[p, v] 151 (0, 0)) := by rw [e]; exact hb
    rw [Lib.cell_of_heap this]; rfl
  have c1 : w.drew.cell? ⟨b, 1, none⟩ = some v := hdk _ rfl
  rcases hown.2 with ⟨rfl, h0⟩ | ⟨g, cap, cur, rfl, hbg, hg, hnc, hcm, hcs, htake⟩
  · obtain rfl : l = [] := List.length_eq_zero_iff.1 h0
    have hSD : (Builtin.unsafeSliceData_ #[24] 172 #[.slice none 0 0]).run Tryz.prog w.drew = .ok (.pointer none) w.drew := rfl
    go_enter Tryz.func94, Tryz.ntmps94
    go_wp2_with fail
    go_region
    all_goals (go_wp2_with fail; go_ret; exact ⟨rfl, (Kept.drew (Kept.refl w)).butB hN, KeepsOthers.drew w⟩)
  · have hgd : w.drew.heap[g]? = some (.cells cur 5 (0, 0)) := hg
    by_cases hl0 : l = []
    · subst hl0
      by_cases hc0 : cap = 0
      · subst hc0
        have hSD : (Builtin.unsafeSliceData_ #[24] 172 #[.slice (some ⟨g, 0, none⟩) 0 0]).run Tryz.prog w.drew = .ok (.pointer (some ⟨w.drew.heap.size, 0, none⟩)) (w.drew.alloc (.view ⟨g, 0, none⟩ 5)) :=
          Lib.run_unsafeSliceData_zero w.drew _ _ 5 Tryz.underlying172 ⟨g, 0, none⟩ 0 (5, cur.size) (by simp [World.shape?, hgd])
        have c2 : (w.drew.alloc (.view ⟨g, 0, none⟩ 5)).cell? ⟨b, 1, none⟩ = some (.slice (some ⟨g, 0, none⟩) 0 0) := by
          have : (w.drew.alloc (.view ⟨g, 0, none⟩ 5)).heap[b]? = _ := (Lib.alloc_old w.drew _ b hlt).trans hb
          rw [Lib.cell_of_heap this]; rfl
        have c3 : (w.alloc (.view ⟨g, 0, none⟩ 5)).drew.cell? ⟨b, 1, none⟩ = some (.slice (some ⟨g, 0, none⟩) 0 0) := c2
        have c0 : w.cell? ⟨b, 1, none⟩ = some (.slice (some ⟨g, 0, none⟩) 0 0) := c1
        go_enter Tryz.func94, Tryz.ntmps94
        go_wp2_with fail
        go_region
        all_goals (go_wp2_with fail; go_ret; exact ⟨rfl, ((Kept.drew (Kept.refl w)).alloc _).butB hN, (KeepsOthers.drew w).trans (KeepsOthers.alloc _ _)⟩)
      · have hSD : (Builtin.unsafeSliceData_ #[24] 172 #[.slice (some ⟨g, 0, none⟩) 0 cap]).run Tryz.prog w.drew = .ok (.pointer (some ⟨g, 0, none⟩)) w.drew :=
          Lib.run_unsafeSliceData_row _ _ _ _ _ _ hc0
        have c0 : w.drew.cell? ⟨b, 1, none⟩ = some (.slice (some ⟨g, 0, none⟩) 0 cap) := c1
        clear hc0
        go_enter Tryz.func94, Tryz.ntmps94
        go_wp2_with fail
        go_region
        all_goals (go_wp2_with fail; go_ret; exact ⟨rfl, (Kept.drew (Kept.refl w)).butB hN, KeepsOthers.drew w⟩)
    · have hln : l.length ≠ 0 := fun c => hl0 (List.length_eq_zero_iff.1 c)
      have hSD : (Builtin.unsafeSliceData_ #[24] 172 #[.slice (some ⟨g, 0, none⟩) l.length cap]).run Tryz.prog w.drew = .ok (.pointer (some ⟨g, 0, none⟩)) w.drew :=
        Lib.run_unsafeSliceData_row _ _ _ _ _ _ (by omega)
      have hUS : (Builtin.unsafeString_ #[172, 3] 9 #[.pointer (some ⟨g, 0, none⟩), .int .i64 l.length]).run Tryz.prog w.drew = .ok (.string ⟨l.toArray⟩) (w.drew.freeze ⟨g, 0, none⟩ l.length) := by
        refine Lib.run_unsafeString_row w.drew 172 3 9 5 Tryz.underlying172 bldX.cellsByte g cur.size (by simp [World.shape?, hgd]) l hl0 (by omega) (by unfold maxLen at hcm; omega) ?_
        intro j x hx
        exact hown.cells (g := g) rfl j (.int .u8 x.toNat) (by simp [Lib.byteCells, hx])
      clear hln hl0
      go_enter Tryz.func94, Tryz.ntmps94
      go_wp2_with fail
      go_region
      all_goals (go_wp2_with fail; go_ret; exact ⟨rfl, butB_freeze ((Kept.drew (Kept.refl w)).butB hN) (p := ⟨g, 0, none⟩) hbg _, (KeepsOthers.drew w).trans (keepsOthers_freeze _ _ _)⟩)
theorem bl_check (N b : Nat) (l : List UInt8) (w : World) (h : Bl N b l w) :
    Calls Tryz.prog 112 #[.pointer (some ⟨b, 0, none⟩)] w fun e w' => e = .returned (.tuple #[]) ∧ (∃ v, w'.heap[b]? = some (.cells #[.pointer (some ⟨b, 0, none⟩), v] 151 (0, 0)) ∧ w'.ownsRow N 5 1 v l.length (Lib.byteCells l)) ∧ ButB N b w w' ∧ KeepsOthers w w' := by
  obtain ⟨p, v, hp, hb, hown⟩ := h
  have hne := Bl.ne hb hown
  rcases hp with rfl | rfl
  · refine (copyCheck_fresh b w (by rw [Lib.cell_of_heap hb]; rfl) (by simp [World.shape?, hb]) (by simp [World.frozen?, hb])).mono ?_
    rintro e w' ⟨rfl, rfl⟩
    refine ⟨rfl, ⟨v, by simp [World.setCell, Array.getElem?_modify, hb], hown.kept (row := some b) ⟨rfl, rfl, rfl, by simp [World.setCell], fun k _ hk => Below.heap_setCell _ _ _ _ (fun e => hk (by simp [e]))⟩ (Or.inr hne)⟩, ⟨rfl, rfl, rfl, by simp [World.setCell], fun k hk hb => Below.heap_setCell _ _ _ _ hb⟩, KeepsOthers.setCell _ _ _⟩
  · refine (copyCheck_used b w (by rw [Lib.cell_of_heap hb]; rfl)).mono ?_
    rintro e w' ⟨rfl, rfl⟩
    exact ⟨rfl, ⟨v, hb, hown⟩, ButB.refl _ _ _, KeepsOthers.refl _⟩
set_option maxHeartbeats 2000000 in
set_option maxRecDepth 100000 in
theorem bl_write (N b : Nat) (l : List UInt8) (s : ByteArray) (w : World) (h : Bl N b l w) (hlen : l.length + s.size ≤ 140737488355328) (hN : N ≤ w.heap.size) :
    Calls Tryz.prog 92 #[.pointer (some ⟨b, 0, none⟩), .string s] w fun e w' => e = .returned (.tuple #[.int .i64 s.size, .nilIface]) ∧ Bl N b (l ++ s.data.toList) w' ∧ ButB N b w w' ∧ KeepsOthers w w' := by
  obtain ⟨i0, hi, hz0, hz1, hz2⟩ := info_parts bldX.infoByte
  go_enter Tryz.func92, Tryz.ntmps92
  go_wp2_with fail
  refine (bl_check N b l _ h).mono ?_
  rintro e w1 ⟨rfl, ⟨v, hbk, hown⟩, hb1, ho1⟩
  have hne := Bl.ne hbk hown
  have c0 : w1.cell? ⟨b, 0, none⟩ = some (.pointer (some ⟨b, 0, none⟩)) := by rw [Lib.cell_of_heap hbk]; rfl
  have c1 : w1.cell? ⟨b, 1, none⟩ = some v := by rw [Lib.cell_of_heap hbk]; rfl
  have hown0 : w1.ownsRow N 5 1 v (Lib.byteCells l).length (Lib.byteCells l) := by rw [Lib.byteCells_length]; exact hown
  go_wp2_with (at_builtin; refine Lib.wpList_append_own_string _ rfl _ _ 24 9 rfl N 5 i0 Tryz.underlying24 Tryz.underlying9 hi hz0 hz1 hz2 _ _ _ rfl hown0 s rfl ?c3 ?c4 ?c5 ?_)
  case c3 => rw [Lib.byteCells_length]; unfold maxLen; omega
  case c4 => rw [Lib.byteCells_length]; omega
  case c5 => have := hb1.size; omega
  intro v' w2 hown' hgrow _
  have hlt : b < w1.heap.size := (Array.getElem?_eq_some_iff.1 hbk).1
  have hb2 : w2.heap[b]? = some (.cells #[.pointer (some ⟨b, 0, none⟩), v] 151 (0, 0)) := by
    rw [hgrow.block b hlt (fun e => hne e.symm)]
    exact hbk
  have d0 : w2.cell? ⟨b, 0, none⟩ = some (.pointer (some ⟨b, 0, none⟩)) := by rw [Lib.cell_of_heap hb2]; rfl
  have d1 : w2.cell? ⟨b, 1, none⟩ = some v := by rw [Lib.cell_of_heap hb2]; rfl
  have f1 : w2.frozen? ⟨b, 1, none⟩ = false := Lib.frozen_of_heap hb2 1
  obtain ⟨ao, n', cap, rfl⟩ : ∃ ao n' cap, v' = .slice ao n' cap := by
    rcases hown'.2 with ⟨hv, _⟩ | ⟨g, cap, cur, hv, _⟩
    · exact ⟨_, _, _, hv⟩
    · exact ⟨_, _, _, hv⟩
  have hN2 : N ≤ w1.heap.size := Nat.le_trans hN hb1.size
  have ho2 : KeepsOthers w1 w2 := KeepsOthers.of_grownBy hgrow (fun j o e hj => by
    rcases hown.2 with ⟨rfl, _⟩ | ⟨g, cap, cur, rfl, _, hgb, _⟩
    · cases e
    · obtain rfl : g = j := by simpa [Value.ownBlock] using e
      rw [hgb] at hj; injection hj with hj; subst hj; rfl)
  go_wp2
  go_ret2
  refine ⟨rfl, ?_, ?_, ho1.trans (ho2.trans (KeepsOthers.setCell _ _ _))⟩
  · have hown2 : w2.ownsRow N 5 1 (.slice ao n' cap) (l ++ s.data.toList).length (Lib.byteCells (l ++ s.data.toList)) := by
      rw [Lib.byteCells_append, List.length_append, ← Lib.strCells_eq]
      rw [Lib.byteCells_length] at hown'
      have e : s.data.toList.length = s.size := by simp
      rw [e]
      exact hown'
    have hne2 : (Value.slice ao n' cap).ownBlock ≠ some b := Lib.ownBlock_ne hown2 hb2 bldX.neB5
    exact ⟨_, _, .inr rfl, by simp [World.setCell, Array.getElem?_modify, hb2], hown2.kept (row := some b) ⟨rfl, rfl, rfl, by simp [World.setCell], fun k _ hk => Below.heap_setCell _ _ _ _ (fun e => hk (by simp [e]))⟩ (Or.inr hne2)⟩
  · exact (hb1.grown hgrow (fun r e => (hown.lt r e).1) hN2).trans ⟨rfl, rfl, rfl, by simp [World.setCell], fun k hk hb => Below.heap_setCell _ _ _ _ hb⟩
end Go.Proofs.YtmgkkoajjdgmbaaGreatDoor
