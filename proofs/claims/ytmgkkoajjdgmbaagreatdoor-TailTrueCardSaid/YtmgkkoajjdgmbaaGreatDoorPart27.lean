/- A slice of ints that the call itself has gathered: at a step of a region that draws its order; one of two such slices. -/
import Derived.Test.YtmgkkoajjdgmbaaGreatDoorPart26
import Derived.Test.YtmgkkoajjdgmbaaGreatDoorPart2
import Derived.Deep.RegionLaw
import Derived.Deep.AppendLies
import Derived.Deep.OwnRows
set_option linter.unusedVariables false
set_option linter.unusedSimpArgs false
set_option linter.unusedSectionVars false
set_option linter.unnecessarySimpa false
set_option linter.deprecated false
namespace Go.Proofs.YtmgkkoajjdgmbaaGreatDoor
open Go.RowKit
set_option linter.unusedVariables false
theorem GatI.lt {B : Nat} {v : Value} {rs : List Int} {w : World} (h : GatI B v rs w) : ∀ k, v.ownBlock = some k → B ≤ k ∧ k < w.heap.size := World.ownsRow.lt h
/-- Where the ints of a slice lie that holds some. -/
structure LieI (g c : Nat) (rs : List Int) (w : World) : Prop where
  le : rs.length ≤ c
  max : c ≤ maxLen
  cell : ∀ i, i < rs.length → w.cell? ⟨g, i, none⟩ = some (.int .i64 (nthI rs i))
  free : ∀ i, i < rs.length → w.frozen? ⟨g, i, none⟩ = false
theorem GatI.lie {B : Nat} {v : Value} {rs : List Int} {w : World} (h : GatI B v rs w) (h0 : 0 < rs.length) : ∃ g c, v = .slice (some ⟨g, 0, none⟩) rs.length c ∧ B ≤ g ∧ g < w.heap.size ∧ LieI g c rs w := by
  obtain ⟨h1, h2⟩ := h
  rcases h2 with ⟨rfl, h2⟩ | ⟨g, cap, cur, rfl, h3, h4, h5, h6, h7, h8⟩
  · omega
  · refine ⟨g, cap, rfl, h3, (Array.getElem?_eq_some_iff.1 h4).1, h5, h6, fun i hi => ?_, fun i hi => frozen_of_row _ _ _ _ _ h4⟩
    rw [cell_of_row _ _ i _ _ _ h4]
    have e : (cur.toList.take (rs.length * 1))[i]? = (rs.map (Value.int .i64))[i]? := by rw [h8]
    rw [List.getElem?_take_of_lt (by omega)] at e
    rw [← Array.getElem?_toList, e, List.getElem?_map, List.getElem?_eq_getElem hi, ← nthI_get rs i hi]
    rfl
theorem LieI.ints {g c : Nat} {rs : List Int} {w : World} (h : LieI g c rs w) : Ints .i64 w (some ⟨g, 0, none⟩) rs := .inr ⟨g, 0, rfl, fun i hi => by rw [Nat.zero_add]; exact h.cell i hi⟩
theorem LieI.keptBlock {g c : Nat} {rs : List Int} {w w' : World} (h : LieI g c rs w) (e : w'.heap[g]? = w.heap[g]?) : LieI g c rs w' :=
  ⟨h.le, h.max, fun i hi => by rw [World.cell?_of_block (w := w) (a := ⟨g, i, none⟩) e]; exact h.cell i hi, fun i hi => by rw [World.frozen?_of_block (w := w) (a := ⟨g, i, none⟩) e]; exact h.free i hi⟩
theorem LieI.kept {g c : Nat} {rs : List Int} {w w' : World} (h : LieI g c rs w) (k : Kept w w') (hg : g < w.heap.size) : LieI g c rs w' := h.keptBlock (k.block g hg)
/-- An append of one int, as a walk meets it; all blocks but the row's own are as they were. -/
theorem wpList_gati2 {ops : Array Oper} {rest : List Oper} {o : Oper} {a : Act} {Q : Exit → Act → World → Prop} (W : World) (hgd : o.guard = none) (s x : Operand)
    (ho : o.op = .call { callee := .builtin .append, args := #[s, x], argTypes := #[50, 50] })
    (w0 : World) (v : Value) (rs : List Int) (hs : a.eval s = v) (hG : GatI w0.heap.size v rs W) (hK : Kept w0 W) (r : Int) (g : Nat) (hx : a.eval x = .slice (some ⟨g, 0, none⟩) 1 1) (hc : W.cell? ⟨g, 0, none⟩ = some (.int .i64 r)) (hl : rs.length ≤ 1000000000)
    (h : ∀ v' w', GatI w0.heap.size v' (rs ++ [r]) w' → Kept w0 w' → W.heap.size ≤ w'.heap.size → (∀ b, b < W.heap.size → v.ownBlock ≠ some b → w'.heap[b]? = W.heap[b]?) → (∀ b, v'.ownBlock = some b → v.ownBlock = some b ∨ W.heap.size ≤ b) → wpList Tryz.prog ops Q rest (a.put o.dst v') w') : wpList Tryz.prog ops Q (o :: rest) a W := by
  obtain ⟨i0, hi, hzz⟩ := Option.map_eq_some_iff.1 info_int
  simp only [Prod.mk.injEq] at hzz
  refine wpList_append_lies W hgd s x 50 ho w0.heap.size 3 i0 (.int .i64 0) 1 8 Tryz.underlying50 hi hzz.1 hzz.2.1 hzz.2.2 rfl (by decide) v rs.length (rs.map (Value.int .i64)) hs hG ⟨g, 0, none⟩ 1 1 [.int .i64 r] hx rfl (cell_int W g r hc) (fun u hu => by simp at hu; subst hu; rfl) (by decide) (by unfold maxLen; omega) (by omega) hK.size _ rfl ?_
  intro g2 cap w' h2 h3 h4 h5
  refine h _ w' ?_ (Below.grown hK h3 hK.size (fun k hk => (World.ownsRow.lt hG k hk).1)) h3.size (fun b hb hn => h3.block b hb (fun e => hn e.symm)) (fun b hb => ?_)
  · unfold GatI
    rw [List.map_append, List.length_append]
    exact h2
  · injection hb with hb
    rcases h4 with h4 | h4
    · exact .inl (by rw [h4, ← hb])
    · exact .inr (by rw [← hb, h4]; exact Nat.le_refl _)
/-- An append of a slice of ints, at a step of a region that draws its order. -/
theorem step_gati {ops : Array Oper} {o : Oper} {a : Act} {K : Act → World → Prop} {Q : Exit → Act → World → Prop} {E : Prop} {W : World} (hgd : o.guard = none) (s x : Operand)
    (ho : o.op = .call { callee := .builtin .append, args := #[s, x], argTypes := #[50, 50] })
    (w0 : World) (v : Value) (rs : List Int) (hs : a.eval s = v) (hG : GatI w0.heap.size v rs W) (hK : Kept w0 W) (ts : List Int) (g off m c : Nat) (hx : a.eval x = .slice (some ⟨g, off, none⟩) m c) (hm : ts.length = m) (hc : ∀ i, i < m → W.cell? ⟨g, off + i, none⟩ = some (.int .i64 (nthI ts i))) (hl : rs.length + m ≤ 1000000000)
    (h : ∀ v' w', GatI w0.heap.size v' (rs ++ ts) w' → Kept w0 w' → (v' = .slice none 0 0 ↔ v = .slice none 0 0 ∧ m = 0) → K (a.put o.dst v') w') : if Region.wanted o (yielded ops a.tmps) = true then Oper.wp Tryz.prog o a W K Q else E := by
  have hw : Region.wanted o (yielded ops a.tmps) = true := by simp [Region.wanted, hgd]
  rw [if_pos hw]
  obtain ⟨i0, hi, hzz⟩ := Option.map_eq_some_iff.1 info_int
  simp only [Prod.mk.injEq] at hzz
  refine wp_append_own W s x 50 ho w0.heap.size 3 i0 (.int .i64 0) 1 8 Tryz.underlying50 hi hzz.1 hzz.2.1 hzz.2.2 rfl (by decide) v rs.length (rs.map (Value.int .i64)) hs hG ⟨g, off, none⟩ m c (ts.map (Value.int .i64)) hx (by rw [List.length_map, hm, Nat.mul_one]) (fun j u hj => ?_) (fun u hu => by obtain ⟨r, _, rfl⟩ := List.mem_map.1 hu; rfl) (by unfold maxLen; omega) (by omega) hK.size ?_
  · rw [List.getElem?_map] at hj
    by_cases hjl : j < ts.length
    · rw [List.getElem?_eq_getElem hjl, nthI_get ts j hjl] at hj
      rw [Go.WideShapes.add_plain, hc j (by omega)]
      exact hj
    · rw [List.getElem?_eq_none (by omega)] at hj
      cases hj
  · intro v' w' h2 h3 h4
    refine h v' w' ?_ (Below.grown hK h3 hK.size (fun k hk => (World.ownsRow.lt hG k hk).1)) h4
    unfold GatI
    rw [List.map_append, List.length_append, hm]
    exact h2
/-- A slice of no ints that was made just now. -/
theorem GatI.made {w0 w : World} (k : Kept w0 w) : GatI w0.heap.size (.slice (some ⟨w.heap.size, 0, none⟩) 0 0) [] (w.alloc (.cells #[] 3)) := World.ownsRow_made w #[] 0 k.size (Nat.zero_le _) rfl
theorem size_int1 (W : World) : (Go.sizeOf 3).run Tryz.prog W = .ok 1 W := by
  obtain ⟨i0, hi, hzz⟩ := Option.map_eq_some_iff.1 info_int
  simp only [Prod.mk.injEq] at hzz
  simp [Go.sizeOf, typeInfo, hi, hzz.2.1]
set_option maxRecDepth 100000 in
/-- The first A ints of a slice. -/
theorem slice_low (g f c A : Nat) (hA : A ≤ c) (W : World) : (Instr.slice 50 (.slice (some ⟨g, 0, none⟩) f c) none (some (.int .i64 (A : Int))) none).run Tryz.prog W = .ok (.slice (some ⟨g, 0, none⟩) A c) W := by
  have h := run_slice_h (P := Tryz.prog) W 50 (some ⟨g, 0, none⟩) f c Tryz.underlying50 .i64 (A : Int) (by omega) (by omega)
  rw [show Tryz.prog.elem 50 = 3 by kernel_rfl, size_int1] at h
  rw [h]
  simp [Result.andThen, sliced, Addr.add]
set_option maxRecDepth 100000 in
/-- The ints of a slice behind A of them. -/
theorem slice_high (g f c A : Nat) (hA : A ≤ f) (W : World) : (Instr.slice 50 (.slice (some ⟨g, 0, none⟩) f c) (some (.int .i64 (A : Int))) none none).run Tryz.prog W = .ok (.slice (some ⟨g, if c = A then 0 else A, none⟩) (f - A) (c - A)) W := by
  have h := run_slice_l (P := Tryz.prog) W 50 (some ⟨g, 0, none⟩) f c Tryz.underlying50 .i64 (A : Int) (by omega) (by omega)
  rw [show Tryz.prog.elem 50 = 3 by kernel_rfl, size_int1] at h
  rw [h]
  simp only [Result.andThen, sliced, Int.toNat_natCast, Nat.mul_one]
  by_cases e : c = A
  · rw [if_pos e, if_pos e]
  · rw [if_neg e, if_neg e]
    show Result.ok (Value.slice (some ((⟨g, 0, none⟩ : Addr).add A)) _ _) W = _
    rw [add_at]
/-- n ints told by a function lie in block g, and may be written. -/
structure IntT (g n : Nat) (f : Nat → Int) (w : World) : Prop where
  cell : ∀ j, j < n → w.cell? ⟨g, j, none⟩ = some (.int .i64 (f j))
  free : ∀ j, j < n → w.frozen? ⟨g, j, none⟩ = false
theorem IntT.congr {g n : Nat} {f f' : Nat → Int} {w : World} (h : IntT g n f w) (e : ∀ j, j < n → f' j = f j) : IntT g n f' w :=
  ⟨fun j hj => by rw [e j hj]; exact h.cell j hj, h.free⟩
theorem IntT.set {g n : Nat} {f : Nat → Int} {w : World} (h : IntT g n f w) (k : Nat) (hk : k < n) (v : Int) : IntT g n (fun j => if j = k then v else f j) (w.setCell ⟨g, k, none⟩ (.int .i64 v)) := by
  refine ⟨fun j hj => ?_, fun j hj => by rw [World.frozen?_setCell]; exact h.free j hj⟩
  by_cases e : j = k
  · subst e
    simp only [if_pos]
    rw [World.cell?_setCell_same _ _ _ (h.cell j hj)]
  · simp only [if_neg e]
    rw [World.cell?_setCell_other _ _ _ _ (fun h => e (by injection h with _ e2; exact e2.symm)), h.cell j hj]
theorem IntT.lie {g n c : Nat} {f : Nat → Int} {w : World} (h : IntT g n f w) (rs : List Int) (hl : rs.length = n) (e : ∀ i, i < n → nthI rs i = f i) (hc : n ≤ c) (hm : c ≤ maxLen) : LieI g c rs w :=
  ⟨by omega, hm, fun i hi => by rw [e i (by omega)]; exact h.cell i (by omega), fun i hi => h.free i (by omega)⟩
theorem made_zeroI (n : Nat) : madeCells #[Value.int .i64 0] n = row n fun _ => .int .i64 0 := by
  apply Array.ext'
  rw [toList_madeCells_one]
  unfold row
  simp
  apply List.ext_getElem?
  intro i
  by_cases h : i < n <;> simp [h]
theorem make_ints (n : Nat) (hn : n ≤ 1000000) (W : World) : (Instr.makeSlice 50 (.int .i64 (n : Int)) (.int .i64 (n : Int))).run Tryz.prog W = .ok (.slice (some ⟨W.heap.size, 0, none⟩) n n) (W.alloc (.cells (row n fun _ => .int .i64 0) 3)) := by
  have hmk := run_make_row' (P := Tryz.prog) 50 3 (.int .i64 0) 8 Tryz.underlying50 info_int rfl .i64 .i64 n (by omega) (by omega) W
  rw [made_zeroI] at hmk
  exact hmk
theorem IntT.made (w : World) (n : Nat) : IntT w.heap.size n (fun _ => 0) (w.alloc (.cells (row n fun _ => .int .i64 0) 3)) := by
  refine ⟨fun j hj => ?_, fun j hj => ?_⟩
  · rw [World.cell?_alloc_mark, row_get _ _ j hj]
  · rw [World.frozen?_alloc_mark]; simp
end Go.Proofs.YtmgkkoajjdgmbaaGreatDoor
