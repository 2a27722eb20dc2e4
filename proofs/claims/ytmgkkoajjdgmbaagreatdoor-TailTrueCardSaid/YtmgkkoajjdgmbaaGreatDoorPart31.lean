/- TailGat, TailGoes. -/
import Derived.Test.YtmgkkoajjdgmbaaGreatDoorPart30
import Derived.Test.YtmgkkoajjdgmbaaGreatDoorPart24
import Derived.Test.YtmgkkoajjdgmbaaGreatDoorPart2
import Derived.Deep.DeepAppendWide
import Derived.Deep.RegionLaw
import Derived.ChangeKeysEq
set_option linter.unusedVariables false
set_option linter.unusedSimpArgs false
set_option linter.unusedSectionVars false
set_option linter.unnecessarySimpa false
set_option linter.deprecated false
/- Slices of parts, and of texts, gathered by append: at a step of a region that draws its order; what else is left as it was. -/
namespace Go.Proofs.YtmgkkoajjdgmbaaGreatDoor
open Go.RowKit Sm Wr _root_.Go.Proofs.YtmgkkoajjdgmbaaGreatDoor.Nm
set_option linter.unusedVariables false
def ptCells (x : Pt) : List Value := [.int .u64 (x.gen : Nat), .int .u64 (x.num : Nat), .int .u64 (x.idx : Nat), .int .u64 (x.parts : Nat), .int .u32 (x.sum : Nat), .string x.piece]
theorem ptCells_one (x : Pt) : ∀ u ∈ ptCells x, u.oneCell' = true := by
  intro u hu
  unfold ptCells at hu
  simp only [List.mem_cons, List.not_mem_nil, or_false] at hu
  rcases hu with rfl | rfl | rfl | rfl | rfl | rfl <;> rfl
def GatP (B : Nat) (v : Value) (xs : List Pt) (w : World) : Prop := w.ownsRow B 104 6 v xs.length (xs.flatMap ptCells)
theorem GatP.nil (B : Nat) (w : World) : GatP B (.slice none 0 0) [] w := World.ownsRow_nil _ _ _ _
/-- The world grew: block of a row aside, all is as it was. -/
theorem Kept.grownN {w w' : World} (k : Kept w w') : w.grownBy w' none := ⟨k.os, k.tape, k.output, k.size, fun j hj _ => k.block j hj⟩
theorem GatP.kept {B : Nat} {v : Value} {xs : List Pt} {w w' : World} (h : GatP B v xs w) (k : Kept w w') : GatP B v xs w' :=
  World.ownsRow.kept (row := none) h k.grownN (by cases hv : v.ownBlock <;> simp)
theorem GatP.lt {B : Nat} {v : Value} {xs : List Pt} {w : World} (h : GatP B v xs w) : ∀ k, v.ownBlock = some k → B ≤ k ∧ k < w.heap.size := World.ownsRow.lt h
theorem infoP_part : (Tryz.prog.info? 104).map (fun i => (i.zero, i.size, i.bytes)) = some (some (.agg #[.int .u64 0, .int .u64 0, .int .u64 0, .int .u64 0, .int .u32 0, .string ByteArray.empty]), 6, 56) := by kernel_rfl
theorem ptCells_len (x : Pt) : (ptCells x).length = 6 := rfl
theorem flatP_at (xs : List Pt) : ∀ (j i : Nat) (hj : j < xs.length) (hi : i < 6), (xs.flatMap ptCells)[j * 6 + i]? = (ptCells xs[j])[i]? := by
  induction xs with
  | nil => intro j i hj; exact absurd hj (Nat.not_lt_zero _)
  | cons x r ih =>
    intro j i hj hi
    rw [List.flatMap_cons]
    cases j with
    | zero =>
      rw [Nat.zero_mul, Nat.zero_add, List.getElem?_append_left (by rw [ptCells_len]; exact hi)]
      rfl
    | succ j =>
      rw [List.getElem?_append_right (by rw [ptCells_len]; omega), ptCells_len, show (j + 1) * 6 + i - 6 = j * 6 + i from by omega, ih j i (by simpa using hj) hi]
      rfl
theorem GatP.at {B : Nat} {v : Value} {xs : List Pt} {w : World} (h : GatP B v xs w) (h0 : 0 < xs.length) : ∃ q cap, v = .slice (some ⟨q, 0, none⟩) xs.length cap ∧ B ≤ q ∧ q < w.heap.size ∧ xs.length ≤ cap ∧ cap ≤ maxLen ∧ ∀ (j : Nat) (hj : j < xs.length), PtAt w q (j * 6) xs[j] := by
  obtain ⟨h1, h2⟩ := h
  rcases h2 with ⟨_, h2⟩ | ⟨g, cap, cur, rfl, h3, h4, h5, h6, h7, h8⟩
  · omega
  · refine ⟨g, cap, rfl, h3, (Array.getElem?_eq_some_iff.1 h4).1, h5, h6, fun j hj => ?_⟩
    have hc : ∀ i, i < 6 → w.cell? ⟨g, j * 6 + i, none⟩ = (ptCells xs[j])[i]? := fun i hi => by
      rw [cell_of_row _ _ _ _ _ _ h4, ← Array.getElem?_toList, ← flatP_at xs j i hj hi, ← h8, List.getElem?_take_of_lt (by omega)]
    exact ⟨by have := hc 0 (by decide); exact this, by have := hc 1 (by decide); exact this, by have := hc 2 (by decide); exact this, by have := hc 3 (by decide); exact this, by have := hc 4 (by decide); exact this, by have := hc 5 (by decide); exact this⟩
theorem newP_cells (W : World) (x : Pt) (T : TypeId) : ∀ j u, (ptCells x)[j]? = some u → (W.alloc (.cells #[.int .u64 (x.gen : Nat), .int .u64 (x.num : Nat), .int .u64 (x.idx : Nat), .int .u64 (x.parts : Nat), .int .u32 (x.sum : Nat), .string x.piece] T)).cell? ((⟨W.heap.size, 0, none⟩ : Addr).add j) = some u := by
  intro j u hj
  rw [add_zero_addr, World.cell?_alloc_mark]
  unfold ptCells at hj
  show (#[Value.int .u64 (x.gen : Nat), .int .u64 (x.num : Nat), .int .u64 (x.idx : Nat), .int .u64 (x.parts : Nat), .int .u32 (x.sum : Nat), .string x.piece] : Array Value)[j]? = some u
  rw [← hj, ← List.getElem?_toArray]
/-- An append of one part, at a step of a region that draws its order. -/
theorem step_gatp {ops : Array Oper} {o : Oper} {a : Act} {K : Act → World → Prop} {Q : Exit → Act → World → Prop} {E : Prop} {W : World} (hgd : o.guard = none) (s x : Operand)
    (ho : o.op = .call { callee := .builtin .append, args := #[s, x], argTypes := #[110, 110] })
    (B : Nat) (hB : B ≤ W.heap.size) (v : Value) (xs : List Pt) (hs : a.eval s = v) (hG : GatP B v xs W) (y : Pt) (g : Nat) (hx : a.eval x = .slice (some ⟨g, 0, none⟩) 1 1) (hc : ∀ j u, (ptCells y)[j]? = some u → W.cell? ((⟨g, 0, none⟩ : Addr).add j) = some u) (hl : xs.length ≤ 1000000)
    (h : ∀ v' w', GatP B v' (xs ++ [y]) w' → W.grownBy w' v.ownBlock → K (a.put o.dst v') w') : if Region.wanted o (yielded ops a.tmps) = true then Oper.wp Tryz.prog o a W K Q else E := by
  have hw : Region.wanted o (yielded ops a.tmps) = true := by simp [Region.wanted, hgd]
  rw [if_pos hw]
  obtain ⟨i0, hi, hzz⟩ := Option.map_eq_some_iff.1 infoP_part
  simp only [Prod.mk.injEq] at hzz
  refine wp_append_own_wide W s x 110 ho B 104 i0 _ 6 56 Tryz.underlying110 hi hzz.1 hzz.2.1 hzz.2.2 rfl (by decide) v xs.length (xs.flatMap ptCells) hs hG ⟨g, 0, none⟩ 1 1 (ptCells y) hx rfl hc (ptCells_one y) (by unfold maxLen; omega) (by omega) hB ?_
  intro v' w' h2 h3 _
  refine h v' w' ?_ h3
  unfold GatP
  rw [List.length_append, List.flatMap_append]
  simpa using h2
/-- An append of one text, at a step of a region that draws its order. -/
theorem step_gats {ops : Array Oper} {o : Oper} {a : Act} {K : Act → World → Prop} {Q : Exit → Act → World → Prop} {E : Prop} {W : World} (hgd : o.guard = none) (s x : Operand)
    (ho : o.op = .call { callee := .builtin .append, args := #[s, x], argTypes := #[38, 38] })
    (B : Nat) (hB : B ≤ W.heap.size) (v : Value) (ss : List ByteArray) (hs : a.eval s = v) (hG : Gat B v ss W) (str : ByteArray) (g : Nat) (hx : a.eval x = .slice (some ⟨g, 0, none⟩) 1 1) (hc : W.cell? ⟨g, 0, none⟩ = some (.string str)) (hl : ss.length ≤ 1000000)
    (h : ∀ v' w', Gat B v' (ss ++ [str]) w' → W.grownBy w' v.ownBlock → K (a.put o.dst v') w') : if Region.wanted o (yielded ops a.tmps) = true then Oper.wp Tryz.prog o a W K Q else E := by
  have hw : Region.wanted o (yielded ops a.tmps) = true := by simp [Region.wanted, hgd]
  rw [if_pos hw]
  obtain ⟨i0, hi, hzz⟩ := Option.map_eq_some_iff.1 info_string
  simp only [Prod.mk.injEq] at hzz
  refine wp_append_own W s x 38 ho B 9 i0 (.string ByteArray.empty) 1 16 Tryz.underlying38 hi hzz.1 hzz.2.1 hzz.2.2 rfl (by decide) v ss.length (ss.map Value.string) hs hG ⟨g, 0, none⟩ 1 1 [.string str] hx rfl (cell_one W g str hc) (one_string str) (by unfold maxLen; omega) (by omega) hB ?_
  intro v' w' h2 h3 _
  refine h v' w' ?_ h3
  unfold Gat
  rw [List.map_append, List.length_append]
  exact h2
/-- An append of a slice of texts, as a walk meets it: all but the row's block is as it was. -/
theorem wpList_gatsG {ops : Array Oper} {rest : List Oper} {o : Oper} {a : Act} {Q : Exit → Act → World → Prop} (W : World) (hgd : o.guard = none) (s x : Operand) (t : TypeId)
    (ho : o.op = .call { callee := .builtin .append, args := #[s, x], argTypes := #[t, t] }) (ht : Tryz.prog.underlying t = some (.slice 9))
    (B : Nat) (hB : B ≤ W.heap.size) (v : Value) (ss : List ByteArray) (hs : a.eval s = v) (hG : Gat B v ss W) (ts : List ByteArray) (g off c : Nat) (hx : a.eval x = .slice (some ⟨g, off, none⟩) ts.length c) (hc : ∀ i, i < ts.length → W.cell? ⟨g, off + i, none⟩ = some (.string (ts.getD i ByteArray.empty))) (hl : ss.length + ts.length ≤ 1000000)
    (h : ∀ v' w', Gat B v' (ss ++ ts) w' → W.grownBy w' v.ownBlock → wpList Tryz.prog ops Q rest (a.put o.dst v') w') : wpList Tryz.prog ops Q (o :: rest) a W := by
  obtain ⟨i0, hi, hzz⟩ := Option.map_eq_some_iff.1 info_string
  simp only [Prod.mk.injEq] at hzz
  refine wpList_append_own W hgd s x t ho B 9 i0 (.string ByteArray.empty) 1 16 ht hi hzz.1 hzz.2.1 hzz.2.2 rfl (by decide) v ss.length (ss.map Value.string) hs hG ⟨g, off, none⟩ ts.length c (ts.map Value.string) hx (by rw [List.length_map, Nat.mul_one]) (cells_many W g off ts hc) (all_string ts) (by unfold maxLen; omega) (by omega) hB ?_
  intro v' w' h2 h3 _
  refine h v' w' ?_ h3
  unfold Gat
  rw [List.map_append, List.length_append]
  exact h2
/-- A block that holds cells of that type. -/
def Typ (w : World) (b : Nat) (T : TypeId) : Prop := ∃ cs, w.heap[b]? = some (.cells cs T (0, 0))
theorem Typ.lt {w : World} {b : Nat} {T : TypeId} (h : Typ w b T) : b < w.heap.size := by obtain ⟨cs, h⟩ := h; exact (Array.getElem?_eq_some_iff.1 h).1
theorem Typ.frame {w w' : World} {b : Nat} {T : TypeId} (h : Typ w b T) (e : w'.heap[b]? = w.heap[b]?) : Typ w' b T := by obtain ⟨cs, h⟩ := h; exact ⟨cs, e.trans h⟩
theorem Typ.kept {w w' : World} {b : Nat} {T : TypeId} (h : Typ w b T) (k : Kept w w') : Typ w' b T := h.frame (k.block b h.lt)
theorem Typ.setCell {w : World} {b : Nat} {T : TypeId} (h : Typ w b T) (g i : Nat) (v : Value) : Typ (w.setCell ⟨g, i, none⟩ v) b T := by
  obtain ⟨cs, h⟩ := h
  by_cases e : b = g
  · subst e
    exact ⟨_, heap_setCell_same w b i cs T v h⟩
  · exact ⟨cs, (heap_setCell_other w ⟨g, i, none⟩ b v e).trans h⟩
theorem Typ.new (w : World) (cs : Array Value) (T : TypeId) : Typ (w.alloc (.cells cs T)) w.heap.size T := ⟨cs, heap_alloc_new w _⟩
theorem Typ.free {w : World} {b : Nat} {T : TypeId} (h : Typ w b T) (o : Nat) : w.frozen? ⟨b, o, none⟩ = false := by
  obtain ⟨cs, h⟩ := h
  exact frozen_of_row _ _ _ _ _ h
theorem own_ne {w : World} {B : Nat} {e T : TypeId} {sz n : Nat} {v : Value} {xs : List Value} (h : w.ownsRow B e sz v n xs) {b : Nat} (hb : Typ w b T) (hne : T ≠ e) : v.ownBlock ≠ some b := by
  rcases h.2 with ⟨rfl, _⟩ | ⟨g, cap, cur, rfl, _, hg, _⟩
  · simp [Value.ownBlock]
  · intro c
    obtain rfl : g = b := by simpa [Value.ownBlock] using c
    obtain ⟨cs, hb⟩ := hb
    rw [hb] at hg
    injection hg with hg
    injection hg with _ ht _
    exact hne ht
theorem own_own {w : World} {B B' : Nat} {e e' : TypeId} {sz sz' n n' : Nat} {v v' : Value} {xs xs' : List Value} (h : w.ownsRow B e sz v n xs) (h' : w.ownsRow B' e' sz' v' n' xs') (hne : e' ≠ e) : v.ownBlock = none ∨ v.ownBlock ≠ v'.ownBlock := by
  cases hv' : v'.ownBlock with
  | none =>
    cases hv : v.ownBlock with
    | none => exact .inl rfl
    | some q => exact .inr (fun c => by cases c)
  | some g =>
    right
    rcases h'.2 with ⟨rfl, _⟩ | ⟨g', cap, cur, rfl, _, hg, _⟩
    · cases hv'
    · obtain rfl : g' = g := by simpa [Value.ownBlock] using hv'
      exact own_ne h ⟨cur, hg⟩ hne
end Go.Proofs.YtmgkkoajjdgmbaaGreatDoor

/- The program's walk over a drive's sectors: is a part the next one? -/
namespace Go.Proofs.YtmgkkoajjdgmbaaGreatDoor
open Go.RowKit Sm Wr _root_.Go.Proofs.YtmgkkoajjdgmbaaGreatDoor.Nm
set_option linter.unusedVariables false
theorem chain_part {α : Type} (x : Pt) (g n i p s : Nat) (r f : α) : (if (x.gen : Int) = (g : Int) then if (x.num : Int) = (n : Int) then if (x.idx : Int) = (i : Int) then if (x.parts : Int) = (p : Int) then if (x.sum : Int) = (s : Int) then r else f else f else f else f else f) = if (x.gen = g ∧ x.num = n ∧ x.idx = i ∧ x.parts = p ∧ x.sum = s) then r else f := by
  simp only [show ((x.gen : Int) = (g : Int)) ↔ x.gen = g from by omega, show ((x.num : Int) = (n : Int)) ↔ x.num = n from by omega, show ((x.idx : Int) = (i : Int)) ↔ x.idx = i from by omega, show ((x.parts : Int) = (p : Int)) ↔ x.parts = p from by omega, show ((x.sum : Int) = (s : Int)) ↔ x.sum = s from by omega]
  by_cases h0 : x.gen = g <;> by_cases h1 : x.num = n <;> by_cases h2 : x.idx = i <;> by_cases h3 : x.parts = p <;> by_cases h4 : x.sum = s <;> simp [h0, h1, h2, h3, h4]
theorem eqi_partD (d : Nat) (x : Pt) (g n i p s : Nat) (W : World) : (Op.equalIn (d + 1 + 1 + 1) 104 (.agg #[.int .u64 (x.gen : Nat), .int .u64 (x.num : Nat), .int .u64 (x.idx : Nat), .int .u64 (x.parts : Nat), .int .u32 (x.sum : Nat), .string x.piece]) (.agg #[.int .u64 (g : Nat), .int .u64 (n : Nat), .int .u64 (i : Nat), .int .u64 (p : Nat), .int .u32 (s : Nat), .string x.piece])).run Tryz.prog W = .ok (decide (x.gen = g ∧ x.num = n ∧ x.idx = i ∧ x.parts = p ∧ x.sum = s)) W := by
  obtain ⟨z, hz⟩ : ∃ z, z = decide (x.gen = g ∧ x.num = n ∧ x.idx = i ∧ x.parts = p ∧ x.sum = s) := ⟨_, rfl⟩
  rw [← hz]
  have HZ := Lib.hid hz
  clear hz
  go_simp
  rw [chain_part, HZ.out]
  by_cases hc : x.gen = g ∧ x.num = n ∧ x.idx = i ∧ x.parts = p ∧ x.sum = s
  · rw [if_pos hc, decide_eq_true hc]
  · rw [if_neg hc, decide_eq_false hc]
theorem eql_part (x : Pt) (g n i p s : Nat) (W : World) : (Op.equalIn 10000 104 (.agg #[.int .u64 (x.gen : Nat), .int .u64 (x.num : Nat), .int .u64 (x.idx : Nat), .int .u64 (x.parts : Nat), .int .u32 (x.sum : Nat), .string x.piece]) (.agg #[.int .u64 (g : Nat), .int .u64 (n : Nat), .int .u64 (i : Nat), .int .u64 (p : Nat), .int .u32 (s : Nat), .string x.piece])).run Tryz.prog W = .ok (decide (x.gen = g ∧ x.num = n ∧ x.idx = i ∧ x.parts = p ∧ x.sum = s)) W := eqi_partD 9997 x g n i p s W
theorem But.drewT {b : Nat} {u w : World} (h : But b u w) : But b u w.drew := ⟨h.os, h.tape, h.output, h.size, h.block⟩
theorem PtAt.set34 {w : World} {b : Nat} {y : Pt} (h : PtAt w b 0 y) (p s : Nat) : PtAt ((w.setCell ⟨b, 3, none⟩ (.int .u64 (p : Nat))).setCell ⟨b, 4, none⟩ (.int .u32 (s : Nat))) b 0 ⟨y.gen, y.num, y.idx, p, s, y.piece⟩ := by
  obtain ⟨c0, c1, c2, c3, c4, c5⟩ := h
  refine ⟨?_, ?_, ?_, ?_, ?_, ?_⟩
  · repeat rw [pt_off _ _ _ _ _ (by decide)]
    exact c0
  · repeat rw [pt_off _ _ _ _ _ (by decide)]
    exact c1
  · repeat rw [pt_off _ _ _ _ _ (by decide)]
    exact c2
  · rw [pt_off _ _ _ _ _ (by decide)]
    exact World.cell?_setCell_same _ _ _ c3
  · exact World.cell?_setCell_same _ _ _ (by rw [pt_off _ _ _ _ _ (by decide)]; exact c4)
  · repeat rw [pt_off _ _ _ _ _ (by decide)]
    exact c5
/-- The walk lies in block b, its rows from B on. -/
structure WkAt (B b gen : Nat) (k : Wk) (w : World) : Prop where
  ty : Typ w b 112
  c0 : w.cell? ⟨b, 0, none⟩ = some (.int .u64 (gen : Nat))
  t : ∃ v, w.cell? ⟨b, 1, none⟩ = some v ∧ Gat B v k.texts w
  o : ∃ v, w.cell? ⟨b, 2, none⟩ = some v ∧ GatP B v k.op w
theorem WkAt.kept {B b gen : Nat} {k : Wk} {w w' : World} (h : WkAt B b gen k w) (e : Kept w w') : WkAt B b gen k w' := by
  have ce : ∀ o, w'.cell? ⟨b, o, none⟩ = w.cell? ⟨b, o, none⟩ := fun o => World.cell?_of_block (w := w) (a := ⟨b, o, none⟩) (e.block b h.ty.lt)
  obtain ⟨v, h1, h2⟩ := h.t
  obtain ⟨u, h3, h4⟩ := h.o
  exact ⟨h.ty.kept e, by rw [ce]; exact h.c0, ⟨v, by rw [ce]; exact h1, h2.kept e⟩, ⟨u, by rw [ce]; exact h3, h4.kept e⟩⟩
theorem GatP.len {B : Nat} {v : Value} {xs : List Pt} {w : World} (h : GatP B v xs w) : ∃ a cap, v = .slice a xs.length cap := by
  rcases h.2 with ⟨rfl, h2⟩ | ⟨g, cap, cur, rfl, _⟩
  · exact ⟨none, 0, by rw [h2]⟩
  · exact ⟨_, cap, rfl⟩
set_option maxRecDepth 100000 in
set_option maxHeartbeats 1000000 in
theorem goes_any (B b gen : Nat) (k : Wk) (x : Pt) (w : World) (h : WkAt B b gen k w) (ht : k.texts.length ≤ 1000000) (ho : k.op.length ≤ 1000000) :
    Calls Tryz.prog 78 #[.pointer (some ⟨b, 0, none⟩), x.val] w fun e w' => e = .returned (.bool (k.goes gen x)) ∧ Kept w w' := by
  have H := Lib.hid h
  obtain ⟨ty, c0, ⟨vt, c1, ht1⟩, ⟨vo, c2, ho1⟩⟩ := h
  obtain ⟨at', ct, rfl, _⟩ := ht1.strs
  obtain ⟨ao, co, rfl⟩ := ho1.len
  have hw1 : IntKind.u64.wrap (k.texts.length : Int) = (k.texts.length : Int) := IntWalk.u64_in _ (by omega)
  have hw2 : IntKind.u64.wrap (k.op.length : Int) = (k.op.length : Int) := IntWalk.u64_in _ (by omega)
  have HE := Lib.hid (fun g n i p s W => eql_part x g n i p s W)
  have HG : Hid (∀ p s, (∀ y ∈ k.op.head?, y.parts = p ∧ y.sum = s) → (k.op = [] → p = x.parts ∧ s = x.sum) → decide (x.gen = gen ∧ x.num = k.texts.length ∧ x.idx = k.op.length ∧ x.parts = p ∧ x.sum = s) = k.goes gen x) := fun p s h1 h2 => by
    unfold Wk.goes
    congr 1
    cases hop : k.op with
    | nil => rw [hop] at h2; obtain ⟨rfl, rfl⟩ := h2 rfl; simp
    | cons y r =>
      rw [hop] at h1
      obtain ⟨rfl, rfl⟩ := h1 y rfl
      simp
  have HPT : Hid (0 < k.op.length → ∃ q, ao = some ⟨q, 0, none⟩ ∧ k.op.length ≤ co ∧ ∃ y, k.op.head? = some y ∧ PtAt w q 0 y) := fun h0 => by
    obtain ⟨q, cap, e, _, _, hcap, _, hp⟩ := ho1.at h0
    injection e with e1 _ e2
    refine ⟨q, e1, by omega, k.op[0], ?_, ?_⟩
    · rw [List.head?_eq_getElem?, List.getElem?_eq_getElem h0]
    · have := hp 0 h0; rw [Nat.zero_mul] at this; exact this
  have hkn : ∀ (W : World), Kept w W → W.cell? ⟨b, 0, none⟩ = some (.int .u64 (gen : Nat)) ∧ W.cell? ⟨b, 1, none⟩ = some (.slice at' k.texts.length ct) ∧ W.cell? ⟨b, 2, none⟩ = some (.slice ao k.op.length co) := fun W kk => by
    have ce : ∀ o, W.cell? ⟨b, o, none⟩ = w.cell? ⟨b, o, none⟩ := fun o => World.cell?_of_block (w := w) (a := ⟨b, o, none⟩) (kk.block b ty.lt)
    exact ⟨by rw [ce]; exact c0, by rw [ce]; exact c1, by rw [ce]; exact c2⟩
  have HKN := Lib.hid hkn
  have hpt := PtAt.laid w 104 x
  have HPX := Lib.hid hpt
  have K0 : Hid (Kept w (w.alloc (.cells #[.int .u64 (x.gen : Nat), .int .u64 (x.num : Nat), .int .u64 (x.idx : Nat), .int .u64 (x.parts : Nat), .int .u32 (x.sum : Nat), .string x.piece] 104))) := (Kept.refl _).alloc _
  generalize k.goes gen x = R at *
  unfold Pt.val
  clear ty c0 c1 c2 ht1 ho1 hkn hpt H ht ho
  generalize k.texts.length = nt at *
  obtain ⟨no, hno⟩ : ∃ no, no = k.op.length := ⟨_, rfl⟩
  have HNO : Hid (no = 0 → k.op = []) := fun e => List.length_eq_zero_iff.1 (by omega)
  rw [← hno] at HG HPT HKN hw2
  clear hno
  go_enter Tryz.func78, Tryz.ntmps78
  go_upto_region 1 with fail
  generalize w.alloc (.cells #[.int .u64 (x.gen : Nat), .int .u64 (x.num : Nat), .int .u64 (x.idx : Nat), .int .u64 (x.parts : Nat), .int .u32 (x.sum : Nat), .string x.piece] 104) = W at *
  obtain ⟨k0, k1, k2⟩ := HKN.out W K0.out
  obtain ⟨p0, p1, p2, p3, p4, p5⟩ := HPX.out
  have hkk : ∀ W', Kept W W' → W'.cell? ⟨b, 0, none⟩ = some (.int .u64 (gen : Nat)) ∧ W'.cell? ⟨b, 1, none⟩ = some (.slice at' nt ct) ∧ W'.cell? ⟨b, 2, none⟩ = some (.slice ao no co) ∧ W'.cell? ⟨w.heap.size, 3, none⟩ = some (.int .u64 (x.parts : Nat)) ∧ W'.cell? ⟨w.heap.size, 4, none⟩ = some (.int .u32 (x.sum : Nat)) ∧ W'.cell? ⟨w.heap.size, 5, none⟩ = some (.string x.piece) := fun W' kk => by
    have q := HPX.out.kept kk
    obtain ⟨a0, a1, a2⟩ := HKN.out W' (K0.out.trans kk)
    exact ⟨a0, a1, a2, q.c3, q.c4, q.c5⟩
  have HKK := Lib.hid hkk
  clear hkk
  have HKD : Hid (Kept W W.drew) := (Kept.refl W).drew
  go_region_held3 (fun W' => W'.cell? ⟨b, 0, none⟩ = some (.int .u64 (gen : Nat)) ∧ W'.cell? ⟨b, 1, none⟩ = some (.slice at' nt ct) ∧ W'.cell? ⟨b, 2, none⟩ = some (.slice ao no co) ∧ W'.cell? ⟨w.heap.size, 3, none⟩ = some (.int .u64 (x.parts : Nat)) ∧ W'.cell? ⟨w.heap.size, 4, none⟩ = some (.int .u32 (x.sum : Nat)) ∧ W'.cell? ⟨w.heap.size, 5, none⟩ = some (.string x.piece))
    (first | exact ⟨k0, k1, k2, p3, p4, p5⟩ | exact HKK.out _ HKD.out | exact HKK.out _ (HKD.out.alloc _) | exact HKK.out _ ((HKD.out.alloc _).setCell (by first | exact Nat.le_refl _ | (simp)) _))
    (fail)
  have hN0 := (PtNew.laid W 104 ⟨gen, nt, no, x.parts, x.sum, x.piece⟩).kept ((Kept.refl _).drew)
  have hKW : Kept W (W.alloc (.cells #[.int .u64 (gen : Nat), .int .u64 (nt : Nat), .int .u64 (no : Nat), .int .u64 (x.parts : Nat), .int .u32 (x.sum : Nat), .string x.piece] 104)).drew := ((Kept.refl W).alloc _).drew
  have HN0 := Lib.hid hN0
  have HX1 := Lib.hid (HPX.out.kept hKW)
  have K1 : Hid (Kept w (W.alloc (.cells #[.int .u64 (gen : Nat), .int .u64 (nt : Nat), .int .u64 (no : Nat), .int .u64 (x.parts : Nat), .int .u32 (x.sum : Nat), .string x.piece] 104)).drew) := K0.out.trans hKW
  have hGW : w.heap.size < W.heap.size := HPX.out.lt
  dsimp only at HN0
  clear hN0 hKW k0 k1 k2 p0 p1 p2 p3 p4 p5 HKK HKD HPX K0
  generalize (W.alloc (.cells #[.int .u64 (gen : Nat), .int .u64 (nt : Nat), .int .u64 (no : Nat), .int .u64 (x.parts : Nat), .int .u32 (x.sum : Nat), .string x.piece] 104)).drew = W1 at *
  generalize W.heap.size = G at *
  by_cases h0 : no = 0
  · have b0 : decide ((0 : Int) < (no : Int)) = false := decide_eq_false (by omega)
    have hno' := HNO.out h0
    have HNN := Lib.hid hno'
    have hn0 : ¬ (0 < no) := by omega
    clear hno' h0
    obtain ⟨n0, n1, n2, n3, n4, n5⟩ := HN0.out.at'
    obtain ⟨x0, x1, x2, x3, x4, x5⟩ := HX1.out
    have hr : decide (x.gen = gen ∧ x.num = nt ∧ x.idx = no) = R := by
      rw [← HG.out x.parts x.sum (by rw [HNN.out]; intro y hy; cases hy) (fun _ => ⟨rfl, rfl⟩)]
      congr 1
      simp
    have HR := Lib.hid hr
    clear hr
    clear HE
    go_wp2_with fail
    all_goals
      go_ret
      first
        | (have hz : decide (x.gen = gen ∧ x.num = nt ∧ x.idx = no) = true := decide_eq_true (by omega)
           rw [← HR.out, hz]
           exact ⟨rfl, K1.out⟩)
        | (have hz : decide (x.gen = gen ∧ x.num = nt ∧ x.idx = no) = false := decide_eq_false (by omega)
           rw [← HR.out, hz]
           exact ⟨rfl, K1.out⟩)
  · have b0 : decide ((0 : Int) < (no : Int)) = true := decide_eq_true (by omega)
    obtain ⟨q, rfl, hcap, y, hy, hpy⟩ := HPT.out (by omega)
    have hpy1 := hpy.kept K1.out
    obtain ⟨y0, y1, y2, y3, y4, y5⟩ := hpy1
    obtain ⟨n0, n1, n2, n3, n4, n5⟩ := HN0.out.at'
    obtain ⟨k0, k1, k2⟩ := HKN.out W1 K1.out
    have hqlt : q < w.heap.size := hpy.lt
    have hp0 : 0 < no := by omega
    have hr := HG.out y.parts y.sum (by rw [hy]; intro z hz; cases hz; exact ⟨rfl, rfl⟩) (fun e => by rw [e] at hy; cases hy)
    have HR := Lib.hid hr
    have HFR := Lib.hid HN0.out.fr
    have f3 := HN0.out.fr 3
    have f4 := HN0.out.fr 4
    clear hr hy hpy
    generalize y.parts = yp at *
    generalize y.sum = ys at *
    have HPUT := Lib.hid ((HN0.out.put ⟨gen, nt, no, yp, ys, x.piece⟩))
    go_upto_region 3 with fail
    have hbl : b < w.heap.size := Nat.lt_of_not_le fun hc => by
      have h1 := HKN.out w (Kept.refl w)
      have := block_lt_of_cell h1.1
      dsimp only at this
      omega
    have HKK : Hid (∀ W', But G W1 W' → W'.cell? ⟨b, 2, none⟩ = some (.slice (some ⟨q, 0, none⟩) no co) ∧ W'.cell? ⟨q, 3, none⟩ = some (.int .u64 (yp : Nat)) ∧ W'.cell? ⟨q, 4, none⟩ = some (.int .u32 (ys : Nat))) := fun W' kk => by
      have hl1 : q < W1.heap.size := block_lt_of_cell y3
      have hl2 : b < W1.heap.size := block_lt_of_cell k2
      exact ⟨by rw [kk.cell (p := ⟨b, 2, none⟩) hl2 (by show b ≠ G; omega)]; exact k2, by rw [kk.cell (p := ⟨q, 3, none⟩) hl1 (by show q ≠ G; omega)]; exact y3, by rw [kk.cell (p := ⟨q, 4, none⟩) hl1 (by show q ≠ G; omega)]; exact y4⟩
    have hbd : But G W1 W1.drew := (But.refl G W1).drewT
    have HBD := Lib.hid hbd
    have hbr := But.refl G W1
    have hno : (0 : Int) < (no : Int) := by omega
    have hno1 : (1 : Int) ≤ (no : Int) := by omega
    clear hbd y0 y1 y2 y5 n0 n1 n2 n5 HPT HG
    go_region_held3 (fun W' => W'.cell? ⟨b, 2, none⟩ = some (.slice (some ⟨q, 0, none⟩) no co) ∧ W'.cell? ⟨q, 3, none⟩ = some (.int .u64 (yp : Nat)) ∧ W'.cell? ⟨q, 4, none⟩ = some (.int .u32 (ys : Nat)))
      (first | exact HKK.out _ hbr | exact HKK.out _ HBD.out | exact HKK.out _ (HBD.out.setCell _ _) | exact HKK.out _ ((HBD.out.setCell _ _).setCell _ _))
      (fail)
    have hn2 := HN0.out.at'.set34 yp ys
    have kk2 : But G W1 (((W1.setCell ⟨G, 3, none⟩ (.int .u64 (yp : Nat))).setCell ⟨G, 4, none⟩ (.int .u32 (ys : Nat))).drew) := (((But.refl G W1).setCell 3 _).setCell 4 _).drewT
    have hx2 := HX1.out.but kk2 (by omega)
    have K2 : Hid (Kept w (((W1.setCell ⟨G, 3, none⟩ (.int .u64 (yp : Nat))).setCell ⟨G, 4, none⟩ (.int .u32 (ys : Nat))).drew)) := But.kept K1.out (by omega) kk2
    replace hn2 := hn2.kept ((Kept.refl _).drew)
    clear kk2 hbr HBD HKK n3 n4 y3 y4 k0 k1 k2 f3 f4 HFR HPUT HN0 HX1 K1
    generalize (((W1.setCell ⟨G, 3, none⟩ (.int .u64 (yp : Nat))).setCell ⟨G, 4, none⟩ (.int .u32 (ys : Nat))).drew) = W2 at *
    dsimp only at hn2
    obtain ⟨n0, n1, n2, n3, n4, n5⟩ := hn2
    dsimp only at n0 n1 n2 n3 n4 n5
    obtain ⟨x0, x1, x2, x3, x4, x5⟩ := hx2
    clear HE
    go_wp2_with fail
    all_goals
      go_ret
      first
        | (have hz : decide (x.gen = gen ∧ x.num = nt ∧ x.idx = no ∧ x.parts = yp ∧ x.sum = ys) = true := decide_eq_true (by omega)
           rw [← HR.out, hz]
           exact ⟨rfl, K2.out⟩)
        | (have hz : decide (x.gen = gen ∧ x.num = nt ∧ x.idx = no ∧ x.parts = yp ∧ x.sum = ys) = false := decide_eq_false (by omega)
           rw [← HR.out, hz]
           exact ⟨rfl, K2.out⟩)
end Go.Proofs.YtmgkkoajjdgmbaaGreatDoor

