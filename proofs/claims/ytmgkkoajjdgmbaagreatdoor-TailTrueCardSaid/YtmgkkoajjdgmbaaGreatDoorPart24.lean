/- A slice of texts that the call itself has gathered, by append. -/
import Derived.Test.YtmgkkoajjdgmbaaGreatDoorPart1
import Derived.Test.YtmgkkoajjdgmbaaGreatDoorPart2
set_option linter.unusedVariables false
set_option linter.unusedSimpArgs false
set_option linter.unusedSectionVars false
set_option linter.unnecessarySimpa false
set_option linter.deprecated false
namespace Go.Proofs.YtmgkkoajjdgmbaaGreatDoor
open Go.RowKit
set_option linter.unusedVariables false
/-- The value v is a slice of just the texts ss, nil or in a row among the blocks from B on. -/
def Gat (B : Nat) (v : Value) (ss : List ByteArray) (w : World) : Prop := w.ownsRow B 9 1 v ss.length (ss.map Value.string)
theorem Gat.nil (B : Nat) (w : World) : Gat B (.slice none 0 0) [] w := World.ownsRow_nil _ _ _ _
theorem Gat.kept {B : Nat} {v : Value} {ss : List ByteArray} {w w' : World} (h : Gat B v ss w) (k : Kept w w') : Gat B v ss w' := by
  obtain ⟨h1, h2⟩ := h
  refine ⟨h1, ?_⟩
  rcases h2 with h2 | ⟨g, cap, cur, h2, h3, h4, h5⟩
  · exact .inl h2
  · exact .inr ⟨g, cap, cur, h2, h3, by rw [k.block g (Array.getElem?_eq_some_iff.1 h4).1]; exact h4, h5⟩
theorem Gat.strs {B : Nat} {v : Value} {ss : List ByteArray} {w : World} (h : Gat B v ss w) : ∃ a cap, v = .slice a ss.length cap ∧ Strs w a ss := by
  obtain ⟨h1, h2⟩ := h
  rcases h2 with ⟨rfl, h2⟩ | ⟨g, cap, cur, rfl, h3, h4, h5, h6, h7, h8⟩
  · exact ⟨none, 0, by rw [h2], .inl (List.length_eq_zero_iff.1 h2)⟩
  · refine ⟨_, cap, rfl, .inr ⟨g, 0, rfl, fun i hi => ?_⟩⟩
    rw [Nat.zero_add, cell_of_row _ _ i _ _ _ h4]
    have e : (cur.toList.take (ss.length * 1))[i]? = (ss.map Value.string)[i]? := by rw [h8]
    rw [List.getElem?_take_of_lt (by omega)] at e
    rw [← Array.getElem?_toList, e, List.getElem?_map, List.getD_eq_getElem?_getD, List.getElem?_eq_getElem hi]
    rfl
theorem Gat.lt {B : Nat} {v : Value} {ss : List ByteArray} {w : World} (h : Gat B v ss w) : ∀ k, v.ownBlock = some k → B ≤ k ∧ k < w.heap.size := World.ownsRow.lt h
theorem Kept.grownBy {a w w' : World} {v : Value} {ss : List ByteArray} (h : Kept a w) (hg : w.grownBy w' v.ownBlock) (ho : Gat a.heap.size v ss w) : Kept a w' :=
  Below.grown h hg h.size (fun k hk => (ho.lt k hk).1)
theorem cell_new (w : World) (s : ByteArray) (t : TypeId) : ∀ j u, [Value.string s][j]? = some u → (w.alloc (.cells #[.string s] t)).cell? ((⟨w.heap.size, 0, none⟩ : Addr).add j) = some u := by
  intro j u hj
  match j, hj with
  | 0, hj =>
    simp at hj
    subst hj
    rw [add_at, World.cell?_alloc_mark]
    rfl
theorem one_string (s : ByteArray) : ∀ u ∈ [Value.string s], u.oneCell' = true := by
  intro u hu
  simp at hu
  subst hu
  rfl
/-- What an append of one text leaves. -/
theorem Gat.snoc {a w1 w2 : World} {v v2 : Value} {ss : List ByteArray} {s : ByteArray} (ho : Gat a.heap.size v ss w1) (hk : Kept a w1) (h2 : w2.ownsRow a.heap.size 9 1 v2 (ss.length + 1) (ss.map Value.string ++ [.string s])) (hg : w1.grownBy w2 v.ownBlock) : Gat a.heap.size v2 (ss ++ [s]) w2 ∧ Kept a w2 := by
  refine ⟨?_, Kept.grownBy hk hg ho⟩
  unfold Gat
  rw [List.map_append, List.length_append]
  exact h2
theorem info_string : (Tryz.prog.info? 9).map (fun i => (i.zero, i.size, i.bytes)) = some (some (.string ByteArray.empty), 1, 16) := by kernel_rfl
theorem cell_one (W : World) (g : Nat) (s : ByteArray) (h : W.cell? ⟨g, 0, none⟩ = some (.string s)) : ∀ j u, [Value.string s][j]? = some u → W.cell? ((⟨g, 0, none⟩ : Addr).add j) = some u := by
  intro j u hj
  match j, hj with
  | 0, hj =>
    simp at hj
    subst hj
    rw [add_at]
    exact h
/-- An append of one text, as a walk meets it. -/
theorem wpList_gat {ops : Array Oper} {rest : List Oper} {o : Oper} {a : Act} {Q : Exit → Act → World → Prop} (W : World) (hgd : o.guard = none) (s x : Operand) (t : TypeId)
    (ho : o.op = .call { callee := .builtin .append, args := #[s, x], argTypes := #[t, t] }) (ht : Tryz.prog.underlying t = some (.slice 9))
    (w0 : World) (v : Value) (ss : List ByteArray) (hs : a.eval s = v) (hG : Gat w0.heap.size v ss W) (hK : Kept w0 W) (str : ByteArray) (g : Nat) (hx : a.eval x = .slice (some ⟨g, 0, none⟩) 1 1) (hc : W.cell? ⟨g, 0, none⟩ = some (.string str)) (hl : ss.length ≤ 1000000000)
    (h : ∀ v' w', Gat w0.heap.size v' (ss ++ [str]) w' → Kept w0 w' → wpList Tryz.prog ops Q rest (a.put o.dst v') w') : wpList Tryz.prog ops Q (o :: rest) a W := by
  obtain ⟨i0, hi, hzz⟩ := Option.map_eq_some_iff.1 info_string
  simp only [Prod.mk.injEq] at hzz
  refine wpList_append_own W hgd s x t ho w0.heap.size 9 i0 (.string ByteArray.empty) 1 16 ht hi hzz.1 hzz.2.1 hzz.2.2 rfl (by decide) v ss.length (ss.map Value.string) hs hG ⟨g, 0, none⟩ 1 1 [.string str] hx rfl (cell_one W g str hc) (one_string str) (by unfold maxLen; omega) (by omega) hK.size ?_
  intro v' w' h2 h3 _
  obtain ⟨h4, h5⟩ := Gat.snoc hG hK h2 h3
  exact h v' w' h4 h5
theorem cells_many (W : World) (g o : Nat) (ts : List ByteArray) (h : ∀ i, i < ts.length → W.cell? ⟨g, o + i, none⟩ = some (.string (ts.getD i ByteArray.empty))) : ∀ j u, (ts.map Value.string)[j]? = some u → W.cell? ((⟨g, o, none⟩ : Addr).add j) = some u := by
  intro j u hj
  rw [List.getElem?_map] at hj
  by_cases hjl : j < ts.length
  · rw [List.getElem?_eq_getElem hjl] at hj
    have h2 := h j hjl
    rw [List.getD_eq_getElem?_getD, List.getElem?_eq_getElem hjl] at h2
    rw [Go.WideShapes.add_plain, h2]
    exact hj
  · rw [List.getElem?_eq_none (by omega)] at hj
    cases hj
theorem all_string (ts : List ByteArray) : ∀ u ∈ ts.map Value.string, u.oneCell' = true := by
  intro u hu
  obtain ⟨s, _, rfl⟩ := List.mem_map.1 hu
  rfl
/-- An append of a slice of texts, as a walk meets it. -/
theorem wpList_gats {ops : Array Oper} {rest : List Oper} {o : Oper} {a : Act} {Q : Exit → Act → World → Prop} (W : World) (hgd : o.guard = none) (s x : Operand) (t : TypeId)
    (ho : o.op = .call { callee := .builtin .append, args := #[s, x], argTypes := #[t, t] }) (ht : Tryz.prog.underlying t = some (.slice 9))
    (w0 : World) (v : Value) (ss : List ByteArray) (hs : a.eval s = v) (hG : Gat w0.heap.size v ss W) (hK : Kept w0 W) (ts : List ByteArray) (g off c : Nat) (hx : a.eval x = .slice (some ⟨g, off, none⟩) ts.length c) (hc : ∀ i, i < ts.length → W.cell? ⟨g, off + i, none⟩ = some (.string (ts.getD i ByteArray.empty))) (hl : ss.length + ts.length ≤ 1000000000)
    (h : ∀ v' w', Gat w0.heap.size v' (ss ++ ts) w' → Kept w0 w' → wpList Tryz.prog ops Q rest (a.put o.dst v') w') : wpList Tryz.prog ops Q (o :: rest) a W := by
  obtain ⟨i0, hi, hzz⟩ := Option.map_eq_some_iff.1 info_string
  simp only [Prod.mk.injEq] at hzz
  refine wpList_append_own W hgd s x t ho w0.heap.size 9 i0 (.string ByteArray.empty) 1 16 ht hi hzz.1 hzz.2.1 hzz.2.2 rfl (by decide) v ss.length (ss.map Value.string) hs hG ⟨g, off, none⟩ ts.length c (ts.map Value.string) hx (by rw [List.length_map, Nat.mul_one]) (cells_many W g off ts hc) (all_string ts) (by unfold maxLen; omega) (by omega) hK.size ?_
  intro v' w' h2 h3 _
  refine h v' w' ?_ (Kept.grownBy hK h3 hG)
  unfold Gat
  rw [List.map_append, List.length_append]
  exact h2
/-- A slice of no texts that was made just now. -/
theorem Gat.made {w0 w : World} (k : Kept w0 w) : Gat w0.heap.size (.slice (some ⟨w.heap.size, 0, none⟩) 0 0) [] (w.alloc (.cells #[] 9)) := World.ownsRow_made w #[] 0 k.size (Nat.zero_le _) rfl
end Go.Proofs.YtmgkkoajjdgmbaaGreatDoor
