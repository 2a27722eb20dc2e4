/- A slice of ints that the call itself has gathered, by append. -/
import Derived.Test.YtmgkkoajjdgmbaaGreatDoorPart25
import Derived.Test.YtmgkkoajjdgmbaaGreatDoorPart2
import Derived.OwnWalk
set_option linter.unusedVariables false
set_option linter.unusedSimpArgs false
set_option linter.unusedSectionVars false
set_option linter.unnecessarySimpa false
set_option linter.deprecated false
namespace Go.Proofs.YtmgkkoajjdgmbaaGreatDoor
open Go.RowKit
set_option linter.unusedVariables false
/-- The value v is a slice of just the ints rs, nil or in a row among the blocks from B on. -/
def GatI (B : Nat) (v : Value) (rs : List Int) (w : World) : Prop := w.ownsRow B 3 1 v rs.length (rs.map (Value.int .i64))
theorem GatI.nil (B : Nat) (w : World) : GatI B (.slice none 0 0) [] w := World.ownsRow_nil _ _ _ _
theorem GatI.kept {B : Nat} {v : Value} {rs : List Int} {w w' : World} (h : GatI B v rs w) (k : Kept w w') : GatI B v rs w' := by
  obtain ⟨h1, h2⟩ := h
  refine ⟨h1, ?_⟩
  rcases h2 with h2 | ⟨g, cap, cur, h2, h3, h4, h5⟩
  · exact .inl h2
  · exact .inr ⟨g, cap, cur, h2, h3, by rw [k.block g (Array.getElem?_eq_some_iff.1 h4).1]; exact h4, h5⟩
theorem GatI.ints {B : Nat} {v : Value} {rs : List Int} {w : World} (h : GatI B v rs w) : ∃ a cap, v = .slice a rs.length cap ∧ Ints .i64 w a rs := by
  obtain ⟨h1, h2⟩ := h
  rcases h2 with ⟨rfl, h2⟩ | ⟨g, cap, cur, rfl, h3, h4, h5, h6, h7, h8⟩
  · exact ⟨none, 0, by rw [h2], .inl (List.length_eq_zero_iff.1 h2)⟩
  · refine ⟨_, cap, rfl, .inr ⟨g, 0, rfl, fun i hi => ?_⟩⟩
    rw [Nat.zero_add, cell_of_row _ _ i _ _ _ h4]
    have e : (cur.toList.take (rs.length * 1))[i]? = (rs.map (Value.int .i64))[i]? := by rw [h8]
    rw [List.getElem?_take_of_lt (by omega)] at e
    rw [← Array.getElem?_toList, e, List.getElem?_map, List.getElem?_eq_getElem hi, ← nthI_get rs i hi]
    rfl
theorem info_int : (Tryz.prog.info? 3).map (fun i => (i.zero, i.size, i.bytes)) = some (some (.int .i64 0), 1, 8) := by kernel_rfl
theorem cell_int (W : World) (g : Nat) (r : Int) (h : W.cell? ⟨g, 0, none⟩ = some (.int .i64 r)) : ∀ j u, [Value.int .i64 r][j]? = some u → W.cell? ((⟨g, 0, none⟩ : Addr).add j) = some u := by
  intro j u hj
  match j, hj with
  | 0, hj =>
    simp at hj
    subst hj
    rw [add_at]
    exact h
/-- An append of one int, as a walk meets it. -/
theorem wpList_gati {ops : Array Oper} {rest : List Oper} {o : Oper} {a : Act} {Q : Exit → Act → World → Prop} (W : World) (hgd : o.guard = none) (s x : Operand)
    (ho : o.op = .call { callee := .builtin .append, args := #[s, x], argTypes := #[50, 50] })
    (w0 : World) (v : Value) (rs : List Int) (hs : a.eval s = v) (hG : GatI w0.heap.size v rs W) (hK : Kept w0 W) (r : Int) (g : Nat) (hx : a.eval x = .slice (some ⟨g, 0, none⟩) 1 1) (hc : W.cell? ⟨g, 0, none⟩ = some (.int .i64 r)) (hl : rs.length ≤ 1000000000)
    (h : ∀ v' w', GatI w0.heap.size v' (rs ++ [r]) w' → Kept w0 w' → wpList Tryz.prog ops Q rest (a.put o.dst v') w') : wpList Tryz.prog ops Q (o :: rest) a W := by
  obtain ⟨i0, hi, hzz⟩ := Option.map_eq_some_iff.1 info_int
  simp only [Prod.mk.injEq] at hzz
  refine wpList_append_own W hgd s x 50 ho w0.heap.size 3 i0 (.int .i64 0) 1 8 Tryz.underlying50 hi hzz.1 hzz.2.1 hzz.2.2 rfl (by decide) v rs.length (rs.map (Value.int .i64)) hs hG ⟨g, 0, none⟩ 1 1 [.int .i64 r] hx rfl (cell_int W g r hc) (fun u hu => by simp at hu; subst hu; rfl) (by unfold maxLen; omega) (by omega) hK.size ?_
  intro v' w' h2 h3 _
  refine h v' w' ?_ (Below.grown hK h3 hK.size (fun k hk => (World.ownsRow.lt hG k hk).1))
  unfold GatI
  rw [List.map_append, List.length_append]
  exact h2
end Go.Proofs.YtmgkkoajjdgmbaaGreatDoor
