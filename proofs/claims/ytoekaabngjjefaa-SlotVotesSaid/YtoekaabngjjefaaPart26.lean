/- A slice of roots that the call itself has gathered, by append. -/
import Derived.Test.YtoekaabngjjefaaPart21
import Derived.Test.YtoekaabngjjefaaPart22
import Derived.Test.YtoekaabngjjefaaPart2
import Derived.Deep.DeepAppendWide
namespace Go.Proofs.Ytoekaabngjjefaa
open Go.RowKit Sm Wr _root_.Go.Proofs.Ytoekaabngjjefaa.Nm
set_option linter.unusedVariables false
def rtCells (x : Rt) : List Value := [.int .u64 (x.gen : Nat), .int .u64 (x.nxt : Nat), .int .i64 x.row, .int .u64 (x.st : Nat), .int .i64 x.len]
theorem rtCells_one (x : Rt) : ∀ u ∈ rtCells x, u.oneCell' = true := by
  intro u hu
  unfold rtCells at hu
  simp only [List.mem_cons, List.not_mem_nil, or_false] at hu
  rcases hu with rfl | rfl | rfl | rfl | rfl <;> rfl
def GatR (B : Nat) (v : Value) (xs : List Rt) (w : World) : Prop := w.ownsRow B 26 5 v xs.length (xs.flatMap rtCells)
theorem GatR.nil (B : Nat) (w : World) : GatR B (.slice none 0 0) [] w := World.ownsRow_nil _ _ _ _
theorem GatR.kept {B : Nat} {v : Value} {xs : List Rt} {w w' : World} (h : GatR B v xs w) (k : Kept w w') : GatR B v xs w' := by
  obtain ⟨h1, h2⟩ := h
  refine ⟨h1, ?_⟩
  rcases h2 with h2 | ⟨g, cap, cur, h2, h3, h4, h5⟩
  · exact .inl h2
  · exact .inr ⟨g, cap, cur, h2, h3, by rw [k.block g (Array.getElem?_eq_some_iff.1 h4).1]; exact h4, h5⟩
theorem GatR.lt {B : Nat} {v : Value} {xs : List Rt} {w : World} (h : GatR B v xs w) : ∀ k, v.ownBlock = some k → B ≤ k ∧ k < w.heap.size := World.ownsRow.lt h
theorem infoR_root : (Try.prog.info? 26).map (fun i => (i.zero, i.size, i.bytes)) = some (some (.agg #[.int .u64 0, .int .u64 0, .int .i64 0, .int .u64 0, .int .i64 0]), 5, 40) := by kernel_rfl
theorem GatR.two {B : Nat} {v : Value} {x y : Rt} {w : World} (h : GatR B v [x, y] w) : ∃ q cap, v = .slice (some ⟨q, 0, none⟩) 2 cap ∧ B ≤ q ∧ RtIn w q 0 x ∧ RtIn w q 5 y := by
  obtain ⟨h1, h2⟩ := h
  rcases h2 with ⟨_, h2⟩ | ⟨g, cap, cur, rfl, h3, h4, h5, h6, h7, h8⟩
  · cases h2
  · refine ⟨g, cap, rfl, h3, ?_, ?_⟩
    all_goals
      have hc : ∀ i, i < 10 → w.cell? ⟨g, i, none⟩ = ([x, y].flatMap rtCells)[i]? := fun i hi => by
        have e : (cur.toList.take (2 * 5))[i]? = ([x, y].flatMap rtCells)[i]? := by rw [show 2 = [x, y].length from rfl, h8]
        rw [List.getElem?_take_of_lt (by omega)] at e
        rw [← e, World.cell?]
        simp [h4]
      constructor
      all_goals (rw [hc _ (by omega)]; rfl)
theorem new_cells (W : World) (x : Rt) (T : TypeId) : ∀ j u, (rtCells x)[j]? = some u → (W.alloc (.cells #[.int .u64 (x.gen : Nat), .int .u64 (x.nxt : Nat), .int .i64 x.row, .int .u64 (x.st : Nat), .int .i64 x.len] T)).cell? ((⟨W.heap.size, 0, none⟩ : Addr).add j) = some u := by
  intro j u hj
  rw [add_zero_addr, World.cell?_alloc_mark]
  unfold rtCells at hj
  show (#[Value.int .u64 (x.gen : Nat), .int .u64 (x.nxt : Nat), .int .i64 x.row, .int .u64 (x.st : Nat), .int .i64 x.len] : Array Value)[j]? = some u
  rw [← hj, ← List.getElem?_toArray]
/-- An append of one root, as a walk meets it. -/
theorem wpList_gatR {ops : Array Oper} {rest : List Oper} {o : Oper} {a : Act} {Q : Exit → Act → World → Prop} (W : World) (hgd : o.guard = none) (s x : Operand) (t : TypeId)
    (ho : o.op = .call { callee := .builtin .append, args := #[s, x], argTypes := #[t, t] }) (ht : Try.prog.underlying t = some (.slice 26))
    (w0 : World) (v : Value) (xs : List Rt) (hs : a.eval s = v) (hG : GatR w0.heap.size v xs W) (hK : Kept w0 W) (y : Rt) (g : Nat) (hx : a.eval x = .slice (some ⟨g, 0, none⟩) 1 1) (hc : ∀ j u, (rtCells y)[j]? = some u → W.cell? ((⟨g, 0, none⟩ : Addr).add j) = some u) (hl : xs.length ≤ 1000000000)
    (h : ∀ v' w', GatR w0.heap.size v' (xs ++ [y]) w' → Kept w0 w' → wpList Try.prog ops Q rest (a.put o.dst v') w') : wpList Try.prog ops Q (o :: rest) a W := by
  obtain ⟨i0, hi, hzz⟩ := Option.map_eq_some_iff.1 infoR_root
  simp only [Prod.mk.injEq] at hzz
  refine wpList_append_own_wide W hgd s x t ho w0.heap.size 26 i0 _ 5 40 ht hi hzz.1 hzz.2.1 hzz.2.2 rfl (by decide) v xs.length (xs.flatMap rtCells) hs hG ⟨g, 0, none⟩ 1 1 (rtCells y) hx rfl hc (rtCells_one y) (by unfold maxLen; omega) (by omega) hK.size ?_
  intro v' w' h2 h3 _
  refine h v' w' ?_ (Below.grown hK h3 hK.size (fun k hk => (hG.lt k hk).1))
  unfold GatR
  rw [List.length_append, List.flatMap_append]
  simpa using h2
end Go.Proofs.Ytoekaabngjjefaa
