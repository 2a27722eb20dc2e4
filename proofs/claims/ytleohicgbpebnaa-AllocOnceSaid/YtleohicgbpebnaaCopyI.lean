/- append([]int(nil), l...): a copy of some numbers. -/
import Derived.Test.YtleohicgbpebnaaGatI2
import Derived.Deep.Upon
namespace Go.Proofs.Ytleohicgbpebnaa
open Go.RowKit
set_option linter.unusedVariables false
/-- A copy of these numbers was made, in memory of its own, if there are any. -/
def CopyI (W : World) (l : List Int) (v : Value) (W' : World) : Prop := ∃ a ca, v = .slice a l.length ca ∧ Ints .i64 W' a l ∧ Kept W W' ∧ ∀ x, a = some x → W.heap.size ≤ x.block ∧ x.block < W'.heap.size
theorem copy_run (W : World) (ty : TypeId) (p : Option Addr) (ca : Nat) (l : List Int) (hI : Ints .i64 W p l) (hl : l.length ≤ 1000000000) :
    ∃ v W', (Builtin.append_ #[22, 22] ty #[.slice none 0 0, .slice p l.length ca]).run Try.prog W = .ok v W' ∧ CopyI W l v W' := by
  obtain ⟨i0, hi, hzz⟩ := Option.map_eq_some_iff.1 info_int
  simp only [Prod.mk.injEq] at hzz
  rcases hI with rfl | ⟨b, o, rfl, h⟩
  · have hs : Src Try.prog i0.size 22 (.slice p 0 ca) 0 [] W := by
      cases p with
      | none => exact Src.ofNil W Try.underlying22 ca
      | some a => exact Src.ofSlice W Try.underlying22 a 0 ca [] (by simp) (fun j u h => by simp at h) (fun u h => by cases h)
    exact ⟨_, W, run_append_nothing W 22 22 ty 3 i0 Try.underlying22 hi none 0 0 (Nat.le_refl _) _ hs, none, 0, rfl, .inl rfl, Kept.refl _, fun x hx => by cases hx⟩
  · obtain ⟨v', w', hr, h2, h3, _⟩ := run_append_own (P := Try.prog) W W.heap.size 22 ty 3 i0 (.int .i64 0) 1 8 Try.underlying22 hi hzz.1 hzz.2.1 hzz.2.2 rfl (by decide) (.slice none 0 0) 0 [] (World.ownsRow_nil _ _ _ _) ⟨b, o, none⟩ l.length ca (l.map (Value.int .i64)) (by rw [List.length_map, Nat.mul_one]) (fun j u hj => by
        rw [List.getElem?_map] at hj
        by_cases hjl : j < l.length
        · rw [List.getElem?_eq_getElem hjl, nthI_get l j hjl] at hj
          rw [Go.WideShapes.add_plain, h j hjl]
          exact hj
        · rw [List.getElem?_eq_none (by omega)] at hj
          cases hj) (fun u hu => by obtain ⟨r, _, rfl⟩ := List.mem_map.1 hu; rfl) (by unfold maxLen; omega) (by omega) (Nat.le_refl _)
    have hG : GatI W.heap.size v' l w' := by
      unfold GatI
      rw [Nat.zero_add, List.nil_append] at h2
      exact h2
    have hK : Kept W w' := Below.grown (Kept.refl W) h3 (Nat.le_refl _) (fun k hk => by cases hk)
    obtain ⟨a', ca', rfl, hI'⟩ := hG.ints
    exact ⟨_, w', hr, a', ca', rfl, hI', hK, fun x hx => by subst hx; exact hG.lt x.block rfl⟩
theorem wp_copyI {o : Oper} {a : Act} {K : Act → World → Prop} {Q : Exit → Act → World → Prop} (W : World) (s x : Operand)
    (ho : o.op = .call { callee := .builtin .append, args := #[s, x], argTypes := #[22, 22] })
    (p : Option Addr) (ca : Nat) (l : List Int) (hs : a.eval s = .slice none 0 0) (hx : a.eval x = .slice p l.length ca) (hI : Ints .i64 W p l) (hl : l.length ≤ 1000000000)
    (h : ∀ v W', CopyI W l v W' → K (a.put o.dst v) W') : o.wp Try.prog a W K Q := by
  obtain ⟨v', w', hr, h2⟩ := copy_run W o.type p ca l hI hl
  unfold Oper.wp execOp
  simp only [ho, resolve, invoke, builtin, Sem.run_bind, Sem.run_pure, Result.andThen_ok, List.map_toArray, List.map_cons, List.map_nil, hs, hx, hr]
  exact h v' w' h2
/-- .. as a walk meets it. -/
theorem wpList_copyI {ops : Array Oper} {rest : List Oper} {o : Oper} {a : Act} {Q : Exit → Act → World → Prop} (W : World) (hgd : o.guard = none) (s x : Operand)
    (ho : o.op = .call { callee := .builtin .append, args := #[s, x], argTypes := #[22, 22] })
    (p : Option Addr) (ca : Nat) (l : List Int) (hs : a.eval s = .slice none 0 0) (hx : a.eval x = .slice p l.length ca) (hI : Ints .i64 W p l) (hl : l.length ≤ 1000000000)
    (h : ∀ v W', CopyI W l v W' → wpList Try.prog ops Q rest (a.put o.dst v) W') : wpList Try.prog ops Q (o :: rest) a W :=
  wpList_plain hgd fun _ hK => wp_copyI W s x ho p ca l hs hx hI hl fun v W' h2 => hK _ _ (h v W' h2)
/-- .. at a step of a region that draws its order. -/
theorem step_copyI {ops : Array Oper} {o : Oper} {a : Act} {K : Act → World → Prop} {Q : Exit → Act → World → Prop} {E : Prop} (W : World) (hgd : o.guard = none) (s x : Operand)
    (ho : o.op = .call { callee := .builtin .append, args := #[s, x], argTypes := #[22, 22] })
    (p : Option Addr) (ca : Nat) (l : List Int) (hs : a.eval s = .slice none 0 0) (hx : a.eval x = .slice p l.length ca) (hI : Ints .i64 W p l) (hl : l.length ≤ 1000000000)
    (h : ∀ v W', CopyI W l v W' → K (a.put o.dst v) W') : if Region.wanted o (yielded ops a.tmps) = true then Oper.wp Try.prog o a W K Q else E := by
  have hw : Region.wanted o (yielded ops a.tmps) = true := by simp [Region.wanted, hgd]
  rw [if_pos hw]
  exact wp_copyI W s x ho p ca l hs hx hI hl h
end Go.Proofs.Ytleohicgbpebnaa
