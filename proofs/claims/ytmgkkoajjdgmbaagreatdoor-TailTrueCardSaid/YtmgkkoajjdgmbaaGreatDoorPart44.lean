/- append([]string{}, l...): a copy of some texts. -/
import Derived.Test.YtmgkkoajjdgmbaaGreatDoorPart41
import Derived.Deep.Upon
set_option linter.unusedVariables false
set_option linter.unusedSimpArgs false
set_option linter.unusedSectionVars false
set_option linter.unnecessarySimpa false
set_option linter.deprecated false
namespace Go.Proofs.YtmgkkoajjdgmbaaGreatDoor
open Go.RowKit
set_option linter.unusedVariables false
theorem copyS_run (W : World) (ty : TypeId) (B : Nat) (hB : B ≤ W.heap.size) (q : Nat) (hG : Gat B (.slice (some ⟨q, 0, none⟩) 0 0) [] W) (p : Option Addr) (ca : Nat) (l : List ByteArray) (hI : Strs W p l) (hl : l.length ≤ 1000000) :
    ∃ v W', (Builtin.append_ #[38, 38] ty #[.slice (some ⟨q, 0, none⟩) 0 0, .slice p l.length ca]).run Tryz.prog W = .ok v W' ∧ Gat B v l W' ∧ W.grownBy W' (some q) := by
  obtain ⟨i0, hi, hzz⟩ := Option.map_eq_some_iff.1 info_string
  simp only [Prod.mk.injEq] at hzz
  rcases hI with rfl | ⟨b, o, rfl, h⟩
  · have hs : Src Tryz.prog i0.size 38 (.slice p 0 ca) 0 [] W := by
      cases p with
      | none => exact Src.ofNil W Tryz.underlying38 ca
      | some a => exact Src.ofSlice W Tryz.underlying38 a 0 ca [] (by simp) (fun j u h => by simp at h) (fun u h => by cases h)
    exact ⟨_, W, run_append_nothing W 38 38 ty 9 i0 Tryz.underlying38 hi (some ⟨q, 0, none⟩) 0 0 (Nat.le_refl _) _ hs, hG, ⟨rfl, rfl, rfl, Nat.le_refl _, fun _ _ _ => rfl⟩⟩
  · obtain ⟨v', w', hr, h2, h3, _⟩ := run_append_own (P := Tryz.prog) W B 38 ty 9 i0 (.string ByteArray.empty) 1 16 Tryz.underlying38 hi hzz.1 hzz.2.1 hzz.2.2 rfl (by decide) (.slice (some ⟨q, 0, none⟩) 0 0) 0 [] hG ⟨b, o, none⟩ l.length ca (l.map Value.string) (by rw [List.length_map, Nat.mul_one]) (cells_many W b o l h) (all_string l) (by unfold maxLen; omega) (by omega) hB
    refine ⟨_, w', hr, ?_, h3⟩
    unfold Gat
    rw [Nat.zero_add, List.nil_append] at h2
    exact h2
theorem wp_copyS {o : Oper} {a : Act} {K : Act → World → Prop} {Q : Exit → Act → World → Prop} (W : World) (s x : Operand)
    (ho : o.op = .call { callee := .builtin .append, args := #[s, x], argTypes := #[38, 38] })
    (B : Nat) (hB : B ≤ W.heap.size) (q : Nat) (hG : Gat B (.slice (some ⟨q, 0, none⟩) 0 0) [] W) (p : Option Addr) (ca : Nat) (l : List ByteArray) (hs : a.eval s = .slice (some ⟨q, 0, none⟩) 0 0) (hx : a.eval x = .slice p l.length ca) (hI : Strs W p l) (hl : l.length ≤ 1000000)
    (h : ∀ v W', Hid (Gat B v l W' ∧ W.grownBy W' (some q)) → K (a.put o.dst v) W') : o.wp Tryz.prog a W K Q := by
  obtain ⟨v', w', hr, h2, h3⟩ := copyS_run W o.type B hB q hG p ca l hI hl
  unfold Oper.wp execOp
  simp only [ho, resolve, invoke, builtin, Sem.run_bind, Sem.run_pure, Result.andThen_ok, List.map_toArray, List.map_cons, List.map_nil, hs, hx, hr]
  exact h v' w' ⟨h2, h3⟩
theorem step_copyS {ops : Array Oper} {o : Oper} {a : Act} {K : Act → World → Prop} {Q : Exit → Act → World → Prop} {E : Prop} (W : World) (hgd : o.guard = none) (s x : Operand)
    (ho : o.op = .call { callee := .builtin .append, args := #[s, x], argTypes := #[38, 38] })
    (B : Nat) (hB : B ≤ W.heap.size) (q : Nat) (hG : Gat B (.slice (some ⟨q, 0, none⟩) 0 0) [] W) (p : Option Addr) (ca : Nat) (l : List ByteArray) (hs : a.eval s = .slice (some ⟨q, 0, none⟩) 0 0) (hx : a.eval x = .slice p l.length ca) (hI : Strs W p l) (hl : l.length ≤ 1000000)
    (h : ∀ v W', Hid (Gat B v l W' ∧ W.grownBy W' (some q)) → K (a.put o.dst v) W') : if Region.wanted o (yielded ops a.tmps) = true then Oper.wp Tryz.prog o a W K Q else E := by
  have hw : Region.wanted o (yielded ops a.tmps) = true := by simp [Region.wanted, hgd]
  rw [if_pos hw]
  exact wp_copyS W s x ho B hB q hG p ca l hs hx hI hl h
end Go.Proofs.YtmgkkoajjdgmbaaGreatDoor
