/- A map from ints to small numbers that the call itself has made: told by a function. -/
import Derived.Test.YtleohicgbpebnaaKept
import Derived.Maps.OwnOps
import Derived.Maps.Views
namespace Go.Proofs.Ytleohicgbpebnaa
open Go.RowKit Go.Maps
set_option linter.unusedVariables false
theorem int_law : Keyed Try.prog 3 := int_keyed Try.underlying3
theorem zero_u8 (w : World) : (zeroValue 5).run Try.prog w = .ok (.int .u8 0) w := by kernel_rfl
/-- Block b is a map of at most m entries that holds f r under each int r (0, where nothing is held). -/
def MapN (b m : Nat) (f : Int → Nat) (w : World) : Prop :=
  ∃ D : DataW Unit, w.ownsMap Try.prog 3 (plainElem Try.prog 5) b m D ∧ ∀ r : Int, D.atKey (.int .i64 r) (.lit (.int .u8 0)) = .lit (.int .u8 (f r : Nat))
theorem MapN.lt {b m : Nat} {f : Int → Nat} {w : World} (h : MapN b m f w) : b < w.heap.size := by
  obtain ⟨D, h1, _⟩ := h
  exact h1.lt
theorem MapN.made (w : World) : MapN w.heap.size 0 (fun _ => 0) (w.alloc (.map #[] 0)) := ⟨.map [], World.ownsMap_made _ _ _ _, fun r => rfl⟩
theorem MapN.block {b m : Nat} {f : Int → Nat} {w w' : World} (h : MapN b m f w) (e : w'.heap[b]? = w.heap[b]?) : MapN b m f w' := by
  obtain ⟨D, ⟨es, clock, hb, h1⟩, h2⟩ := h
  exact ⟨D, ⟨es, clock, e.trans hb, h1⟩, h2⟩
theorem MapN.kept {b m : Nat} {f : Int → Nat} {w w' : World} (h : MapN b m f w) (k : Kept w w') : MapN b m f w' := h.block (k.block b h.lt)
theorem MapN.mono {b m m' : Nat} {f : Int → Nat} {w : World} (h : MapN b m f w) (hm : m ≤ m') : MapN b m' f w := by
  obtain ⟨D, h1, h2⟩ := h
  exact ⟨D, h1.mono hm, h2⟩
theorem wf_mk {r : Int} (h : -9223372036854775808 ≤ r ∧ r ≤ 9223372036854775807) : (Lit.int .i64 r).wf = true := WalkArith.wf_i64 (by omega)
theorem wf_u8 {y : Nat} (h : y ≤ 255) : (Lit.int .u8 (y : Nat)).wf = true := WalkArith.wf_u8 (by omega)
/-- What the map holds behind a store. -/
def putN (f : Int → Nat) (r : Int) (y : Nat) : Int → Nat := fun q => if q = r then y else f q
/-- A store, as a walk meets it. -/
theorem wpList_storeN {ops : Array Oper} {rest : List Oper} {o : Oper} {a : Act} {Q : Exit → Act → World → Prop} (W : World) (hgd : o.guard = none) (m x v : Operand) (ho : o.op = Op.mapUpdate 50 m x v)
    (b n : Nat) (f : Int → Nat) (hm : a.eval m = .map (some b)) (hM : MapN b n f W) (hn : n ≤ 1000000) (r : Int) (hr : -9223372036854775808 ≤ r ∧ r ≤ 9223372036854775807) (y : Nat) (hy : y ≤ 255) (hx : a.eval x = .int .i64 r) (hv : a.eval v = .int .u8 (y : Nat))
    (h : ∀ w', MapN b (n + 1) (putN f r y) w' → W.grownBy w' (some b) → wpList Try.prog ops Q rest (a.put o.dst undef) w') : wpList Try.prog ops Q (o :: rest) a W := by
  obtain ⟨D, h1, h2⟩ := hM
  refine wpList_mapUpdate_own W hgd m x v 50 ho 3 5 int_law Try.underlying50 _ b n D hm h1 (by unfold maxLen; omega) _ _ (.int .i64 r) hx hv (keyOf_int_mk Try.underlying3 (wf_mk hr)) (.lit (.int .u8 (y : Nat))) [] (plainElem_int Try.underlying5 (wf_u8 hy)) ?_
  intro w' h3 h4
  refine h w' ⟨_, h3, fun q => ?_⟩ h4
  have hmap : IsMap D := by
    obtain ⟨es, clock, _, _, _, hD⟩ := h1
    exact ⟨_, hD⟩
  unfold putN
  by_cases e : q = r
  · subst e
    rw [if_pos rfl, atKey_put_same hmap (show WideAt.IsKeyLit (.int .i64 q) from trivial)]
  · rw [if_neg e, atKey_put_other (fun h => e (by injection h))]
    exact h2 q
/-- What a look-up runs to. -/
theorem MapN.run {b n : Nat} {f : Int → Nat} {W : World} (h : MapN b n f W) (r : Int) (hr : -9223372036854775808 ≤ r ∧ r ≤ 9223372036854775807) :
    (Instr.lookup 50 (.map (some b)) (.int .i64 r) false).run Try.prog W = .ok (.int .u8 (f r : Nat)) W := by
  obtain ⟨D, h1, h2⟩ := h
  obtain ⟨c, hrun, hat, _⟩ := h1.lookup_int int_law Try.underlying50 Try.underlying5 (zero_u8 W) (keyOf_int_mk Try.underlying3 (wf_mk hr))
  rw [h2 r] at hat
  injection hat with hat
  injection hat with _ hat
  rw [hrun, hat]
end Go.Proofs.Ytleohicgbpebnaa
