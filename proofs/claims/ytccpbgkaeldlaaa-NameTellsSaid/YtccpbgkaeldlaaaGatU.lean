/- Bytes that a call, or who called it, has gathered, by append. -/
import Derived.Test.YtccpbgkaeldlaaaRowOf
import Derived.Lib.AppendStr
import Derived.OwnWalk
import Derived.Deep.RegionLaw
import Derived.Deep.OwnRows
import Derived.Laws.IdiomStrings
namespace Go.Proofs.Ytccpbgkaeldlaaa
open Go.RowKit
set_option linter.unusedVariables false
/-- Bytes as values. -/
def u8s (l : List UInt8) : List Value := l.map fun b => Value.int .u8 (b.toNat : Nat)
theorem u8s_len (l : List UInt8) : (u8s l).length = l.length := by simp [u8s]
theorem u8s_app (a b : List UInt8) : u8s (a ++ b) = u8s a ++ u8s b := by simp [u8s]
/-- The value v is a slice of just the bytes l, nil or in a row among the blocks from B on. -/
def GatU (B : Nat) (v : Value) (l : List UInt8) (w : World) : Prop := w.ownsRow B 5 1 v l.length (u8s l)
theorem GatU.nil (B : Nat) (w : World) : GatU B (.slice none 0 0) [] w := World.ownsRow_nil _ _ _ _
theorem GatU.below {B B' : Nat} {v : Value} {l : List UInt8} {w w' : World} (h : GatU B v l w) (k : Below B' w w') (hB : w.heap.size ≤ B') : GatU B v l w' := by
  obtain ⟨h1, h2⟩ := h
  refine ⟨h1, ?_⟩
  rcases h2 with h2 | ⟨g, cap, cur, h2, h3, h4, h5⟩
  · exact .inl h2
  · exact .inr ⟨g, cap, cur, h2, h3, by rw [k.block g (Nat.lt_of_lt_of_le (Array.getElem?_eq_some_iff.1 h4).1 hB)]; exact h4, h5⟩
theorem GatU.kept {B : Nat} {v : Value} {l : List UInt8} {w w' : World} (h : GatU B v l w) (k : Kept w w') : GatU B v l w' := h.below k (Nat.le_refl _)
theorem GatU.lt {B : Nat} {v : Value} {l : List UInt8} {w : World} (h : GatU B v l w) : ∀ k, v.ownBlock = some k → B ≤ k ∧ k < w.heap.size := World.ownsRow.lt h
theorem GatU.lower {B B' : Nat} {v : Value} {l : List UInt8} {w : World} (h : GatU B v l w) (hb : B' ≤ B) : GatU B' v l w := by
  obtain ⟨h1, h2⟩ := h
  refine ⟨h1, ?_⟩
  rcases h2 with h2 | ⟨g, cap, cur, h2, h3, h4, h5⟩
  · exact .inl h2
  · exact .inr ⟨g, cap, cur, h2, by omega, h4, h5⟩
theorem info_u8 : (Try.prog.info? 5).map (fun i => (i.zero, i.size, i.bytes)) = some (some (.int .u8 0), 1, 1) := by kernel_rfl
theorem cell_u8 (W : World) (g : Nat) (b : UInt8) (h : W.cell? ⟨g, 0, none⟩ = some (.int .u8 (b.toNat : Nat))) : ∀ j u, [Value.int .u8 (b.toNat : Nat)][j]? = some u → W.cell? ((⟨g, 0, none⟩ : Addr).add j) = some u := by
  intro j u hj
  match j, hj with
  | 0, hj =>
    simp at hj
    subst hj
    rw [add_at]
    exact h
/-- One byte that was laid just now. -/
theorem GatU.one {B : Nat} {w : World} (b : UInt8) (hB : B ≤ w.heap.size) : GatU B (.slice (some ⟨w.heap.size, 0, none⟩) 1 1) [b] (w.alloc (.cells #[.int .u8 (b.toNat : Nat)] 5)) :=
  ⟨rfl, .inr ⟨w.heap.size, 1, #[.int .u8 (b.toNat : Nat)], rfl, hB, heap_alloc_new w _, Nat.le_refl _, by decide, rfl, rfl⟩⟩
/-- An append of one byte, as a walk meets it. -/
theorem wpList_gatu {ops : Array Oper} {rest : List Oper} {o : Oper} {a : Act} {Q : Exit → Act → World → Prop} (W : World) (hgd : o.guard = none) (s x : Operand)
    (ho : o.op = .call { callee := .builtin .append, args := #[s, x], argTypes := #[50, 50] })
    (B : Nat) (hB : B ≤ W.heap.size) (v : Value) (l : List UInt8) (hs : a.eval s = v) (hG : GatU B v l W) (b : UInt8) (g : Nat) (hx : a.eval x = .slice (some ⟨g, 0, none⟩) 1 1) (hc : W.cell? ⟨g, 0, none⟩ = some (.int .u8 (b.toNat : Nat))) (hl : l.length ≤ 1000000000)
    (h : ∀ v' w', GatU B v' (l ++ [b]) w' → Below B W w' → wpList Try.prog ops Q rest (a.put o.dst v') w') : wpList Try.prog ops Q (o :: rest) a W := by
  obtain ⟨i0, hi, hzz⟩ := Option.map_eq_some_iff.1 info_u8
  simp only [Prod.mk.injEq] at hzz
  refine wpList_append_own W hgd s x 50 ho B 5 i0 (.int .u8 0) 1 1 Try.underlying50 hi hzz.1 hzz.2.1 hzz.2.2 rfl (by decide) v l.length (u8s l) hs hG ⟨g, 0, none⟩ 1 1 [.int .u8 (b.toNat : Nat)] hx rfl (cell_u8 W g b hc) (fun u hu => by simp at hu; subst hu; rfl) (by unfold maxLen; omega) (by omega) hB ?_
  intro v' w' h2 h3 _
  refine h v' w' ?_ (Below.grown (Below.refl _ _) h3 hB (fun k hk => (World.ownsRow.lt hG k hk).1))
  unfold GatU
  rw [u8s_app, List.length_append]
  exact h2
/-- An append of a text's bytes, as a walk meets it. -/
theorem wpList_gatus {ops : Array Oper} {rest : List Oper} {o : Oper} {a : Act} {Q : Exit → Act → World → Prop} (W : World) (hgd : o.guard = none) (s x : Operand)
    (ho : o.op = .call { callee := .builtin .append, args := #[s, x], argTypes := #[50, 9] })
    (B : Nat) (hB : B ≤ W.heap.size) (v : Value) (l : List UInt8) (hs : a.eval s = v) (hG : GatU B v l W) (t : ByteArray) (hx : a.eval x = .string t) (hl : l.length + t.size ≤ 1000000000)
    (h : ∀ v' w', GatU B v' (l ++ t.data.toList) w' → Below B W w' → wpList Try.prog ops Q rest (a.put o.dst v') w') : wpList Try.prog ops Q (o :: rest) a W := by
  obtain ⟨i0, hi, hzz⟩ := Option.map_eq_some_iff.1 info_u8
  simp only [Prod.mk.injEq] at hzz
  refine Lib.wpList_append_own_string W hgd s x 50 9 ho B 5 i0 Try.underlying50 Try.underlying9 hi hzz.1 hzz.2.1 hzz.2.2 v l.length (u8s l) hs hG t hx (by unfold maxLen; omega) (by omega) hB ?_
  intro v' w' h2 h3 _
  refine h v' w' ?_ (Below.grown (Below.refl _ _) h3 hB (fun k hk => (World.ownsRow.lt hG k hk).1))
  unfold GatU
  rw [u8s_app, List.length_append, show t.data.toList.length = t.size by simp]
  exact h2
/-- An append of one byte, at a step of a region that draws its order. -/
theorem step_gatu {ops : Array Oper} {o : Oper} {a : Act} {K : Act → World → Prop} {Q : Exit → Act → World → Prop} {E : Prop} {W : World} (hgd : o.guard = none) (s x : Operand)
    (ho : o.op = .call { callee := .builtin .append, args := #[s, x], argTypes := #[50, 50] })
    (B : Nat) (hB : B ≤ W.heap.size) (v : Value) (l : List UInt8) (hs : a.eval s = v) (hG : GatU B v l W) (b : UInt8) (g : Nat) (hx : a.eval x = .slice (some ⟨g, 0, none⟩) 1 1) (hc : W.cell? ⟨g, 0, none⟩ = some (.int .u8 (b.toNat : Nat))) (hl : l.length ≤ 1000000000)
    (h : ∀ v' w', GatU B v' (l ++ [b]) w' → Below B W w' → K (a.put o.dst v') w') : if Region.wanted o (yielded ops a.tmps) = true then Oper.wp Try.prog o a W K Q else E := by
  have hw : Region.wanted o (yielded ops a.tmps) = true := by simp [Region.wanted, hgd]
  rw [if_pos hw]
  obtain ⟨i0, hi, hzz⟩ := Option.map_eq_some_iff.1 info_u8
  simp only [Prod.mk.injEq] at hzz
  refine wp_append_own W s x 50 ho B 5 i0 (.int .u8 0) 1 1 Try.underlying50 hi hzz.1 hzz.2.1 hzz.2.2 rfl (by decide) v l.length (u8s l) hs hG ⟨g, 0, none⟩ 1 1 [.int .u8 (b.toNat : Nat)] hx rfl (cell_u8 W g b hc) (fun u hu => by simp at hu; subst hu; rfl) (by unfold maxLen; omega) (by omega) hB ?_
  intro v' w' h2 h3 _
  refine h v' w' ?_ (Below.grown (Below.refl _ _) h3 hB (fun k hk => (World.ownsRow.lt hG k hk).1))
  unfold GatU
  rw [u8s_app, List.length_append]
  exact h2
/-- The bytes as a text. -/
theorem GatU.text {B : Nat} {v : Value} {l : List UInt8} {w : World} (h : GatU B v l w) (hl : l.length ≤ 1000000000) : (convert 50 9 v).run Try.prog w = .ok (.string ⟨l.toArray⟩) w := by
  obtain ⟨h1, h2⟩ := h
  rcases h2 with ⟨rfl, h2⟩ | ⟨g, cap, cur, rfl, h3, h4, h5, h6, h7, h8⟩
  · obtain rfl : l = [] := List.length_eq_zero_iff.1 h2
    simp [convert, run_underlying Try.underlying50, run_underlying Try.underlying9, run_underlying Try.underlying5, go_sem, Conv.bytesToString]
    rfl
  · have hr := run_convert_bytes_back (P := Try.prog) w 50 9 5 ⟨g, 0, none⟩ cap l Try.underlying50 Try.underlying5 Try.underlying9 (fun j hj => by
      rw [add_at, cell_of_row _ _ j _ _ _ h4]
      have e : (cur.toList.take (l.length * 1))[j]? = (u8s l)[j]? := by rw [h8]
      rw [List.getElem?_take_of_lt (by omega)] at e
      rw [← Array.getElem?_toList, e]
      unfold u8s
      rw [List.getElem?_map, List.getElem?_eq_getElem hj]
      rfl)
    exact hr
end Go.Proofs.Ytccpbgkaeldlaaa
