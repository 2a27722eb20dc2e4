/- A text appended to bytes of the call's own: what is there then, whether there was room or not. -/
import Derived.Test.YtlmoeaphikdjnaaFieldRef2
import Derived.Lib.AppendStr
import Derived.Laws.IdiomCopy
import Derived.ArgAppend
namespace Go.Proofs.Ytlmoeaphikdjnaa
open Go.RowKit Go.Lib
set_option linter.unusedVariables false
/-- Behind the first n cells of block g there is room up to cap. -/
structure Spare (g n cap : Nat) (w : World) : Prop where
  there : ∀ j, n ≤ j → j < cap → (w.cell? ⟨g, j, none⟩).isSome = true
  free : ∀ j, n ≤ j → j < cap → w.frozen? ⟨g, j, none⟩ = false
/-- Bytes, and a text behind them. -/
def cat2 (n : Nat) (f : Nat → UInt8) (s : ByteArray) (j : Nat) : UInt8 := if j < n then f j else bt s (j - n)
theorem strCells_get (s : ByteArray) (j : Nat) (h : j < s.size) : (strCells s)[j]? = some (.int .u8 ((bt s j).toNat : Nat)) := by
  unfold strCells bt
  have h2 : j < s.data.toList.length := by simpa using h
  rw [List.getElem?_map, List.getElem?_eq_getElem h2, getElem!_pos s.data.toList j h2]
  rfl
theorem Spare.conv (w : World) (s : ByteArray) (cap : Nat) (t : TypeId) : Spare w.heap.size s.size (bytesRow s cap).size (w.drew.alloc (.cells (bytesRow s cap) t ((bytesRow s cap).size, (bytesRow s cap).size + 1))) := by
  refine ⟨fun j h1 h2 => ?_, fun j h1 h2 => ?_⟩
  · show ((w.alloc (Obj.cells (bytesRow s cap) _ _)).cell? _).isSome = _
    rw [World.cell?_alloc_mark, Array.getElem?_eq_getElem h2]
    rfl
  · show (w.alloc (Obj.cells (bytesRow s cap) _ _)).frozen? _ = _
    rw [World.frozen?_alloc_mark]
    simp
    omega
theorem bytesRow_size (s : ByteArray) (cap : Nat) (h : s.size ≤ cap) : (bytesRow s cap).size = cap := by
  unfold bytesRow
  rw [Array.size_append, Array.size_map, Array.size_replicate]
  show s.size + _ = _
  omega
theorem but_setCells (b : Nat) : ∀ (vs : List Value) (o : Nat) (u w : World), But b u w → But b u (w.setCells b o vs)
  | [], _, _, _, h => h
  | v :: r, o, u, w, h => but_setCells b r (o + 1) u _ (h.setCell o v)
theorem app_text {g n cap : Nat} {f : Nat → UInt8} {w : World} (ty : TypeId) (hB : Byt g n f w) (hS : Spare g n cap w) (hg : g < w.heap.size) (s : ByteArray) (hn : n + s.size ≤ 1000000000) :
    ∃ g' cap' w', (Builtin.append_ #[43, 9] ty #[.slice (some ⟨g, 0, none⟩) n cap, .string s]).run Try.prog w = .ok (.slice (some ⟨g', 0, none⟩) (n + s.size) cap') w' ∧ Byt g' (n + s.size) (cat2 n f s) w' ∧ But g w w' ∧ (g' = g ∨ g' = w.heap.size) ∧ g' < w'.heap.size ∧ n + s.size ≤ cap' := by
  obtain ⟨i0, hi, hzz⟩ := Option.map_eq_some_iff.1 info_byte
  simp only [Prod.mk.injEq] at hzz
  obtain ⟨hz, hs1, hby⟩ := hzz
  by_cases hroom : n + s.size ≤ cap
  · have hf := run_firstCells_string (P := Try.prog) w 1 s
    have hc : ∀ j, j < (strCells s).length → (w.cell? ⟨g, n + j, none⟩).isSome = true := fun j hj => by rw [strCells_length] at hj; exact hS.there _ (by omega) (by omega)
    have hfr : ∀ j, j < (strCells s).length → w.frozen? ⟨g, n + j, none⟩ = false := fun j hj => by rw [strCells_length] at hj; exact hS.free _ (by omega) (by omega)
    have hst := run_storeCells_cells (P := Try.prog) g n (strCells s) 0 w (by simpa using hc) (by simpa using hfr) (strCells_oneCell s)
    simp only [Nat.add_zero] at hst
    refine ⟨g, cap, w.setCells g n (strCells s), ?_, ⟨fun j hj => ?_, fun j hj => ?_⟩, but_setCells g _ n _ _ (But.refl _ _), .inl rfl, ?_, hroom⟩
    · simp [Builtin.append_, run_underlying Try.underlying43, run_underlying Try.underlying9, sizeOf, typeInfo, hi, hs1, Builtin.lenOf, hroom, hf, Addr.add_lit, hst]
    · by_cases h : j < n
      · rw [World.cell?_setCells_out g _ n w _ (fun _ _ => .inl h), hB.cell j h]
        unfold cat2
        rw [if_pos h]
      · have e := World.cell?_setCells_in g (strCells s) n w hc (j - n) (by rw [strCells_length]; omega)
        rw [show n + (j - n) = j from by omega] at e
        rw [e, ← List.getElem?_eq_getElem, strCells_get s (j - n) (by omega)]
        unfold cat2
        rw [if_neg h]
    · rw [World.frozen?_setCells]
      by_cases h : j < n
      · exact hB.free j h
      · exact hS.free j (by omega) (by omega)
    · exact Nat.lt_of_lt_of_le hg (but_setCells g (strCells s) n w w (But.refl _ _)).size
  · have holds : ∀ j v, ((List.range n).map fun j => Value.int .u8 ((f j).toNat : Nat))[j]? = some v → w.cell? ((⟨g, 0, none⟩ : Addr).add j) = some v := fun j v hj => by
      rw [List.getElem?_map] at hj
      by_cases h : j < n
      · rw [List.getElem?_range h] at hj
        rw [add_at, hB.cell j h]
        exact hj
      · rw [List.getElem?_eq_none (by rw [List.length_range]; omega)] at hj
        cases hj
    have hr := run_append_grow_string (P := Try.prog) w 43 9 ty 5 i0 (.int .u8 0) Try.underlying43 Try.underlying9 hi hz ⟨g, 0, none⟩ n cap ((List.range n).map fun j => Value.int .u8 ((f j).toNat : Nat)) (by rw [hs1]; simp) holds s (by omega) (by omega) (by rw [hby]; exact growslice_fits (by omega) (by omega))
    refine ⟨w.heap.size, _, _, hr, ⟨fun j hj => ?_, fun j hj => ?_⟩, ⟨rfl, rfl, rfl, ?_, fun k hk _ => _root_.Go.heap_alloc_old w.drew _ hk⟩, .inr rfl, ?_, grownCap_ge _ _ _ _⟩
    · show (w.drew.alloc _).cell? ⟨w.drew.heap.size, j, none⟩ = _
      rw [World.cell?_alloc_mark]
      by_cases h : j < n
      · rw [Array.getElem?_append_left (by simp; omega), Array.getElem?_append_left (by simp; omega)]
        unfold cat2
        rw [if_pos h]
        simp [h]
      · rw [Array.getElem?_append_left (by simp [strCells_length]; omega), Array.getElem?_append_right (by simp; omega)]
        have e := strCells_get s (j - n) (by omega)
        unfold cat2
        rw [if_neg h]
        simpa using e
    · show (w.drew.alloc _).frozen? ⟨w.drew.heap.size, j, none⟩ = _
      rw [World.frozen?_alloc_mark]
      simp
    · show w.heap.size ≤ (w.heap.push _).size
      simp
    · show w.heap.size < (w.heap.push _).size
      simp
/-- The same at a step of a region that draws its order. -/
theorem step_app {ops : Array Oper} {o : Oper} {a : Act} {w : World} {K : Act → World → Prop} {Q : Exit → Act → World → Prop} {E : Prop} (hgd : o.guard = none) (sl x : Operand)
    (ho : o.op = .call { callee := .builtin .append, args := #[sl, x], argTypes := #[43, 9] })
    (g n cap m : Nat) (f : Nat → UInt8) (s : ByteArray) (hs : a.eval sl = .slice (some ⟨g, 0, none⟩) n cap) (hx : a.eval x = .string s) (hB : Byt g n f w) (hS : Spare g n cap w) (hg : g < w.heap.size) (hm : n + s.size = m) (hn : m ≤ 1000000000)
    (h : ∀ g' cap' w', Byt g' m (cat2 n f s) w' → But g w w' → (g' = g ∨ g' = w.heap.size) → g' < w'.heap.size → m ≤ cap' → K (a.put o.dst (.slice (some ⟨g', 0, none⟩) m cap')) w') :
    if Region.wanted o (yielded ops a.tmps) = true then Oper.wp Try.prog o a w K Q else E := by
  have hw : Region.wanted o (yielded ops a.tmps) = true := by simp [Region.wanted, hgd]
  rw [if_pos hw]
  subst hm
  obtain ⟨g', cap', w', hrun, h1, h2, h3, h4, h5⟩ := app_text o.type hB hS hg s hn
  unfold Oper.wp
  simp [execOp, ho, resolve, invoke, builtin, hs, hx, hrun, Result.andThen]
  exact h g' cap' w' h1 h2 h3 h4 h5
end Go.Proofs.Ytlmoeaphikdjnaa
