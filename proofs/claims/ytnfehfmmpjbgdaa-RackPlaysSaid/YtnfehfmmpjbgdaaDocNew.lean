/- The document's new rack. -/
import Derived.Test.YtnfehfmmpjbgdaaDocOps3
import Derived.Test.YtnfehfmmpjbgdaaGat
import Derived.Deep.AppendLies
namespace Go.Proofs.Ytnfehfmmpjbgdaa
open Go.RowKit RSt
set_option linter.unusedVariables false
theorem own_frame {B n : Nat} {e : TypeId} {v : Value} {xs : List Value} {w w' : World} (h : w.ownsRow B e 1 v n xs) (k : ∀ q cs, w.heap[q]? = some (.cells cs e (0, 0)) → v.ownBlock = some q → w'.heap[q]? = w.heap[q]?) : w'.ownsRow B e 1 v n xs := by
  obtain ⟨h1, h2⟩ := h
  refine ⟨h1, ?_⟩
  rcases h2 with h2 | ⟨g, cap, cur, rfl, h3, h4, h5⟩
  · exact .inl h2
  · exact .inr ⟨g, cap, cur, rfl, h3, by rw [k g cur h4 rfl]; exact h4, h5⟩
theorem own_ne {B n k : Nat} {e t : TypeId} {v : Value} {xs : List Value} {w : World} {m : Nat} {f : Nat → Value} (h : w.ownsRow B e 1 v n xs) (r : Rowf w k t m f) (hte : t ≠ e) : some k ≠ v.ownBlock := by
  rcases h.2 with ⟨rfl, _⟩ | ⟨g, cap, cur, rfl, h3, h4, _⟩
  · intro c; cases c
  · intro c
    have c2 : k = g := by simpa [Value.ownBlock] using c
    subst c2
    obtain ⟨cs, h1, _⟩ := r
    rw [h1] at h4
    injection h4 with h4
    injection h4 with _ h4
    exact hte h4
theorem own_row {B n : Nat} {e : TypeId} {v : Value} {xs : List Value} {w : World} (h : w.ownsRow B e 1 v n xs) (hn : 1 ≤ n) (f : Nat → Value) (hf : ∀ j, j < n → xs[j]? = some (f j)) : ∃ g cap, v = .slice (some ⟨g, 0, none⟩) n cap ∧ B ≤ g ∧ Rowf w g e n f := by
  rcases h.2 with ⟨_, h2⟩ | ⟨g, cap, cur, rfl, h3, h4, h5, h6, h7, h8⟩
  · omega
  · refine ⟨g, cap, rfl, h3, cur, h4, fun j hj => ?_⟩
    have e : (cur.toList.take (n * 1))[j]? = xs[j]? := by rw [h8]
    rw [List.getElem?_take_of_lt (by omega)] at e
    rw [← Array.getElem?_toList, e, hf j hj]
/-- The texts' slices of d drives; the marks' slices of e. -/
structure DocNew (g n m d e : Nat) (T B ct : Nat → Nat) (vS vB : Value) (w : World) : Prop where
  ox : Rowf w (g + 1) 61 4 (fun j => if j = 0 then vS else if j = 1 then vB else if j = 2 then .slice (some ⟨g, 0, none⟩) n n else .int .i64 (-1))
  oc : Rowf w g 36 n (fun _ => .int .u64 (0 : Nat))
  gs : w.ownsRow g 46 1 vS d ((List.range d).map fun i => .slice (some ⟨T i, 0, none⟩) m (ct i))
  gb : w.ownsRow g 63 1 vB e ((List.range e).map fun i => .slice (some ⟨B i, 0, none⟩) m m)
  ot : ∀ i, i < d → Rowf w (T i) 9 m fun _ => .string none64
  od : ∀ i, i < e → Rowf w (B i) 4 m fun _ => .bool false
  it : ∀ i j, i < d → j < d → T i = T j → i = j
  ib : ∀ i j, i < e → j < e → B i = B j → i = j
  rt : ∀ i, i < d → g ≤ T i
  rb : ∀ i, i < e → g ≤ B i
theorem DocNew.kept {g n m d e : Nat} {T B ct : Nat → Nat} {vS vB : Value} {w w' : World} (h : DocNew g n m d e T B ct vS vB w) (k : Kept w w') : DocNew g n m d e T B ct vS vB w' :=
  ⟨h.ox.frame (k.block _ h.ox.lt), h.oc.frame (k.block _ h.oc.lt), own_kept h.gs k, own_kept h.gb k, fun i hi => (h.ot i hi).frame (k.block _ (h.ot i hi).lt), fun i hi => (h.od i hi).frame (k.block _ (h.od i hi).lt), h.it, h.ib, h.rt, h.rb⟩
theorem map_next {α : Type} (f f' : Nat → α) (d : Nat) (x : α) (h : ∀ i, i < d → f' i = f i) (hx : f' d = x) : (List.range (d + 1)).map f' = (List.range d).map f ++ [x] := by
  rw [List.range_succ, List.map_append, List.map_cons, List.map_nil, hx]
  congr 1
  exact List.map_congr_left fun i hi => h i (List.mem_range.1 hi)
/-- One more drive's texts. -/
theorem DocNew.pushS {g n m d e : Nat} {T B ct : Nat → Nat} {vS vB v' : Value} {w w2 : World} (h : DocNew g n m d e T B ct vS vB w) (tb c : Nat) (ht : Rowf w tb 9 m fun _ => .string none64) (hne : ∀ i, i < d → T i ≠ tb) (hg : g ≤ tb)
    (ho : w2.ownsRow g 46 1 v' (d + 1) ((List.range d).map (fun i => Value.slice (some ⟨T i, 0, none⟩) m (ct i)) ++ [.slice (some ⟨tb, 0, none⟩) m c])) (hgr : w.grownBy w2 vS.ownBlock) :
    DocNew g n m (d + 1) e (fun i => if i = d then tb else T i) B (fun i => if i = d then c else ct i) v' vB (w2.setCell ⟨g + 1, 0, none⟩ v') := by
  have fr : ∀ {b : Nat} {t : TypeId} {q : Nat} {f : Nat → Value}, Rowf w b t q f → t ≠ 46 → Rowf w2 b t q f := fun r hte => r.frame (hgr.block _ r.lt (own_ne h.gs r hte))
  have hx2 := fr h.ox (by decide)
  have ot2 : ∀ {b : Nat} {t : TypeId} {q : Nat} {f : Nat → Value}, Rowf w2 b t q f → t ≠ 61 → Rowf (w2.setCell ⟨g + 1, 0, none⟩ v') b t q f := fun r hte => r.other _ _ (hx2.ne r (fun c => hte c.symm))
  have hbk : ∀ {b : Nat} {cs : Array Value} {t : TypeId}, w2.heap[b]? = some (.cells cs t (0, 0)) → t ≠ 61 → (w2.setCell ⟨g + 1, 0, none⟩ v').heap[b]? = w2.heap[b]? := fun {b cs t} hb hte => by
    refine Below.heap_setCell _ _ _ _ (fun c => ?_)
    have c : b = g + 1 := c
    subst c
    obtain ⟨cs2, hx3, _⟩ := hx2
    rw [hb] at hx3
    injection hx3 with hx3
    injection hx3 with _ hx3
    exact hte hx3
  refine ⟨(hx2.set 0 v').congr fun j hj => ?_, ot2 (fr h.oc (by decide)) (by decide), ?_, ?_, fun i hi => ?_, fun i hi => ot2 (fr (h.od i hi) (by decide)) (by decide), fun i j hi hj hij => ?_, h.ib, fun i hi => ?_, h.rb⟩
  · by_cases e0 : j = 0
    · rw [if_pos e0, if_pos e0]
    · rw [if_neg e0, if_neg e0, if_neg e0]
  · have ho2 := own_frame ho (fun q cs hq _ => hbk hq (by decide))
    rw [map_next (fun i => Value.slice (some ⟨T i, 0, none⟩) m (ct i)) _ d (.slice (some ⟨tb, 0, none⟩) m c) (fun i hi => by rw [if_neg (by omega), if_neg (by omega)]) (by rw [if_pos rfl, if_pos rfl])]
    exact ho2
  · have hgb2 : w2.ownsRow g 63 1 vB e ((List.range e).map fun i => .slice (some ⟨B i, 0, none⟩) m m) := own_frame h.gb (fun q cs hq _ => hgr.block q (Array.getElem?_eq_some_iff.1 hq).1 (own_ne (m := 0) (f := fun _ => .nilIface) h.gs ⟨cs, hq, fun _ hj => absurd hj (by omega)⟩ (by decide)))
    exact own_frame hgb2 (fun q cs hq _ => hbk hq (by decide))
  · show Rowf _ (if i = d then tb else T i) _ _ _
    by_cases e0 : i = d
    · rw [if_pos e0]; exact ot2 (fr ht (by decide)) (by decide)
    · rw [if_neg e0]; exact ot2 (fr (h.ot i (by omega)) (by decide)) (by decide)
  · by_cases e1 : i = d
    · by_cases e2 : j = d
      · rw [e1, e2]
      · rw [if_pos e1, if_neg e2] at hij
        exact absurd hij.symm (hne j (by omega))
    · by_cases e2 : j = d
      · rw [if_neg e1, if_pos e2] at hij
        exact absurd hij (hne i (by omega))
      · rw [if_neg e1, if_neg e2] at hij
        exact h.it i j (by omega) (by omega) hij
  · show g ≤ (if i = d then tb else T i)
    by_cases e0 : i = d
    · rw [if_pos e0]; exact hg
    · rw [if_neg e0]; exact h.rt i (by omega)
/-- One more drive's marks. -/
theorem DocNew.pushB {g n m d e : Nat} {T B ct : Nat → Nat} {vS vB v' : Value} {w w2 : World} (h : DocNew g n m d e T B ct vS vB w) (tb : Nat) (ht : Rowf w tb 4 m fun _ => .bool false) (hne : ∀ i, i < e → B i ≠ tb) (hg : g ≤ tb)
    (ho : w2.ownsRow g 63 1 v' (e + 1) ((List.range e).map (fun i => Value.slice (some ⟨B i, 0, none⟩) m m) ++ [.slice (some ⟨tb, 0, none⟩) m m])) (hgr : w.grownBy w2 vB.ownBlock) :
    DocNew g n m d (e + 1) T (fun i => if i = e then tb else B i) ct vS v' (w2.setCell ⟨g + 1, 1, none⟩ v') := by
  have fr : ∀ {b : Nat} {t : TypeId} {q : Nat} {f : Nat → Value}, Rowf w b t q f → t ≠ 63 → Rowf w2 b t q f := fun r hte => r.frame (hgr.block _ r.lt (own_ne h.gb r hte))
  have hx2 := fr h.ox (by decide)
  have ot2 : ∀ {b : Nat} {t : TypeId} {q : Nat} {f : Nat → Value}, Rowf w2 b t q f → t ≠ 61 → Rowf (w2.setCell ⟨g + 1, 1, none⟩ v') b t q f := fun r hte => r.other _ _ (hx2.ne r (fun c => hte c.symm))
  have hbk : ∀ {b : Nat} {cs : Array Value} {t : TypeId}, w2.heap[b]? = some (.cells cs t (0, 0)) → t ≠ 61 → (w2.setCell ⟨g + 1, 1, none⟩ v').heap[b]? = w2.heap[b]? := fun {b cs t} hb hte => by
    refine Below.heap_setCell _ _ _ _ (fun c => ?_)
    have c : b = g + 1 := c
    subst c
    obtain ⟨cs2, hx3, _⟩ := hx2
    rw [hb] at hx3
    injection hx3 with hx3
    injection hx3 with _ hx3
    exact hte hx3
  refine ⟨(hx2.set 1 v').congr fun j hj => ?_, ot2 (fr h.oc (by decide)) (by decide), ?_, ?_, fun i hi => ot2 (fr (h.ot i hi) (by decide)) (by decide), fun i hi => ?_, h.it, fun i j hi hj hij => ?_, h.rt, fun i hi => ?_⟩
  · by_cases e0 : j = 0
    · rw [if_pos e0, if_neg (by omega), if_pos e0]
    · by_cases e1 : j = 1
      · rw [if_neg e0, if_pos e1, if_pos e1]
      · rw [if_neg e0, if_neg e1, if_neg e1, if_neg e0, if_neg e1]
  · have hgs2 : w2.ownsRow g 46 1 vS d ((List.range d).map fun i => .slice (some ⟨T i, 0, none⟩) m (ct i)) := own_frame h.gs (fun q cs hq _ => hgr.block q (Array.getElem?_eq_some_iff.1 hq).1 (own_ne (m := 0) (f := fun _ => .nilIface) h.gb ⟨cs, hq, fun _ hj => absurd hj (by omega)⟩ (by decide)))
    exact own_frame hgs2 (fun q cs hq _ => hbk hq (by decide))
  · have ho2 := own_frame ho (fun q cs hq _ => hbk hq (by decide))
    rw [map_next (fun i => Value.slice (some ⟨B i, 0, none⟩) m m) _ e (.slice (some ⟨tb, 0, none⟩) m m) (fun i hi => by rw [if_neg (by omega)]) (by rw [if_pos rfl])]
    exact ho2
  · show Rowf _ (if i = e then tb else B i) _ _ _
    by_cases e0 : i = e
    · rw [if_pos e0]; exact ot2 (fr ht (by decide)) (by decide)
    · rw [if_neg e0]; exact ot2 (fr (h.od i (by omega)) (by decide)) (by decide)
  · by_cases e1 : i = e
    · by_cases e2 : j = e
      · rw [e1, e2]
      · rw [if_pos e1, if_neg e2] at hij
        exact absurd hij.symm (hne j (by omega))
    · by_cases e2 : j = e
      · rw [if_neg e1, if_pos e2] at hij
        exact absurd hij (hne i (by omega))
      · rw [if_neg e1, if_neg e2] at hij
        exact h.ib i j (by omega) (by omega) hij
  · show g ≤ (if i = e then tb else B i)
    by_cases e0 : i = e
    · rw [if_pos e0]; exact hg
    · rw [if_neg e0]; exact h.rb i (by omega)
/-- All drives are made. -/
theorem DocNew.doc {g n m : Nat} {T B ct : Nat → Nat} {vS vB : Value} {w : World} (h : DocNew g n m n n T B ct vS vB w) (hn1 : 1 ≤ n) (hn2 : n ≤ 12) (hm1 : 1 ≤ m) (hm2 : m ≤ 4096) :
    ∃ L : DLay, L.x = g + 1 ∧ DocAt L g w.heap.size (rack0 n m) w := by
  obtain ⟨sb, cs, rfl, hs1, hs2⟩ := own_row h.gs hn1 (fun i => .slice (some ⟨T i, 0, none⟩) m (ct i)) (fun j hj => by rw [List.getElem?_map, List.getElem?_range hj]; rfl)
  obtain ⟨bb, cn, rfl, hb1, hb2⟩ := own_row h.gb hn1 (fun i => .slice (some ⟨B i, 0, none⟩) m m) (fun j hj => by rw [List.getElem?_map, List.getElem?_range hj]; rfl)
  refine ⟨⟨g + 1, sb, bb, g, T, B, cs, cn, ct⟩, rfl, ⟨hn1, hn2, hm1, hm2, fun _ _ _ _ => zero64_length, fun _ => by show 0 < _; decide, by show 0 ≤ _; decide⟩, ?_, hs2, hb2, h.oc, h.ot, h.od, h.it, h.ib, ⟨by show g ≤ g + 1; omega, h.ox.lt⟩, ⟨hs1, hs2.lt⟩, ⟨hb1, hb2.lt⟩, ⟨Nat.le_refl _, h.oc.lt⟩, fun d hd => ⟨h.rt d hd, (h.ot d hd).lt⟩, fun d hd => ⟨h.rb d hd, (h.od d hd).lt⟩⟩
  refine h.ox.congr fun j hj => ?_
  unfold headF
  by_cases e0 : j = 0
  · rw [if_pos e0, if_pos e0]; rfl
  · by_cases e1 : j = 1
    · rw [if_neg e0, if_pos e1, if_neg e0, if_pos e1]; rfl
    · by_cases e2 : j = 2
      · rw [if_neg e0, if_neg e1, if_pos e2, if_neg e0, if_neg e1, if_pos e2]; rfl
      · rw [if_neg e0, if_neg e1, if_neg e2, if_neg e0, if_neg e1, if_neg e2]; rfl
theorem info_u64 : (Try.prog.info? 36).map (fun i => (i.zero, i.size, i.bytes)) = some (some (.int .u64 0), 1, 8) := by kernel_rfl
theorem info_bool : (Try.prog.info? 4).map (fun i => (i.zero, i.size, i.bytes)) = some (some (.bool false), 1, 1) := by kernel_rfl
theorem info_strs : (Try.prog.info? 46).map (fun i => (i.zero, i.size, i.bytes)) = some (some (.slice none 0 0), 1, 24) := by kernel_rfl
theorem info_bools : (Try.prog.info? 63).map (fun i => (i.zero, i.size, i.bytes)) = some (some (.slice none 0 0), 1, 24) := by kernel_rfl
theorem made_one (z : Value) (n j : Nat) (hj : j < n) : (madeCells #[z] n)[j]? = some z := by
  have h := made_get #[z] n j 0 hj (by show 0 < 1; decide)
  rw [show (#[z] : Array Value).size = 1 from rfl, Nat.mul_one, Nat.mul_one] at h
  exact h
theorem make_u64s (n : Nat) (hn : n ≤ 12) (W : World) : (Instr.makeSlice 57 (.int .i64 (n : Int)) (.int .i64 (n : Int))).run Try.prog W = .ok (.slice (some ⟨W.heap.size, 0, none⟩) n n) (W.alloc (.cells (madeCells #[.int .u64 0] n) 36)) := by
  obtain ⟨i0, hi, hzz⟩ := Option.map_eq_some_iff.1 info_u64
  simp only [Prod.mk.injEq] at hzz
  have h := run_make (P := Try.prog) W 57 36 i0 _ Try.underlying57 hi hzz.1 .i64 .i64 (n : Int) (n : Int) (by omega) (by omega) (by rw [hzz.2.2]; omega) (by omega)
  rw [hzz.2.1, Int.toNat_natCast, Nat.mul_one] at h
  exact h
theorem make_bools (n : Nat) (hn : n ≤ 4096) (W : World) : (Instr.makeSlice 63 (.int .i64 (n : Int)) (.int .i64 (n : Int))).run Try.prog W = .ok (.slice (some ⟨W.heap.size, 0, none⟩) n n) (W.alloc (.cells (madeCells #[.bool false] n) 4)) := by
  obtain ⟨i0, hi, hzz⟩ := Option.map_eq_some_iff.1 info_bool
  simp only [Prod.mk.injEq] at hzz
  have h := run_make (P := Try.prog) W 63 4 i0 _ Try.underlying63 hi hzz.1 .i64 .i64 (n : Int) (n : Int) (by omega) (by omega) (by rw [hzz.2.2]; omega) (by omega)
  rw [hzz.2.1, Int.toNat_natCast, Nat.mul_one] at h
  exact h
theorem DocNew.start (w : World) (n m : Nat) : DocNew w.heap.size n m 0 0 (fun _ => 0) (fun _ => 0) (fun _ => 0) (.slice none 0 0) (.slice none 0 0)
    ((w.alloc (.cells (madeCells #[.int .u64 0] n) 36)).alloc (.cells #[.slice none 0 0, .slice none 0 0, .slice (some ⟨w.heap.size, 0, none⟩) n n, .int .i64 (-1)] 61)) := by
  have h2 := heap_alloc2_new w (.cells (madeCells #[.int .u64 0] n) 36) (.cells #[.slice none 0 0, .slice none 0 0, .slice (some ⟨w.heap.size, 0, none⟩) n n, .int .i64 (-1)] 61)
  have h1 := heap_alloc2_old w (.cells (madeCells #[.int .u64 0] n) 36) (.cells #[.slice none 0 0, .slice none 0 0, .slice (some ⟨w.heap.size, 0, none⟩) n n, .int .i64 (-1)] 61)
  refine ⟨⟨_, h2, fun j hj => ?_⟩, ⟨_, h1, fun j hj => made_one _ _ _ hj⟩, World.ownsRow_nil _ _ _ _, World.ownsRow_nil _ _ _ _, fun _ h => absurd h (by omega), fun _ h => absurd h (by omega), fun _ _ h => absurd h (by omega), fun _ _ h => absurd h (by omega), fun _ h => absurd h (by omega), fun _ h => absurd h (by omega)⟩
  rcases (by omega : j = 0 ∨ j = 1 ∨ j = 2 ∨ j = 3) with rfl | rfl | rfl | rfl <;> rfl
end Go.Proofs.Ytnfehfmmpjbgdaa
