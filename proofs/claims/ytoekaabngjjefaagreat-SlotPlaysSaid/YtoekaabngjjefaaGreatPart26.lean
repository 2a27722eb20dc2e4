/- DocNew, DocNew2, Pair, DoStep, BytL. -/
import Derived.Test.YtoekaabngjjefaaGreatPart25
import Derived.Test.YtoekaabngjjefaaGreatPart24
import Derived.Deep.AppendLies
import Derived.BigRegion
import Derived.Test.YtoekaabngjjefaaGreatKept
import Derived.Test.YtoekaabngjjefaaGreatPart3
import Derived.Test.YtoekaabngjjefaaGreatPart2
import Derived.Deep.OwnRows
import Derived.OwnWalk
import Derived.Laws.OwnMore
/- The document's new rack. -/
namespace Go.Proofs.YtoekaabngjjefaaGreat
open Go.RowKit RSt
set_option linter.unusedVariables false
theorem own_frame {B n : Nat} {e : TypeId} {v : Value} {xs : List Value} {w w' : World} (h : w.ownsRow B e 1 v n xs) (k : ∀ q cs, w.heap[q]? = some (.cells cs e (0, 0)) → v.ownBlock = some q → w'.heap[q]? = w.heap[q]?) : w'.ownsRow B e 1 v n xs := by
  obtain ⟨h1, h2⟩ := h
  refine ⟨h1, ?_⟩
  rcases h2 with h2 | ⟨g, cap, cur, rfl, h3, h4, h5⟩
  · exact .inl h2
  · exact .inr ⟨g, cap, cur, rfl, h3, by rw [k g cur h4 rfl]; exact h4, h5⟩
theorem own_ne {B n k : Nat} {e t : TypeId} {v : Value} {xs : List Value} {w : World} {m : Nat} {f : Nat → Value} (h : w.ownsRow B e 1 v n xs) (r : Rowf w k t m f) (hte : t ≠ e) : some k ≠ v.ownBlock := by
  rcases h.2 with ⟨rfl, _⟩ | ⟨g, cap, cur, rfl, h3, h4, _⟩
  · intro c; cases c
  · intro c
    have c2 : k = g := by simpa [Value.ownBlock] using c
    subst c2
    obtain ⟨cs, h1, _⟩ := r
    rw [h1] at h4
    injection h4 with h4
    injection h4 with _ h4
    exact hte h4
theorem own_row {B n : Nat} {e : TypeId} {v : Value} {xs : List Value} {w : World} (h : w.ownsRow B e 1 v n xs) (hn : 1 ≤ n) (f : Nat → Value) (hf : ∀ j, j < n → xs[j]? = some (f j)) : ∃ g cap, v = .slice (some ⟨g, 0, none⟩) n cap ∧ B ≤ g ∧ Rowf w g e n f := by
  rcases h.2 with ⟨_, h2⟩ | ⟨g, cap, cur, rfl, h3, h4, h5, h6, h7, h8⟩
  · omega
  · refine ⟨g, cap, rfl, h3, cur, h4, fun j hj => ?_⟩
    have e : (cur.toList.take (n * 1))[j]? = xs[j]? := by rw [h8]
    rw [List.getElem?_take_of_lt (by omega)] at e
    rw [← Array.getElem?_toList, e, hf j hj]
/-- The texts' slices of d drives; the marks' slices of e. -/
structure DocNew (g n m d e : Nat) (T B ct : Nat → Nat) (vS vB : Value) (w : World) : Prop where
  ox : Rowf w (g + 1) 70 4 (fun j => if j = 0 then vS else if j = 1 then vB else if j = 2 then .slice (some ⟨g, 0, none⟩) n n else .int .i64 (-1))
  oc : Rowf w g 34 n (fun _ => .int .u64 (0 : Nat))
  gs : w.ownsRow g 71 1 vS d ((List.range d).map fun i => .slice (some ⟨T i, 0, none⟩) m (ct i))
  gb : w.ownsRow g 51 1 vB e ((List.range e).map fun i => .slice (some ⟨B i, 0, none⟩) m m)
  ot : ∀ i, i < d → Rowf w (T i) 9 m fun _ => .string none64
  od : ∀ i, i < e → Rowf w (B i) 4 m fun _ => .bool false
  it : ∀ i j, i < d → j < d → T i = T j → i = j
  ib : ∀ i j, i < e → j < e → B i = B j → i = j
  rt : ∀ i, i < d → g ≤ T i
  rb : ∀ i, i < e → g ≤ B i
theorem DocNew.kept {g n m d e : Nat} {T B ct : Nat → Nat} {vS vB : Value} {w w' : World} (h : DocNew g n m d e T B ct vS vB w) (k : Kept w w') : DocNew g n m d e T B ct vS vB w' :=
  ⟨h.ox.frame (k.block _ h.ox.lt), h.oc.frame (k.block _ h.oc.lt), own_kept h.gs k, own_kept h.gb k, fun i hi => (h.ot i hi).frame (k.block _ (h.ot i hi).lt), fun i hi => (h.od i hi).frame (k.block _ (h.od i hi).lt), h.it, h.ib, h.rt, h.rb⟩
theorem map_next {α : Type} (f f' : Nat → α) (d : Nat) (x : α) (h : ∀ i, i < d → f' i = f i) (hx : f' d = x) : (List.range (d + 1)).map f' = (List.range d).map f ++ [x] := by
  rw [List.range_succ, List.map_append, List.map_cons, List.map_nil, hx]
  congr 1
  exact List.map_congr_left fun i hi => h i (List.mem_range.1 hi)
/-- One more drive's texts. -/
theorem DocNew.pushS {g n m d e : Nat} {T B ct : Nat → Nat} {vS vB v' : Value} {w w2 : World} (h : DocNew g n m d e T B ct vS vB w) (tb c : Nat) (ht : Rowf w tb 9 m fun _ => .string none64) (hne : ∀ i, i < d → T i ≠ tb) (hg : g ≤ tb)
    (ho : w2.ownsRow g 71 1 v' (d + 1) ((List.range d).map (fun i => Value.slice (some ⟨T i, 0, none⟩) m (ct i)) ++ [.slice (some ⟨tb, 0, none⟩) m c])) (hgr : w.grownBy w2 vS.ownBlock) :
    DocNew g n m (d + 1) e (fun i => if i = d then tb else T i) B (fun i => if i = d then c else ct i) v' vB (w2.setCell ⟨g + 1, 0, none⟩ v') := by
  have fr : ∀ {b : Nat} {t : TypeId} {q : Nat} {f : Nat → Value}, Rowf w b t q f → t ≠ 71 → Rowf w2 b t q f := fun r hte => r.frame (hgr.block _ r.lt (own_ne h.gs r hte))
  have hx2 := fr h.ox (by decide)
  have ot2 : ∀ {b : Nat} {t : TypeId} {q : Nat} {f : Nat → Value}, Rowf w2 b t q f → t ≠ 70 → Rowf (w2.setCell ⟨g + 1, 0, none⟩ v') b t q f := fun r hte => r.other _ _ (hx2.ne r (fun c => hte c.symm))
  have hbk : ∀ {b : Nat} {cs : Array Value} {t : TypeId}, w2.heap[b]? = some (.cells cs t (0, 0)) → t ≠ 70 → (w2.setCell ⟨g + 1, 0, none⟩ v').heap[b]? = w2.heap[b]? := fun {b cs t} hb hte => by
    refine Below.heap_setCell _ _ _ _ (fun c => ?_)
    have c : b = g + 1 := c
    subst c
    obtain ⟨cs2, hx3, _⟩ := hx2
    rw [hb] at hx3
    injection hx3 with hx3
    injection hx3 with _ hx3
    exact hte hx3
  refine ⟨(hx2.set 0 v').congr fun j hj => ?_, ot2 (fr h.oc (by decide)) (by decide), ?_, ?_, fun i hi => ?_, fun i hi => ot2 (fr (h.od i hi) (by decide)) (by decide), fun i j hi hj hij => ?_, h.ib, fun i hi => ?_, h.rb⟩
  · by_cases e0 : j = 0
    · rw [if_pos e0, if_pos e0]
    · rw [if_neg e0, if_neg e0, if_neg e0]
  · have ho2 := own_frame ho (fun q cs hq _ => hbk hq (by decide))
    rw [map_next (fun i => Value.slice (some ⟨T i, 0, none⟩) m (ct i)) _ d (.slice (some ⟨tb, 0, none⟩) m c) (fun i hi => by rw [if_neg (by omega), if_neg (by omega)]) (by rw [if_pos rfl, if_pos rfl])]
    exact ho2
  · have hgb2 : w2.ownsRow g 51 1 vB e ((List.range e).map fun i => .slice (some ⟨B i, 0, none⟩) m m) := own_frame h.gb (fun q cs hq _ => hgr.block q (Array.getElem?_eq_some_iff.1 hq).1 (own_ne (m := 0) (f := fun _ => .nilIface) h.gs ⟨cs, hq, fun _ hj => absurd hj (by omega)⟩ (by decide)))
    exact own_frame hgb2 (fun q cs hq _ => hbk hq (by decide))
  · show Rowf _ (if i = d then tb else T i) _ _ _
    by_cases e0 : i = d
    · rw [if_pos e0]; exact ot2 (fr ht (by decide)) (by decide)
    · rw [if_neg e0]; exact ot2 (fr (h.ot i (by omega)) (by decide)) (by decide)
  · by_cases e1 : i = d
    · by_cases e2 : j = d
      · rw [e1, e2]
      · rw [if_pos e1, if_neg e2] at hij
        exact absurd hij.symm (hne j (by omega))
    · by_cases e2 : j = d
      · rw [if_neg e1, if_pos e2] at hij
        exact absurd hij (hne i (by omega))
      · rw [if_neg e1, if_neg e2] at hij
        exact h.it i j (by omega) (by omega) hij
  · show g ≤ (if i = d then tb else T i)
    by_cases e0 : i = d
    · rw [if_pos e0]; exact hg
    · rw [if_neg e0]; exact h.rt i (by omega)
/-- One more drive's marks. -/
theorem DocNew.pushB {g n m d e : Nat} {T B ct : Nat → Nat} {vS vB v' : Value} {w w2 : World} (h : DocNew g n m d e T B ct vS vB w) (tb : Nat) (ht : Rowf w tb 4 m fun _ => .bool false) (hne : ∀ i, i < e → B i ≠ tb) (hg : g ≤ tb)
    (ho : w2.ownsRow g 51 1 v' (e + 1) ((List.range e).map (fun i => Value.slice (some ⟨B i, 0, none⟩) m m) ++ [.slice (some ⟨tb, 0, none⟩) m m])) (hgr : w.grownBy w2 vB.ownBlock) :
    DocNew g n m d (e + 1) T (fun i => if i = e then tb else B i) ct vS v' (w2.setCell ⟨g + 1, 1, none⟩ v') := by
  have fr : ∀ {b : Nat} {t : TypeId} {q : Nat} {f : Nat → Value}, Rowf w b t q f → t ≠ 51 → Rowf w2 b t q f := fun r hte => r.frame (hgr.block _ r.lt (own_ne h.gb r hte))
  have hx2 := fr h.ox (by decide)
  have ot2 : ∀ {b : Nat} {t : TypeId} {q : Nat} {f : Nat → Value}, Rowf w2 b t q f → t ≠ 70 → Rowf (w2.setCell ⟨g + 1, 1, none⟩ v') b t q f := fun r hte => r.other _ _ (hx2.ne r (fun c => hte c.symm))
  have hbk : ∀ {b : Nat} {cs : Array Value} {t : TypeId}, w2.heap[b]? = some (.cells cs t (0, 0)) → t ≠ 70 → (w2.setCell ⟨g + 1, 1, none⟩ v').heap[b]? = w2.heap[b]? := fun {b cs t} hb hte => by
    refine Below.heap_setCell _ _ _ _ (fun c => ?_)
    have c : b = g + 1 := c
    subst c
    obtain ⟨cs2, hx3, _⟩ := hx2
    rw [hb] at hx3
    injection hx3 with hx3
    injection hx3 with _ hx3
    exact hte hx3
  refine ⟨(hx2.set 1 v').congr fun j hj => ?_, ot2 (fr h.oc (by decide)) (by decide), ?_, ?_, fun i hi => ot2 (fr (h.ot i hi) (by decide)) (by decide), fun i hi => ?_, h.it, fun i j hi hj hij => ?_, h.rt, fun i hi => ?_⟩
  · by_cases e0 : j = 0
    · rw [if_pos e0, if_neg (by omega), if_pos e0]
    · by_cases e1 : j = 1
      · rw [if_neg e0, if_pos e1, if_pos e1]
      · rw [if_neg e0, if_neg e1, if_neg e1, if_neg e0, if_neg e1]
  · have hgs2 : w2.ownsRow g 71 1 vS d ((List.range d).map fun i => .slice (some ⟨T i, 0, none⟩) m (ct i)) := own_frame h.gs (fun q cs hq _ => hgr.block q (Array.getElem?_eq_some_iff.1 hq).1 (own_ne (m := 0) (f := fun _ => .nilIface) h.gb ⟨cs, hq, fun _ hj => absurd hj (by omega)⟩ (by decide)))
    exact own_frame hgs2 (fun q cs hq _ => hbk hq (by decide))
  · have ho2 := own_frame ho (fun q cs hq _ => hbk hq (by decide))
    rw [map_next (fun i => Value.slice (some ⟨B i, 0, none⟩) m m) _ e (.slice (some ⟨tb, 0, none⟩) m m) (fun i hi => by rw [if_neg (by omega)]) (by rw [if_pos rfl])]
    exact ho2
  · show Rowf _ (if i = e then tb else B i) _ _ _
    by_cases e0 : i = e
    · rw [if_pos e0]; exact ot2 (fr ht (by decide)) (by decide)
    · rw [if_neg e0]; exact ot2 (fr (h.od i (by omega)) (by decide)) (by decide)
  · by_cases e1 : i = e
    · by_cases e2 : j = e
      · rw [e1, e2]
      · rw [if_pos e1, if_neg e2] at hij
        exact absurd hij.symm (hne j (by omega))
    · by_cases e2 : j = e
      · rw [if_neg e1, if_pos e2] at hij
        exact absurd hij (hne i (by omega))
      · rw [if_neg e1, if_neg e2] at hij
        exact h.ib i j (by omega) (by omega) hij
  · show g ≤ (if i = e then tb else B i)
    by_cases e0 : i = e
    · rw [if_pos e0]; exact hg
    · rw [if_neg e0]; exact h.rb i (by omega)
/-- All drives are made. -/
theorem DocNew.doc {g n m : Nat} {T B ct : Nat → Nat} {vS vB : Value} {w : World} (h : DocNew g n m n n T B ct vS vB w) (hn1 : 1 ≤ n) (hn2 : n ≤ 12) (hm1 : 1 ≤ m) (hm2 : m ≤ 4096) :
    ∃ L : DLay, L.x = g + 1 ∧ DocAt L g w.heap.size (rack0 n m) w := by
  obtain ⟨sb, cs, rfl, hs1, hs2⟩ := own_row h.gs hn1 (fun i => .slice (some ⟨T i, 0, none⟩) m (ct i)) (fun j hj => by rw [List.getElem?_map, List.getElem?_range hj]; rfl)
  obtain ⟨bb, cn, rfl, hb1, hb2⟩ := own_row h.gb hn1 (fun i => .slice (some ⟨B i, 0, none⟩) m m) (fun j hj => by rw [List.getElem?_map, List.getElem?_range hj]; rfl)
  refine ⟨⟨g + 1, sb, bb, g, T, B, cs, cn, ct⟩, rfl, ⟨hn1, hn2, hm1, hm2, fun _ _ _ _ => zero64_length, fun _ => by show 0 < _; decide, by show 0 ≤ _; decide⟩, ?_, hs2, hb2, h.oc, h.ot, h.od, h.it, h.ib, ⟨by show g ≤ g + 1; omega, h.ox.lt⟩, ⟨hs1, hs2.lt⟩, ⟨hb1, hb2.lt⟩, ⟨Nat.le_refl _, h.oc.lt⟩, fun d hd => ⟨h.rt d hd, (h.ot d hd).lt⟩, fun d hd => ⟨h.rb d hd, (h.od d hd).lt⟩⟩
  refine h.ox.congr fun j hj => ?_
  unfold headF
  by_cases e0 : j = 0
  · rw [if_pos e0, if_pos e0]; rfl
  · by_cases e1 : j = 1
    · rw [if_neg e0, if_pos e1, if_neg e0, if_pos e1]; rfl
    · by_cases e2 : j = 2
      · rw [if_neg e0, if_neg e1, if_pos e2, if_neg e0, if_neg e1, if_pos e2]; rfl
      · rw [if_neg e0, if_neg e1, if_neg e2, if_neg e0, if_neg e1, if_neg e2]; rfl
theorem info_u64 : (Tryz.prog.info? 34).map (fun i => (i.zero, i.size, i.bytes)) = some (some (.int .u64 0), 1, 8) := by kernel_rfl
theorem dinfo_bool : (Tryz.prog.info? 4).map (fun i => (i.zero, i.size, i.bytes)) = some (some (.bool false), 1, 1) := by kernel_rfl
theorem info_strs : (Tryz.prog.info? 71).map (fun i => (i.zero, i.size, i.bytes)) = some (some (.slice none 0 0), 1, 24) := by kernel_rfl
theorem info_bools : (Tryz.prog.info? 51).map (fun i => (i.zero, i.size, i.bytes)) = some (some (.slice none 0 0), 1, 24) := by kernel_rfl
theorem made_one (z : Value) (n j : Nat) (hj : j < n) : (madeCells #[z] n)[j]? = some z := by
  have h := made_get #[z] n j 0 hj (by show 0 < 1; decide)
  rw [show (#[z] : Array Value).size = 1 from rfl, Nat.mul_one, Nat.mul_one] at h
  exact h
theorem make_u64s (n : Nat) (hn : n ≤ 12) (W : World) : (Instr.makeSlice 66 (.int .i64 (n : Int)) (.int .i64 (n : Int))).run Tryz.prog W = .ok (.slice (some ⟨W.heap.size, 0, none⟩) n n) (W.alloc (.cells (madeCells #[.int .u64 0] n) 34)) := by
  obtain ⟨i0, hi, hzz⟩ := Option.map_eq_some_iff.1 info_u64
  simp only [Prod.mk.injEq] at hzz
  have h := run_make (P := Tryz.prog) W 66 34 i0 _ Tryz.underlying66 hi hzz.1 .i64 .i64 (n : Int) (n : Int) (by omega) (by omega) (by rw [hzz.2.2]; omega) (by omega)
  rw [hzz.2.1, Int.toNat_natCast, Nat.mul_one] at h
  exact h
theorem make_bools (n : Nat) (hn : n ≤ 4096) (W : World) : (Instr.makeSlice 51 (.int .i64 (n : Int)) (.int .i64 (n : Int))).run Tryz.prog W = .ok (.slice (some ⟨W.heap.size, 0, none⟩) n n) (W.alloc (.cells (madeCells #[.bool false] n) 4)) := by
  obtain ⟨i0, hi, hzz⟩ := Option.map_eq_some_iff.1 dinfo_bool
  simp only [Prod.mk.injEq] at hzz
  have h := run_make (P := Tryz.prog) W 51 4 i0 _ Tryz.underlying51 hi hzz.1 .i64 .i64 (n : Int) (n : Int) (by omega) (by omega) (by rw [hzz.2.2]; omega) (by omega)
  rw [hzz.2.1, Int.toNat_natCast, Nat.mul_one] at h
  exact h
theorem DocNew.start (w : World) (n m : Nat) : DocNew w.heap.size n m 0 0 (fun _ => 0) (fun _ => 0) (fun _ => 0) (.slice none 0 0) (.slice none 0 0)
    ((w.alloc (.cells (madeCells #[.int .u64 0] n) 34)).alloc (.cells #[.slice none 0 0, .slice none 0 0, .slice (some ⟨w.heap.size, 0, none⟩) n n, .int .i64 (-1)] 70)) := by
  have h2 := heap_alloc2_new w (.cells (madeCells #[.int .u64 0] n) 34) (.cells #[.slice none 0 0, .slice none 0 0, .slice (some ⟨w.heap.size, 0, none⟩) n n, .int .i64 (-1)] 70)
  have h1 := heap_alloc2_old w (.cells (madeCells #[.int .u64 0] n) 34) (.cells #[.slice none 0 0, .slice none 0 0, .slice (some ⟨w.heap.size, 0, none⟩) n n, .int .i64 (-1)] 70)
  refine ⟨⟨_, h2, fun j hj => ?_⟩, ⟨_, h1, fun j hj => made_one _ _ _ hj⟩, World.ownsRow_nil _ _ _ _, World.ownsRow_nil _ _ _ _, fun _ h => absurd h (by omega), fun _ h => absurd h (by omega), fun _ _ h => absurd h (by omega), fun _ _ h => absurd h (by omega), fun _ h => absurd h (by omega), fun _ h => absurd h (by omega)⟩
  rcases (by omega : j = 0 ∨ j = 1 ∨ j = 2 ∨ j = 3) with rfl | rfl | rfl | rfl <;> rfl
end Go.Proofs.YtoekaabngjjefaaGreat

/- The document's new rack, as it is made. -/
namespace Go.Proofs.YtoekaabngjjefaaGreat
open Go.RowKit RSt
set_option linter.unusedVariables false
theorem one_news (w : World) (v : Value) (t : TypeId) : ∀ j u, [v][j]? = some u → (w.alloc (.cells #[v] t)).cell? ((⟨w.heap.size, 0, none⟩ : Addr).add j) = some u := by
  intro j u hj
  match j, hj with
  | 0, hj =>
    simp at hj
    subst hj
    rw [add_at, World.cell?_alloc_mark]
    rfl
theorem one_slice (a : Option Addr) (n c : Nat) : ∀ u ∈ [Value.slice a n c], u.oneCell' = true := by
  intro u hu
  simp at hu
  subst hu
  rfl
theorem Kept.size {w w' : World} (h : Kept w w') : w.heap.size ≤ w'.heap.size := Below.size h
theorem one_news2 (W : World) (o : Obj) (v : Value) (t : TypeId) : ∀ j u, [v][j]? = some u → ((W.alloc o).alloc (.cells #[v] t)).cell? ((⟨W.heap.size + 1, 0, none⟩ : Addr).add j) = some u := by
  have h := one_news (W.alloc o) v t
  rw [size_alloc] at h
  exact h
theorem marks_row (W : World) (k : Nat) (ob : Obj) : Rowf ((W.alloc (.cells (madeCells #[.bool false] k) 4)).alloc ob) W.heap.size 4 k fun _ => .bool false :=
  ⟨_, heap_alloc2_old W _ ob, fun j hj => made_one _ _ _ hj⟩
theorem replicate_map (k : Nat) (z : ByteArray) (j : Nat) (h : j < k) : ((List.replicate k z).map Value.string)[j]? = some (.string z) := by
  rw [List.getElem?_map, List.getElem?_replicate, if_pos h]; rfl
set_option maxHeartbeats 4000000 in
set_option maxRecDepth 100000 in
theorem dNew_ok (n m : Nat) (hn1 : 1 ≤ n) (hn2 : n ≤ 12) (hm1 : 1 ≤ m) (hm2 : m ≤ 4096) (w : World) :
    Calls Tryz.prog 7 #[.int .i64 (n : Nat), .int .i64 (m : Nat)] w fun r w' => r = .returned (.tuple #[.pointer (some ⟨w.heap.size + 1, 0, none⟩), .int .i64 0]) ∧ Kept w w' ∧ ∃ L : DLay, L.x = w.heap.size + 1 ∧ DocAt L w.heap.size w'.heap.size (rack0 n m) w' := by
  have b1 : decide ((n : Int) < 1) = false := decide_eq_false (by omega)
  have b2 : decide ((12 : Int) < n) = false := decide_eq_false (by omega)
  have b3 : decide ((m : Int) < 1) = false := decide_eq_false (by omega)
  have b4 : decide ((4096 : Int) < m) = false := decide_eq_false (by omega)
  have hmu := make_u64s n hn2
  obtain ⟨MU, hMU⟩ : ∃ MU, MU = madeCells #[Value.int .u64 0] n := ⟨_, rfl⟩
  rw [← hMU] at hmu
  have HMU := Lib.hid hMU
  have HMB := Lib.hid (make_bools m hm2)
  obtain ⟨nz, hnz⟩ : ∃ nz, nz = none64 := ⟨_, rfl⟩
  have hnone := none_text
  rw [← hnz] at hnone
  have HNONE := Lib.hid hnone
  have HNZ := Lib.hid hnz
  clear hMU hnone hnz
  go_enter Tryz.func7, Tryz.ntmps7
  go_wp2_with fail
  have hst : DocNew w.heap.size n m 0 0 (fun _ => 0) (fun _ => 0) (fun _ => 0) (.slice none 0 0) (.slice none 0 0) ((w.alloc (.cells MU 34)).alloc (.cells #[.slice none 0 0, .slice none 0 0, .slice (some ⟨w.heap.size, 0, none⟩) n n, .int .i64 (-1)] 70)) := by rw [HMU.out]; exact DocNew.start w n m
  have hkk : Kept w ((w.alloc (.cells MU 34)).alloc (.cells #[.slice none 0 0, .slice none 0 0, .slice (some ⟨w.heap.size, 0, none⟩) n n, .int .i64 (-1)] 70)) := ((Kept.refl _).alloc _).alloc _
  generalize hw0 : (w.alloc (.cells MU 34)).alloc (.cells #[.slice none 0 0, .slice none 0 0, .slice (some ⟨w.heap.size, 0, none⟩) n n, .int .i64 (-1)] 70) = w0 at *
  have HST := Lib.hid hst
  have HKK := Lib.hid hkk
  clear hw0 hmu hst hkk
  go_loopw [7] (fun i wr => ∃ d : Nat, d ≤ n ∧ i = .int .i64 d ∧ Hid (Kept w wr) ∧ Hid (∃ T B ct vS vB, DocNew w.heap.size n m d d T B ct vS vB wr)) (fun i _ => n - (intOf i).toNat)
  case atStart => exact ⟨0, Nat.zero_le _, rfl, HKK, ⟨_, _, _, _, _, HST.out⟩⟩
  case round =>
    obtain ⟨d, hd, rfl, HK, HE⟩ := hrel
    by_cases hlt : d < n
    · obtain ⟨T, B, ct, vS, vB, hN⟩ := HE.out
      have HN := Lib.hid hN
      obtain ⟨W2, hW2⟩ : ∃ W2, W2 = wr := ⟨_, rfl⟩
      subst hW2
      clear hN HE HST HKK
      go_wp2_with fail
      go_loopw [8, 9] (fun x i wr => ∃ k : Nat, k ≤ m ∧ i = .int .i64 k ∧ Hid (Kept W2 wr) ∧ Hid (Gat W2.heap.size x (List.replicate k nz) wr)) (fun _ i _ => m - (intOf i).toNat)
      case atStart => exact ⟨0, Nat.zero_le _, rfl, Kept.refl _, Gat.nil _ _⟩
      case round =>
        obtain ⟨k, hk, rfl, HK2, HG⟩ := hrel
        by_cases hlk : k < m
        · go_wp2_with fail
          refine (HNONE.out _).mono ?_
          rintro e wn ⟨rfl, hkn⟩
          have KN : Hid (Kept W2 wn) := HK2.out.trans hkn
          have GN : Hid (Gat W2.heap.size u8 (List.replicate k nz) wn) := HG.out.kept hkn
          clear hkn
          go_wp2_with (first | (at_builtin; refine wpList_gat _ rfl (.tmp 38) (.tmp 40) 71 rfl Tryz.underlying71 W2 _ (List.replicate k nz) rfl (GN.out.kept ((Kept.refl _).alloc _)) (KN.out.alloc _) nz wn.heap.size rfl (by rw [World.cell?_alloc_mark]; rfl) (by rw [List.length_replicate]; omega) ?_; intro v9 w9 hG9 hK9))
          have HG9 : Hid (Gat W2.heap.size v9 (List.replicate (k + 1) nz) w9) := by
            show Gat _ _ _ _
            rw [List.replicate_succ']
            exact hG9
          have HK9 := Lib.hid hK9
          clear hG9 hK9
          go_wp2_with fail
          exact ⟨⟨k + 1, by omega, by go_num, HK9, HG9⟩, by simp [intOf]; omega⟩
        · obtain rfl : k = m := by omega
          have hgo : wr.ownsRow W2.heap.size 9 1 u8 (List.replicate k nz).length ((List.replicate k nz).map Value.string) := HG.out
          rw [List.length_replicate] at hgo
          obtain ⟨tb, cp, rfl, htb, hrow⟩ := own_row hgo hm1 (fun _ => .string nz) (fun j hj => replicate_map k nz j hj)
          rw [HNZ.out] at hrow
          have HROW := Lib.hid hrow
          have HTB : Hid (∀ i, i < d → T i ≠ tb) := fun i hi c => by
            have h1 := (HN.out.ot i hi).lt
            omega
          have HTG : Hid (w.heap.size ≤ tb) := by show _ ≤ _; have := HK.out.size; omega
          have HN2 := Lib.hid (HN.out.kept HK2.out)
          have KW2 : Hid (Kept w wr) := HK.out.trans HK2.out
          obtain ⟨i1, hi1, hzz⟩ := Option.map_eq_some_iff.1 info_strs
          simp only [Prod.mk.injEq] at hzz
          obtain ⟨hz1, hz2, hz3⟩ := hzz
          have c0 : wr.cell? ⟨w.heap.size + 1, 0, none⟩ = some vS := HN2.out.ox.cell 0 (by decide)
          have hgx : w.heap.size + 1 < wr.heap.size := HN2.out.ox.lt
          have HNA : Hid (∀ ob, DocNew w.heap.size n k d d T B ct vS vB (wr.alloc ob)) := fun ob => HN2.out.kept ((Kept.refl _).alloc _)
          clear hgo hrow HG
          go_upto_region 13 with (first | (at_builtin; refine wpList_append_lies _ rfl (.tmp 46) (.tmp 48) 67 rfl w.heap.size 71 i1 (.slice none 0 0) 1 24 Tryz.underlying67 hi1 hz1 hz2 hz3 rfl (by decide) vS d ((List.range d).map fun i => .slice (some ⟨T i, 0, none⟩) k (ct i)) rfl (HNA.out _).gs ⟨wr.heap.size, 0, none⟩ 1 1 [.slice (some ⟨tb, 0, none⟩) k cp] rfl rfl (one_news _ _ _) (one_slice _ _ _) (by decide) (by unfold maxLen; omega) (by omega) (KW2.out.alloc _).size _ rfl ?_; intro G9 c9 w9 ho9 hg9 hor9 hlt9; have x9 := (HNA.out _).ox.frame (hg9.block _ (HNA.out _).ox.lt (own_ne HN2.out.gs HN2.out.ox (by decide))); have y9 : w9.cell? ⟨w.heap.size + 1, 0, none⟩ = some vS := x9.cell 0 (by decide); have z9 := x9.free 0))
          have HS : Hid (DocNew w.heap.size n k (d + 1) d (fun i => if i = d then tb else T i) B (fun i => if i = d then cp else ct i) (.slice (some ⟨G9, 0, none⟩) (d + 1) c9) vB (w9.setCell ⟨w.heap.size + 1, 0, none⟩ (.slice (some ⟨G9, 0, none⟩) (d + 1) c9))) :=
            (HNA.out _).pushS tb cp (HROW.out.frame (((Kept.refl wr).alloc _).block _ HROW.out.lt)) HTB.out HTG.out ho9 hg9
          have K4 : Hid (Kept w (w9.setCell ⟨w.heap.size + 1, 0, none⟩ (.slice (some ⟨G9, 0, none⟩) (d + 1) c9))) := (Below.grown (KW2.out.alloc _) hg9 (KW2.out.alloc _).size (fun q hq => (HN2.out.gs.lt q hq).1)).setCell (show w.heap.size ≤ w.heap.size + 1 by omega) _
          generalize w9.setCell ⟨w.heap.size + 1, 0, none⟩ (.slice (some ⟨G9, 0, none⟩) (d + 1) c9) = W4 at *
          clear x9 y9 z9 ho9 hg9 hor9 hlt9 c0 hgx HNA HN2 HN HROW HTB HTG htb KW2 HK2 HK hi1 hz1 hz2 hz3
          obtain ⟨i2, hi2, hzz⟩ := Option.map_eq_some_iff.1 info_bools
          simp only [Prod.mk.injEq] at hzz
          obtain ⟨hz1, hz2, hz3⟩ := hzz
          have c1 : W4.cell? ⟨w.heap.size + 1, 1, none⟩ = some vB := HS.out.ox.cell 1 (by decide)
          have hgx : w.heap.size + 1 < W4.heap.size := HS.out.ox.lt
          have hmb := HMB.out
          obtain ⟨MB, hMB⟩ : ∃ MB, MB = madeCells #[Value.bool false] k := ⟨_, rfl⟩
          rw [← hMB] at hmb
          have HMBE := Lib.hid hMB
          have HSB : Hid (∀ W, Kept W4 W → W.ownsRow w.heap.size 51 1 vB d ((List.range d).map fun i => .slice (some ⟨B i, 0, none⟩) k k)) := fun W hW => (HS.out.kept hW).gb
          have HSX : Hid (∀ W w5, Kept W4 W → World.grownBy W w5 vB.ownBlock → w5.cell? ⟨w.heap.size + 1, 1, none⟩ = some vB ∧ w5.frozen? ⟨w.heap.size + 1, 1, none⟩ = false) := fun W w5 hW hg => by
            have hD := HS.out.kept hW
            have hx := hD.ox.frame (hg.block _ hD.ox.lt (own_ne hD.gb hD.ox (by decide)))
            exact ⟨hx.cell 1 (by decide), hx.free 1⟩
          have a1 : ∀ o, (W4.alloc o).cell? ⟨w.heap.size + 1, 1, none⟩ = some vB := fun o => cell_kept c1 ((Kept.refl _).alloc _)
          have a2 : ∀ o o2, ((W4.alloc o).alloc o2).cell? ⟨w.heap.size + 1, 1, none⟩ = some vB := fun o o2 => cell_kept c1 (((Kept.refl _).alloc _).alloc _)
          clear hMB
          go_region_law (first
            | (refine step_append_lies _ rfl (.tmp 56) (.tmp 59) 68 rfl w.heap.size 51 i2 (.slice none 0 0) 1 24 Tryz.underlying68 hi2 hz1 hz2 hz3 rfl (by decide) vB d ((List.range d).map fun i => .slice (some ⟨B i, 0, none⟩) k k) (by rfl) (HSB.out _ (by first | exact ((Kept.refl _).alloc _).alloc _ | exact (((Kept.refl _).alloc _).alloc _).drew)) ⟨W4.heap.size + 1, 0, none⟩ 1 1 [.slice (some ⟨W4.heap.size, 0, none⟩) k k] (by rfl) rfl (one_news2 _ _ _ _) (one_slice _ _ _) (by decide) (by unfold maxLen; omega) (by omega) (Kept.size (by first | exact (K4.out.alloc _).alloc _ | exact ((K4.out.alloc _).alloc _).drew)) _ rfl ?_; intro G5 c5 w5 ho5 hg5 hor5 hlt5; obtain ⟨y5, z5⟩ := HSX.out _ w5 (by first | exact ((Kept.refl _).alloc _).alloc _ | exact (((Kept.refl _).alloc _).alloc _).drew) hg5))
          all_goals
            have HNB : Hid (DocNew w.heap.size n k (d + 1) (d + 1) (fun i => if i = d then tb else T i) (fun i => if i = d then W4.heap.size else B i) (fun i => if i = d then cp else ct i) (.slice (some ⟨G9, 0, none⟩) (d + 1) c9) (.slice (some ⟨G5, 0, none⟩) (d + 1) c5) (w5.setCell ⟨w.heap.size + 1, 1, none⟩ (.slice (some ⟨G5, 0, none⟩) (d + 1) c5))) :=
              (HS.out.kept (by first | exact ((Kept.refl _).alloc _).alloc _ | exact (((Kept.refl _).alloc _).alloc _).drew)).pushB W4.heap.size (by rw [HMBE.out]; exact marks_row W4 k _) (fun i hi c => by have := (HS.out.od i hi).lt; omega) K4.out.size ho5 hg5
            have HK5 : Hid (Kept w (w5.setCell ⟨w.heap.size + 1, 1, none⟩ (.slice (some ⟨G5, 0, none⟩) (d + 1) c5))) :=
              (Below.grown (by first | exact (K4.out.alloc _).alloc _ | exact ((K4.out.alloc _).alloc _).drew) hg5 (Kept.size (by first | exact (K4.out.alloc _).alloc _ | exact ((K4.out.alloc _).alloc _).drew)) (fun q hq => (HS.out.gb.lt q hq).1)).setCell (show w.heap.size ≤ w.heap.size + 1 by omega) _
            clear ho5 hg5 hor5 hlt5 y5 z5 c1 a1 a2
            go_wp2_with fail
            exact ⟨⟨d + 1, by omega, by go_num, HK5, ⟨_, _, _, _, _, HNB.out⟩⟩, by simp [intOf]; omega⟩
    · obtain rfl : d = n := by omega
      obtain ⟨T, B, ct, vS, vB, hN⟩ := HE.out
      obtain ⟨L, hL, hD⟩ := hN.doc hn1 hn2 hm1 hm2
      have HD := Lib.hid hD
      have HL := Lib.hid hL
      clear hN hD hL
      go_wp2_with fail
      go_ret2
      exact ⟨rfl, HK.out, L, HL.out, HD.out⟩
set_option maxHeartbeats 1000000 in
set_option maxRecDepth 100000 in
theorem dNew_bad (n m : Int) (hn1 : -9223372036854775808 ≤ n) (hn2 : n ≤ 9223372036854775807) (hm1 : -9223372036854775808 ≤ m) (hm2 : m ≤ 9223372036854775807) (h : ¬ (1 ≤ n ∧ n ≤ 12 ∧ 1 ≤ m ∧ m ≤ 4096)) (w : World) :
    Calls Tryz.prog 7 #[.int .i64 n, .int .i64 m] w fun r w' => r = .returned (.tuple #[.pointer none, .int .i64 2]) ∧ Kept w w' := by
  by_cases h1 : n < 1
  · have b1 : decide (n < 1) = true := decide_eq_true h1
    go_enter Tryz.func7, Tryz.ntmps7
    go_wp2_with fail
    go_ret2
    exact ⟨rfl, Kept.refl _⟩
  · have b1 : decide (n < 1) = false := decide_eq_false h1
    by_cases h2 : 12 < n
    · have b2 : decide (12 < n) = true := decide_eq_true h2
      go_enter Tryz.func7, Tryz.ntmps7
      go_wp2_with fail
      go_ret2
      exact ⟨rfl, Kept.refl _⟩
    · have b2 : decide (12 < n) = false := decide_eq_false h2
      by_cases h3 : m < 1
      · have b3 : decide (m < 1) = true := decide_eq_true h3
        go_enter Tryz.func7, Tryz.ntmps7
        go_wp2_with fail
        go_ret2
        exact ⟨rfl, Kept.refl _⟩
      · have b3 : decide (m < 1) = false := decide_eq_false h3
        have b4 : decide (4096 < m) = true := decide_eq_true (by omega)
        go_enter Tryz.func7, Tryz.ntmps7
        go_wp2_with fail
        go_ret2
        exact ⟨rfl, Kept.refl _⟩
end Go.Proofs.YtoekaabngjjefaaGreat

/- The program's rack and the document's, side by side. -/
namespace Go.Proofs.YtoekaabngjjefaaGreat
open Go.RowKit RSt
set_option linter.unusedVariables false
namespace RSt
theorem writeS_n (s : RSt) (d i : Int) (t : ByteArray) : (s.writeS d i t).n = s.n ∧ (s.writeS d i t).m = s.m := by
  unfold RSt.writeS; split <;> exact ⟨rfl, rfl⟩
theorem wipeS_n (s : RSt) (d : Int) : (s.wipeS d).n = s.n ∧ (s.wipeS d).m = s.m := by
  unfold RSt.wipeS; split <;> exact ⟨rfl, rfl⟩
theorem spoilS_n (s : RSt) (d i : Int) : (s.spoilS d i).n = s.n ∧ (s.spoilS d i).m = s.m := by
  unfold RSt.spoilS; split <;> exact ⟨rfl, rfl⟩
theorem cutS_n (s : RSt) (k : Int) : (s.cutS k).n = s.n ∧ (s.cutS k).m = s.m := by
  unfold RSt.cutS; split <;> exact ⟨rfl, rfl⟩
end RSt
/-- The program's rack is as a says, the document's as b says; all of their memory lies in blocks from g on below hi. -/
structure Pair (g N M : Nat) (L : DLay) (lo hi : Nat) (w1 : World) (a b : RSt) (W : World) : Prop where
  r : RackAt g a W
  d : DocAt L lo hi b W
  o : Only g hi w1 W
  na : a.n = N
  nb : b.n = N
  ma : a.m = M
  mb : b.m = M
  lt : g + 2 + N ≤ lo
  le : lo ≤ hi
theorem Pair.drewN {g N M : Nat} {L : DLay} {lo hi : Nat} {w1 : World} {a b : RSt} {W : World} (h : Pair g N M L lo hi w1 a b W) (k : Nat) : Pair g N M L lo hi w1 a b (W.drewN k) :=
  ⟨h.r.drewN k, h.d.drewN k, ⟨h.o.os, h.o.tape, h.o.output, h.o.size, h.o.block⟩, h.na, h.nb, h.ma, h.mb, h.lt, h.le⟩
theorem Pair.kept {g N M : Nat} {L : DLay} {lo hi : Nat} {w1 : World} {a b : RSt} {W W' : World} (h : Pair g N M L lo hi w1 a b W) (k : Kept W W') : Pair g N M L lo hi w1 a b W' :=
  ⟨h.r.kept k, h.d.kept k, h.o.trans (k.only _ _), h.na, h.nb, h.ma, h.mb, h.lt, h.le⟩
theorem Pair.left {g N M : Nat} {L : DLay} {lo hi : Nat} {w1 : World} {a b a' : RSt} {W W' : World} (h : Pair g N M L lo hi w1 a b W) (hr : RackAt g a' W') (ho : Only g (g + 2 + a.n) W W') (hn : a'.n = a.n) (hm : a'.m = a.m) : Pair g N M L lo hi w1 a' b W' := by
  rw [h.na] at ho
  have h1 := h.lt
  have h2 := h.le
  exact ⟨hr, h.d.only ho (.inl h.lt), h.o.trans (ho.wider (Nat.le_refl _) (by omega)), hn.trans h.na, h.nb, hm.trans h.ma, h.mb, h.lt, h.le⟩
theorem Pair.right {g N M : Nat} {L : DLay} {lo hi : Nat} {w1 : World} {a b b' : RSt} {W W' : World} (h : Pair g N M L lo hi w1 a b W) (hd : DocAt L lo hi b' W') (ho : Only lo hi W W') (hn : b'.n = b.n) (hm : b'.m = b.m) : Pair g N M L lo hi w1 a b' W' := by
  have h1 := h.lt
  exact ⟨h.r.only ho (.inr (by rw [h.na]; omega)), hd, h.o.trans (ho.wider (by omega) (Nat.le_refl _)), h.na, hn.trans h.nb, h.ma, hm.trans h.mb, h.lt, h.le⟩
section
variable {g N M : Nat} {L : DLay} {lo hi : Nat} {w1 : World} {a b : RSt} {W : World} (h : Pair g N M L lo hi w1 a b W) (d i : Int) (hd1 : -9223372036854775808 ≤ d) (hd2 : d ≤ 9223372036854775807) (hi1 : -9223372036854775808 ≤ i) (hi2 : i ≤ 9223372036854775807)
include h
theorem Pair.writeP (hd1 : -9223372036854775808 ≤ d) (hd2 : d ≤ 9223372036854775807) (hi1 : -9223372036854775808 ≤ i) (hi2 : i ≤ 9223372036854775807) (t : ByteArray) (ht : t.size ≤ 9223372036854775807) :
    Calls Tryz.prog 25 #[.pointer (some ⟨g + 1, 0, none⟩), .int .i64 d, .int .i64 i, .string t] W fun r w' => r = .returned (.int .i64 (a.writeE d i t : Nat)) ∧ Pair g N M L lo hi w1 (a.writeS d i t) b w' :=
  (write_any g a d i hd1 hd2 hi1 hi2 t ht W h.r).mono fun r w' hh => ⟨hh.1, h.left hh.2.1 hh.2.2 (a.writeS_n d i t).1 (a.writeS_n d i t).2⟩
theorem Pair.writeD (t : ByteArray) (ht : t.size ≤ 9223372036854775807) :
    Calls Tryz.prog 31 #[.pointer (some ⟨L.x, 0, none⟩), .int .i64 d, .int .i64 i, .string t] W fun r w' => r = .returned (.int .i64 (b.writeE d i t : Nat)) ∧ Pair g N M L lo hi w1 a (b.writeS d i t) w' :=
  (dWrite_any L lo hi b d i t ht W h.d).mono fun r w' hh => ⟨hh.1, h.right hh.2.1 hh.2.2 (b.writeS_n d i t).1 (b.writeS_n d i t).2⟩
theorem Pair.wipeP (hd1 : -9223372036854775808 ≤ d) (hd2 : d ≤ 9223372036854775807) :
    Calls Tryz.prog 19 #[.pointer (some ⟨g + 1, 0, none⟩), .int .i64 d] W fun r w' => r = .returned (.int .i64 (a.wipeE d : Nat)) ∧ Pair g N M L lo hi w1 (a.wipeS d) b w' :=
  (wipe_any g a d hd1 hd2 W h.r).mono fun r w' hh => ⟨hh.1, h.left hh.2.1 hh.2.2 (a.wipeS_n d).1 (a.wipeS_n d).2⟩
theorem Pair.wipeD :
    Calls Tryz.prog 36 #[.pointer (some ⟨L.x, 0, none⟩), .int .i64 d] W fun r w' => r = .returned (.int .i64 (b.wipeE d : Nat)) ∧ Pair g N M L lo hi w1 a (b.wipeS d) w' :=
  (dWipe_any L lo hi b d W h.d).mono fun r w' hh => ⟨hh.1, h.right hh.2.1 hh.2.2 (b.wipeS_n d).1 (b.wipeS_n d).2⟩
theorem Pair.spoilP (hd1 : -9223372036854775808 ≤ d) (hd2 : d ≤ 9223372036854775807) (hi1 : -9223372036854775808 ≤ i) (hi2 : i ≤ 9223372036854775807) :
    Calls Tryz.prog 37 #[.pointer (some ⟨g + 1, 0, none⟩), .int .i64 d, .int .i64 i] W fun r w' => r = .returned (.int .i64 (a.spoilE d i : Nat)) ∧ Pair g N M L lo hi w1 (a.spoilS d i) b w' :=
  (spoil_any g a d i hd1 hd2 hi1 hi2 W h.r).mono fun r w' hh => ⟨hh.1, h.left hh.2.1 hh.2.2 (a.spoilS_n d i).1 (a.spoilS_n d i).2⟩
theorem Pair.spoilD :
    Calls Tryz.prog 38 #[.pointer (some ⟨L.x, 0, none⟩), .int .i64 d, .int .i64 i] W fun r w' => r = .returned (.int .i64 (b.spoilE d i : Nat)) ∧ Pair g N M L lo hi w1 a (b.spoilS d i) w' :=
  (dSpoil_any L lo hi b d i W h.d).mono fun r w' hh => ⟨hh.1, h.right hh.2.1 hh.2.2 (b.spoilS_n d i).1 (b.spoilS_n d i).2⟩
theorem Pair.readP (hd1 : -9223372036854775808 ≤ d) (hd2 : d ≤ 9223372036854775807) (hi1 : -9223372036854775808 ≤ i) (hi2 : i ≤ 9223372036854775807) :
    Calls Tryz.prog 35 #[.pointer (some ⟨g + 1, 0, none⟩), .int .i64 d, .int .i64 i] W fun r w' => r = .returned (.tuple #[.string (a.readT d i), .int .i64 (a.readE d i : Nat)]) ∧ Pair g N M L lo hi w1 a b w' :=
  (read_any g a d i hd1 hd2 hi1 hi2 W h.r).mono fun r w' hh => ⟨hh.1, h.kept hh.2⟩
theorem Pair.readD :
    Calls Tryz.prog 29 #[.pointer (some ⟨L.x, 0, none⟩), .int .i64 d, .int .i64 i] W fun r w' => r = .returned (.tuple #[.string (b.readT d i), .int .i64 (b.readE d i : Nat)]) ∧ Pair g N M L lo hi w1 a b w' :=
  (dRead_any L lo hi b d i W h.d).mono fun r w' hh => ⟨hh.1, by rw [hh.2]; exact h⟩
theorem Pair.cutP (k : Int) (hk1 : -9223372036854775808 ≤ k) (hk2 : k ≤ 9223372036854775807) :
    Calls Tryz.prog 17 #[.pointer (some ⟨g + 1, 0, none⟩), .int .i64 k] W fun r w' => r = .returned (.int .i64 (RSt.cutE k : Nat)) ∧ Pair g N M L lo hi w1 (a.cutS k) b w' :=
  (cut_any g a k hk1 hk2 W h.r).mono fun r w' hh => ⟨hh.1, h.left hh.2.1 hh.2.2 (a.cutS_n k).1 (a.cutS_n k).2⟩
theorem Pair.liftP :
    Calls Tryz.prog 18 #[.pointer (some ⟨g + 1, 0, none⟩)] W fun r w' => r = .returned (.int .i64 0) ∧ Pair g N M L lo hi w1 a.liftS b w' :=
  (lift_any g a W h.r).mono fun r w' hh => ⟨hh.1, h.left hh.2.1 hh.2.2 rfl rfl⟩
theorem Pair.limD (c : Bool) (k : Nat) (hk : k ≤ 9223372036854775807) (v : Int) (hv : v = if c then (k : Int) else -1) : Pair g N M L lo hi w1 a (b.lim c k) (W.setCell ⟨L.x, 3, none⟩ (.int .i64 v)) :=
  h.right (h.d.setL c k hk v hv) ((Only.refl _ _ _).setCell _ _ h.d.rx.1 h.d.rx.2) rfl rfl
theorem Pair.allP (hd1 : -9223372036854775808 ≤ d) (hd2 : d ≤ 9223372036854775807) :
    Calls Tryz.prog 13 #[.pointer (some ⟨g + 1, 0, none⟩), .int .i64 d] W fun r w' => r = .returned (.string (a.all d)) ∧ Pair g N M L lo hi w1 a b w' :=
  (all_any g a d hd1 hd2 W h.r).mono fun r w' hh => ⟨hh.1, h.kept hh.2⟩
theorem Pair.allD :
    Calls Tryz.prog 14 #[.pointer (some ⟨L.x, 0, none⟩), .int .i64 d] W fun r w' => r = .returned (.string (b.all d)) ∧ Pair g N M L lo hi w1 a b w' :=
  (dAll_any L lo hi b d W h.d).mono fun r w' hh => ⟨hh.1, h.kept hh.2⟩
end
end Go.Proofs.YtoekaabngjjefaaGreat

/- One call, of both racks: it is answered alike. -/
namespace Go.Proofs.YtoekaabngjjefaaGreat
open Go.RowKit RSt
set_option linter.unusedVariables false
def stepV (op d i : Int) (t : ByteArray) : Value := .agg #[.int .u8 op, .int .i64 d, .int .i64 i, .string t]
/-- What a call leaves. -/
def stepS (s : RSt) (op d i : Int) (t : ByteArray) : RSt :=
  if op % 6 = 0 then s.writeS d i t else if op % 6 = 1 then s else if op % 6 = 2 then s.cutS i else if op % 6 = 3 then s.liftS else if op % 6 = 4 then s.wipeS d else s.spoilS d i
set_option maxHeartbeats 4000000 in
set_option maxRecDepth 100000 in
theorem do_any (g N M : Nat) (L : DLay) (lo hi : Nat) (s : RSt) (op d i : Int) (t : ByteArray) (ho1 : 0 ≤ op) (ho2 : op ≤ 255) (hd1 : -9223372036854775808 ≤ d) (hd2 : d ≤ 9223372036854775807) (hi1 : -9223372036854775808 ≤ i) (hi2 : i ≤ 9223372036854775807) (ht : t.size ≤ 9223372036854775807)
    (w : World) (hhi : hi ≤ w.heap.size) (h : Pair g N M L lo hi w s s w) :
    Calls Tryz.prog 11 #[.pointer (some ⟨g + 1, 0, none⟩), .pointer (some ⟨L.x, 0, none⟩), stepV op d i t] w fun r w' => r = .returned (.bool true) ∧ Pair g N M L lo hi w (stepS s op d i t) (stepS s op d i t) w' := by
  obtain ⟨W1, hW1⟩ : ∃ W1, W1 = w.alloc (.cells #[.int .u8 op, .int .i64 d, .int .i64 i, .string t] 40) := ⟨_, rfl⟩
  have k1 : Kept w W1 := by rw [hW1]; exact (Kept.refl _).alloc _
  have hQ : Pair g N M L lo hi w s s W1 := h.kept k1
  have p0 : W1.cell? ⟨w.heap.size, 0, none⟩ = some (.int .u8 op) := by rw [hW1, World.cell?_alloc_mark]; rfl
  have p1 : W1.cell? ⟨w.heap.size, 1, none⟩ = some (.int .i64 d) := by rw [hW1, World.cell?_alloc_mark]; rfl
  have p2 : W1.cell? ⟨w.heap.size, 2, none⟩ = some (.int .i64 i) := by rw [hW1, World.cell?_alloc_mark]; rfl
  have p3 : W1.cell? ⟨w.heap.size, 3, none⟩ = some (.string t) := by rw [hW1, World.cell?_alloc_mark]; rfl
  have hlt1 : w.heap.size < W1.heap.size := by rw [hW1, size_alloc]; omega
  have HKEEP : Hid (∀ W, Only g hi W1 W → W.cell? ⟨w.heap.size, 1, none⟩ = some (.int .i64 d) ∧ W.cell? ⟨w.heap.size, 2, none⟩ = some (.int .i64 i) ∧ W.cell? ⟨w.heap.size, 3, none⟩ = some (.string t)) := fun W hW =>
    ⟨by rw [hW.cell (p := ⟨w.heap.size, 1, none⟩) hlt1 (.inr hhi)]; exact p1, by rw [hW.cell (p := ⟨w.heap.size, 2, none⟩) hlt1 (.inr hhi)]; exact p2, by rw [hW.cell (p := ⟨w.heap.size, 3, none⟩) hlt1 (.inr hhi)]; exact p3⟩
  have hQ1 : Pair g N M L lo hi W1 s s W1 := { hQ with o := Only.refl _ _ _ }
  have HQ := Lib.hid hQ1
  have HO1 : Hid (Only g hi w W1) := k1.only _ _
  have HFIN : Hid (∀ a W, Pair g N M L lo hi W1 a a W → Pair g N M L lo hi w a a W) := fun a W hh => { hh with o := HO1.out.trans hh.o }
  clear hQ hQ1 h
  have hz : op % 6 = 0 ∨ op % 6 = 1 ∨ op % 6 = 2 ∨ op % 6 = 3 ∨ op % 6 = 4 ∨ op % 6 = 5 := by omega
  unfold stepV
  rcases hz with hz | hz | hz | hz | hz | hz
  · have HST : Hid (stepS s op d i t = s.writeS d i t) := by show _ = _; unfold stepS; rw [if_pos hz]
    have HWP : Hid (∀ b W, Pair g N M L lo hi W1 s b W → Calls Tryz.prog 25 #[.pointer (some ⟨g + 1, 0, none⟩), .int .i64 d, .int .i64 i, .string t] W fun r w' => r = .returned (.int .i64 (s.writeE d i t : Nat)) ∧ Pair g N M L lo hi W1 (s.writeS d i t) b w') := fun b W hh => hh.writeP d i hd1 hd2 hi1 hi2 t ht
    have HWD : Hid (∀ a W, Pair g N M L lo hi W1 a s W → Calls Tryz.prog 31 #[.pointer (some ⟨L.x, 0, none⟩), .int .i64 d, .int .i64 i, .string t] W fun r w' => r = .returned (.int .i64 (s.writeE d i t : Nat)) ∧ Pair g N M L lo hi W1 a (s.writeS d i t) w') := fun a W hh => hh.writeD d i t ht
    go_enter Tryz.func11, Tryz.ntmps11
    go_upto_region 1 with fail
    rw [← hW1]
    clear hW1 k1
    go_wp2_with fail
    go_region_held3 (fun W => W.cell? ⟨w.heap.size, 1, none⟩ = some (.int .i64 d) ∧ W.cell? ⟨w.heap.size, 2, none⟩ = some (.int .i64 i) ∧ W.cell? ⟨w.heap.size, 3, none⟩ = some (.string t)) (first | exact ⟨p1, p2, p3⟩ | exact HKEEP.out _ qp.o | exact HKEEP.out _ qd.o | exact HKEEP.out _ (qp.drewN _).o | exact HKEEP.out _ (qd.drewN _).o) (first | (go_at_call 25; first | (refine (HWP.out _ _ (HQ.out.drewN _)).mono ?_; rintro e wp ⟨rfl, qp⟩) | (refine (HWP.out _ _ qd).mono ?_; rintro e wp ⟨rfl, qp⟩) | (refine (HWP.out _ _ (qd.drewN _)).mono ?_; rintro e wp ⟨rfl, qp⟩)) | (go_at_call 31; first | (refine (HWD.out _ _ (HQ.out.drewN _)).mono ?_; rintro e wd ⟨rfl, qd⟩) | (refine (HWD.out _ _ qp).mono ?_; rintro e wd ⟨rfl, qd⟩) | (refine (HWD.out _ _ (qp.drewN _)).mono ?_; rintro e wd ⟨rfl, qd⟩)))
    all_goals
      go_wp2_with fail
      go_ret
      rw [HST.out]
      first | exact ⟨rfl, HFIN.out _ _ qd⟩ | exact ⟨rfl, HFIN.out _ _ qp⟩
  · have HST : Hid (stepS s op d i t = s) := by show _ = _; unfold stepS; rw [if_neg (by omega), if_pos hz]
    go_enter Tryz.func11, Tryz.ntmps11
    go_upto_region 1 with fail
    rw [← hW1]
    clear hW1 k1
    go_wp2_with fail
    refine (HQ.out.readP d i hd1 hd2 hi1 hi2).mono ?_
    rintro e wp ⟨rfl, qp⟩
    have HQP := Lib.hid qp
    obtain ⟨q1, q2, q3⟩ := HKEEP.out _ qp.o
    clear qp
    go_wp2_with fail
    refine (HQP.out.readD d i).mono ?_
    rintro e wd ⟨rfl, qd⟩
    have HQD := Lib.hid qd
    clear qd
    generalize s.readT d i = Y at *
    go_wp2_with fail
    go_ret
    rw [HST.out]
    exact ⟨rfl, HFIN.out _ _ HQD.out⟩
  · have HST : Hid (stepS s op d i t = s.cutS i) := by show _ = _; unfold stepS; rw [if_neg (by omega), if_neg (by omega), if_pos hz]
    by_cases hneg : i < 0
    · have hb : decide (i < 0) = true := decide_eq_true hneg
      have hcall := HQ.out.cutP i hi1 hi2
      rw [show RSt.cutE i = 2 from if_pos hneg] at hcall
      have HCALL := Lib.hid hcall
      have HSS : Hid (s.cutS i = s) := if_pos hneg
      clear hcall hneg
      go_enter Tryz.func11, Tryz.ntmps11
      go_upto_region 1 with fail
      rw [← hW1]
      clear hW1 k1
      go_wp2_with fail
      refine HCALL.out.mono ?_
      rintro e wp ⟨rfl, qp⟩
      rw [HSS.out] at qp
      have HQP := Lib.hid qp
      clear qp
      go_wp2_with fail
      go_ret
      rw [HST.out, HSS.out]
      exact ⟨rfl, HFIN.out _ _ HQP.out⟩
    · have hb : decide (i < 0) = false := decide_eq_false hneg
      obtain ⟨k, rfl⟩ : ∃ k : Nat, i = k := ⟨i.toNat, by omega⟩
      have HSS : Hid (s.cutS (k : Nat) = s.lim true k) := by show _ = _; unfold RSt.cutS; rw [if_neg hneg, Int.toNat_natCast]
      have HCE : Hid (RSt.cutE (k : Nat) = 0) := if_neg hneg
      have HQ2 := Lib.hid (HQ.out.limD true k (by omega) (k : Nat) rfl)
      have fx := HQ.out.d.ox.free 3
      obtain ⟨vx, hvx⟩ : ∃ vx, W1.cell? ⟨L.x, 3, none⟩ = some vx := ⟨_, HQ.out.d.ox.cell 3 (by decide)⟩
      have HLX : Hid (L.x < hi) := HQ.out.d.rx.2
      have HX2 := HKEEP.out _ HQ2.out.o
      obtain ⟨q1, q2, q3⟩ := HX2
      go_enter Tryz.func11, Tryz.ntmps11
      go_upto_region 1 with fail
      rw [← hW1]
      clear hW1 k1 hneg
      go_upto_region 12 with fail
      generalize W1.setCell ⟨L.x, 3, none⟩ (.int .i64 (k : Nat)) = W2 at *
      have hcall := HQ2.out.cutP (k : Nat) hi1 hi2
      rw [HCE.out] at hcall
      have HCALL := Lib.hid hcall
      clear hcall
      go_wp2_with fail
      refine HCALL.out.mono ?_
      rintro e wp ⟨rfl, qp⟩
      rw [HSS.out] at qp
      have HQP := Lib.hid qp
      clear qp
      go_wp2_with fail
      go_ret
      rw [HST.out, HSS.out]
      exact ⟨rfl, HFIN.out _ _ HQP.out⟩
  · have HST : Hid (stepS s op d i t = s.liftS) := by show _ = _; unfold stepS; rw [if_neg (by omega), if_neg (by omega), if_neg (by omega), if_pos hz]
    have HQ2 : Hid (Pair g N M L lo hi W1 s s.liftS (W1.setCell ⟨L.x, 3, none⟩ (.int .i64 (-1)))) := HQ.out.limD false 0 (by decide) (-1) rfl
    have fx := HQ.out.d.ox.free 3
    obtain ⟨vx, hvx⟩ : ∃ vx, W1.cell? ⟨L.x, 3, none⟩ = some vx := ⟨_, HQ.out.d.ox.cell 3 (by decide)⟩
    go_enter Tryz.func11, Tryz.ntmps11
    go_upto_region 1 with fail
    rw [← hW1]
    clear hW1 k1
    go_upto_region 15 with fail
    generalize W1.setCell ⟨L.x, 3, none⟩ (.int .i64 (-1)) = W2 at *
    go_wp2_with fail
    refine HQ2.out.liftP.mono ?_
    rintro e wp ⟨rfl, qp⟩
    have HQP := Lib.hid qp
    clear qp
    go_wp2_with fail
    go_ret
    rw [HST.out]
    exact ⟨rfl, HFIN.out _ _ HQP.out⟩
  · have HST : Hid (stepS s op d i t = s.wipeS d) := by show _ = _; unfold stepS; rw [if_neg (by omega), if_neg (by omega), if_neg (by omega), if_neg (by omega), if_pos hz]
    have HWP : Hid (∀ b W, Pair g N M L lo hi W1 s b W → Calls Tryz.prog 19 #[.pointer (some ⟨g + 1, 0, none⟩), .int .i64 d] W fun r w' => r = .returned (.int .i64 (s.wipeE d : Nat)) ∧ Pair g N M L lo hi W1 (s.wipeS d) b w') := fun b W hh => hh.wipeP d hd1 hd2
    have HWD : Hid (∀ a W, Pair g N M L lo hi W1 a s W → Calls Tryz.prog 36 #[.pointer (some ⟨L.x, 0, none⟩), .int .i64 d] W fun r w' => r = .returned (.int .i64 (s.wipeE d : Nat)) ∧ Pair g N M L lo hi W1 a (s.wipeS d) w') := fun a W hh => hh.wipeD d
    go_enter Tryz.func11, Tryz.ntmps11
    go_upto_region 1 with fail
    rw [← hW1]
    clear hW1 k1
    go_wp2_with fail
    go_region_held3 (fun W => W.cell? ⟨w.heap.size, 1, none⟩ = some (.int .i64 d) ∧ W.cell? ⟨w.heap.size, 2, none⟩ = some (.int .i64 i) ∧ W.cell? ⟨w.heap.size, 3, none⟩ = some (.string t)) (first | exact ⟨p1, p2, p3⟩ | exact HKEEP.out _ qp.o | exact HKEEP.out _ qd.o | exact HKEEP.out _ (qp.drewN _).o | exact HKEEP.out _ (qd.drewN _).o) (first | (go_at_call 19; first | (refine (HWP.out _ _ (HQ.out.drewN _)).mono ?_; rintro e wp ⟨rfl, qp⟩) | (refine (HWP.out _ _ qd).mono ?_; rintro e wp ⟨rfl, qp⟩) | (refine (HWP.out _ _ (qd.drewN _)).mono ?_; rintro e wp ⟨rfl, qp⟩)) | (go_at_call 36; first | (refine (HWD.out _ _ (HQ.out.drewN _)).mono ?_; rintro e wd ⟨rfl, qd⟩) | (refine (HWD.out _ _ qp).mono ?_; rintro e wd ⟨rfl, qd⟩) | (refine (HWD.out _ _ (qp.drewN _)).mono ?_; rintro e wd ⟨rfl, qd⟩)))
    all_goals
      go_wp2_with fail
      go_ret
      rw [HST.out]
      first | exact ⟨rfl, HFIN.out _ _ qd⟩ | exact ⟨rfl, HFIN.out _ _ qp⟩
  · have HST : Hid (stepS s op d i t = s.spoilS d i) := by show _ = _; unfold stepS; rw [if_neg (by omega), if_neg (by omega), if_neg (by omega), if_neg (by omega), if_neg (by omega)]
    have HWP : Hid (∀ b W, Pair g N M L lo hi W1 s b W → Calls Tryz.prog 37 #[.pointer (some ⟨g + 1, 0, none⟩), .int .i64 d, .int .i64 i] W fun r w' => r = .returned (.int .i64 (s.spoilE d i : Nat)) ∧ Pair g N M L lo hi W1 (s.spoilS d i) b w') := fun b W hh => hh.spoilP d i hd1 hd2 hi1 hi2
    have HWD : Hid (∀ a W, Pair g N M L lo hi W1 a s W → Calls Tryz.prog 38 #[.pointer (some ⟨L.x, 0, none⟩), .int .i64 d, .int .i64 i] W fun r w' => r = .returned (.int .i64 (s.spoilE d i : Nat)) ∧ Pair g N M L lo hi W1 a (s.spoilS d i) w') := fun a W hh => hh.spoilD d i
    go_enter Tryz.func11, Tryz.ntmps11
    go_upto_region 1 with fail
    rw [← hW1]
    clear hW1 k1
    go_wp2_with fail
    go_region_held3 (fun W => W.cell? ⟨w.heap.size, 1, none⟩ = some (.int .i64 d) ∧ W.cell? ⟨w.heap.size, 2, none⟩ = some (.int .i64 i) ∧ W.cell? ⟨w.heap.size, 3, none⟩ = some (.string t)) (first | exact ⟨p1, p2, p3⟩ | exact HKEEP.out _ qp.o | exact HKEEP.out _ qd.o | exact HKEEP.out _ (qp.drewN _).o | exact HKEEP.out _ (qd.drewN _).o) (first | (go_at_call 37; first | (refine (HWP.out _ _ (HQ.out.drewN _)).mono ?_; rintro e wp ⟨rfl, qp⟩) | (refine (HWP.out _ _ qd).mono ?_; rintro e wp ⟨rfl, qp⟩) | (refine (HWP.out _ _ (qd.drewN _)).mono ?_; rintro e wp ⟨rfl, qp⟩)) | (go_at_call 38; first | (refine (HWD.out _ _ (HQ.out.drewN _)).mono ?_; rintro e wd ⟨rfl, qd⟩) | (refine (HWD.out _ _ qp).mono ?_; rintro e wd ⟨rfl, qd⟩) | (refine (HWD.out _ _ (qp.drewN _)).mono ?_; rintro e wd ⟨rfl, qd⟩)))
    all_goals
      go_wp2_with fail
      go_ret
      rw [HST.out]
      first | exact ⟨rfl, HFIN.out _ _ qd⟩ | exact ⟨rfl, HFIN.out _ _ qp⟩
end Go.Proofs.YtoekaabngjjefaaGreat

/- Bytes of the call's own, told by a list. -/
namespace Go.Proofs.YtoekaabngjjefaaGreat
open Go.RowKit
set_option linter.unusedVariables false
structure BytL (g : Nat) (l : List UInt8) (w : World) : Prop where
  cell : ∀ (j : Nat) (h : j < l.length), w.cell? ⟨g, j, none⟩ = some (.int .u8 (l[j].toNat : Nat))
  free : ∀ j, j < l.length → w.frozen? ⟨g, j, none⟩ = false
theorem BytL.set {g : Nat} {l : List UInt8} {w : World} (h : BytL g l w) (k : Nat) (hk : k < l.length) (v : UInt8) : BytL g (l.set k v) (w.setCell ⟨g, k, none⟩ (.int .u8 (v.toNat : Nat))) := by
  refine ⟨fun j hj => ?_, fun j hj => by rw [World.frozen?_setCell]; exact h.free j (by simpa using hj)⟩
  have hj' : j < l.length := by simpa using hj
  rw [List.getElem_set]
  by_cases e : k = j
  · subst e
    rw [if_pos rfl, World.cell?_setCell_same _ _ _ (h.cell k hk)]
  · rw [if_neg e, World.cell?_setCell_other _ _ _ _ (fun h => e (by injection h with _ e2)), h.cell j hj']
theorem BytL.kept {g : Nat} {l : List UInt8} {w w' : World} (h : BytL g l w) (k : Kept w w') : BytL g l w' := by
  refine ⟨fun j hj => ?_, fun j hj => ?_⟩
  · have hb : g < w.heap.size := block_lt_of_cell (h.cell j hj)
    rw [Below.cell k (p := ⟨g, j, none⟩) hb]; exact h.cell j hj
  · have hb : g < w.heap.size := block_lt_of_cell (h.cell j hj)
    rw [Below.frozen k (p := ⟨g, j, none⟩) hb]; exact h.free j hj
theorem BytL.only {g lo hi : Nat} {l : List UInt8} {w w' : World} (h : BytL g l w) (k : Only lo hi w w') (hg : hi ≤ g) : BytL g l w' := by
  refine ⟨fun j hj => ?_, fun j hj => ?_⟩
  · have hb : g < w.heap.size := block_lt_of_cell (h.cell j hj)
    rw [k.cell (p := ⟨g, j, none⟩) hb (.inr hg)]; exact h.cell j hj
  · have hb : g < w.heap.size := block_lt_of_cell (h.cell j hj)
    rw [k.frozen (p := ⟨g, j, none⟩) hb (.inr hg)]; exact h.free j hj
/-- The bytes that '[]byte(s)' makes. -/
theorem BytL.conv (w : World) (s : ByteArray) (cap : Nat) (t : TypeId) : BytL w.heap.size s.data.toList (w.drew.alloc (.cells (bytesRow s cap) t ((bytesRow s cap).size, (bytesRow s cap).size + 1))) := by
  have hz : s.size ≤ (bytesRow s cap).size := by unfold bytesRow; rw [Array.size_append, Array.size_map]; exact Nat.le_add_right _ _
  have hl : s.data.toList.length = s.size := by simp
  refine ⟨fun j hj => ?_, fun j hj => ?_⟩
  · show (w.alloc (Obj.cells (bytesRow s cap) _ _)).cell? _ = _
    rw [World.cell?_alloc_mark, bytesRow_at s cap j (by simpa using hj)]
    simp
  · show (w.alloc (Obj.cells (bytesRow s cap) _ _)).frozen? _ = _
    rw [World.frozen?_alloc_mark]
    simp
    omega
/-- A part of them as a text. -/
theorem BytL.text {g : Nat} {l : List UInt8} {w : World} (h : BytL g l w) (lo n cap : Nat) (hn : lo + n ≤ l.length) :
    (convert 84 9 (.slice (some ⟨g, lo, none⟩) n cap)).run Tryz.prog w = .ok (.string ⟨((l.drop lo).take n).toArray⟩) w := by
  have hr := run_convert_bytes_back (P := Tryz.prog) w 84 9 5 ⟨g, lo, none⟩ cap ((l.drop lo).take n) Tryz.underlying84 Tryz.underlying5 Tryz.underlying9 (fun j hj => by
    have hj' : j < n := by simp at hj; omega
    have hjl : lo + j < l.length := by omega
    have := h.cell (lo + j) hjl
    have ha : (⟨g, lo, none⟩ : Addr).add j = ⟨g, lo + j, none⟩ := by
      unfold Addr.add
      split
      · rename_i h0; subst h0; rfl
      · rfl
    rw [ha]
    simpa using this)
  rw [show ((l.drop lo).take n).length = n from by simp; omega] at hr
  exact hr
end Go.Proofs.YtoekaabngjjefaaGreat

