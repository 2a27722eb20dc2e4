/- SlotGatR2, SlotSpoiltM, SlotHit, SlotVotesM. -/
import Derived.Test.YtoekaabngjjefaaPart26
import Derived.Test.YtoekaabngjjefaaPart22
import Derived.Test.YtoekaabngjjefaaPart25
import Derived.Test.YtoekaabngjjefaaPart23
import Derived.Test.YtoekaabngjjefaaPart19
/- A slice of roots gathered by append, beside a rack: all else stays; where they lie. -/
namespace Go.Proofs.Ytoekaabngjjefaa
open Go.RowKit Sm Wr _root_.Go.Proofs.Ytoekaabngjjefaa.Nm
set_option linter.unusedVariables false
theorem GatR.only {B lo hi : Nat} {v : Value} {xs : List Rt} {w w' : World} (h : GatR B v xs w) (k : Only lo hi w w') (hb : hi ≤ B) : GatR B v xs w' := by
  obtain ⟨h1, h2⟩ := h
  refine ⟨h1, ?_⟩
  rcases h2 with h2 | ⟨g, cap, cur, h2, h3, h4, h5⟩
  · exact .inl h2
  · exact .inr ⟨g, cap, cur, h2, h3, by rw [k.block g (Array.getElem?_eq_some_iff.1 h4).1 (.inr (by omega))]; exact h4, h5⟩
theorem rtCells_len (x : Rt) : (rtCells x).length = 5 := rfl
theorem flat_at (xs : List Rt) : ∀ (j i : Nat) (hj : j < xs.length) (hi : i < 5), (xs.flatMap rtCells)[j * 5 + i]? = (rtCells xs[j])[i]? := by
  induction xs with
  | nil => intro j i hj; exact absurd hj (Nat.not_lt_zero _)
  | cons x r ih =>
    intro j i hj hi
    rw [List.flatMap_cons]
    cases j with
    | zero =>
      rw [Nat.zero_mul, Nat.zero_add, List.getElem?_append_left (by rw [rtCells_len]; exact hi)]
      rfl
    | succ j =>
      rw [List.getElem?_append_right (by rw [rtCells_len]; omega), rtCells_len, show (j + 1) * 5 + i - 5 = j * 5 + i from by omega, ih j i (by simpa using hj) hi]
      rfl
theorem GatR.at {B : Nat} {v : Value} {xs : List Rt} {w : World} (h : GatR B v xs w) (h0 : 0 < xs.length) : ∃ q cap, v = .slice (some ⟨q, 0, none⟩) xs.length cap ∧ B ≤ q ∧ ∀ (j : Nat) (hj : j < xs.length), RtIn w q (j * 5) xs[j] := by
  obtain ⟨h1, h2⟩ := h
  rcases h2 with ⟨_, h2⟩ | ⟨g, cap, cur, rfl, h3, h4, h5, h6, h7, h8⟩
  · omega
  · refine ⟨g, cap, rfl, h3, fun j hj => ?_⟩
    have hc : ∀ i, i < 5 → w.cell? ⟨g, j * 5 + i, none⟩ = (rtCells xs[j])[i]? := fun i hi => by
      rw [cell_of_row _ _ _ _ _ _ h4, ← Array.getElem?_toList, ← flat_at xs j i hj hi, ← h8, List.getElem?_take_of_lt (by omega)]
    exact ⟨by have := hc 0 (by decide); exact this, by have := hc 1 (by decide); exact this, by have := hc 2 (by decide); exact this, by have := hc 3 (by decide); exact this, by have := hc 4 (by decide); exact this⟩
/-- An append of one root; all blocks but the row's own are as they were. -/
theorem wpList_gatR2 {ops : Array Oper} {rest : List Oper} {o : Oper} {a : Act} {Q : Exit → Act → World → Prop} (W : World) (hgd : o.guard = none) (s x : Operand) (t : TypeId)
    (ho : o.op = .call { callee := .builtin .append, args := #[s, x], argTypes := #[t, t] }) (ht : Try.prog.underlying t = some (.slice 26))
    (w0 : World) (B : Nat) (hB0 : w0.heap.size ≤ B) (hB1 : B ≤ W.heap.size) (v : Value) (xs : List Rt) (hs : a.eval s = v) (hG : GatR B v xs W) (hK : Kept w0 W) (y : Rt) (g : Nat) (hx : a.eval x = .slice (some ⟨g, 0, none⟩) 1 1) (hc : ∀ j u, (rtCells y)[j]? = some u → W.cell? ((⟨g, 0, none⟩ : Addr).add j) = some u) (hl : xs.length ≤ 1000000000)
    (h : ∀ v' w', GatR B v' (xs ++ [y]) w' → Kept w0 w' → W.heap.size ≤ w'.heap.size → (∀ b, b < W.heap.size → v.ownBlock ≠ some b → w'.heap[b]? = W.heap[b]?) → wpList Try.prog ops Q rest (a.put o.dst v') w') : wpList Try.prog ops Q (o :: rest) a W := by
  obtain ⟨i0, hi, hzz⟩ := Option.map_eq_some_iff.1 infoR_root
  simp only [Prod.mk.injEq] at hzz
  refine wpList_append_own_wide W hgd s x t ho B 26 i0 _ 5 40 ht hi hzz.1 hzz.2.1 hzz.2.2 rfl (by decide) v xs.length (xs.flatMap rtCells) hs hG ⟨g, 0, none⟩ 1 1 (rtCells y) hx rfl hc (rtCells_one y) (by unfold maxLen; omega) (by omega) hB1 ?_
  intro v' w' h2 h3 _
  refine h v' w' ?_ (Below.grown hK h3 hK.size (fun k hk => Nat.le_trans hB0 (hG.lt k hk).1)) h3.size (fun b hb hn => h3.block b hb (fun e => hn e.symm))
  unfold GatR
  rw [List.length_append, List.flatMap_append]
  simpa using h2
end Go.Proofs.Ytoekaabngjjefaa

/- Spoilt slots: what Vote tells. -/
namespace Go.Proofs.Ytoekaabngjjefaa
open Go.RowKit Sm Wr _root_.Go.Proofs.Ytoekaabngjjefaa.Nm
set_option linter.unusedVariables false
/-- How many of the first n are hit. -/
def hits (hit : Nat → Bool) (n : Nat) : Nat := ((List.range n).filter hit).length
theorem hits_le (hit : Nat → Bool) (n : Nat) : hits hit n ≤ n := by
  unfold hits
  have := List.length_filter_le hit (List.range n)
  simpa using this
theorem hits_none (n : Nat) : hits (fun _ => false) n = 0 := by
  unfold hits
  simp
theorem filter_off (hit : Nat → Bool) (d : Nat) : ∀ n, n ≤ d → (List.range n).filter (fun j => hit j || decide (j = d)) = (List.range n).filter hit := by
  intro n hn
  apply List.filter_congr
  intro j hj
  have := List.mem_range.1 hj
  rw [decide_eq_false (by omega), Bool.or_false]
theorem hits_add (hit : Nat → Bool) (d : Nat) (h : hit d = false) : ∀ n, d < n → hits (fun j => hit j || decide (j = d)) n = hits hit n + 1 := by
  intro n
  induction n with
  | zero => intro h; omega
  | succ n ih =>
    intro hd
    unfold hits
    rw [List.range_succ, List.filter_append, List.filter_append, List.length_append, List.length_append]
    by_cases e : d = n
    · subst e
      rw [filter_off hit d d (Nat.le_refl _)]
      simp [List.filter, h]
    · have hlt : d < n := by omega
      have := ih hlt
      unfold hits at this
      rw [this]
      have hn : (hit n || decide (n = d)) = hit n := by rw [decide_eq_false (by omega), Bool.or_false]
      have hsame : List.filter (fun j => hit j || decide (j = d)) [n] = List.filter hit [n] := by
        simp only [List.filter, hn]
      rw [hsame]
      omega
theorem hits_lt {hit : Nat → Bool} {n : Nat} (h : hits hit n < n) : ∃ d, d < n ∧ hit d = false := by
  by_cases hx : ∃ d, d < n ∧ hit d = false
  · exact hx
  · exfalso
    have : hits hit n = n := by
      unfold hits
      rw [List.filter_eq_self.2, List.length_range]
      intro d hd
      cases hc : hit d with
      | true => rfl
      | false => exact absurd ⟨d, List.mem_range.1 hd, hc⟩ hx
    omega
/-- All drives have y, but of those that are hit slot a is spoilt. -/
structure Spt (s : RSt) (n : Nat) (y : Rt) (a : Nat) (hit : Nat → Bool) : Prop where
  hn : s.n = n
  hm : s.m = 24
  cut : s.cut = false
  bads : ∀ d, d < n → hit d = true → s.bad d a = true
  fine : ∀ d, d < n → hit d = false → Holds s y d
theorem Spt.start {s : RSt} {n gen : Nat} {xs : List Rt} {y : Rt} (h : Turned s n gen (xs ++ [y])) (a : Nat) : Spt s n y a (fun _ => false) :=
  ⟨h.hn, h.hm, h.cut, fun d _ hh => Bool.noConfusion hh, fun d hd _ => h.top d (by rw [h.hn]; exact hd)⟩
theorem Spt.hit {s : RSt} {n : Nat} {y : Rt} {a : Nat} {hit : Nat → Bool} (h : Spt s n y a hit) (d : Nat) (hd : d < n) (ha : a < 2) :
    s.spoilE d a = 0 ∧ Spt (s.spoilS d a) n y a (fun j => hit j || decide (j = d)) := by
  have ht : s.there d a = true := there_lt s (by rw [h.hn]; exact hd) (by rw [h.hm]; omega)
  have hs : s.spoilS d a = s.spoil d a := by unfold RSt.spoilS; rw [ht, if_pos rfl, Int.toNat_natCast, Int.toNat_natCast]
  refine ⟨by unfold RSt.spoilE; rw [ht, if_pos rfl], ?_⟩
  rw [hs]
  have hT : ∀ j k, (s.spoil d a).T j k = s.T j k := fun j k => by
    show (if j = d ∧ k = a then s.T d a else s.T j k) = _
    split
    · rename_i c; rw [c.1, c.2]
    · rfl
  have hb : ∀ j k, (s.spoil d a).bad j k = if j = d ∧ k = a then true else s.bad j k := fun j k => rfl
  refine ⟨h.hn, h.hm, h.cut, fun j hj hh => ?_, fun j hj hh => ?_⟩
  · rw [hb]
    split
    · rfl
    · rename_i c
      rw [Bool.or_eq_true] at hh
      rcases hh with hh | hh
      · exact h.bads j hj hh
      · exact absurd ⟨of_decide_eq_true hh, rfl⟩ c
  · rw [Bool.or_eq_false_iff] at hh
    have hne : j ≠ d := of_decide_eq_false hh.2
    exact (h.fine j hj hh.1).congr (fun i => hT j i) (fun i => by rw [hb, if_neg (fun c => hne c.1)])
theorem Spt.vote {s : RSt} {n : Nat} {y : Rt} {a : Nat} {hit : Nat → Bool} (h : Spt s n y a hit) (g : Geo) (p : Nat) (hgp : g.p = p) (hf : g.fits s = true) (hy : y.may = true) (ha : a < 2) (hpn : p < n) :
    (p < hits hit n → voteR s g = (Rt.none, [], 90)) ∧ (¬ p < hits hit n → voteR s g = (y, (List.range n).map (fun d => !hit d), 0)) := by
  have hdn : s.down = false := by unfold RSt.down; rw [h.cut]; rfl
  have hbad : ∀ d, d < n → hit d = true → slotsR s d = .none := fun d hd hh => slotsR_bad s d (by rw [h.hn]; exact hd) (by rw [h.hm]; decide) a ha (h.bads d hd hh) hdn
  have g0 := (Rt.may_iff hy).1
  constructor
  · intro hlt
    have hc : (vTo s s.n).2 = hits hit n := by
      rw [vTo_none, h.hn]
      unfold hits
      congr 1
      apply List.filter_congr
      intro d hd
      have hd := List.mem_range.1 hd
      cases hh : hit d with
      | true => exact Gone.noR (.inl (hbad d hd hh))
      | false =>
        obtain ⟨a', b', e, _, _, _, h5⟩ := (h.fine d hd hh).seen hy (by rw [h.hn]; exact hd) (by rw [h.hm]; decide) hdn
        unfold noR
        rw [e]
        dsimp only
        refine decide_eq_false ?_
        rintro ⟨a0, b0⟩
        rcases h5 with rfl | rfl <;> omega
    exact voteR_lost (t := (vTo s s.n).1) (c := hits hit n) hf hdn (Prod.ext rfl hc) (by rw [hgp]; omega)
  · intro hge
    obtain ⟨d0, hd0, hh0⟩ := hits_lt (hit := hit) (n := n) (by omega)
    have hm := vote_mixed s y hy (by rw [h.hm]; decide) hdn hit (fun d hd hh => .inl (hbad d (by rw [← h.hn]; exact hd) hh)) (fun d hd hh => .inl (h.fine d (by rw [← h.hn]; exact hd) hh)) ⟨d0, by rw [h.hn]; exact hd0, hh0, h.fine d0 hd0 hh0⟩
    rw [h.hn] at hm
    rw [voteR_is (t := y) (c := hits hit n) hf hdn (by rw [h.hn]; exact hm.1) (by rw [hgp]; omega), h.hn]
    congr 2
    apply List.map_congr_left
    intro d hd
    have hd := List.mem_range.1 hd
    cases hh : hit d with
    | true => rw [hbad d hd hh]; rfl
    | false =>
      rw [(hm.2 d hd).2 ⟨hh, h.fine d hd hh⟩]
      rfl
end Go.Proofs.Ytoekaabngjjefaa

/- Bools that a call has made. -/
namespace Go.Proofs.Ytoekaabngjjefaa
open Go.RowKit
set_option linter.unusedVariables false
/-- Bools in a block of the call's own. -/
structure HitAt (w : World) (q n : Nat) (hit : Nat → Bool) : Prop where
  cell : ∀ j, j < n → w.cell? ⟨q, j, none⟩ = some (.bool (hit j))
  free : ∀ j, j < n → w.frozen? ⟨q, j, none⟩ = false
theorem HitAt.kept {w w' : World} {q n : Nat} {hit : Nat → Bool} (h : HitAt w q n hit) (k : Kept w w') : HitAt w' q n hit :=
  ⟨fun j hj => by rw [Below.cell k (p := ⟨q, j, none⟩) (block_lt_of_cell (h.cell j hj))]; exact h.cell j hj, fun j hj => by rw [Below.frozen k (p := ⟨q, j, none⟩) (block_lt_of_cell (h.cell j hj))]; exact h.free j hj⟩
theorem HitAt.only {w w' : World} {q n lo hi : Nat} {hit : Nat → Bool} (h : HitAt w q n hit) (k : Only lo hi w w') (hq : hi ≤ q) : HitAt w' q n hit :=
  ⟨fun j hj => by rw [k.cell (p := ⟨q, j, none⟩) (block_lt_of_cell (h.cell j hj)) (.inr hq)]; exact h.cell j hj, fun j hj => by rw [k.frozen (p := ⟨q, j, none⟩) (block_lt_of_cell (h.cell j hj)) (.inr hq)]; exact h.free j hj⟩
theorem HitAt.set {w : World} {q n : Nat} {hit : Nat → Bool} (h : HitAt w q n hit) (d : Nat) (hd : d < n) : HitAt (w.setCell ⟨q, d, none⟩ (.bool true)) q n (fun j => hit j || decide (j = d)) := by
  refine ⟨fun j hj => ?_, fun j hj => by rw [World.frozen?_setCell]; exact h.free j hj⟩
  by_cases e : j = d
  · subst e
    rw [World.cell?_setCell_same _ _ _ (h.cell j hj), decide_eq_true rfl, Bool.or_true]
  · rw [World.cell?_setCell_other _ _ _ _ (fun h => e (by injection h with _ e2; exact e2.symm)), h.cell j hj, decide_eq_false e, Bool.or_false]
theorem make_bools (n : Nat) (hn : n ≤ 1000) (W : World) : (Instr.makeSlice 46 (.int .i64 (n : Int)) (.int .i64 (n : Int))).run Try.prog W = .ok (.slice (some ⟨W.heap.size, 0, none⟩) n n) (W.alloc (.cells (madeCells #[.bool false] n) 4)) :=
  run_make_row' (P := Try.prog) 46 4 (.bool false) 1 Try.underlying46 info_boolB rfl .i64 .i64 n (by omega) (by omega) W
theorem HitAt.made (w : World) (n : Nat) (T : TypeId) : HitAt (w.alloc (.cells (madeCells #[.bool false] n) T)) w.heap.size n (fun _ => false) :=
  ⟨fun j hj => by rw [World.cell?_alloc_mark]; have h := made_get #[.bool false] n j 0 hj (by decide); rw [show (#[Value.bool false] : Array Value).size = 1 from rfl, Nat.mul_one, Nat.mul_one] at h; exact h, fun j hj => by rw [World.frozen?_alloc_mark]; simp⟩
end Go.Proofs.Ytoekaabngjjefaa

/- Writes that are cut, one behind the other, a drive lost between: what is told. -/
namespace Go.Proofs.Ytoekaabngjjefaa
open Go.RowKit Sm Wr _root_.Go.Proofs.Ytoekaabngjjefaa.Nm
set_option linter.unusedVariables false
set_option linter.unusedSectionVars false
/-- All drives have x. -/
structure Held (s : RSt) (n : Nat) (x : Rt) : Prop where
  hn : s.n = n
  hm : s.m = 24
  cut : s.cut = false
  hx : x.may = true
  all : ∀ d, d < n → Holds s x d
/-- What a Write of z wants of a drive. -/
def OkFor (s : RSt) (z : Rt) (d : Nat) : Prop := (s.bad d 0 = false ∧ s.bad d 1 = false) ∧ newer s z d = false ∧ (rtAt (s.T d z.oth) z.oth).gen < z.gen
theorem okfor_same {s : RSt} {x : Rt} {d : Nat} (h : Holds s x d) (hd : d < s.n) (hm : 2 ≤ s.m) (hdn : s.down = false) : OkFor s x d := ⟨⟨h.b0, h.b1⟩, h.again hd hm hdn, h.oth⟩
theorem okfor_next {s : RSt} {x y : Rt} {d : Nat} (h : Holds s x d) (hx : x.may = true) (hxy : x.gen + 1 = y.gen) (hd : d < s.n) (hm : 2 ≤ s.m) (hdn : s.down = false) : OkFor s y d := by
  obtain ⟨e1, _⟩ := me_of hxy
  refine ⟨⟨h.b0, h.b1⟩, h.next hx (by omega) e1 hd hm hdn, ?_⟩
  rw [e1, h.me, rtAt_raw hx]
  omega
theorem okfor_zero {s : RSt} {z : Rt} {d : Nat} (hT : ∀ k, s.T d k = zero64) (hb : ∀ k, s.bad d k = false) (hz : 1 ≤ z.gen) : OkFor s z d := by
  refine ⟨⟨hb 0, hb 1⟩, newer_zero _ _ _ (fun _ => hT _), ?_⟩
  rw [hT, rtAt_zero]
  show 0 < z.gen
  omega
theorem okfor_write {s : RSt} {n : Nat} {z : Rt} (hn : s.n = n) (hm : s.m = 24) (hc : s.cut = false) (hz : z.may = true) (h : ∀ d, d < n → OkFor s z d) :
    wrTo s z s.n = (0, wrK s z n) ∧ Held (wrK s z n) n z := by
  refine ⟨?_, hn, hm, hc, hz, ?_⟩
  · have := wrTo_run s z hz (by rw [hm]; decide) (fun d hd => (h d (by rw [← hn]; exact hd)).2.1) s.n (Nat.le_refl _) (fun h => by rw [hc] at h; cases h)
    rw [this, hn]
  · exact run_holds s z (fun d hd => (h d (by rw [← hn]; exact hd)).1) (fun d hd => (h d (by rw [← hn]; exact hd)).2.2) n (by rw [hn]; exact Nat.le_refl _)
def wipeO (s : RSt) : Option Nat → RSt
  | .none => s
  | some d => s.wipe d
def lostO : Option Nat → Nat → Bool
  | .none, _ => false
  | some e, d => decide (d = e)
/-- The rack behind a cut Write of y, and a loss. -/
def cutS2 (s : RSt) (y : Rt) (k n : Nat) (wp : Option Nat) : RSt := wipeO ((wrK (s.lim true k) y (min k n)).lim false 0) wp
/-- Has one of the first d drives y? -/
def thr (j : Nat) (wp : Option Nat) (d : Nat) : Bool := (List.range d).any (fun e => decide (e < j) && !lostO wp e)
theorem thr_next (j : Nat) (wp : Option Nat) (d : Nat) : thr j wp (d + 1) = (thr j wp d || (decide (d < j) && !lostO wp d)) := by
  unfold thr
  rw [List.range_succ, List.any_append]
  simp
theorem thr_true {j : Nat} {wp : Option Nat} {n : Nat} (h : thr j wp n = true) : ∃ d, d < n ∧ d < j ∧ lostO wp d = false := by
  unfold thr at h
  rw [List.any_eq_true] at h
  obtain ⟨d, hd, h⟩ := h
  rw [Bool.and_eq_true, decide_eq_true_eq, Bool.not_eq_true'] at h
  exact ⟨d, List.mem_range.1 hd, h.1, h.2⟩
theorem thr_false {j : Nat} {wp : Option Nat} {n : Nat} (h : thr j wp n = false) : ∀ d, d < n → lostO wp d = false → ¬ d < j := by
  intro d hd hl hj
  have : thr j wp n = true := by
    unfold thr
    rw [List.any_eq_true]
    exact ⟨d, List.mem_range.2 hd, by rw [decide_eq_true hj, hl]; rfl⟩
  rw [h] at this
  cases this
section
variable {s : RSt} {n : Nat} {x y : Rt} (h : Held s n x) (hy : y.may = true) (hxy : x.gen + 1 = y.gen) (k : Nat) (wp : Option Nat)
include h hy hxy
theorem cut_write : ∃ E, wrTo (s.lim true k) y (s.lim true k).n = (E, wrK (s.lim true k) y (min k n)) := by
  have hnew : ∀ d, d < (s.lim true k).n → newer (s.lim true k) y d = false := by
    intro d hd
    have hd' : d < n := by rw [← h.hn]; exact hd
    by_cases hk : k = 0
    · unfold newer
      have : (s.lim true k).readE d y.oth = 71 := by
        rw [readE_71]
        show (true && k == 0) = true
        rw [hk]; rfl
      rw [this]
      rfl
    · have hh : Holds (s.lim true k) x d := (h.all d hd').congr (fun _ => rfl) (fun _ => rfl)
      exact hh.next h.hx (by omega) (me_of hxy).1 hd (by show 2 ≤ s.m; rw [h.hm]; decide) (by show (true && k == 0) = false; rw [Bool.true_and, beq_eq_false_iff_ne]; exact hk)
  have hm : 2 ≤ (s.lim true k).m := by show 2 ≤ s.m; rw [h.hm]; decide
  by_cases hk : k < n
  · have := wrTo_cut (s.lim true k) y hy hm hnew rfl (by show k < s.n; rw [h.hn]; exact hk)
    exact ⟨71, by rw [this, Nat.min_eq_left (by omega)]; rfl⟩
  · have := wrTo_run (s.lim true k) y hy hm hnew (s.lim true k).n (Nat.le_refl _) (fun _ => by show s.n ≤ k; rw [h.hn]; omega)
    exact ⟨0, by rw [this, Nat.min_eq_right (by omega)]; show (0, wrK (s.lim true k) y s.n) = _; rw [h.hn]⟩
theorem cut_size : (cutS2 s y k n wp).n = n ∧ (cutS2 s y k n wp).m = 24 ∧ (cutS2 s y k n wp).cut = false := by
  unfold cutS2
  cases wp with
  | none => exact ⟨h.hn, h.hm, rfl⟩
  | some e => exact ⟨h.hn, h.hm, rfl⟩
/-- Each drive behind it: lost, with y, or with x. -/
theorem cut_drive (d : Nat) (hd : d < n) :
    (lostO wp d = true → (∀ i, (cutS2 s y k n wp).T d i = zero64) ∧ ∀ i, (cutS2 s y k n wp).bad d i = false) ∧
    (lostO wp d = false → d < min k n → Holds (cutS2 s y k n wp) y d) ∧ (lostO wp d = false → ¬ d < min k n → Holds (cutS2 s y k n wp) x d) := by
  have hsame : lostO wp d = false → (∀ i, (cutS2 s y k n wp).T d i = (wrK (s.lim true k) y (min k n)).T d i) ∧ ∀ i, (cutS2 s y k n wp).bad d i = (wrK (s.lim true k) y (min k n)).bad d i := by
    intro hl
    unfold cutS2
    cases wp with
    | none => exact ⟨fun _ => rfl, fun _ => rfl⟩
    | some e =>
      have hne : ¬ d = e := of_decide_eq_false hl
      exact ⟨fun _ => if_neg hne, fun _ => if_neg hne⟩
  refine ⟨fun hl => ?_, fun hl hj => ?_, fun hl hj => ?_⟩
  · unfold cutS2
    cases wp with
    | none => cases hl
    | some e =>
      have he : d = e := of_decide_eq_true hl
      exact ⟨fun _ => if_pos he, fun _ => if_pos he⟩
  · obtain ⟨e1, e2⟩ := hsame hl
    have hh := run_holds (s.lim true k) y (fun d hd => ⟨(h.all d (by rw [← h.hn]; exact hd)).b0, (h.all d (by rw [← h.hn]; exact hd)).b1⟩) (fun d hd => by
      show (rtAt (s.T d y.oth) y.oth).gen < y.gen
      rw [(me_of hxy).1, (h.all d (by rw [← h.hn]; exact hd)).me, rtAt_raw h.hx]
      omega) (min k n) (by show min k n ≤ s.n; rw [h.hn]; exact Nat.min_le_right _ _) d hj
    exact hh.congr e1 e2
  · obtain ⟨e1, e2⟩ := hsame hl
    exact (h.all d hd).congr (fun i => by rw [e1]; show (if d < min k n ∧ i = y.me then y.raw else s.T d i) = _; rw [if_neg (fun c => hj c.1)]) (fun i => by rw [e2]; show (if d < min k n ∧ i = y.me then false else s.bad d i) = _; rw [if_neg (fun c => hj c.1)])
theorem cut_down : (cutS2 s y k n wp).down = false := by unfold RSt.down; rw [(cut_size h hy hxy k wp).2.2]; rfl
/-- What is read in y's slot. -/
theorem cut_read (d : Nat) (hd : d < n) : (cutS2 s y k n wp).readE d (y.me : Nat) = 0 ∧
    (decR ((cutS2 s y k n wp).readT d (y.me : Nat)).data.toList = some y ↔ (decide (d < min k n) && !lostO wp d) = true) := by
  obtain ⟨c1, c2, c3⟩ := cut_drive h hy hxy k wp d hd
  obtain ⟨z1, z2, z3⟩ := cut_size h hy hxy k wp
  have hme := y.me_lt
  have hb : (cutS2 s y k n wp).bad d y.me = false := by
    cases hl : lostO wp d with
    | true => exact (c1 hl).2 _
    | false =>
      by_cases hj : d < min k n
      · rcases (show y.me = 0 ∨ y.me = 1 by omega) with e | e <;> rw [e]
        · exact (c2 hl hj).b0
        · exact (c2 hl hj).b1
      · rcases (show y.me = 0 ∨ y.me = 1 by omega) with e | e <;> rw [e]
        · exact (c3 hl hj).b0
        · exact (c3 hl hj).b1
  have he : (cutS2 s y k n wp).readE d (y.me : Nat) = 0 := by
    unfold RSt.readE
    rw [cut_down h hy hxy k wp, if_neg (by decide), there_lt _ (by rw [z1]; exact hd) (by rw [z2]; omega), if_neg (by decide), Int.toNat_natCast, Int.toNat_natCast, hb, if_neg (by decide)]
  have ht : ((cutS2 s y k n wp).readT d (y.me : Nat)).data.toList = (cutS2 s y k n wp).T d y.me := by
    unfold RSt.readT
    rw [if_pos he, Int.toNat_natCast, Int.toNat_natCast]
  obtain ⟨e1, e2⟩ := me_of hxy
  have hox : x.oth = y.me := by unfold Rt.oth Rt.me; omega
  refine ⟨he, ?_⟩
  · rw [ht]
    cases hl : lostO wp d with
    | true => rw [(c1 hl).1, decR_zero]; simp
    | false =>
      by_cases hj : d < min k n
      · rw [(c2 hl hj).me, decR_raw hy, decide_eq_true hj]; simp
      · rw [decide_eq_false hj]
        simp only [Bool.false_and, Bool.false_eq_true, iff_false]
        intro hd2
        have ho := (c3 hl hj).oth
        rw [hox] at ho
        unfold rtAt at ho
        rw [hd2] at ho
        dsimp only at ho
        rw [if_pos (show y.gen % 2 = y.me from rfl)] at ho
        omega
theorem cut_vote (g : Geo) (p : Nat) (hgp : g.p = p) (hf : g.fits (cutS2 s y k n wp) = true) (hn1 : 1 ≤ n) (hwp : ∀ e, wp = some e → e < n ∧ 2 ≤ n ∧ 1 ≤ p) :
    ∃ has, voteR (cutS2 s y k n wp) g = ((if thr (min k n) wp n = true then y else x), has, 0) ∧ has.length = n := by
  obtain ⟨z1, z2, z3⟩ := cut_size h hy hxy k wp
  have hdn := cut_down h hy hxy k wp
  have hgone : ∀ d, d < (cutS2 s y k n wp).n → lostO wp d = true → Gone (cutS2 s y k n wp) d := fun d hd hl => by
    obtain ⟨c1, _, _⟩ := cut_drive h hy hxy k wp d (by rw [← z1]; exact hd)
    exact gone_zero _ d hd (by rw [z2]; decide) hdn ((c1 hl).1 0) ((c1 hl).1 1) ((c1 hl).2 0) ((c1 hl).2 1)
  have hcount : ((List.range n).filter (lostO wp)).length ≤ p := by
    cases wp with
    | none =>
      have : (List.range n).filter (lostO none) = [] := List.filter_eq_nil_iff.2 (fun a _ => by simp [lostO])
      rw [this]; exact Nat.zero_le _
    | some e =>
      obtain ⟨e1, _, e3⟩ := hwp e rfl
      have := hits_add (fun _ => false) e rfl n e1
      rw [hits_none] at this
      have h2 : hits (fun j => false || decide (j = e)) n = ((List.range n).filter (lostO (some e))).length := by
        rfl
      omega
  have fin : ∀ t : Rt, vTo (cutS2 s y k n wp) (cutS2 s y k n wp).n = (t, ((List.range (cutS2 s y k n wp).n).filter (lostO wp)).length) → ∃ has, voteR (cutS2 s y k n wp) g = (t, has, 0) ∧ has.length = n := fun t ht =>
    ⟨_, voteR_is hf hdn ht (by rw [hgp, z1]; omega), by rw [List.length_map, List.length_range, z1]⟩
  cases hth : thr (min k n) wp n with
  | true =>
    obtain ⟨d0, hd0, hj0, hl0⟩ := thr_true hth
    rw [if_pos rfl]
    refine fin y (vote_mixed (cutS2 s y k n wp) y hy (by rw [z2]; decide) hdn (lostO wp) hgone (fun d hd hl => ?_) ⟨d0, by rw [z1]; exact hd0, hl0, (cut_drive h hy hxy k wp d0 hd0).2.1 hl0 hj0⟩).1
    obtain ⟨_, c2, c3⟩ := cut_drive h hy hxy k wp d (by rw [← z1]; exact hd)
    by_cases hj : d < min k n
    · exact .inl (c2 hl hj)
    · exact .inr ⟨x, h.hx, by omega, c3 hl hj⟩
  | false =>
    have hno := thr_false hth
    rw [if_neg (by decide)]
    have hex : ∃ d, d < n ∧ lostO wp d = false := by
      cases wp with
      | none => exact ⟨0, hn1, rfl⟩
      | some e =>
        obtain ⟨_, e2, _⟩ := hwp e rfl
        by_cases h0 : e = 0
        · exact ⟨1, by omega, decide_eq_false (by omega)⟩
        · exact ⟨0, by omega, decide_eq_false (by omega)⟩
    obtain ⟨d0, hd0, hl0⟩ := hex
    refine fin x (vote_mixed (cutS2 s y k n wp) x h.hx (by rw [z2]; decide) hdn (lostO wp) hgone (fun d hd hl => ?_) ⟨d0, by rw [z1]; exact hd0, hl0, (cut_drive h hy hxy k wp d0 hd0).2.2 hl0 (hno d0 hd0 hl0)⟩).1
    have hd' : d < n := by rw [← z1]; exact hd
    exact .inl ((cut_drive h hy hxy k wp d hd').2.2 hl (hno d hd' hl))
theorem cut_again (z : Rt) (hz : z = if thr (min k n) wp n = true then y else x) :
    wrTo (cutS2 s y k n wp) z (cutS2 s y k n wp).n = (0, wrK (cutS2 s y k n wp) z n) ∧ Held (wrK (cutS2 s y k n wp) z n) n z := by
  obtain ⟨z1, z2, z3⟩ := cut_size h hy hxy k wp
  have hdn := cut_down h hy hxy k wp
  have hg := (Rt.may_iff h.hx).1
  have hzm : z.may = true := by rw [hz]; split; exact hy; exact h.hx
  have hz1 : 1 ≤ z.gen := (Rt.may_iff hzm).1
  refine okfor_write z1 z2 z3 hzm (fun d hd => ?_)
  obtain ⟨c1, c2, c3⟩ := cut_drive h hy hxy k wp d hd
  cases hl : lostO wp d with
  | true => exact okfor_zero (c1 hl).1 (c1 hl).2 hz1
  | false =>
    cases hth : thr (min k n) wp n with
    | true =>
      rw [hth, if_pos rfl] at hz
      rw [hz]
      by_cases hj : d < min k n
      · exact okfor_same (c2 hl hj) (by rw [z1]; exact hd) (by rw [z2]; decide) hdn
      · exact okfor_next (c3 hl hj) h.hx hxy (by rw [z1]; exact hd) (by rw [z2]; decide) hdn
    | false =>
      rw [hth, if_neg (by decide)] at hz
      rw [hz]
      exact okfor_same (c3 hl (thr_false hth d hd hl)) (by rw [z1]; exact hd) (by rw [z2]; decide) hdn
end
end Go.Proofs.Ytoekaabngjjefaa

