/- The program's: the groups that are there on a drive. -/
import Derived.Test.YtmgkkoajjdgmbaaGreatDoorPart34
import Derived.Test.YtmgkkoajjdgmbaaGreatDoorPart32
import Derived.StillTailTactics
import Derived.Deep.Onto
import Derived.Deep.RegionHeld3
set_option linter.unusedVariables false
set_option linter.unusedSimpArgs false
set_option linter.unusedSectionVars false
set_option linter.unnecessarySimpa false
set_option linter.deprecated false
namespace Go.Proofs.YtmgkkoajjdgmbaaGreatDoor
open Go.RowKit Go.Shelf Sm Wr _root_.Go.Proofs.YtmgkkoajjdgmbaaGreatDoor.Nm
attribute [local go_sem] Oper.semAt_some
set_option linter.unusedVariables false
/-- The results' cells, the walk's. -/
structure GLaid (W : World) (b : Nat) : Prop where
  c4 : W.cell? ⟨b + 1, 0, none⟩ = some (.slice none 0 0)
  f4 : W.frozen? ⟨b + 1, 0, none⟩ = false
  c5 : W.cell? ⟨b + 1 + 1, 0, none⟩ = some (.int .i64 0)
  f5 : W.frozen? ⟨b + 1 + 1, 0, none⟩ = false
theorem GLaid.frame {W W' : World} {b : Nat} (h : GLaid W b) (k : ∀ i, b ≤ i → i < b + 3 → W'.heap[i]? = W.heap[i]?) : GLaid W' b := by
  have ce : ∀ i o, b ≤ i → i < b + 3 → W'.cell? ⟨i, o, none⟩ = W.cell? ⟨i, o, none⟩ := fun i o h1 h2 => World.cell?_of_block (w := W) (a := ⟨i, o, none⟩) (k i h1 h2)
  have fe : ∀ i o, b ≤ i → i < b + 3 → W'.frozen? ⟨i, o, none⟩ = W.frozen? ⟨i, o, none⟩ := fun i o h1 h2 => World.frozen?_of_block (w := W) (a := ⟨i, o, none⟩) (k i h1 h2)
  exact ⟨by rw [ce _ _ (by omega) (by omega)]; exact h.c4, by rw [fe _ _ (by omega) (by omega)]; exact h.f4, by rw [ce _ _ (by omega) (by omega)]; exact h.c5, by rw [fe _ _ (by omega) (by omega)]; exact h.f5⟩
def w3Laid (w : World) (G : Nat) (g : Geo) (gen : Nat) : World := ((w.alloc (.cells #[.pointer (some ⟨G + 1, 0, none⟩), .int .i64 g.n, .int .i64 g.p, .int .i64 g.m, .int .i64 g.t, .int .u64 (gen : Nat)] 79)).alloc (.cells #[.slice none 0 0] 38)).alloc (.cells #[.int .i64 0] 31)
theorem w3_size (w : World) (G : Nat) (g : Geo) (gen : Nat) : (w3Laid w G g gen).heap.size = w.heap.size + 1 + 1 + 1 := by unfold w3Laid; simp
theorem w3_kept (w : World) (G : Nat) (g : Geo) (gen : Nat) : Kept w (w3Laid w G g gen) := (((Kept.refl _).alloc _).alloc _).alloc _
theorem w3_pl (w : World) (G : Nat) (g : Geo) (gen : Nat) : PlAt (w3Laid w G g gen) w.heap.size 0 G g gen := (PlAt.laid w _ G g gen).kept (((Kept.refl _).alloc _).alloc _)
theorem newT_cell (w : World) (cs : Array Value) (t : TypeId) (j : Nat) (v : Value) (b : Nat) (hb : b = w.heap.size) (hv : cs[j]? = some v) : (w.alloc (.cells cs t)).cell? ⟨b, j, none⟩ = some v := by
  rw [hb, World.cell?_alloc_mark]; exact hv
theorem newT_soft (w : World) (cs : Array Value) (t : TypeId) (j : Nat) (b : Nat) (hb : b = w.heap.size) : (w.alloc (.cells cs t)).frozen? ⟨b, j, none⟩ = false := by
  rw [hb, World.frozen?_alloc_mark]
  simp
theorem soft_keptT {w w' : World} {b o : Nat} (hb : b < w.heap.size) (h : w.frozen? ⟨b, o, none⟩ = false) (k : Kept w w') : w'.frozen? ⟨b, o, none⟩ = false := by rw [Below.frozen k (p := ⟨b, o, none⟩) hb]; exact h
theorem cell_keptT {w w' : World} {a : Addr} {v : Value} (h : w.cell? a = some v) (k : Kept w w') : w'.cell? a = some v := by rw [Below.cell k (block_lt_of_cell h)]; exact h
theorem w3_laid (w : World) (G : Nat) (g : Geo) (gen : Nat) : GLaid (w3Laid w G g gen) w.heap.size := by
  unfold w3Laid
  have k1 := fun (u : World) (o : Obj) => (Kept.refl u).alloc o
  refine ⟨?_, ?_, ?_, ?_⟩
  · exact cell_keptT (newT_cell _ _ _ 0 _ _ (by simp) rfl) (k1 _ _)
  · exact soft_keptT (by simp) (newT_soft _ _ _ 0 _ (by simp)) (k1 _ _)
  · exact newT_cell _ _ _ 0 _ _ (by simp) rfl
  · exact newT_soft _ _ _ 0 _ (by simp)
theorem WkAt.new (w : World) (gen B : Nat) : WkAt B w.heap.size gen ⟨[], []⟩ (w.alloc (.cells #[.int .u64 (gen : Nat), .slice none 0 0, .slice none 0 0] 112)) :=
  ⟨Typ.new _ _ _, newT_cell _ _ _ 0 _ _ rfl rfl, ⟨_, newT_cell _ _ _ 1 _ _ rfl rfl, Gat.nil _ _⟩, ⟨_, newT_cell _ _ _ 2 _ _ rfl rfl, GatP.nil _ _⟩⟩
theorem ButB.keptT {N b : Nat} {u v w : World} (h : Kept u v) (k : ButB N b v w) (hu : u.heap.size ≤ N) (hb : u.heap.size ≤ b) : Kept u w :=
  Below.trans h ⟨k.os, k.tape, k.output, k.size, fun i hi => k.block i (by omega) (by omega)⟩
theorem keptT_above {u v v' : World} {row : Option Nat} (h : Kept u v) (hg : v.grownBy v' row) (hr : ∀ r, row = some r → u.heap.size ≤ r) : Kept u v' :=
  Below.grown h hg h.size (fun k e => hr k e)
theorem typ_cells {w : World} {b : Nat} {T : TypeId} (h : Typ w b T) {o : Obj} (ho : w.heap[b]? = some o) (hc : o.isCells = false) : False := by
  obtain ⟨cs, h⟩ := h
  rw [h] at ho
  injection ho with ho
  subst ho
  cases hc
theorem WkAt.own {B b gen : Nat} {k : Wk} {A A' : World} {row : Option Nat} (h : WkAt B b gen k A) (hg : A.grownBy A' row) (hr : ∀ r, row = some r → ∃ o : Obj, A.heap[r]? = some o ∧ o.isCells = false) : WkAt B b gen k A' := by
  have hb : A'.heap[b]? = A.heap[b]? := hg.block b h.ty.lt (fun e => by obtain ⟨o, ho, hc⟩ := hr b e.symm; exact typ_cells h.ty ho hc)
  have ce : ∀ o, A'.cell? ⟨b, o, none⟩ = A.cell? ⟨b, o, none⟩ := fun o => World.cell?_of_block (w := A) (a := ⟨b, o, none⟩) hb
  obtain ⟨v, h1, h2⟩ := h.t
  obtain ⟨u, h3, h4⟩ := h.o
  have hn : ∀ {e : TypeId} {sz n : Nat} {v : Value} {xs : List Value}, A.ownsRow B e sz v n xs → v.ownBlock = none ∨ v.ownBlock ≠ row := fun {e sz n v xs} hw => by
    cases hv : v.ownBlock with
    | none => exact .inl rfl
    | some q =>
      refine .inr (fun c => ?_)
      obtain ⟨o, ho, hc⟩ := hr q c.symm
      exact typ_cells (own_typ hw q hv) ho hc
  exact ⟨h.ty.frame hb, by rw [ce]; exact h.c0, ⟨v, by rw [ce]; exact h1, World.ownsRow.kept h2 hg (hn h2)⟩, ⟨u, by rw [ce]; exact h3, World.ownsRow.kept h4 hg (hn h4)⟩⟩
/-- Between two rounds. -/
structure GLoop (gen : Nat) (rd : Nat → Nat × List UInt8) (bw : Nat) (wl : World) (l : List Nat) (W : World) : Prop where
  k : ∃ k, gL gen rd l = .go k ∧ WkAt wl.heap.size bw gen k W
  o : ButB wl.heap.size bw wl W
theorem GLoop.own {gen : Nat} {rd : Nat → Nat × List UInt8} {bw : Nat} {wl : World} : OwnFrom wl.heap.size (fun l W => GLoop gen rd bw wl l W) := fun l A A' row hs hg hr => by
  obtain ⟨k, h1, h2⟩ := hs.k
  exact ⟨⟨k, h1, h2.own hg (fun r e => (hr r e).2)⟩, hs.o.grown hg (fun r e => (hr r e).1) hs.o.size⟩
/-- Where the loop is left. -/
structure GRet (gen : Nat) (rd : Nat → Nat × List UInt8) (w : World) (l : List Nat) (W : World) : Prop where
  r : ∃ e : Nat, ((gL gen rd l = .down ∧ e = 71) ∨ (gL gen rd l = .bad ∧ e = 0)) ∧ W.cell? ⟨w.heap.size + 1 + 1, 0, none⟩ = some (.int .i64 (e : Nat))
  c4 : W.cell? ⟨w.heap.size + 1, 0, none⟩ = some (.slice none 0 0)
  o : Kept w W
structure GBrk (gen : Nat) (rd : Nat → Nat × List UInt8) (bw : Nat) (w wl : World) (l : List Nat) (W : World) : Prop where
  k : ∃ k', gL gen rd l = .stop k'.texts ∧ WkAt wl.heap.size bw gen k' W
  o : ButB wl.heap.size bw wl W
def GIx (gen : Nat) (rd : Nat → Nat × List UInt8) (bw : Nat) (w wl : World) (c : Code) (l : List Nat) (W : World) : Prop :=
  (c = .ret ∧ GRet gen rd w l W) ∨ (c = .exit 0 ∧ GBrk gen rd bw w wl l W)
theorem GIx.own {gen : Nat} {rd : Nat → Nat × List UInt8} {bw : Nat} {w wl : World} (hw : w.heap.size + 3 ≤ wl.heap.size) (c : Code) : OwnFrom wl.heap.size (fun l W => GIx gen rd bw w wl c l W) := fun l A A' row hs hg hr => by
  rcases hs with ⟨rfl, h⟩ | ⟨rfl, h⟩
  · obtain ⟨e, h1, h2⟩ := h.r
    exact .inl ⟨rfl, ⟨e, h1, _root_.Go.cell_kept h2 hg (fun r e => (hr r e).2)⟩, _root_.Go.cell_kept h.c4 hg (fun r e => (hr r e).2), keptT_above h.o hg (fun r e => by have := (hr r e).1; omega)⟩
  · obtain ⟨k, h1, h2⟩ := h.k
    exact .inr ⟨rfl, ⟨k, h1, h2.own hg (fun r e => (hr r e).2)⟩, h.o.grown hg (fun r e => (hr r e).1) h.o.size⟩
def fndO (s : RSt) (d f : Int) (i : Nat) : Obj := .cells #[.string (s.readT d (f + (i : Nat))), .int .i64 (s.readE d (f + (i : Nat)) : Nat)] 117 (0, 0)
theorem g_ret {B gen : Nat} {rd : Nat → Nat × List UInt8} {w W : World} {l : List Nat} (e : Nat) (h : (gL gen rd l = .down ∧ e = 71) ∨ (gL gen rd l = .bad ∧ e = 0)) (hk : Kept w W) (hl : GLaid W w.heap.size) :
    KeepsFrom B W ((W.setCell ⟨w.heap.size + 1, 0, none⟩ (.slice none 0 0)).setCell ⟨w.heap.size + 1 + 1, 0, none⟩ (.int .i64 (e : Nat))) ∧ GRet gen rd w l ((W.setCell ⟨w.heap.size + 1, 0, none⟩ (.slice none 0 0)).setCell ⟨w.heap.size + 1 + 1, 0, none⟩ (.int .i64 (e : Nat))) := by
  refine ⟨((KeepsOthers.setCell _ _ _).trans (KeepsOthers.setCell _ _ _)).from _, ⟨e, h, ?_⟩, ?_, ?_⟩
  · exact World.cell?_setCell_same _ _ _ (by rw [World.cell?_setCell_other _ _ _ _ (by intro c; injection c with c1; omega)]; exact hl.c5)
  · rw [World.cell?_setCell_other _ _ _ _ (by intro c; injection c with c1; omega)]; exact World.cell?_setCell_same _ _ _ hl.c4
  · exact (hk.setCell (p := ⟨w.heap.size + 1, 0, none⟩) (by dsimp only; omega) _).setCell (p := ⟨w.heap.size + 1 + 1, 0, none⟩) (by dsimp only; omega) _
theorem GRet.drew {gen : Nat} {rd : Nat → Nat × List UInt8} {w W : World} {l : List Nat} (h : GRet gen rd w l W) : GRet gen rd w l W.drew := ⟨h.r, h.c4, h.o.drew⟩
theorem g_fin {w W : World} {B bw D gen : Nat} {k : Wk} (hk : WkAt B bw gen k W) (hW : Kept w W) (hl : GLaid W w.heap.size) (hD : W.heap[D]? = some (.deferred (some []))) (hB : w.heap.size + 3 ≤ B) (hDB : B ≤ D) (vt : Value) (hv : W.cell? ⟨bw, 1, none⟩ = some vt) :
    ((W.setCell ⟨w.heap.size + 1, 0, none⟩ vt).setCell ⟨w.heap.size + 1 + 1, 0, none⟩ (.int .i64 0)).heap[D]? = some (.deferred (some [])) ∧
    ((W.setCell ⟨w.heap.size + 1, 0, none⟩ vt).setCell ⟨w.heap.size + 1 + 1, 0, none⟩ (.int .i64 0)).cell? ⟨w.heap.size + 1, 0, none⟩ = some vt ∧
    ((W.setCell ⟨w.heap.size + 1, 0, none⟩ vt).setCell ⟨w.heap.size + 1 + 1, 0, none⟩ (.int .i64 0)).cell? ⟨w.heap.size + 1 + 1, 0, none⟩ = some (.int .i64 0) ∧
    (∀ W', ((W.setCell ⟨w.heap.size + 1, 0, none⟩ vt).setCell ⟨w.heap.size + 1 + 1, 0, none⟩ (.int .i64 0)).grownBy W' (some D) → Gat w.heap.size vt k.texts W' ∧ Kept w W') := by
  obtain ⟨v, h1, h2⟩ := hk.t
  obtain rfl : v = vt := Option.some.inj (h1.symm.trans hv)
  have hDF : ((W.setCell ⟨w.heap.size + 1, 0, none⟩ v).setCell ⟨w.heap.size + 1 + 1, 0, none⟩ (.int .i64 0)).heap[D]? = some (.deferred (some [])) := by
    rw [Below.heap_setCell _ _ _ _ (by dsimp only; omega), Below.heap_setCell _ _ _ _ (by dsimp only; omega)]; exact hD
  refine ⟨hDF, ?_, ?_, fun W' hg => ?_⟩
  · rw [World.cell?_setCell_other _ _ _ _ (by intro c; injection c with c1; omega)]; exact World.cell?_setCell_same _ _ _ hl.c4
  · exact World.cell?_setCell_same _ _ _ (by rw [World.cell?_setCell_other _ _ _ _ (by intro c; injection c with c1; omega)]; exact hl.c5)
  · have hlo : ∀ q, q < B → v.ownBlock ≠ some q := fun q hq e => by have := (World.ownsRow.lt h2 q e).1; omega
    have a1 := World.ownsRow.kept h2 (grownBy_set W (w.heap.size + 1) 0 v) (.inr (hlo _ (by omega)))
    have a2 := World.ownsRow.kept a1 (grownBy_set _ (w.heap.size + 1 + 1) 0 (.int .i64 0)) (.inr (hlo _ (by omega)))
    have a3 := World.ownsRow.kept a2 hg (.inr (fun e => typ_cells (own_typ a2 D e) hDF rfl))
    refine ⟨World.ownsRow.mono a3 (by omega), ?_⟩
    exact keptT_above ((hW.setCell (p := ⟨w.heap.size + 1, 0, none⟩) (by dsimp only; omega) _).setCell (p := ⟨w.heap.size + 1 + 1, 0, none⟩) (by dsimp only; omega) _) hg (fun r e => by cases e; omega)
set_option maxHeartbeats 2000000 in
set_option maxRecDepth 100000 in
theorem groups_any (G : Nat) (s : RSt) (g : Geo) (gen : Nat) (d : Int) (n : Nat) (hn : g.t = (n : Int)) (hn2 : n ≤ 512) (hd1 : -9223372036854775808 ≤ d) (hd2 : d ≤ 9223372036854775807) (w : World) (hR : RackAt G s w) (hfine : Fine gen (rdT s d (fstS g.t gen)) n) :
    Calls Tryz.prog 42 #[plV G g gen, .int .i64 d] w fun e w' => (∃ v, e = .returned (.tuple #[v, .int .i64 ((gAll gen (rdT s d (fstS g.t gen)) n).1 : Nat)]) ∧ Gat w.heap.size v (gAll gen (rdT s d (fstS g.t gen)) n).2 w') ∧ Kept w w' := by
  have HRR := Lib.hid hR
  have HN := Lib.hid hn
  have HPS := Lib.hid (fun W => psectors_any G g gen d W)
  have HST := Lib.hid (fun bp bd Kp hKp wl hI => tsec_stops 5 (by decide) G s g gen d bp bd hd1 hd2 n hn hn2 Kp hKp wl hI)
  unfold plV at *
  clear hR hn
  generalize fstS g.t gen = ff at *
  refine (callsIn_wide (n := 6)).1 ?_
  refine callsIn_of_wp_marks Tryz.func42 rfl trivial ?_ rfl
  simp only [Tryz.ntmps42, List.size_toArray, List.length_cons, List.length_nil, Nat.reduceAdd, Nat.reduceSub, Array.replicate_succ, Array.replicate_zero, List.push_toArray, List.append_toArray, List.nil_append, List.cons_append]
  gi_wp2
  have HL3 := Lib.hid (w3_laid w G g gen)
  have HK3 := Lib.hid (w3_kept w G g gen)
  have HP3 := Lib.hid (w3_pl w G g gen)
  have HS3 : Hid ((w3Laid w G g gen).heap.size = w.heap.size + 1 + 1 + 1) := w3_size w G g gen
  unfold w3Laid at HL3 HK3 HP3 HS3
  generalize ((w.alloc (.cells #[.pointer (some ⟨G + 1, 0, none⟩), .int .i64 g.n, .int .i64 g.p, .int .i64 g.m, .int .i64 g.t, .int .u64 (gen : Nat)] 79)).alloc (.cells #[.slice none 0 0] 38)).alloc (.cells #[.int .i64 0] 31) = w3 at *
  have hp3 := HP3.out
  obtain ⟨c0, c1, c2, c3, c4, c5⟩ := hp3
  have hk4 : Kept w3 (w3.alloc (.cells #[.int .u64 (gen : Nat), .slice none 0 0, .slice none 0 0] 112)) := (Kept.refl _).alloc _
  obtain ⟨q0, q1, q2, q3, q4, q5⟩ := HP3.out.kept hk4
  refine wpIn_wide.2 (wp_scope_straight ((wpIn_wide (n := 6)).1 ?_))
  gi_wp2
  refine wpIn_label ?_
  have HW4 : Hid (∀ B, WkAt B w3.heap.size gen ⟨[], []⟩ (w3.alloc (.cells #[.int .u64 (gen : Nat), .slice none 0 0, .slice none 0 0] 112))) := fun B => WkAt.new w3 gen B
  have HS4 : Hid ((w3.alloc (.cells #[.int .u64 (gen : Nat), .slice none 0 0, .slice none 0 0] 112)).heap.size = w3.heap.size + 1) := by show _ = _; simp
  have HK4 : Hid (Kept w (w3.alloc (.cells #[.int .u64 (gen : Nat), .slice none 0 0, .slice none 0 0] 112))) := HK3.out.trans hk4
  have HL4 := Lib.hid (HL3.out.frame (W' := (w3.alloc (.cells #[.int .u64 (gen : Nat), .slice none 0 0, .slice none 0 0] 112))) fun i h1 h2 => hk4.block i (by have := HS3.out; omega))
  generalize (w3.alloc (.cells #[.int .u64 (gen : Nat), .slice none 0 0, .slice none 0 0] 112)) = w4 at *
  have hs3 := HS3.out
  generalize w3.heap.size = b6 at *
  obtain rfl : b6 = w.heap.size + 1 + 1 + 1 := hs3
  clear c0 c1 c2 c3 c4 c5 hk4 HL3 HK3 HP3 HS3
  gi_wp2
  refine ⟨trivial, ?_⟩
  refine (callsIn_wide.2 (HPS.out _)).mono ?_
  rintro e wl ⟨rfl, hpl, hcd, hsz, hkl⟩
  have hs4 := HS4.out
  rw [hs4] at hpl hcd hsz
  have HKL : Hid (Kept w wl) := HK4.out.trans hkl
  have HWL := Lib.hid (HL4.out.frame (W' := wl) fun i h1 h2 => hkl.block i (by omega))
  have HBL : Hid (∀ B, WkAt B (w.heap.size + 1 + 1 + 1) gen ⟨[], []⟩ wl) := fun B => (HW4.out B).kept hkl
  have HLS : Hid (wl.heap.size = w.heap.size + 1 + 1 + 1 + 1 + 2) := hsz
  have HIT : Hid (TIt G s g gen d (w.heap.size + 1 + 1 + 1 + 1) (w.heap.size + 1 + 1 + 1 + 1 + 1) wl) := ⟨hpl, hcd, HRR.out.kept HKL.out⟩
  clear q0 q1 q2 q3 q4 q5 hpl hcd hsz hkl HK4 HL4 HW4 HPS
  rw [hs4]
  gi_wp2
  have HRS := Lib.hid HRR.out.lt
  have HBB : Hid (∀ (W : World), ButB wl.heap.size (w.heap.size + 1 + 1 + 1) wl W → Kept w W) := fun W h => ButB.keptT HKL.out h HKL.out.size (by omega)
  have HLAID : Hid (∀ (W : World), ButB wl.heap.size (w.heap.size + 1 + 1 + 1) wl W → GLaid W w.heap.size) := fun W h => HWL.out.frame fun i h1 h2 => h.block i (by have := HLS.out; omega) (by omega)
  refine wpIn_rangeFunc_ownH rfl (by omega) (gf := 75) (lb := #[.pointer (some ⟨w.heap.size + 1 + 1 + 1 + 1, 0, none⟩), .pointer (some ⟨w.heap.size + 1 + 1 + 1 + 1 + 1, 0, none⟩)]) rfl trivial (enters_of Tryz.func75 (by kernel_rfl) rfl)
    (HST.out _ _ (ButB wl.heap.size (w.heap.size + 1 + 1 + 1)) (fun A B h hi => ⟨hi.pl.frame (h.block _ (by have := HLS.out; omega) (by omega)), by rw [World.cell?_of_block (w := A) (a := ⟨w.heap.size + 1 + 1 + 1 + 1 + 1, 0, none⟩) (h.block _ (by have := HLS.out; show _ + 1 + 1 + 1 + 1 + 1 < _; omega) (by show _ + 1 + 1 + 1 + 1 + 1 ≠ _; omega))]; exact hi.cd, hi.rk.frame fun k h1 h2 => h.block k (by have := HLS.out; have := HRS.out; omega) (by have := HRS.out; omega)⟩) wl HIT.out)
    (fun h k => ButB.trans h k) (fun W l o o' hl h _ _ => (ButB.refl _ _ W).grown (grownBy_putObj' W l o') (fun r e => by cases e; exact hl) (by have := (Array.getElem?_eq_some_iff.1 h).1; omega)) (Below.refl _ _) (fun _ => rfl)
    (fun pre W => GLoop gen (rdT s d ff) (w.heap.size + 1 + 1 + 1) wl (pre.map Subtype.val) W)
    (fun c pre W => GIx gen (rdT s d ff) (w.heap.size + 1 + 1 + 1) w wl c (pre.map Subtype.val) W)
    (fun l A A' row hs hg hr => GLoop.own _ A A' row hs hg hr)
    (fun c l A A' row hs hg hr => GIx.own (by have := HLS.out; omega) c _ A A' row hs hg hr)
    ⟨⟨_, rfl, HBL.out _⟩, ButB.refl _ _ _⟩
    (fun x a' W => ∃ Bx, wl.heap.size ≤ Bx ∧ W.heap[Bx]? = some (fndO s d ff x.1) ∧ a' = { tmps := #[.agg #[.pointer (some ⟨G + 1, 0, none⟩), .int .i64 g.n, .int .i64 g.p, .int .i64 g.m, .int .i64 g.t, .int .u64 (gen : Nat)], .int .i64 d, .pointer (some ⟨w.heap.size, 0, none⟩), undef, .pointer (some ⟨w.heap.size + 1, 0, none⟩), .pointer (some ⟨w.heap.size + 1 + 1, 0, none⟩), .pointer (some ⟨w.heap.size + 1 + 1 + 1, 0, none⟩), undef, .pointer (some ⟨Bx, 0, none⟩), .pointer (some ⟨w.heap.size, 5, none⟩), .int .u64 (gen : Nat), .agg #[.int .u64 (gen : Nat), .slice none 0 0, .slice none 0 0], .agg #[.pointer (some ⟨G + 1, 0, none⟩), .int .i64 g.n, .int .i64 g.p, .int .i64 g.m, .int .i64 g.t, .int .u64 (gen : Nat)], .int .i64 d, .func (.func 75) #[] #[.pointer (some ⟨w.heap.size + 1 + 1 + 1 + 1, 0, none⟩), .pointer (some ⟨w.heap.size + 1 + 1 + 1 + 1 + 1, 0, none⟩)], .int .i64 (x.1 : Nat), .agg #[.string (s.readT d (ff + (x.1 : Nat))), .int .i64 (s.readE d (ff + (x.1 : Nat)) : Nat)], undef, undef, undef, undef, undef, undef, undef, undef, undef, undef, undef, undef, undef, undef, undef, undef, undef], defers := [] })
    (fun x a' => fun _ A A' row hs hg hr => by
      obtain ⟨Bx, h1, h2, h3⟩ := hs
      exact ⟨Bx, h1, by rw [hg.block Bx (Array.getElem?_eq_some_iff.1 h2).1 (fun e => by obtain ⟨_, o, ho, hc⟩ := hr Bx e.symm; rw [h2] at ho; injection ho with ho; subst ho; cases hc)]; exact h2, h3⟩)
    ?assign ?body ?done ?stop
  case assign =>
    rintro l pre x W K hi hK
    simp only [tsecV]
    gi_wp2
    have hka : Kept W (W.alloc (.cells #[.string (s.readT d (ff + (x.1 : Nat))), .int .i64 (s.readE d (ff + (x.1 : Nat)) : Nat)] 117)) := (Kept.refl _).alloc _
    obtain ⟨k, hk1, hk2⟩ := hi.k
    exact hK _ _ ((KeepsOthers.alloc _ _).from _) (hka.butB hi.o.size) ⟨⟨k, hk1, hk2.kept hka⟩, hi.o.trans (hka.butB hi.o.size)⟩ ⟨W.heap.size, hi.o.size, heap_alloc_new W _, rfl⟩
  case body =>
    rintro l pre x a' W hl hrr hI ⟨Bx, hBx, hsp, rfl⟩ hlen
    have hkw : Kept w W := HBB.out _ hI.o
    have hld := HLAID.out _ hI.o
    obtain ⟨k, hk1, hk2⟩ := hI.k
    have HK := Lib.hid hk2
    have HO := Lib.hid hI.o
    have HKW := Lib.hid hkw
    have HGL := Lib.hid hk1
    have HRES : Hid (gL gen (rdT s d ff) ((pre ++ [x]).map Subtype.val) = if s.readE d (ff + (x.1 : Nat)) = 71 then .down else if s.readE d (ff + (x.1 : Nat)) = 0 then (match k.take gen (s.readT d (ff + (x.1 : Nat))).data.toList with | some k' => .go k' | none => .stop k.texts) else .bad) := by
      show _ = _
      rw [List.map_append, show ([x].map Subtype.val) = [x.1] from rfl, gL_snoc, hk1]
      rfl
    have HFN := Lib.hid (hfine (pre.map Subtype.val) x.1 k (fun i hi => by obtain ⟨y, _, rfl⟩ := List.mem_map.1 hi; exact y.2) x.2 hk1)
    have p0 : W.cell? ⟨Bx, 0, none⟩ = some (.string (s.readT d (ff + (x.1 : Nat)))) := by rw [World.cell?, hsp]; rfl
    have p1 : W.cell? ⟨Bx, 1, none⟩ = some (.int .i64 (s.readE d (ff + (x.1 : Nat)) : Nat)) := by rw [World.cell?, hsp]; rfl
    have HBX : Hid (wl.heap.size ≤ Bx) := hBx
    obtain ⟨c4, f4, c5, f5⟩ := hld
    unfold rdT at HFN
    dsimp only at HFN
    clear hI hsp hlen hrr hkw hk1 hk2 hBx
    have hWn := HO.out.size
    generalize hT : s.readT d (ff + (x.1 : Nat)) = T at *
    generalize hE : s.readE d (ff + (x.1 : Nat)) = e2 at *
    clear hT hE
    by_cases h71 : e2 = 71
    · have hz : ((e2 : Int) == 71) = true := by rw [h71]; rfl
      have hzN : (e2 == 71) = true := by rw [h71]; rfl
      have HRS2 : Hid (gL gen (rdT s d ff) ((pre ++ [x]).map Subtype.val) = .down) := by show _ = _; rw [HRES.out, if_pos h71]
      have H71 := Lib.hid h71
      have d4 : W.drew.cell? ⟨w.heap.size + 1, 0, none⟩ = some (.slice none 0 0) := c4
      have HF : Hid (KeepsFrom wl.heap.size W ((W.setCell ⟨w.heap.size + 1, 0, none⟩ (.slice none 0 0)).setCell ⟨w.heap.size + 1 + 1, 0, none⟩ (.int .i64 (e2 : Nat))) ∧ GRet gen (rdT s d ff) w ((pre ++ [x]).map Subtype.val) ((W.setCell ⟨w.heap.size + 1, 0, none⟩ (.slice none 0 0)).setCell ⟨w.heap.size + 1 + 1, 0, none⟩ (.int .i64 (e2 : Nat)))) := g_ret e2 (.inl ⟨HRS2.out, h71⟩) HKW.out ⟨c4, f4, c5, f5⟩
      clear h71 HRES HFN
      gi_wp2
      gi_region
      all_goals
        gi_wp2
        exact ⟨⟨HF.out.1.size, HF.out.1.same⟩, .inl ⟨rfl, HF.out.2.drew⟩⟩
    · have hz : ((e2 : Int) == 71) = false := by rw [beq_eq_false_iff_ne]; omega
      have hzN : (e2 == 71) = false := by rw [beq_eq_false_iff_ne]; exact h71
      by_cases h0 : e2 = 0
      · have hy : ((e2 : Int) != 0) = false := by rw [h0]; rfl
        have hyN : (e2 != 0) = false := by rw [h0]; rfl
        have HRS2 : Hid (gL gen (rdT s d ff) ((pre ++ [x]).map Subtype.val) = match k.take gen T.data.toList with | some k' => .go k' | none => .stop k.texts) := by show _ = _; rw [HRES.out, if_neg h71, if_pos h0]
        obtain ⟨g1, g2, g3, g4, g5⟩ := HFN.out h0
        have HTK := Lib.hid (wtake_any wl.heap.size (w.heap.size + 1 + 1 + 1) gen k T W HK.out g1 hWn g2 g3 g4 g5)
        clear h71 HRES HFN h0 g1 g2 g3 g4 g5
        obtain ⟨R, hR⟩ : ∃ R, R = k.take gen T.data.toList := ⟨_, rfl⟩
        rw [← hR] at HTK HRS2
        clear hR
        gi_wp2
        refine ⟨trivial, (CallsIn.inRound l (callsIn_wide.2 HTK.out)).mono ?_⟩
        rintro e w2 ⟨rfl, hN, hL⟩
        cases R with
        | none =>
          have HF : Hid (KeepsFrom wl.heap.size W w2 ∧ GIx gen (rdT s d ff) (w.heap.size + 1 + 1 + 1) w wl (.exit 0) ((pre ++ [x]).map Subtype.val) w2) := by
            obtain ⟨k', h1, h2⟩ := hN
            rcases h2 with h2 | ⟨_, h2⟩
            · cases h2
            · exact ⟨hL.2.from _, .inr ⟨rfl, ⟨k', by rw [HRS2.out, h2], h1⟩, HO.out.trans hL.1⟩⟩
          clear hN hL HTK HRS2
          gi_wp2
          exact HF.out
        | some k2 =>
          have HF : Hid (KeepsFrom wl.heap.size W w2 ∧ ButB wl.heap.size (w.heap.size + 1 + 1 + 1) W w2 ∧ GLoop gen (rdT s d ff) (w.heap.size + 1 + 1 + 1) wl ((pre ++ [x]).map Subtype.val) w2) := by
            obtain ⟨k', h1, h2⟩ := hN
            rcases h2 with h2 | ⟨h2, _⟩
            · injection h2 with h2
              subst h2
              exact ⟨hL.2.from _, hL.1, ⟨k2, HRS2.out, h1⟩, HO.out.trans hL.1⟩
            · cases h2
          clear hN hL HTK HRS2
          gi_wp2
          exact HF.out
      · have hy : ((e2 : Int) != 0) = true := by rw [bne_iff_ne]; omega
        have hyN : (e2 != 0) = true := by rw [bne_iff_ne]; exact h0
        have HRS2 : Hid (gL gen (rdT s d ff) ((pre ++ [x]).map Subtype.val) = .bad) := by show _ = _; rw [HRES.out, if_neg h71, if_neg h0]
        have HF : Hid (KeepsFrom wl.heap.size W ((W.setCell ⟨w.heap.size + 1, 0, none⟩ (.slice none 0 0)).setCell ⟨w.heap.size + 1 + 1, 0, none⟩ (.int .i64 0)) ∧ GRet gen (rdT s d ff) w ((pre ++ [x]).map Subtype.val) ((W.setCell ⟨w.heap.size + 1, 0, none⟩ (.slice none 0 0)).setCell ⟨w.heap.size + 1 + 1, 0, none⟩ (.int .i64 0))) := g_ret 0 (.inr ⟨HRS2.out, rfl⟩) HKW.out ⟨c4, f4, c5, f5⟩
        clear h71 HRES HFN h0
        gi_wp2
        exact ⟨HF.out.1, .inl ⟨rfl, HF.out.2⟩⟩
  case done =>
    rintro D ys W hD hys hI hK
    rw [hys] at hI
    obtain ⟨k, hk1, hk2⟩ := hI.k
    obtain ⟨vt, hv, hgt⟩ := hk2.t
    have hgl := HLAID.out _ hI.o
    have HFF := Lib.hid (g_fin hk2 (HBB.out _ hI.o) hgl hK (by have := HLS.out; omega) hD vt hv)
    have HALL : Hid (gAll gen (rdT s d ff) n = (0, k.texts)) := by show gRes _ = _; rw [hk1]; rfl
    have H1 := Lib.hid hv
    obtain ⟨c4, f4, c5, f5⟩ := hgl
    obtain ⟨at', ct, rfl, _⟩ := hgt.strs
    clear hI hk1 hk2 hys hK hgt
    gi_wp2
    obtain ⟨hDF, d8, d9, hfin⟩ := HFF.out
    refine ⟨by simp, .inl ⟨_, _, rfl, run_takeDeferred hDF, ?_⟩⟩
    have e8 := _root_.Go.cell_kept d8 (grownBy_putObj' _ D (.deferred none)) (fun r e => by cases e; exact ⟨_, hDF, rfl⟩)
    have e9 := _root_.Go.cell_kept d9 (grownBy_putObj' _ D (.deferred none)) (fun r e => by cases e; exact ⟨_, hDF, rfl⟩)
    obtain ⟨hg1, hg2⟩ := hfin _ (grownBy_putObj' _ D (.deferred none))
    refine ⟨_, ?_, ⟨⟨_, by rw [HALL.out], by rw [HALL.out]; exact hg1⟩, hg2⟩⟩
    simp [results, Tryz.results42, go_sem, e8, e9]
  case stop =>
    rintro D c pre W hD ⟨q, hq, hpre⟩ hI hK
    rcases hI with ⟨rfl, hI⟩ | ⟨rfl, hI⟩
    · obtain ⟨e, h1, hc5⟩ := hI.r
      have hc4 := hI.c4
      have hlt := hI.o
      have hall : gAll gen (rdT s d ff) n = (e, []) := by
        rw [hpre] at h1
        unfold gAll
        have hends : (gL gen (rdT s d ff) (List.range q)).ends := by rcases h1 with ⟨h, _⟩ | ⟨h, _⟩ <;> rw [h] <;> trivial
        rw [gL_ends gen _ q hends n hq]
        rcases h1 with ⟨h, rfl⟩ | ⟨h, rfl⟩ <;> rw [h] <;> rfl
      gi_wp2
      refine ⟨by simp, .inl ⟨_, _, rfl, run_takeDeferred hK, ?_⟩⟩
      have e8 := _root_.Go.cell_kept hc4 (grownBy_putObj' _ D (.deferred none)) (fun r e => by cases e; exact ⟨_, hK, rfl⟩)
      have e9 := _root_.Go.cell_kept hc5 (grownBy_putObj' _ D (.deferred none)) (fun r e => by cases e; exact ⟨_, hK, rfl⟩)
      refine ⟨.tuple #[.slice none 0 0, .int .i64 (e : Nat)], ?_, ⟨⟨.slice none 0 0, by rw [hall], by rw [hall]; exact Gat.nil _ _⟩, keptT_above hlt (grownBy_putObj' _ D (.deferred none)) (fun r e => by cases e; have := HLS.out; omega)⟩⟩
      simp [results, Tryz.results42, go_sem, e8, e9]
    · obtain ⟨k, hk1, hk2⟩ := hI.k
      obtain ⟨vt, hv, hgt⟩ := hk2.t
      have hgl := HLAID.out _ hI.o
      have HFF := Lib.hid (g_fin hk2 (HBB.out _ hI.o) hgl hK (by have := HLS.out; omega) hD vt hv)
      have HALL : Hid (gAll gen (rdT s d ff) n = (0, k.texts)) := by
        show gRes _ = _
        rw [hpre] at hk1
        rw [gL_ends gen _ q (by rw [hk1]; trivial) n hq, hk1]
        rfl
      have H1 := Lib.hid hv
      obtain ⟨c4, f4, c5, f5⟩ := hgl
      obtain ⟨at', ct, rfl, _⟩ := hgt.strs
      clear hI hk1 hk2 hK hgt
      gi_wp2
      obtain ⟨hDF, d8, d9, hfin⟩ := HFF.out
      refine ⟨by simp, .inl ⟨_, _, rfl, run_takeDeferred hDF, ?_⟩⟩
      have e8 := _root_.Go.cell_kept d8 (grownBy_putObj' _ D (.deferred none)) (fun r e => by cases e; exact ⟨_, hDF, rfl⟩)
      have e9 := _root_.Go.cell_kept d9 (grownBy_putObj' _ D (.deferred none)) (fun r e => by cases e; exact ⟨_, hDF, rfl⟩)
      obtain ⟨hg1, hg2⟩ := hfin _ (grownBy_putObj' _ D (.deferred none))
      refine ⟨_, ?_, ⟨⟨_, by rw [HALL.out], by rw [HALL.out]; exact hg1⟩, hg2⟩⟩
      simp [results, Tryz.results42, go_sem, e8, e9]
end Go.Proofs.YtmgkkoajjdgmbaaGreatDoor
