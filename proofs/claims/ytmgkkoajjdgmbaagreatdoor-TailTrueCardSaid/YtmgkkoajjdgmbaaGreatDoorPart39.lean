/- TailWrong, QuietR, TailWEnd. -/
import Derived.Test.YtmgkkoajjdgmbaaGreatDoorPart38
import Derived.StillTailTactics
import Derived.Stop.RegionWithIn
import Derived.Maps.OwnIn
import Derived.Sort.QuietIn
set_option linter.unusedVariables false
set_option linter.unusedSimpArgs false
set_option linter.unusedSectionVars false
set_option linter.unnecessarySimpa false
set_option linter.deprecated false
/- The program's: what is wrong with a drive's sectors. -/
namespace Go.Proofs.YtmgkkoajjdgmbaaGreatDoor
open Go.RowKit Go.Shelf Sm Wr _root_.Go.Proofs.YtmgkkoajjdgmbaaGreatDoor.Nm
attribute [local go_sem] Oper.semAt_some
set_option linter.unusedVariables false
/-- The boxes of wrong: the tail, the two results, what it has, what stands behind. -/
def w5Laid (w : World) (tb : Nat) : World := ((((w.alloc (.cells #[.pointer (some ⟨tb, 0, none⟩)] 34)).alloc (.cells #[.slice none 0 0] 50)).alloc (.cells #[.int .i64 0] 31)).alloc (.cells #[.slice none 0 0] 50)).alloc (.cells #[.slice none 0 0] 50)
theorem w5_size (w : World) (tb : Nat) : (w5Laid w tb).heap.size = w.heap.size + 1 + 1 + 1 + 1 + 1 := by unfold w5Laid; simp
theorem w5_kept (w : World) (tb : Nat) : Kept w (w5Laid w tb) := (((((Kept.refl _).alloc _).alloc _).alloc _).alloc _).alloc _
/-- What stands there but the two gathered rows. -/
structure HLaid (W : World) (b tb : Nat) : Prop where
  c2 : W.cell? ⟨b, 0, none⟩ = some (.pointer (some ⟨tb, 0, none⟩))
  c4 : W.cell? ⟨b + 1, 0, none⟩ = some (.slice none 0 0)
  f4 : W.frozen? ⟨b + 1, 0, none⟩ = false
  c5 : W.cell? ⟨b + 1 + 1, 0, none⟩ = some (.int .i64 0)
  f5 : W.frozen? ⟨b + 1 + 1, 0, none⟩ = false
theorem HLaid.frame {W W' : World} {b tb : Nat} (h : HLaid W b tb) (k : ∀ i, b ≤ i → i < b + 3 → W'.heap[i]? = W.heap[i]?) : HLaid W' b tb := by
  have ce : ∀ i o, b ≤ i → i < b + 3 → W'.cell? ⟨i, o, none⟩ = W.cell? ⟨i, o, none⟩ := fun i o h1 h2 => World.cell?_of_block (w := W) (a := ⟨i, o, none⟩) (k i h1 h2)
  have fe : ∀ i o, b ≤ i → i < b + 3 → W'.frozen? ⟨i, o, none⟩ = W.frozen? ⟨i, o, none⟩ := fun i o h1 h2 => World.frozen?_of_block (w := W) (a := ⟨i, o, none⟩) (k i h1 h2)
  exact ⟨by rw [ce _ _ (by omega) (by omega)]; exact h.c2, by rw [ce _ _ (by omega) (by omega)]; exact h.c4, by rw [fe _ _ (by omega) (by omega)]; exact h.f4, by rw [ce _ _ (by omega) (by omega)]; exact h.c5, by rw [fe _ _ (by omega) (by omega)]; exact h.f5⟩
theorem w5_laid (w : World) (tb : Nat) : HLaid (w5Laid w tb) w.heap.size tb := by
  unfold w5Laid
  have k1 := fun (u : World) (o : Obj) => (Kept.refl u).alloc o
  refine ⟨?_, ?_, ?_, ?_, ?_⟩
  · exact cell_keptT (newT_cell _ _ _ 0 _ _ rfl rfl) ((((k1 _ _).trans (k1 _ _)).trans (k1 _ _)).trans (k1 _ _))
  · exact cell_keptT (newT_cell _ _ _ 0 _ _ (by simp) rfl) (((k1 _ _).trans (k1 _ _)).trans (k1 _ _))
  · exact soft_keptT (by simp) (newT_soft _ _ _ 0 _ (by simp)) (((k1 _ _).trans (k1 _ _)).trans (k1 _ _))
  · exact cell_keptT (newT_cell _ _ _ 0 _ _ (by simp) rfl) ((k1 _ _).trans (k1 _ _))
  · exact soft_keptT (by simp) (newT_soft _ _ _ 0 _ (by simp)) ((k1 _ _).trans (k1 _ _))
/-- Below N all is as it was, the blocks b and b + 1 aside. -/
structure But2 (N b : Nat) (w w' : World) : Prop where
  os : w'.os = w.os
  tape : w'.tape = w.tape
  output : w'.output = w.output
  size : w.heap.size ≤ w'.heap.size
  block : ∀ k, k < N → k ≠ b → k ≠ b + 1 → w'.heap[k]? = w.heap[k]?
theorem But2.refl (N b : Nat) (w : World) : But2 N b w w := ⟨rfl, rfl, rfl, Nat.le_refl _, fun _ _ _ _ => rfl⟩
theorem But2.trans {N b : Nat} {u v w : World} (h : But2 N b u v) (k : But2 N b v w) : But2 N b u w :=
  ⟨k.os.trans h.os, k.tape.trans h.tape, k.output.trans h.output, Nat.le_trans h.size k.size, fun i hi h1 h2 => (k.block i hi h1 h2).trans (h.block i hi h1 h2)⟩
theorem Kept.but2 {N b : Nat} {w w' : World} (h : Kept w w') (hN : N ≤ w.heap.size) : But2 N b w w' := ⟨h.os, h.tape, h.output, h.size, fun k hk _ _ => h.block k (by omega)⟩
theorem But2.grown {N b : Nat} {u v v' : World} {row : Option Nat} (h : But2 N b u v) (hg : v.grownBy v' row) (hr : ∀ r, row = some r → N ≤ r) (hN : N ≤ v.heap.size) : But2 N b u v' :=
  h.trans ⟨hg.os, hg.tape, hg.output, hg.size, fun k hk _ _ => hg.block k (by omega) (fun e => by have := hr k e.symm; omega)⟩
theorem But2.kept {N b : Nat} {u v w : World} (h : Kept u v) (k : But2 N b v w) (hu : u.heap.size ≤ N) (hb : u.heap.size ≤ b) : Kept u w :=
  Below.trans h ⟨k.os, k.tape, k.output, k.size, fun i hi => k.block i (by omega) (by omega) (by omega)⟩
/-- A row of ints in a box. -/
structure RowBox (B b : Nat) (rs : List Int) (W : World) : Prop where
  ty : Typ W b 50
  r : ∃ v, W.cell? ⟨b, 0, none⟩ = some v ∧ GatI B v rs W
theorem RowBox.frame {B b : Nat} {rs : List Int} {W W' : World} (h : RowBox B b rs W) (e : W'.heap[b]? = W.heap[b]?) (hv : ∀ v, W.cell? ⟨b, 0, none⟩ = some v → GatI B v rs W → GatI B v rs W') : RowBox B b rs W' := by
  obtain ⟨v, h1, h2⟩ := h.r
  exact ⟨h.ty.frame e, v, by rw [World.cell?_of_block (w := W) (a := ⟨b, 0, none⟩) e]; exact h1, hv v h1 h2⟩
theorem RowBox.kept {B b : Nat} {rs : List Int} {W W' : World} (h : RowBox B b rs W) (k : Kept W W') : RowBox B b rs W' := h.frame (k.block b h.ty.lt) (fun v _ h2 => h2.kept k)
theorem RowBox.own {B b : Nat} {rs : List Int} {A A' : World} {row : Option Nat} (h : RowBox B b rs A) (hg : A.grownBy A' row) (hr : ∀ r, row = some r → ∃ o : Obj, A.heap[r]? = some o ∧ o.isCells = false) : RowBox B b rs A' :=
  h.frame (hg.block b h.ty.lt (fun e => by obtain ⟨o, ho, hc⟩ := hr b e.symm; exact typ_cells h.ty ho hc)) (fun v _ h2 => World.ownsRow.kept h2 hg (by
    cases hv : v.ownBlock with
    | none => exact .inl rfl
    | some q =>
      refine .inr (fun c => ?_)
      obtain ⟨o, ho, hc⟩ := hr q c.symm
      exact typ_cells (own_typ h2 q hv) ho hc))
theorem RowBox.new (w : World) (B : Nat) : RowBox B w.heap.size [] (w.alloc (.cells #[.slice none 0 0] 50)) := ⟨Typ.new _ _ _, _, newT_cell _ _ _ 0 _ _ rfl rfl, GatI.nil _ _⟩
/-- One int more in the box; another box beside it is as it was. -/
theorem RowBox.snoc {B b : Nat} {rs : List Int} {W W0 W9 : World} {v v9 : Value} {r : Int} (h : RowBox B b rs W) (k : Kept W W0) (hv : W.cell? ⟨b, 0, none⟩ = some v) (hg : W0.grownBy W9 v.ownBlock) (hG : GatI B v rs W0) (hG9 : GatI B v9 (rs ++ [r]) W9) :
    (W9.cell? ⟨b, 0, none⟩ = some v ∧ W9.frozen? ⟨b, 0, none⟩ = false) ∧ RowBox B b (rs ++ [r]) (W9.setCell ⟨b, 0, none⟩ v9) := by
  have e : W9.heap[b]? = W.heap[b]? := (hg.block b (Nat.lt_of_lt_of_le h.ty.lt k.size) (fun c => own_ne hG (h.ty.kept k) (by decide) c.symm)).trans (k.block b h.ty.lt)
  have ty9 := h.ty.frame e
  have c9 : W9.cell? ⟨b, 0, none⟩ = some v := by rw [World.cell?_of_block (w := W) (a := ⟨b, 0, none⟩) e]; exact hv
  exact ⟨⟨c9, ty9.free 0⟩, ty9.setCell _ _ _, v9, World.cell?_setCell_same _ _ _ c9, own_set hG9 ty9 (by decide) _ _⟩
/-- The other box. -/
theorem RowBox.beside {B b b' : Nat} {rs rs' : List Int} {W W0 W9 : World} {v v9 : Value} (h : RowBox B b' rs' W) (hb : b' ≠ b) (hty : Typ W b 50) (k : Kept W W0) (hG : GatI B v rs W0) (hg : W0.grownBy W9 v.ownBlock) (hd : ∀ v', W.cell? ⟨b', 0, none⟩ = some v' → v'.ownBlock = none ∨ v'.ownBlock ≠ v.ownBlock) :
    RowBox B b' rs' (W9.setCell ⟨b, 0, none⟩ v9) := by
  have e : W9.heap[b']? = W.heap[b']? := (hg.block b' (Nat.lt_of_lt_of_le h.ty.lt k.size) (fun c => own_ne hG (h.ty.kept k) (by decide) c.symm)).trans (k.block b' h.ty.lt)
  have e2 : (W9.setCell ⟨b, 0, none⟩ v9).heap[b']? = W.heap[b']? := (Below.heap_setCell _ _ _ _ (by exact hb)).trans e
  refine h.frame e2 (fun v' h1 h2 => ?_)
  have h3 : GatI B v' rs' W9 := World.ownsRow.kept (h2.kept k) hg (hd v' h1)
  have hty9 : Typ W9 b 50 := (hty.kept k).frame (hg.block b (hty.kept k).lt (fun c => own_ne hG (hty.kept k) (by decide) c.symm))
  exact own_set h3 hty9 (by decide) _ _
/-- Two boxes of rows that lie apart. -/
structure Two (B b1 b2 : Nat) (r1 r2 : List Int) (W : World) : Prop where
  o1 : RowBox B b1 r1 W
  o2 : RowBox B b2 r2 W
  ne : b1 ≠ b2
  dis : ∀ v v', W.cell? ⟨b1, 0, none⟩ = some v → W.cell? ⟨b2, 0, none⟩ = some v' → v'.ownBlock = none ∨ v'.ownBlock ≠ v.ownBlock
theorem Two.swap {B b1 b2 : Nat} {r1 r2 : List Int} {W : World} (h : Two B b1 b2 r1 r2 W) : Two B b2 b1 r2 r1 W :=
  ⟨h.o2, h.o1, h.ne.symm, fun v v' h1 h2 => by
    cases hv : v'.ownBlock with
    | none => exact .inl rfl
    | some q =>
      refine .inr (fun c => ?_)
      rcases h.dis v' v h2 h1 with e | e
      · rw [e] at c; cases c
      · exact e (by rw [hv]; exact c.symm)⟩
theorem Two.kept {B b1 b2 : Nat} {r1 r2 : List Int} {W W' : World} (h : Two B b1 b2 r1 r2 W) (k : Kept W W') : Two B b1 b2 r1 r2 W' :=
  ⟨h.o1.kept k, h.o2.kept k, h.ne, fun v v' h1 h2 => h.dis v v' (by rw [Below.cell k (p := ⟨b1, 0, none⟩) h.o1.ty.lt] at h1; exact h1) (by rw [Below.cell k (p := ⟨b2, 0, none⟩) h.o2.ty.lt] at h2; exact h2)⟩
theorem Two.own {B b1 b2 : Nat} {r1 r2 : List Int} {A A' : World} {row : Option Nat} (h : Two B b1 b2 r1 r2 A) (hg : A.grownBy A' row) (hr : ∀ r, row = some r → ∃ o : Obj, A.heap[r]? = some o ∧ o.isCells = false) : Two B b1 b2 r1 r2 A' := by
  have he : ∀ b, Typ A b 50 → A'.heap[b]? = A.heap[b]? := fun b ty => hg.block b ty.lt (fun e => by obtain ⟨o, ho, hc⟩ := hr b e.symm; exact typ_cells ty ho hc)
  exact ⟨h.o1.own hg hr, h.o2.own hg hr, h.ne, fun v v' h1 h2 => h.dis v v' (by rw [World.cell?_of_block (w := A) (a := ⟨b1, 0, none⟩) (he b1 h.o1.ty)] at h1; exact h1) (by rw [World.cell?_of_block (w := A) (a := ⟨b2, 0, none⟩) (he b2 h.o2.ty)] at h2; exact h2)⟩
theorem Two.push {B b1 b2 : Nat} {r1 r2 : List Int} {W W0 W9 : World} {v v9 : Value} {r : Int} (h : Two B b1 b2 r1 r2 W) (k : Kept W W0) (hv : W.cell? ⟨b1, 0, none⟩ = some v) (hg : W0.grownBy W9 v.ownBlock) (hG9 : GatI B v9 (r1 ++ [r]) W9) (ho : v9.ownBlock = v.ownBlock ∨ v9.ownBlock = some W0.heap.size) :
    (W9.cell? ⟨b1, 0, none⟩ = some v ∧ W9.frozen? ⟨b1, 0, none⟩ = false) ∧ Two B b1 b2 (r1 ++ [r]) r2 (W9.setCell ⟨b1, 0, none⟩ v9) := by
  obtain ⟨v0, h1, h2⟩ := h.o1.r
  obtain rfl : v0 = v := Option.some.inj (h1.symm.trans hv)
  obtain ⟨a, b⟩ := h.o1.snoc k hv hg (h2.kept k) hG9
  have hbes := h.o2.beside (v9 := v9) h.ne.symm h.o1.ty k (h2.kept k) hg (fun v' hv' => h.dis v0 v' hv hv')
  refine ⟨a, b, hbes, h.ne, fun u u' hu hu' => ?_⟩
  obtain rfl : v9 = u := by
    have := World.cell?_setCell_same W9 ⟨b1, 0, none⟩ v9 a.1
    rw [this] at hu
    exact Option.some.inj hu
  obtain ⟨v2, c1, c2⟩ := h.o2.r
  have e : (W9.setCell ⟨b1, 0, none⟩ v9).heap[b2]? = W.heap[b2]? := (Below.heap_setCell _ _ _ _ (by exact h.ne.symm)).trans ((hg.block b2 (Nat.lt_of_lt_of_le h.o2.ty.lt k.size) (fun c => own_ne (h2.kept k) (h.o2.ty.kept k) (by decide) c.symm)).trans (k.block b2 h.o2.ty.lt))
  rw [World.cell?_of_block (w := W) (a := ⟨b2, 0, none⟩) e, c1] at hu'
  obtain rfl := Option.some.inj hu'
  rcases ho with ho | ho
  · rw [ho]; exact h.dis v0 v2 hv c1
  · right
    intro c
    have := (World.ownsRow.lt c2 _ (c.trans ho)).2
    have := k.size
    omega
/-- An append of one int, as a walk in a round meets it. -/
theorem wpListIn_gati {F : Fence} {nF : Nat} {ops : Array Oper} {rest : List Oper} {o : Oper} {a : Act} {Q : Exit → Act → World → Prop} (W : World) (hgd : o.guard = none) (s x : Operand)
    (ho : o.op = .call { callee := .builtin .append, args := #[s, x], argTypes := #[50, 50] })
    (B : Nat) (hB : B ≤ W.heap.size) (v : Value) (rs : List Int) (hs : a.eval s = v) (hG : GatI B v rs W) (r : Int) (g : Nat) (hx : a.eval x = .slice (some ⟨g, 0, none⟩) 1 1) (hc : W.cell? ⟨g, 0, none⟩ = some (.int .i64 r)) (hl : rs.length ≤ 1000000)
    (h : ∀ v' w', GatI B v' (rs ++ [r]) w' → W.grownBy w' v.ownBlock → (v'.ownBlock = v.ownBlock ∨ v'.ownBlock = some W.heap.size) → wpListIn F nF Tryz.prog ops Q rest (a.put o.dst v') w') : wpListIn F nF Tryz.prog ops Q (o :: rest) a W := by
  obtain ⟨i0, hi, hzz⟩ := Option.map_eq_some_iff.1 info_int
  simp only [Prod.mk.injEq] at hzz
  refine wpListIn_append_own_at W hgd s x 50 ho B 3 i0 (.int .i64 0) 1 8 Tryz.underlying50 hi hzz.1 hzz.2.1 hzz.2.2 rfl (by decide) v rs.length (rs.map (Value.int .i64)) hs hG ⟨g, 0, none⟩ 1 1 [.int .i64 r] hx rfl (cell_int W g r hc) (fun u hu => by simp at hu; subst hu; rfl) (by unfold maxLen; omega) (by omega) hB ?_
  intro v' w' h2 h3 _ h5
  refine h v' w' ?_ h3 h5
  unfold GatI
  rw [List.map_append, List.length_append]
  exact h2
/-- Between two rounds. -/
structure WLoop (must : List ByteArray) (gen : Nat) (rd : Nat → Nat × ByteArray) (bw : Nat) (wl : World) (l : List Nat) (W : World) : Prop where
  k : ∃ has beh, wL must gen rd l = .go has beh ∧ Two wl.heap.size bw (bw + 1) has beh W
  o : But2 wl.heap.size bw wl W
theorem WLoop.own {must : List ByteArray} {gen : Nat} {rd : Nat → Nat × ByteArray} {bw : Nat} {wl : World} : OwnFrom wl.heap.size (fun l W => WLoop must gen rd bw wl l W) := fun l A A' row hs hg hr => by
  obtain ⟨a, b, h1, h2⟩ := hs.k
  exact ⟨⟨a, b, h1, h2.own hg (fun r e => (hr r e).2)⟩, hs.o.grown hg (fun r e => (hr r e).1) hs.o.size⟩
/-- Where the loop is left. -/
structure WRet (must : List ByteArray) (gen : Nat) (rd : Nat → Nat × ByteArray) (w : World) (l : List Nat) (W : World) : Prop where
  r : wL must gen rd l = .down
  c5 : W.cell? ⟨w.heap.size + 1 + 1, 0, none⟩ = some (.int .i64 71)
  c4 : W.cell? ⟨w.heap.size + 1, 0, none⟩ = some (.slice none 0 0)
  o : Kept w W
def WIx (must : List ByteArray) (gen : Nat) (rd : Nat → Nat × ByteArray) (w : World) (c : Code) (l : List Nat) (W : World) : Prop := c = .ret ∧ WRet must gen rd w l W
theorem WIx.own {must : List ByteArray} {gen : Nat} {rd : Nat → Nat × ByteArray} {w wl : World} (hw : w.heap.size + 3 ≤ wl.heap.size) (c : Code) : OwnFrom wl.heap.size (fun l W => WIx must gen rd w c l W) := fun l A A' row hs hg hr =>
  ⟨hs.1, hs.2.r, _root_.Go.cell_kept hs.2.c5 hg (fun r e => (hr r e).2), _root_.Go.cell_kept hs.2.c4 hg (fun r e => (hr r e).2), keptT_above hs.2.o hg (fun r e => by have := (hr r e).1; omega)⟩
theorem w_ret {B gen : Nat} {must : List ByteArray} {rd : Nat → Nat × ByteArray} {w W : World} {l : List Nat} {tb : Nat} (h : wL must gen rd l = .down) (hk : Kept w W) (hl : HLaid W w.heap.size tb) :
    KeepsFrom B W ((W.setCell ⟨w.heap.size + 1, 0, none⟩ (.slice none 0 0)).setCell ⟨w.heap.size + 1 + 1, 0, none⟩ (.int .i64 71)) ∧ WRet must gen rd w l ((W.setCell ⟨w.heap.size + 1, 0, none⟩ (.slice none 0 0)).setCell ⟨w.heap.size + 1 + 1, 0, none⟩ (.int .i64 71)) := by
  refine ⟨((KeepsOthers.setCell _ _ _).trans (KeepsOthers.setCell _ _ _)).from _, ⟨h, ?_, ?_, ?_⟩⟩
  · exact World.cell?_setCell_same _ _ _ (by rw [World.cell?_setCell_other _ _ _ _ (by intro c; injection c with c1; omega)]; exact hl.c5)
  · rw [World.cell?_setCell_other _ _ _ _ (by intro c; injection c with c1; omega)]; exact World.cell?_setCell_same _ _ _ hl.c4
  · exact (hk.setCell (p := ⟨w.heap.size + 1, 0, none⟩) (by dsimp only; omega) _).setCell (p := ⟨w.heap.size + 1 + 1, 0, none⟩) (by dsimp only; omega) _
theorem WRet.drew {must : List ByteArray} {gen : Nat} {rd : Nat → Nat × ByteArray} {w W : World} {l : List Nat} (h : WRet must gen rd w l W) : WRet must gen rd w l W.drew := ⟨h.r, h.c5, h.c4, h.o.drew⟩
theorem w_push {N bw b : Nat} {W W0 W9 : World} {v v9 : Value} {rs : List Int} (hb : b = bw ∨ b = bw + 1) (hN : N ≤ W.heap.size) (k : Kept W W0) (hG : GatI N v rs W0) (hg : W0.grownBy W9 v.ownBlock) :
    KeepsFrom N W (W9.setCell ⟨b, 0, none⟩ v9) ∧ But2 N bw W (W9.setCell ⟨b, 0, none⟩ v9) := by
  refine ⟨((others_grown k.others hg (fun q hq => ⟨_, own_typ hG q hq⟩)).trans (KeepsOthers.setCell _ _ _)).from _, ?_⟩
  refine ((k.but2 hN).grown hg (fun q hq => (hG.lt q hq).1) (Nat.le_trans hN k.size)).trans ⟨rfl, rfl, rfl, by simp [World.setCell], fun j _ h1 h2 => Below.heap_setCell _ _ _ _ (by show j ≠ b; omega)⟩
theorem gati_slice {B : Nat} {v : Value} {rs : List Int} {w : World} (h : GatI B v rs w) : ∃ a n c, v = .slice a n c := by
  obtain ⟨h1, h2⟩ := h
  rcases h2 with ⟨rfl, h2⟩ | ⟨g, cap, cur, rfl, h3, h4, h5, h6, h7, h8⟩
  · exact ⟨_, _, _, rfl⟩
  · exact ⟨_, _, _, rfl⟩
/-- One int more in one of two boxes, as a walk in a round meets it. -/
theorem wpListIn_push {F : Fence} {nF : Nat} {ops : Array Oper} {rest : List Oper} {o : Oper} {a : Act} {Q : Exit → Act → World → Prop} (W1 : World) (hgd : o.guard = none) (s x : Operand)
    (ho : o.op = .call { callee := .builtin .append, args := #[s, x], argTypes := #[50, 50] })
    {N bw b1 b2 : Nat} {r1 r2 : List Int} {W : World} (h2 : Hid (Two N b1 b2 r1 r2 W)) (k : Kept W W1) (hN : Hid (N ≤ W.heap.size)) (hb : b1 = bw ∨ b1 = bw + 1) (v : Value) (hv : W.cell? ⟨b1, 0, none⟩ = some v)
    (r : Int) (g : Nat) (hs : a.eval s = v) (hx : a.eval x = .slice (some ⟨g, 0, none⟩) 1 1) (hc : W1.cell? ⟨g, 0, none⟩ = some (.int .i64 r)) (hl : Hid (r1.length ≤ 1000000))
    (h : ∀ a9 l9 c9 w9, w9.cell? ⟨b1, 0, none⟩ = some v → w9.frozen? ⟨b1, 0, none⟩ = false → Hid (KeepsFrom N W (w9.setCell ⟨b1, 0, none⟩ (.slice a9 l9 c9)) ∧ But2 N bw W (w9.setCell ⟨b1, 0, none⟩ (.slice a9 l9 c9))) → Hid (Two N b1 b2 (r1 ++ [r]) r2 (w9.setCell ⟨b1, 0, none⟩ (.slice a9 l9 c9))) →
      wpListIn F nF Tryz.prog ops Q rest (a.put o.dst (.slice a9 l9 c9)) w9) : wpListIn F nF Tryz.prog ops Q (o :: rest) a W1 := by
  obtain ⟨v0, e1, hG⟩ := h2.out.o1.r
  obtain rfl : v0 = v := Option.some.inj (e1.symm.trans hv)
  refine wpListIn_gati W1 hgd s x ho N (Nat.le_trans hN.out k.size) v0 r1 hs (hG.kept k) r g hx hc hl.out ?_
  intro v9 w9 hG9 hg9 ho9
  obtain ⟨⟨e9, f9⟩, hT9⟩ := Two.push h2.out k hv hg9 hG9 ho9
  obtain ⟨a9, l9, c9, rfl⟩ := gati_slice hG9
  exact h a9 l9 c9 w9 e9 f9 (w_push hb hN.out k (hG.kept k) hg9) hT9
end Go.Proofs.YtmgkkoajjdgmbaaGreatDoor

/- A region that draws its order and only reads, inside a round: one walk in the text's order serves every order. (A defer alone is run otherwise in a round: no defer stands there.) -/
namespace Go.Proofs.YtmgkkoajjdgmbaaGreatDoor
open Go
section
variable {F : Fence} {n : Nat} {P : Program} {ops : Array Oper} {md : Region.Mode} {C : World → Prop}
def noDefer (o : Oper) : Bool := match o.op with | .defer _ => false | _ => true
theorem noDefer_spec {o : Oper} (h : noDefer o = true) : ∀ c, o.op ≠ .defer c := fun c e => by unfold noDefer at h; rw [e] at h; cases h
theorem operR {o : Oper} {a : Act} {K : Act → Prop} {K' : Act → World → Prop} {Q' : Exit → Act → World → Prop} {w : World} (hro : noDefer o = true) (hw : C w) (h : ∀ a w', C w' → K a → K' a w')
    (ha : o.askedIn F P a C) (hh : o.quietIn F n P a C K) : o.wpIn F n P a w K' Q' := by
  obtain ⟨v, h1, h2⟩ := hh
  have h3 := h1 w hw
  unfold Oper.quietAtIn at h3
  unfold Oper.wpIn
  refine ⟨ha w hw, ?_⟩
  rw [Oper.semAt_eq _ _ _ (noDefer_spec hro)]
  generalize (execOp a.eval o).run P w = r at *
  cases r with
  | ok x w' =>
    cases x <;> simp only [Oper.quietUponIn] at h3 <;> simp only [Oper.uponIn]
    case value u =>
      obtain ⟨e1, e2⟩ := h3
      rw [e1, e2]
      exact h _ _ hw h2
    case skip =>
      obtain ⟨e1, e2⟩ := h3
      rw [e1, ← e2]
      exact h _ _ hw h2
    case enter f args =>
      obtain ⟨e1, hd, hc⟩ := h3
      rw [e1]
      exact ⟨hd, hc.mono fun e w'' ⟨he, hw''⟩ => by subst he; exact h _ _ hw'' h2⟩
  | halt x w' => simp only [Oper.quietUponIn] at h3
theorem opR {i : Nat} {a : Act} {K : Act → Prop} {K' : Act → World → Prop} {Q' : Exit → Act → World → Prop} {w : World} (hro : ∀ o ∈ ops.toList, noDefer o = true) (hC : C w) (h : ∀ a w', C w' → K a → K' a w')
    (hh : qOpIn F n P ops C i K a) : wpOpIn F n P ops Q' i K' a w := by
  unfold qOpIn at hh
  unfold wpOpIn
  split
  · rename_i ho; simp only [ho] at hh; exact h _ _ hC hh
  · rename_i o ho
    simp only [ho] at hh
    obtain ⟨ha, hh⟩ := hh
    split
    · rename_i hw; simp only [hw, if_true] at hh; exact operR (hro o (by obtain ⟨h1, h2⟩ := Array.getElem?_eq_some_iff.1 ho; rw [← h2]; exact Array.mem_def.1 (Array.getElem_mem h1))) hC h ha hh
    · rename_i hw; simp only [hw] at hh; exact ⟨ha w hC, h _ _ hC hh⟩
theorem anyR {Q : Act → Prop} {Q' : Exit → Act → World → Prop} (hro : ∀ o ∈ ops.toList, noDefer o = true) (hQ : ∀ a w, C w → Q a → Q' .normal a w) : ∀ (fuel : Nat) (listed : Array Bool) (a : Act) (w : World), C w →
    wpAnyQIn F n P md ops C Q fuel listed a → wpAnyIn F n P md ops Q' fuel listed a w
  | 0, _, _, _, hw, h => ⟨h.1, hQ _ _ hw h.2⟩
  | fuel + 1, _, _, _, hw, h => ⟨fun h0 => hQ _ _ hw (h.1 h0), fun i hi => opR hro hw (fun a' w' hw' => anyR hro hQ fuel _ a' w' hw') (h.2 i hi)⟩
theorem wpIn_region_round {id : Nat} {Q : Exit → Act → World → Prop} {a : Act} {w : World} {l : List Oper} (hro : l.all noDefer = true) (hm : P.follows .mixedOrders = true) (hB : Region.lexB .any l.toArray = true)
    (h : wpQuietIn F n P l.toArray (fun w' => ∃ n, w' = w.drewN n) (fun a' => ∀ w', (∃ n, w' = w.drewN n) → Q .normal a' w') l a) : (Code.region id l.toArray true).wpIn F n P Q a w := by
  have hB' := hB
  simp only [Region.lexB, Bool.and_eq_true] at hB
  refine wpIn_region_any hm (anyR (C := fun w' => ∃ n, w' = w.drewN n) (Q := fun a' => ∀ w', (∃ n, w' = w.drewN n) → Q .normal a' w') (fun o ho => List.all_eq_true.1 hro o (by simpa using ho)) (fun _ w' hw' h => h w' hw') _ _ _ _ ⟨1, rfl⟩ ?_)
  have := wpAnyQIn_lex (F := F) (n := n) (C := fun w' => ∃ n, w' = w.drewN n) (md := .any) hB.1 l 0 (Array.replicate l.toArray.size false) a (by simp) (by simpa using hB.2) h
  simpa using this
end
end Go.Proofs.YtmgkkoajjdgmbaaGreatDoor

/- One gathered row of ints behind another one, as a walk in a fence meets it. -/
namespace Go.Proofs.YtmgkkoajjdgmbaaGreatDoor
open Go.RowKit Go.Shelf Sm Wr _root_.Go.Proofs.YtmgkkoajjdgmbaaGreatDoor.Nm
theorem gati_fits {B n c : Nat} {a : Option Addr} {rs : List Int} {w : World} (h : GatI B (.slice a n c) rs w) : n ≤ c := by
  obtain ⟨h1, h2⟩ := h
  rcases h2 with ⟨e, h2⟩ | ⟨g', cap, cur, e, h3, h4, h5, h6, h7, h8⟩
  · injection e with e1 e2 e3; omega
  · injection e with e1 e2 e3; omega
theorem gati_none {B n c : Nat} {rs : List Int} {w : World} (h : GatI B (.slice none n c) rs w) : rs = [] ∧ n = 0 ∧ c = 0 := by
  obtain ⟨h1, h2⟩ := h
  rcases h2 with ⟨e, h2⟩ | ⟨g', cap, cur, e, h3, h4, h5, h6, h7, h8⟩
  · injection e with e1 e2 e3; exact ⟨List.length_eq_zero_iff.1 h2, e2, e3⟩
  · cases e
theorem run_app_none (P : Program) (w : World) (t ty e : TypeId) (i : TypeInfo) (ht : P.underlying t = some (.slice e)) (hi : P.info? e = some i) (b : Option Addr) (n c : Nat) (hc : n ≤ c) : (Builtin.append_ #[t, t] ty #[.slice b n c, .slice none 0 0]).run P w = .ok (.slice b n c) w := by
  cases b <;> simp [Builtin.append_, run_underlying ht, sizeOf, typeInfo, hi, Builtin.lenOf, Builtin.firstCells, loadCells, storeCells, hc]
theorem all_ints (xs : List Int) : ∀ u ∈ xs.map (Value.int .i64), u.oneCell' = true := by
  intro u hu
  obtain ⟨x, _, rfl⟩ := List.mem_map.1 hu
  rfl
theorem wpListIn_gatis {F : Fence} {nF : Nat} {ops : Array Oper} {rest : List Oper} {o : Oper} {a : Act} {Q : Exit → Act → World → Prop} (W : World) (hgd : o.guard = none) (s x : Operand)
    (ho : o.op = .call { callee := .builtin .append, args := #[s, x], argTypes := #[50, 50] })
    {B : Nat} (hB : B ≤ W.heap.size) {v y : Value} {rs xs : List Int} (hs : a.eval s = v) (hG : Hid (GatI B v rs W)) (hx : a.eval x = y) (hX : Hid (GatI B y xs W)) (hl : Hid (rs.length + xs.length ≤ 1000000))
    (h : ∀ a9 l9 c9 w9, Hid (GatI B (.slice a9 l9 c9) (rs ++ xs) w9) → Hid (W.grownBy w9 v.ownBlock) → wpListIn F nF Tryz.prog ops Q rest (a.put o.dst (.slice a9 l9 c9)) w9) : wpListIn F nF Tryz.prog ops Q (o :: rest) a W := by
  obtain ⟨i0, hi, hzz⟩ := Option.map_eq_some_iff.1 info_int
  simp only [Prod.mk.injEq] at hzz
  obtain ⟨ay, ny, cy, rfl⟩ := gati_slice hX.out
  cases ay with
  | none =>
    obtain ⟨rfl, rfl, rfl⟩ := gati_none hX.out
    obtain ⟨av, nv, cv, rfl⟩ := gati_slice hG.out
    refine wpListIn_plain hgd fun K hK => ?_
    have hr := run_app_none Tryz.prog W 50 o.type 3 i0 Tryz.underlying50 hi av nv cv (gati_fits hG.out)
    unfold Oper.wpIn
    refine ⟨by simp [Oper.about, ho, resolve, Target.leads, Sem.run_pure], ?_⟩
    rw [Oper.semAt_plain F _ _ (by rw [ho]; intro c hc'; cases hc')]
    simp [execOp, ho, resolve, invoke, builtin, hs, hx, hr, Result.andThen]
    exact hK _ _ (h av nv cv W (by rw [List.append_nil]; exact hG) ⟨rfl, rfl, rfl, Nat.le_refl _, fun _ _ _ => rfl⟩)
  | some ad =>
    obtain ⟨rfl, hc⟩ : ny = xs.length ∧ ∀ j u, (xs.map (Value.int .i64))[j]? = some u → W.cell? (ad.add j) = some u := by
      have hX2 := hX.out
      have hX3 := hX2
      obtain ⟨h1, h2⟩ := hX2
      rcases h2 with ⟨e, h2⟩ | ⟨g', cap, cur, e, h3, h4, h5, h6, h7, h8⟩
      · cases e
      · injection e with e1 e2 e3
        injection e1 with e1
        subst e1
        exact ⟨e2, World.ownsRow.cells hX3 rfl⟩
    refine wpListIn_append_own_at W hgd s x 50 ho B 3 i0 (.int .i64 0) 1 8 Tryz.underlying50 hi hzz.1 hzz.2.1 hzz.2.2 rfl (by decide) v rs.length (rs.map (Value.int .i64)) hs hG.out ad xs.length cy (xs.map (Value.int .i64)) hx (by rw [List.length_map, Nat.mul_one]) hc (all_ints xs) (by have := hl.out; unfold maxLen; omega) (by have := hl.out; omega) hB ?_
    intro v' w' h2 h3 _ _
    have hG' : GatI B v' (rs ++ xs) w' := by
      unfold GatI
      rw [List.map_append, List.length_append]
      exact h2
    obtain ⟨a9, l9, c9, rfl⟩ := gati_slice hG'
    exact h a9 l9 c9 w' hG' h3
/-- What the walk needs behind the reversal and the append. -/
theorem w_fin {w W w2 : World} {B tb D : Nat} {has beh : List Int} {va vb : Value}
    (hk : Two B (w.heap.size + 1 + 1 + 1) (w.heap.size + 1 + 1 + 1 + 1) has beh W) (hW : Kept w W) (hl : HLaid W w.heap.size tb) (hD : W.heap[D]? = some (.deferred (some []))) (hB : w.heap.size + 5 ≤ B) (hDB : B ≤ D) (hBW : B ≤ W.heap.size)
    (hva : W.cell? ⟨w.heap.size + 1 + 1 + 1, 0, none⟩ = some va) (hvb : W.cell? ⟨w.heap.size + 1 + 1 + 1 + 1, 0, none⟩ = some vb) (h2 : GatI B va has.reverse w2) (g2 : W.grownBy w2 va.ownBlock) :
    w2.cell? ⟨w.heap.size + 1 + 1 + 1, 0, none⟩ = some va ∧ w2.cell? ⟨w.heap.size + 1 + 1 + 1 + 1, 0, none⟩ = some vb ∧ B ≤ w2.heap.size ∧ GatI B vb beh w2 ∧
    ∀ a9 l9 c9 w9, GatI B (.slice a9 l9 c9) (beh ++ has.reverse) w9 → w2.grownBy w9 vb.ownBlock →
      w9.cell? ⟨w.heap.size + 1, 0, none⟩ = some (.slice none 0 0) ∧ w9.frozen? ⟨w.heap.size + 1, 0, none⟩ = false ∧ w9.cell? ⟨w.heap.size + 1 + 1, 0, none⟩ = some (.int .i64 0) ∧ w9.frozen? ⟨w.heap.size + 1 + 1, 0, none⟩ = false ∧
      Hid (((w9.setCell ⟨w.heap.size + 1, 0, none⟩ (.slice a9 l9 c9)).setCell ⟨w.heap.size + 1 + 1, 0, none⟩ (.int .i64 0)).heap[D]? = some (.deferred (some [])) ∧
        ((w9.setCell ⟨w.heap.size + 1, 0, none⟩ (.slice a9 l9 c9)).setCell ⟨w.heap.size + 1 + 1, 0, none⟩ (.int .i64 0)).cell? ⟨w.heap.size + 1, 0, none⟩ = some (.slice a9 l9 c9) ∧
        ((w9.setCell ⟨w.heap.size + 1, 0, none⟩ (.slice a9 l9 c9)).setCell ⟨w.heap.size + 1 + 1, 0, none⟩ (.int .i64 0)).cell? ⟨w.heap.size + 1 + 1, 0, none⟩ = some (.int .i64 0) ∧
        (∀ W', ((w9.setCell ⟨w.heap.size + 1, 0, none⟩ (.slice a9 l9 c9)).setCell ⟨w.heap.size + 1 + 1, 0, none⟩ (.int .i64 0)).grownBy W' (some D) → GatI w.heap.size (.slice a9 l9 c9) (beh ++ has.reverse) W' ∧ Kept w W')) := by
  obtain ⟨va', e1, hga⟩ := hk.o1.r
  obtain rfl : va' = va := Option.some.inj (e1.symm.trans hva)
  obtain ⟨vb', e2, hgb⟩ := hk.o2.r
  obtain rfl : vb' = vb := Option.some.inj (e2.symm.trans hvb)
  have hla : ∀ q, q < B → va'.ownBlock ≠ some q := fun q hq e => by have := (World.ownsRow.lt hga q e).1; omega
  have hlb : ∀ q, q < B → vb'.ownBlock ≠ some q := fun q hq e => by have := (World.ownsRow.lt hgb q e).1; omega
  have b2 : ∀ k, k < B → w2.heap[k]? = W.heap[k]? := fun k hk => g2.block k (by omega) (fun e => hla k hk e.symm)
  have hgb2 : GatI B vb' beh w2 := World.ownsRow.kept hgb g2 (hk.dis _ _ hva hvb)
  refine ⟨by rw [World.cell?_of_block (w := W) (a := ⟨w.heap.size + 1 + 1 + 1, 0, none⟩) (b2 _ (by dsimp only; omega))]; exact hva, by rw [World.cell?_of_block (w := W) (a := ⟨w.heap.size + 1 + 1 + 1 + 1, 0, none⟩) (b2 _ (by dsimp only; omega))]; exact hvb, Nat.le_trans hBW g2.size, hgb2, ?_⟩
  intro a9 l9 c9 w9 h9 g9
  have b9 : ∀ k, k < B → w9.heap[k]? = W.heap[k]? := fun k hk => (g9.block k (by have := g2.size; omega) (fun e => hlb k hk e.symm)).trans (b2 k hk)
  have hl9 : HLaid w9 w.heap.size tb := hl.frame fun i h1 h3 => b9 i (by omega)
  have hDa : va'.ownBlock ≠ some D := fun e => typ_cells (own_typ hga D e) hD rfl
  have hDb : vb'.ownBlock ≠ some D := fun e => typ_cells (own_typ hgb D e) hD rfl
  have hDW : D < W.heap.size := (Array.getElem?_eq_some_iff.1 hD).1
  have hD9 : w9.heap[D]? = some (.deferred (some [])) := by rw [g9.block D (by have := g2.size; omega) (fun e => hDb e.symm), g2.block D hDW (fun e => hDa e.symm)]; exact hD
  have hK9 : Kept w w9 := Below.grown (Below.grown hW g2 hW.size (fun k e => by have := (World.ownsRow.lt hga k e).1; omega)) g9 (Nat.le_trans hW.size g2.size) (fun k e => by have := (World.ownsRow.lt hgb k e).1; omega)
  have hDF : ((w9.setCell ⟨w.heap.size + 1, 0, none⟩ (.slice a9 l9 c9)).setCell ⟨w.heap.size + 1 + 1, 0, none⟩ (.int .i64 0)).heap[D]? = some (.deferred (some [])) := by
    rw [Below.heap_setCell _ _ _ _ (by dsimp only; omega), Below.heap_setCell _ _ _ _ (by dsimp only; omega)]; exact hD9
  refine ⟨hl9.c4, hl9.f4, hl9.c5, hl9.f5, hDF, ?_, ?_, fun W' hg => ?_⟩
  · rw [World.cell?_setCell_other _ _ _ _ (by intro c; injection c with c1; omega)]; exact World.cell?_setCell_same _ _ _ hl9.c4
  · exact World.cell?_setCell_same _ _ _ (by rw [World.cell?_setCell_other _ _ _ _ (by intro c; injection c with c1; omega)]; exact hl9.c5)
  · have hlo : ∀ q, q < B → (Value.slice a9 l9 c9).ownBlock ≠ some q := fun q hq e => by have := (World.ownsRow.lt h9 q e).1; omega
    have a1 := World.ownsRow.kept h9 (grownBy_set w9 (w.heap.size + 1) 0 (.slice a9 l9 c9)) (.inr (hlo _ (by omega)))
    have a2 := World.ownsRow.kept a1 (grownBy_set _ (w.heap.size + 1 + 1) 0 (.int .i64 0)) (.inr (hlo _ (by omega)))
    have a3 := World.ownsRow.kept a2 hg (.inr (fun e => typ_cells (own_typ a2 D e) hDF rfl))
    refine ⟨World.ownsRow.mono a3 (by omega), ?_⟩
    exact keptT_above ((hK9.setCell (p := ⟨w.heap.size + 1, 0, none⟩) (by dsimp only; omega) _).setCell (p := ⟨w.heap.size + 1 + 1, 0, none⟩) (by dsimp only; omega) _) hg (fun r e => by cases e; omega)
end Go.Proofs.YtmgkkoajjdgmbaaGreatDoor

