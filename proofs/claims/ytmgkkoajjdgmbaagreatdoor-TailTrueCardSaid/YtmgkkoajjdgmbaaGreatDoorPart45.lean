/- TailTArg, TailTru, TailLost, TailLoaded, TailTrueM. -/
import Derived.Test.YtmgkkoajjdgmbaaGreatDoorPart41
import Derived.Test.YtmgkkoajjdgmbaaGreatDoorPart42
import Derived.Test.YtmgkkoajjdgmbaaGreatDoorPart43
import Derived.StillTailTactics
import Derived.Deep.QuietTactic
import Derived.BigQuiet
import Derived.Deep.RegionHeld3
set_option linter.unusedVariables false
set_option linter.unusedSimpArgs false
set_option linter.unusedSectionVars false
set_option linter.unnecessarySimpa false
set_option linter.deprecated false
/- A slice of turns that came in, opened. -/
namespace Go.Proofs.YtmgkkoajjdgmbaaGreatDoor
open Go.RowKit Go.Deep Sm Wr _root_.Go.Proofs.YtmgkkoajjdgmbaaGreatDoor.Nm
set_option linter.unusedVariables false
/-- One turn: what to do, the text, the drive, the sector. -/
structure TTrn where
  op : Nat
  t : ByteArray
  n : Nat
  at' : Nat
structure TTrnAt (w : World) (b o i : Nat) (z : TTrn) : Prop where
  c0 : w.cell? ⟨b, o + i * 4, none⟩ = some (.int .u8 (z.op : Nat))
  c1 : w.cell? ⟨b, o + i * 4 + 1, none⟩ = some (.string z.t)
  c2 : w.cell? ⟨b, o + i * 4 + 2, none⟩ = some (.int .u8 (z.n : Nat))
  c3 : w.cell? ⟨b, o + i * 4 + 3, none⟩ = some (.int .u8 (z.at' : Nat))
  bo : z.op ≤ 255
  bn : z.n ≤ 255
  ba : z.at' ≤ 255
  st : z.t.size ≤ maxLen
theorem TTrnAt.kept {w w' : World} {b o i : Nat} {z : TTrn} (h : TTrnAt w b o i z) (k : Kept w w') : TTrnAt w' b o i z :=
  { h with c0 := cell_keptT h.c0 k, c1 := cell_keptT h.c1 k, c2 := cell_keptT h.c2 k, c3 := cell_keptT h.c3 k }
def IsTTurns (w : World) (a : Option Addr) (len cap : Nat) (zs : List TTrn) : Prop :=
  (a = none ∧ len = 0 ∧ cap = 0 ∧ zs = []) ∨
  ∃ p, a = some p ∧ len ≤ cap ∧ cap ≤ maxLen ∧ zs.length = len ∧ ∀ (i : Nat) (h : i < zs.length), p.spot = none ∧ TTrnAt w p.block p.off i zs[i]
def TTrns (w : World) (a : Option Addr) (zs : List TTrn) : Prop :=
  zs = [] ∨ ∃ b o, a = some ⟨b, o, none⟩ ∧ ∀ (i : Nat) (h : i < zs.length), TTrnAt w b o i zs[i]
theorem IsTTurns.trns {w : World} {a : Option Addr} {len cap : Nat} {zs : List TTrn} (h : IsTTurns w a len cap zs) : TTrns w a zs ∧ zs.length = len ∧ len ≤ maxLen := by
  rcases h with ⟨rfl, rfl, rfl, rfl⟩ | ⟨p, rfl, hl, hm, hz, hq⟩
  · exact ⟨.inl rfl, rfl, by decide⟩
  · refine ⟨?_, hz, by omega⟩
    rcases Nat.eq_zero_or_pos zs.length with h0 | h0
    · exact .inl (List.length_eq_zero_iff.1 h0)
    · obtain ⟨b, o, spot⟩ := p
      have := (hq 0 h0).1
      dsimp only at this
      subst this
      exact .inr ⟨b, o, rfl, fun i hi => (hq i hi).2⟩
theorem TTrns.kept {w w' : World} {a : Option Addr} {zs : List TTrn} (h : TTrns w a zs) (k : Kept w w') : TTrns w' a zs := by
  rcases h with h | ⟨b, o, rfl, h⟩
  · exact .inl h
  · exact .inr ⟨b, o, rfl, fun i hi => (h i hi).kept k⟩
set_option maxRecDepth 100000 in
set_option maxHeartbeats 1000000 in
theorem open_tturns {H : Type} {enc : TypeId × Value → H} {w : World} {base : Nat} {spare : Nat → Bool} {held : Bool} {fuel : Nat} {a : Option Addr} {len cap : Nat} {x : DataW H × List MemPlace}
    (h : DataW.trod enc Tryz.prog w base spare held fuel 60 [.slice a len cap] = some x) : ∃ zs, IsTTurns w a len cap zs := by
  have hC : Tryz.prog.cellsOf 66 = 4 := by kernel_rfl
  have c8 : Tryz.prog.cellsOf 5 = 1 := by kernel_rfl
  have cst : Tryz.prog.cellsOf 9 = 1 := by kernel_rfl
  rcases open_slice Tryz.underlying60 h with ⟨hcs, _⟩ | ⟨p, l, c, m, n, D, Pl, hcs, hb, hl, hm, hmm, _, hi⟩
  · simp at hcs
    obtain ⟨rfl, rfl, rfl⟩ := hcs
    exact ⟨[], .inl ⟨rfl, rfl, rfl, rfl⟩⟩
  · simp at hcs
    obtain ⟨rfl, rfl, rfl⟩ := hcs
    have hlm : len ≤ m := by rw [hmm]; split <;> omega
    have hz : ∀ i, i < len → ∃ z : TTrn, p.spot = none ∧ TTrnAt w p.block p.off i z := by
      intro i hil
      have hspot : p.spot = none := by
        obtain ⟨cs', hc, _⟩ := hi 0 (by omega)
        rw [hC] at hc
        obtain ⟨_, hcl, hat⟩ := World.cells?_some hc
        have d0 := hat 0 (by omega)
        rw [add_add, List.getElem?_eq_getElem (by omega)] at d0
        have := World.cell?_spot d0
        simpa [Addr.add] using this
      obtain ⟨cs', hc, ht'⟩ := hi i (by omega)
      rw [hC] at hc
      obtain ⟨_, hcl, hat⟩ := World.cells?_some hc
      obtain ⟨q0, q1, q2, q3, n2, _, j0, j1, j2, j3⟩ := trod4 Tryz.underlying66 ht'
      obtain ⟨z0, e0, v0⟩ := one_cell 0 Tryz.underlying5 c8 j0
      obtain ⟨z1, e1, v1⟩ := one_text 1 Tryz.underlying9 cst j1
      obtain ⟨z2, e2, v2⟩ := one_cell 2 Tryz.underlying5 c8 j2
      obtain ⟨z3, e3, v3⟩ := one_cell 3 Tryz.underlying5 c8 j3
      have d0 := (hat 0 (by omega)).trans e0
      have d1 := (hat 1 (by omega)).trans e1
      have d2 := (hat 2 (by omega)).trans e2
      have d3 := (hat 3 (by omega)).trans e3
      obtain ⟨b, o, spot⟩ := p
      dsimp only at hspot
      subst hspot
      rw [add_add, Go.WideShapes.add_plain] at d0 d1 d2 d3
      have b0 := bounds_u8 v0
      have b2 := bounds_u8 v2
      have b3 := bounds_u8 v3
      obtain ⟨z0n, rfl⟩ : ∃ s : Nat, z0 = s := ⟨z0.toNat, by omega⟩
      obtain ⟨z2n, rfl⟩ : ∃ s : Nat, z2 = s := ⟨z2.toNat, by omega⟩
      obtain ⟨z3n, rfl⟩ : ∃ s : Nat, z3 = s := ⟨z3.toNat, by omega⟩
      exact ⟨⟨z0n, z1, z2n, z3n⟩, rfl, d0, d1, d2, d3, by show z0n ≤ _; omega, by show z2n ≤ _; omega, by show z3n ≤ _; omega, v1⟩
    obtain ⟨zs, hzl, hzq⟩ := list_of (fun i z => p.spot = none ∧ TTrnAt w p.block p.off i z) len hz
    exact ⟨zs, .inr ⟨p, rfl, hl, hm, hzl, hzq⟩⟩
end Go.Proofs.YtmgkkoajjdgmbaaGreatDoor

/- The law's truth: a tail, what was shown of it, what may have become of it, which drives were lost. -/
namespace Go.Proofs.YtmgkkoajjdgmbaaGreatDoor
open Go.RowKit Sm Wr _root_.Go.Proofs.YtmgkkoajjdgmbaaGreatDoor.Nm
set_option linter.unusedVariables false
def gQ (N p : Nat) : Geo := ⟨N, p, 138, 64⟩
/-- The cells of the struct, in block xb. -/
structure TruC (xb G N p gen : Nat) (tv sv mv hv : Value) (gone : Nat) (W : World) : Prop where
  ty : Typ W xb 64
  c0 : W.cell? ⟨xb, 0, none⟩ = some (.pointer (some ⟨G + 1, 0, none⟩))
  c1 : W.cell? ⟨xb, 1, none⟩ = some (.int .i64 (N : Nat))
  c2 : W.cell? ⟨xb, 2, none⟩ = some (.int .i64 (p : Nat))
  c3 : W.cell? ⟨xb, 3, none⟩ = some (.int .i64 138)
  c4 : W.cell? ⟨xb, 4, none⟩ = some (.int .i64 64)
  c5 : W.cell? ⟨xb, 5, none⟩ = some (.int .u64 (gen : Nat))
  c6 : W.cell? ⟨xb, 6, none⟩ = some tv
  c7 : W.cell? ⟨xb, 7, none⟩ = some sv
  c8 : W.cell? ⟨xb, 8, none⟩ = some mv
  c9 : W.cell? ⟨xb, 9, none⟩ = some hv
  c10 : W.cell? ⟨xb, 10, none⟩ = some (.int .i64 (gone : Nat))
section
variable {xb G N p gen : Nat} {tv sv mv hv : Value} {gone : Nat} {W : World}
theorem TruC.frame (h : TruC xb G N p gen tv sv mv hv gone W) {W' : World} (e : W'.heap[xb]? = W.heap[xb]?) : TruC xb G N p gen tv sv mv hv gone W' := by
  have ce : ∀ o, W'.cell? ⟨xb, o, none⟩ = W.cell? ⟨xb, o, none⟩ := fun o => World.cell?_of_block (w := W) (a := ⟨xb, o, none⟩) e
  exact ⟨h.ty.frame e, by rw [ce]; exact h.c0, by rw [ce]; exact h.c1, by rw [ce]; exact h.c2, by rw [ce]; exact h.c3, by rw [ce]; exact h.c4, by rw [ce]; exact h.c5, by rw [ce]; exact h.c6, by rw [ce]; exact h.c7, by rw [ce]; exact h.c8, by rw [ce]; exact h.c9, by rw [ce]; exact h.c10⟩
theorem xoff (W : World) (b o o' : Nat) (v : Value) (hne : o ≠ o') : (W.setCell ⟨b, o', none⟩ v).cell? ⟨b, o, none⟩ = W.cell? ⟨b, o, none⟩ := World.cell?_setCell_other _ _ _ _ (by intro e; injection e with _ e; exact hne e.symm)
theorem TruC.set6 (h : TruC xb G N p gen tv sv mv hv gone W) (x : Value) : TruC xb G N p gen x sv mv hv gone (W.setCell ⟨xb, 6, none⟩ x) := by
  refine ⟨h.ty.setCell _ _ _, ?_, ?_, ?_, ?_, ?_, ?_, World.cell?_setCell_same _ _ _ h.c6, ?_, ?_, ?_, ?_⟩
  all_goals rw [xoff _ _ _ _ _ (by decide)]
  all_goals first | exact h.c0 | exact h.c1 | exact h.c2 | exact h.c3 | exact h.c4 | exact h.c5 | exact h.c7 | exact h.c8 | exact h.c9 | exact h.c10
theorem TruC.set7 (h : TruC xb G N p gen tv sv mv hv gone W) (x : Value) : TruC xb G N p gen tv x mv hv gone (W.setCell ⟨xb, 7, none⟩ x) := by
  refine ⟨h.ty.setCell _ _ _, ?_, ?_, ?_, ?_, ?_, ?_, ?_, World.cell?_setCell_same _ _ _ h.c7, ?_, ?_, ?_⟩
  all_goals rw [xoff _ _ _ _ _ (by decide)]
  all_goals first | exact h.c0 | exact h.c1 | exact h.c2 | exact h.c3 | exact h.c4 | exact h.c5 | exact h.c6 | exact h.c8 | exact h.c9 | exact h.c10
theorem TruC.set8 (h : TruC xb G N p gen tv sv mv hv gone W) (x : Value) : TruC xb G N p gen tv sv x hv gone (W.setCell ⟨xb, 8, none⟩ x) := by
  refine ⟨h.ty.setCell _ _ _, ?_, ?_, ?_, ?_, ?_, ?_, ?_, ?_, World.cell?_setCell_same _ _ _ h.c8, ?_, ?_⟩
  all_goals rw [xoff _ _ _ _ _ (by decide)]
  all_goals first | exact h.c0 | exact h.c1 | exact h.c2 | exact h.c3 | exact h.c4 | exact h.c5 | exact h.c6 | exact h.c7 | exact h.c9 | exact h.c10
theorem TruC.set9 (h : TruC xb G N p gen tv sv mv hv gone W) (x : Value) : TruC xb G N p gen tv sv mv x gone (W.setCell ⟨xb, 9, none⟩ x) := by
  refine ⟨h.ty.setCell _ _ _, ?_, ?_, ?_, ?_, ?_, ?_, ?_, ?_, ?_, World.cell?_setCell_same _ _ _ h.c9, ?_⟩
  all_goals rw [xoff _ _ _ _ _ (by decide)]
  all_goals first | exact h.c0 | exact h.c1 | exact h.c2 | exact h.c3 | exact h.c4 | exact h.c5 | exact h.c6 | exact h.c7 | exact h.c8 | exact h.c10
theorem TruC.set10 (h : TruC xb G N p gen tv sv mv hv gone W) (x : Nat) : TruC xb G N p gen tv sv mv hv x (W.setCell ⟨xb, 10, none⟩ (.int .i64 (x : Nat))) := by
  refine ⟨h.ty.setCell _ _ _, ?_, ?_, ?_, ?_, ?_, ?_, ?_, ?_, ?_, ?_, World.cell?_setCell_same _ _ _ h.c10⟩
  all_goals rw [xoff _ _ _ _ _ (by decide)]
  all_goals first | exact h.c0 | exact h.c1 | exact h.c2 | exact h.c3 | exact h.c4 | exact h.c5 | exact h.c6 | exact h.c7 | exact h.c8 | exact h.c9
end
/-- A block that no call on the rack and the tail touches. -/
def Apt (G N tb : Nat) (v : Value) (W : World) (y : Nat) : Prop := y < W.heap.size ∧ (y < G ∨ G + 2 + N ≤ y) ∧ y ≠ tb ∧ v.ownBlock ≠ some y
/-- What stands: the truth in block xb, its rows, the tail and the rack; the drives of the rows h of the tail were lost. -/
structure Tru (w0 : World) (xb G N p gen : Nat) (S R : List ByteArray) (h : Nat → Bool) (s : RSt) (tb B : Nat) (v : Value) (L : List ByteArray) (br : Bool) (sa : Option Addr) (sc ml : Nat) (ma : Option Addr) (mc qh : Nat) (W : World) : Prop where
  cs : TruC xb G N p gen (.pointer (some ⟨tb, 0, none⟩)) (.slice sa S.length sc) (.slice ma ml mc) (.slice (some ⟨qh, 0, none⟩) N N) (cntB h (p + 1)) W
  st : Sit tb B G (gQ N p) gen S R L (drvHit (gQ N p) gen h) s v br W
  ss : Strs W sa S
  ms : (R = S ∧ ml = 0) ∨ (R ≠ S ∧ ml = R.length ∧ Strs W ma R)
  hh : HitAt W qh N (drvHit (gQ N p) gen h)
  kp : Kept w0 W
  lo : w0.heap.size ≤ G ∧ w0.heap.size ≤ xb ∧ w0.heap.size ≤ qh
  ax : Apt G N tb v W xb
  aq : Apt G N tb v W qh ∧ qh ≠ xb
  asr : ∀ q o, sa = some ⟨q, o, none⟩ → Apt G N tb v W q ∧ q ≠ xb ∧ q ≠ qh
  amr : ∀ q o, ma = some ⟨q, o, none⟩ → Apt G N tb v W q ∧ q ≠ xb ∧ q ≠ qh
section
variable {w0 : World} {xb G N p gen : Nat} {S R : List ByteArray} {h : Nat → Bool} {s : RSt} {tb B : Nat} {v : Value} {L : List ByteArray} {br : Bool} {sa : Option Addr} {sc ml : Nat} {ma : Option Addr} {mc qh : Nat} {W : World}
theorem Tru.sn (t : Tru w0 xb G N p gen S R h s tb B v L br sa sc ml ma mc qh W) : s.n = N := by
  have := t.st.ti.fit.1
  have e : (gQ N p).n = (N : Int) := rfl
  omega
theorem Apt.up {v' : Value} {y : Nat} {W' : World} (a : Apt G N tb v W y) (hs : W.heap.size ≤ W'.heap.size) (hv : ∀ k, v'.ownBlock = some k → v.ownBlock = some k ∨ W.heap.size ≤ k) : Apt G N tb v' W' y :=
  ⟨Nat.lt_of_lt_of_le a.1 hs, a.2.1, a.2.2.1, fun e => by
    rcases hv y e with x | x
    · exact a.2.2.2 x
    · have := a.1; omega⟩
theorem strs_blk {W W' : World} {a : Option Addr} {ss : List ByteArray} (h : Strs W a ss) (e : ∀ q o, a = some ⟨q, o, none⟩ → W'.heap[q]? = W.heap[q]?) : Strs W' a ss := by
  rcases h with h | ⟨b, o, rfl, h⟩
  · exact .inl h
  · exact .inr ⟨b, o, rfl, fun i hi => by rw [World.cell?_of_block (w := W) (a := ⟨b, o + i, none⟩) (e b o rfl)]; exact h i hi⟩
theorem HitAt.blk {W W' : World} {q n : Nat} {hit : Nat → Bool} (h : HitAt W q n hit) (e : W'.heap[q]? = W.heap[q]?) : HitAt W' q n hit :=
  ⟨fun j hj => by rw [World.cell?_of_block (w := W) (a := ⟨q, j, none⟩) e]; exact h.cell j hj, fun j hj => by rw [World.frozen?_of_block (w := W) (a := ⟨q, j, none⟩) e]; exact h.free j hj⟩
/-- All else stands, where none of the blocks apart changed. -/
theorem Tru.moved (t : Tru w0 xb G N p gen S R h s tb B v L br sa sc ml ma mc qh W) {W' : World} {s' : RSt} {v' : Value} {S' R' L' : List ByteArray} {br' : Bool} (hS : S' = S) (hR : R' = R)
    (hs : W.heap.size ≤ W'.heap.size) (hb : ∀ y, Apt G N tb v W y → W'.heap[y]? = W.heap[y]?) (hk : Kept w0 W') (hv : ∀ k, v'.ownBlock = some k → v.ownBlock = some k ∨ W.heap.size ≤ k)
    (st : Sit tb B G (gQ N p) gen S' R' L' (drvHit (gQ N p) gen h) s' v' br' W') : Tru w0 xb G N p gen S' R' h s' tb B v' L' br' sa sc ml ma mc qh W' := by
  subst hS hR
  exact ⟨t.cs.frame (hb xb t.ax), st, strs_blk t.ss fun q o e => hb q (t.asr q o e).1, t.ms.imp id fun ⟨a, b, c⟩ => ⟨a, b, strs_blk c fun q o e => hb q (t.amr q o e).1⟩, t.hh.blk (hb qh t.aq.1), hk, t.lo, t.ax.up hs hv, ⟨t.aq.1.up hs hv, t.aq.2⟩, fun q o e => ⟨(t.asr q o e).1.up hs hv, (t.asr q o e).2⟩, fun q o e => ⟨(t.amr q o e).1.up hs hv, (t.amr q o e).2⟩⟩
theorem Tru.kept (t : Tru w0 xb G N p gen S R h s tb B v L br sa sc ml ma mc qh W) {W' : World} (k : Kept W W') : Tru w0 xb G N p gen S R h s tb B v L br sa sc ml ma mc qh W' :=
  t.moved rfl rfl k.size (fun y a => k.block y a.1) (t.kp.trans k) (fun k h => .inl h) (t.st.kept k)
/-- A call on the rack alone. -/
theorem Tru.rack (t : Tru w0 xb G N p gen S R h s tb B v L br sa sc ml ma mc qh W) {s' : RSt} {W' : World} (h1 : RackAt G s' W') (h2 : Only G (G + 2 + s.n) W W') (h3 : TInv (gQ N p) gen S R (drvHit (gQ N p) gen h) s') (hn : s'.n = s.n) : Tru w0 xb G N p gen S R h s' tb B v L br sa sc ml ma mc qh W' :=
  t.moved rfl rfl h2.size (fun y a => h2.block y a.1 (by have := t.sn; have := a.2.1; omega)) (only_low t.lo.1 t.kp h2) (fun k h => .inl h) (t.st.rack h1 h2 h3 hn)
theorem Tru.gh (t : Tru w0 xb G N p gen S R h s tb B v L br sa sc ml ma mc qh W) : gOk (gQ N p) gen := t.st.ti.gk
theorem drvHit_at {g : Geo} {gen : Nat} {h : Nat → Bool} (hg : gOk g gen) {k : Nat} (hk : k < g.p.toNat + 1) : drvHit g gen h (drvN g gen k) = h k := by
  cases e : h k with
  | true =>
    unfold drvHit
    exact List.any_eq_true.2 ⟨k, List.mem_range.2 hk, by simp [e]⟩
  | false =>
    unfold drvHit
    refine List.any_eq_false.2 fun j hj => ?_
    have hj := List.mem_range.1 hj
    intro hc
    rw [Bool.and_eq_true] at hc
    by_cases ej : j = k
    · rw [ej, e] at hc; exact absurd hc.1 (by decide)
    · exact drvN_ne hg hj hk ej (of_decide_eq_true hc.2)
theorem drvHit_or {g : Geo} {gen : Nat} {h : Nat → Bool} {k : Nat} (hk : k < g.p.toNat + 1) (d : Nat) : drvHit g gen (fun j => h j || decide (j = k)) d = (drvHit g gen h d || decide (d = drvN g gen k)) := by
  by_cases e : drvHit g gen (fun j => h j || decide (j = k)) d = true
  · rw [e]
    unfold drvHit at e
    obtain ⟨j, hj, hc⟩ := List.any_eq_true.1 e
    rw [Bool.and_eq_true] at hc
    have hd := of_decide_eq_true hc.2
    by_cases ej : j = k
    · rw [show decide (d = drvN g gen k) = true from decide_eq_true (by rw [← hd, ej]), Bool.or_true]
    · have hh : h j = true := by simpa [ej] using hc.1
      rw [show drvHit g gen h d = true from List.any_eq_true.2 ⟨j, hj, by rw [hh]; simpa using hd⟩]
      rfl
  · have e' : drvHit g gen (fun j => h j || decide (j = k)) d = false := by simpa using e
    obtain ⟨a, b⟩ := drvHit_set hk e'
    rw [e', a, decide_eq_false b]
    rfl
/-- A drive is marked as hit. -/
theorem Tru.mark (t : Tru w0 xb G N p gen S R h s tb B v L br sa sc ml ma mc qh W) (k : Nat) (hk : k < p + 1) (hf : h k = false) (hd : drvN (gQ N p) gen k < N) :
    Tru w0 xb G N p gen S R (fun j => h j || decide (j = k)) s tb B v L br sa sc ml ma mc qh ((W.setCell ⟨qh, drvN (gQ N p) gen k, none⟩ (.bool true)).setCell ⟨xb, 10, none⟩ (.int .i64 ((cntB h (p + 1) + 1 : Nat) : Int))) := by
  have hp : (gQ N p).p.toNat = p := rfl
  have hn := t.sn
  have e1 : ∀ y, y ≠ qh → (W.setCell ⟨qh, drvN (gQ N p) gen k, none⟩ (.bool true)).heap[y]? = W.heap[y]? := fun y hy => heap_setCell_other W ⟨qh, drvN (gQ N p) gen k, none⟩ y _ hy
  have e2 : ∀ y, y ≠ qh → y ≠ xb → ((W.setCell ⟨qh, drvN (gQ N p) gen k, none⟩ (.bool true)).setCell ⟨xb, 10, none⟩ (.int .i64 ((cntB h (p + 1) + 1 : Nat) : Int))).heap[y]? = W.heap[y]? := fun y h1 h2 => (heap_setCell_other _ ⟨xb, 10, none⟩ y _ h2).trans (e1 y h1)
  have hc : cntB (fun j => h j || decide (j = k)) (p + 1) = cntB h (p + 1) + 1 := by rw [cntB_set h k hf, if_pos hk]
  have hfun : (fun j => drvHit (gQ N p) gen h j || decide (j = drvN (gQ N p) gen k)) = drvHit (gQ N p) gen (fun j => h j || decide (j = k)) := funext fun d => (drvHit_or (by rw [hp]; exact hk) d).symm
  have hlt := t.st.rk.lt
  have aq := t.aq.1
  have ax := t.ax
  have hsz : ((W.setCell ⟨qh, drvN (gQ N p) gen k, none⟩ (.bool true)).setCell ⟨xb, 10, none⟩ (.int .i64 ((cntB h (p + 1) + 1 : Nat) : Int))).heap.size = W.heap.size := by simp
  have hne : ∀ y, (y < G ∨ G + 2 + N ≤ y → False) → y ≠ qh ∧ y ≠ xb := fun y hy => ⟨fun e => hy (by rw [e]; exact aq.2.1), fun e => hy (by rw [e]; exact ax.2.1)⟩
  have hap : ∀ {y}, Apt G N tb v W y → Apt G N tb v ((W.setCell ⟨qh, drvN (gQ N p) gen k, none⟩ (.bool true)).setCell ⟨xb, 10, none⟩ (.int .i64 ((cntB h (p + 1) + 1 : Nat) : Int))) y := fun a => ⟨by rw [hsz]; exact a.1, a.2⟩
  refine ⟨?_, ⟨t.st.rk.frame fun j h1 h2 => ?_, t.st.ti.hits fun d hd2 => (drvHit_set (by rw [hp]; exact hk) hd2).1, t.st.tl.frame ?_ fun q hq => ?_, t.st.hB, by rw [hsz]; exact t.st.hBw, t.st.htb⟩, strs_blk t.ss fun q o e => e2 q (t.asr q o e).2.2 (t.asr q o e).2.1, t.ms.imp id fun ⟨a, b, c⟩ => ⟨a, b, strs_blk c fun q o e => e2 q (t.amr q o e).2.2 (t.amr q o e).2.1⟩, ?_, (t.kp.setCell (p := ⟨qh, drvN (gQ N p) gen k, none⟩) t.lo.2.2 _).setCell (p := ⟨xb, 10, none⟩) t.lo.2.1 _, t.lo, hap ax, ⟨hap aq, t.aq.2⟩, fun q o e => ⟨hap (t.asr q o e).1, (t.asr q o e).2⟩, fun q o e => ⟨hap (t.amr q o e).1, (t.amr q o e).2⟩⟩
  · rw [hc]
    exact (t.cs.frame (e1 xb (fun e => t.aq.2 e.symm))).set10 _
  · obtain ⟨a, b⟩ := hne j (fun hh => by omega)
    exact e2 j a b
  · exact e2 tb (fun e => aq.2.2.1 e.symm) (fun e => ax.2.2.1 e.symm)
  · exact e2 q (fun e => aq.2.2.2 (by rw [hq, e])) (fun e => ax.2.2.2 (by rw [hq, e]))
  · have := t.hh.set (drvN (gQ N p) gen k) hd
    rw [hfun] at this
    exact this.blk (heap_setCell_other _ ⟨xb, 10, none⟩ qh _ t.aq.2)
/-- A tail, a rack under a store to a block that is apart. -/
theorem Sit.apart {tb' B' : Nat} {g : Geo} {S' R' L' : List ByteArray} {hit : Nat → Bool} {v' : Value} {br' : Bool} {W W' : World} (st : Sit tb' B' G g gen S' R' L' hit s v' br' W) (hs : W.heap.size ≤ W'.heap.size) (y : Nat) (hb : ∀ j, j < W.heap.size → j ≠ y → W'.heap[j]? = W.heap[j]?) (h1 : y < G ∨ G + 2 + s.n ≤ y) (h2 : y ≠ tb') (h3 : v'.ownBlock ≠ some y) : Sit tb' B' G g gen S' R' L' hit s v' br' W' := by
  have hlt := st.rk.lt
  exact ⟨st.rk.frame fun j a b => hb j (by omega) (by omega), st.ti, st.tl.frame (hb tb' st.tl.ty.lt (fun e => h2 e.symm)) (fun q hq => hb q (st.own q hq).2 (fun e => h3 (by rw [hq, e]))), st.hB, Nat.le_trans st.hBw hs, st.htb⟩
/-- A tail that was loaded is the truth's tail now. -/
theorem Tru.newt (t : Tru w0 xb G N p gen S R h s tb B v L br sa sc ml ma mc qh W) {tb' B' : Nat} {v' : Value} {L' : List ByteArray} {br' : Bool} (st : Sit tb' B' G (gQ N p) gen S R L' (drvHit (gQ N p) gen h) s v' br' W) (h2 : B' ≤ tb') (hx : xb < B') (hq : qh < B') (hsa : ∀ q o, sa = some ⟨q, o, none⟩ → q < B') (hma : ∀ q o, ma = some ⟨q, o, none⟩ → q < B') :
    Tru w0 xb G N p gen S R h s tb' B' v' L' br' sa sc ml ma mc qh (W.setCell ⟨xb, 6, none⟩ (.pointer (some ⟨tb', 0, none⟩))) := by
  have hsz : (W.setCell ⟨xb, 6, none⟩ (.pointer (some ⟨tb', 0, none⟩))).heap.size = W.heap.size := by simp
  have e1 : ∀ y, y ≠ xb → (W.setCell ⟨xb, 6, none⟩ (.pointer (some ⟨tb', 0, none⟩))).heap[y]? = W.heap[y]? := fun y hy => heap_setCell_other W ⟨xb, 6, none⟩ y _ hy
  have hap : ∀ {y}, Apt G N tb v W y → y < B' → Apt G N tb' v' (W.setCell ⟨xb, 6, none⟩ (.pointer (some ⟨tb', 0, none⟩))) y := fun {y} a hb => ⟨by rw [hsz]; exact a.1, a.2.1, by omega, fun e => by have := (st.own y e).1; omega⟩
  have hn := t.sn
  refine ⟨t.cs.set6 _, st.apart (by rw [hsz]; exact Nat.le_refl _) xb (fun j _ hj => e1 j hj) (by have := t.ax.2.1; omega) (hap t.ax hx).2.2.1 (hap t.ax hx).2.2.2, strs_blk t.ss fun q o e => e1 q (t.asr q o e).2.1, t.ms.imp id fun ⟨a, b, c⟩ => ⟨a, b, strs_blk c fun q o e => e1 q (t.amr q o e).2.1⟩, t.hh.blk (e1 qh t.aq.2), t.kp.setCell (p := ⟨xb, 6, none⟩) t.lo.2.1 _, t.lo, hap t.ax hx, ⟨hap t.aq.1 hq, t.aq.2⟩, fun q o e => ⟨hap (t.asr q o e).1 (hsa q o e), (t.asr q o e).2⟩, fun q o e => ⟨hap (t.amr q o e).1 (hma q o e), (t.amr q o e).2⟩⟩
/-- All is well again: what Load told is sure, nothing was lost since. -/
theorem Tru.reset (t : Tru w0 xb G N p gen S R h s tb B v L br sa sc ml ma mc qh W) (ti : TInv (gQ N p) gen L L (fun _ => false) s) (a : Option Addr) (c : Nat) (hS : Strs W a L) (ha : ∀ q o, a = some ⟨q, o, none⟩ → Apt G N tb v W q ∧ q ≠ xb) :
    Tru w0 xb G N p gen L L (fun _ => false) s tb B v L br a c 0 none 0 W.heap.size (((((W.setCell ⟨xb, 7, none⟩ (.slice a L.length c)).setCell ⟨xb, 8, none⟩ (.slice none 0 0)).alloc (.cells (madeCells #[.bool false] N) 4)).setCell ⟨xb, 9, none⟩ (.slice (some ⟨W.heap.size, 0, none⟩) N N)).setCell ⟨xb, 10, none⟩ (.int .i64 ((0 : Nat) : Int))) := by
  have hx := t.ax
  have hn := t.sn
  have s1 : ((W.setCell ⟨xb, 7, none⟩ (.slice a L.length c)).setCell ⟨xb, 8, none⟩ (.slice none 0 0)).heap.size = W.heap.size := by simp
  have HM := HitAt.made ((W.setCell ⟨xb, 7, none⟩ (.slice a L.length c)).setCell ⟨xb, 8, none⟩ (.slice none 0 0)) N 4
  rw [s1] at HM
  have c2 := (t.cs.set7 (.slice a L.length c)).set8 (.slice none 0 0)
  have KP2 : Kept w0 ((W.setCell ⟨xb, 7, none⟩ (.slice a L.length c)).setCell ⟨xb, 8, none⟩ (.slice none 0 0)) := (t.kp.setCell (p := ⟨xb, 7, none⟩) t.lo.2.1 _).setCell (p := ⟨xb, 8, none⟩) t.lo.2.1 _
  have e0 : ∀ y, y < W.heap.size → y ≠ xb → ((W.setCell ⟨xb, 7, none⟩ (.slice a L.length c)).setCell ⟨xb, 8, none⟩ (.slice none 0 0)).heap[y]? = W.heap[y]? := fun y hy hne => (heap_setCell_other _ ⟨xb, 8, none⟩ y _ hne).trans (heap_setCell_other _ ⟨xb, 7, none⟩ y _ hne)
  generalize ((W.setCell ⟨xb, 7, none⟩ (.slice a L.length c)).setCell ⟨xb, 8, none⟩ (.slice none 0 0)) = W2 at *
  have ka : Kept W2 (W2.alloc (.cells (madeCells #[.bool false] N) 4)) := (Kept.refl _).alloc _
  have c3 := c2.frame (ka.block xb (by rw [s1]; exact hx.1))
  have sz3 : W2.heap.size < (W2.alloc (.cells (madeCells #[.bool false] N) 4)).heap.size := by simp
  have e3 : ∀ y, y < W.heap.size → y ≠ xb → (W2.alloc (.cells (madeCells #[.bool false] N) 4)).heap[y]? = W.heap[y]? := fun y hy hne => (ka.block y (by rw [s1]; exact hy)).trans (e0 y hy hne)
  have KP3 := KP2.trans ka
  generalize W2.alloc (.cells (madeCells #[.bool false] N) 4) = W3 at *
  have c5 := (c3.set9 (.slice (some ⟨W.heap.size, 0, none⟩) N N)).set10 0
  have KP5 := (KP3.setCell (p := ⟨xb, 9, none⟩) t.lo.2.1 (.slice (some ⟨W.heap.size, 0, none⟩) N N)).setCell (p := ⟨xb, 10, none⟩) t.lo.2.1 (.int .i64 ((0 : Nat) : Int))
  have sz5 : ((W3.setCell ⟨xb, 9, none⟩ (.slice (some ⟨W.heap.size, 0, none⟩) N N)).setCell ⟨xb, 10, none⟩ (.int .i64 ((0 : Nat) : Int))).heap.size = W3.heap.size := by simp
  have e53 : ∀ y, y ≠ xb → ((W3.setCell ⟨xb, 9, none⟩ (.slice (some ⟨W.heap.size, 0, none⟩) N N)).setCell ⟨xb, 10, none⟩ (.int .i64 ((0 : Nat) : Int))).heap[y]? = W3.heap[y]? := fun y hy => (heap_setCell_other _ ⟨xb, 10, none⟩ y _ hy).trans (heap_setCell_other _ ⟨xb, 9, none⟩ y _ hy)
  generalize ((W3.setCell ⟨xb, 9, none⟩ (.slice (some ⟨W.heap.size, 0, none⟩) N N)).setCell ⟨xb, 10, none⟩ (.int .i64 ((0 : Nat) : Int))) = W5 at *
  have e5 : ∀ y, y < W.heap.size → y ≠ xb → W5.heap[y]? = W.heap[y]? := fun y hy hne => (e53 y hne).trans (e3 y hy hne)
  have hle : W.heap.size ≤ W5.heap.size := by omega
  have hap : ∀ {y}, Apt G N tb v W y → Apt G N tb v W5 y := fun {y} a => ⟨Nat.lt_of_lt_of_le a.1 hle, a.2⟩
  have hz : drvHit (gQ N p) gen (fun _ => false) = fun _ => false := funext fun d => drvHit_none _ _ d
  have hlt := t.st.rk.lt
  have htb := t.st.tl.ty.lt
  have t0 : Sit tb B G (gQ N p) gen L L L (drvHit (gQ N p) gen (fun _ => false)) s v br W := ⟨t.st.rk, ti.hits (fun d _ => rfl), t.st.tl, t.st.hB, t.st.hBw, t.st.htb⟩
  refine ⟨by rw [cntB_none]; exact c5, t0.apart hle xb e5 (by have := hx.2.1; omega) hx.2.2.1 hx.2.2.2, strs_blk hS fun q o e => e5 q (ha q o e).1.1 (ha q o e).2, .inl ⟨rfl, rfl⟩, by rw [hz]; exact HM.blk (e53 W.heap.size (by have := hx.1; omega)), KP5, ⟨t.lo.1, t.lo.2.1, t.kp.size⟩, hap hx, ⟨⟨by omega, .inr (by omega), by omega, fun e => by have := (t.st.own _ e).2; omega⟩, by have := hx.1; omega⟩, fun q o e => ⟨hap (ha q o e).1, (ha q o e).2, by have := (ha q o e).1.1; omega⟩, fun q o e => by cases e⟩
end
end Go.Proofs.YtmgkkoajjdgmbaaGreatDoor

/- The law's lost: a drive of the tail. -/
namespace Go.Proofs.YtmgkkoajjdgmbaaGreatDoor
open Go.RowKit Sm Wr _root_.Go.Proofs.YtmgkkoajjdgmbaaGreatDoor.Nm
set_option linter.unusedVariables false
set_option maxHeartbeats 4000000 in
set_option maxRecDepth 100000 in
theorem lost_any {w0 : World} {xb G N p gen : Nat} {S R : List ByteArray} {h : Nat → Bool} {s : RSt} {tb B : Nat} {v : Value} {L : List ByteArray} {br : Bool} {sa : Option Addr} {sc ml : Nat} {ma : Option Addr} {mc qh : Nat} {W : World} (t : Tru w0 xb G N p gen S R h s tb B v L br sa sc ml ma mc qh W)
    (hN1 : 1 ≤ N) (hN6 : N ≤ 6) (hpN : p < N) (op n at' : Nat) (tx : ByteArray) (ho : op ≤ 255) (hn : n ≤ 255) (ha : at' ≤ 255) :
    Calls Tryz.prog 24 #[.pointer (some ⟨xb, 0, none⟩), .agg #[.int .u8 (op : Nat), .string tx, .int .u8 (n : Nat), .int .u8 (at' : Nat)]] W fun e w' => e = .returned (.tuple #[]) ∧ ∃ (h' : Nat → Bool) (s' : RSt), Tru w0 xb G N p gen S R h' s' tb B v L br sa sc ml ma mc qh w' ∧ s'.cut = s.cut := by
  have hg := t.gh
  have hg48 := hg.2.2
  have HTW := Lib.hid t
  have kY : Kept W (W.alloc (.cells #[.int .u8 (op : Nat), .string tx, .int .u8 (n : Nat), .int .u8 (at' : Nat)] 66)) := (Kept.refl _).alloc _
  have HT0 := Lib.hid (t.kept kY)
  have HY0 : Hid ((W.alloc (.cells #[.int .u8 (op : Nat), .string tx, .int .u8 (n : Nat), .int .u8 (at' : Nat)] 66)).cell? ⟨W.heap.size, 0, none⟩ = some (.int .u8 (op : Nat)) ∧ (W.alloc (.cells #[.int .u8 (op : Nat), .string tx, .int .u8 (n : Nat), .int .u8 (at' : Nat)] 66)).cell? ⟨W.heap.size, 2, none⟩ = some (.int .u8 (n : Nat)) ∧ (W.alloc (.cells #[.int .u8 (op : Nat), .string tx, .int .u8 (n : Nat), .int .u8 (at' : Nat)] 66)).cell? ⟨W.heap.size, 3, none⟩ = some (.int .u8 (at' : Nat))) :=
    ⟨newT_cell _ _ _ _ _ _ rfl rfl, newT_cell _ _ _ _ _ _ rfl rfl, newT_cell _ _ _ _ _ _ rfl rfl⟩
  have HYN : Hid (W.heap.size ≠ qh ∧ W.heap.size ≠ xb ∧ G + 2 + N ≤ W.heap.size) := by
    have h1 := t.aq.1.1
    have h2 := t.ax.1
    have h3 := t.st.rk.lt
    have h4 := t.sn
    exact ⟨by omega, by omega, by omega⟩
  have HDR : Hid (∀ W, Calls Tryz.prog 25 #[.agg #[.int .i64 (N : Nat), .int .i64 (p : Nat), .int .i64 138, .int .i64 64], .int .u64 (gen : Nat)] W fun e w' => ∃ q c, e = .returned (.slice (some ⟨q, 0, none⟩) (p + 1) c) ∧ Hid ((∀ i, i < p + 1 → w'.cell? ⟨q, i, none⟩ = some (.int .i64 ((drvN (gQ N p) gen i : Nat) : Int))) ∧ Kept W w')) := fun W => by
    refine (drives_part (gQ N p) gen W hg).mono ?_
    rintro e w' ⟨q, c, rfl, h⟩
    have hl : (drvL (gQ N p) gen).length = p + 1 := by rw [drvL_length]; rfl
    rw [hl] at h ⊢
    exact ⟨q, c, rfl, fun i hi => by rw [← drvL_at (gQ N p) gen i hi]; exact h.2.2.2.1 i hi, h.2.2.2.2⟩
  have HG := Lib.hid hg
  obtain ⟨kk, hkk⟩ : ∃ kk : Nat, kk = n % (p + 1) := ⟨_, rfl⟩
  have hkP : kk < p + 1 := by rw [hkk]; exact Nat.mod_lt _ (by omega)
  obtain ⟨P, hP⟩ : ∃ P : Nat, P = p + 1 := ⟨_, rfl⟩
  rw [← hP] at HDR hkk hkP
  have HP := Lib.hid hP
  have r1 : IntKind.i64.wrap (n : Int) = (n : Int) := IntWalk.i64_in _ (by omega)
  have r2 : Int.tmod (n : Int) (P : Int) = (kk : Int) := by rw [Int.tmod_eq_emod_of_nonneg (by omega), hkk]; exact (Int.natCast_emod n P).symm
  have r3 : (n : Int) % (P : Int) = (kk : Int) := by rw [hkk]; exact (Int.natCast_emod n P).symm
  have r4 : IntKind.i64.wrap (kk : Int) = (kk : Int) := IntWalk.i64_in _ (by omega)
  have r5 : ((P : Int) == 0) = false := by rw [beq_eq_false_iff_ne]; omega
  have yi1 : (kk : Int) < (P : Int) := by omega
  have yi0 : (0 : Int) ≤ (kk : Int) := by omega
  have hdN : drvN (gQ N p) gen kk < N := Nat.mod_lt _ (by have e2 : (gQ N p).n.toNat = N := rfl; omega)
  have HKP : Hid (kk < p + 1) := by rw [← HP.out]; exact hkP
  have HDD : Hid (drvN (gQ N p) gen kk = drvN (gQ N p) gen kk) := rfl
  obtain ⟨d, hd⟩ : ∃ d, d = drvN (gQ N p) gen kk := ⟨_, rfl⟩
  have HD := Lib.hid hd
  rw [← hd] at hdN
  clear hd hkk hP t hg kY HDD HTW
  go_enter Tryz.func24, Tryz.ntmps24
  go_upto_region 1 with fail
  generalize W.alloc (.cells #[.int .u8 (op : Nat), .string tx, .int .u8 (n : Nat), .int .u8 (at' : Nat)] 66) = u1 at *
  generalize W.heap.size = yb at *
  have c1 := HT0.out.cs.c1
  have c2 := HT0.out.cs.c2
  have c3 := HT0.out.cs.c3
  have c4 := HT0.out.cs.c4
  have c5 := HT0.out.cs.c5
  have HT1 := Lib.hid (HT0.out.kept ((Kept.refl _).drew))
  have kd : Kept u1 u1.drew := (Kept.refl _).drew
  have d1 := HT1.out.cs.c1
  have d2 := HT1.out.cs.c2
  have d3 := HT1.out.cs.c3
  have d4 := HT1.out.cs.c4
  have d5 := HT1.out.cs.c5
  go_still_tail 8, (by kernel_rfl)
  change wpList _ _ _ _ _ u1.drew
  go_upto_region 4 with (first | (go_at_call 25; refine (HDR.out _).mono ?_; rintro e u2 ⟨qd, cd, rfl, HQ⟩; have T2 := Lib.hid (HT1.out.kept HQ.out.2); have y0 := cell_keptT HY0.out.1 (kd.trans HQ.out.2); have y2 := cell_keptT HY0.out.2.1 (kd.trans HQ.out.2); have y3 := cell_keptT HY0.out.2.2 (kd.trans HQ.out.2); have hcd : u2.cell? ⟨qd, kk, none⟩ = some (.int .i64 (d : Nat)) := (HD.out ▸ HQ.out.1 kk hkP)))
  have Y2 : Hid (u2.cell? ⟨yb, 0, none⟩ = some (.int .u8 (op : Nat)) ∧ u2.cell? ⟨yb, 2, none⟩ = some (.int .u8 (n : Nat)) ∧ u2.cell? ⟨yb, 3, none⟩ = some (.int .u8 (at' : Nat))) := ⟨y0, y2, y3⟩
  clear c1 c2 c3 c4 c5 d1 d2 d3 d4 d5 kd HT0 HT1 HY0 HDR HQ
  clear r1 r2 r3 r4 r5 yi1 yi0 hcd y2 y0 y3
  have c9 := T2.out.cs.c9
  obtain ⟨hb, hhb⟩ : ∃ hb : Bool, hb = h kk := ⟨_, rfl⟩
  have HB := Lib.hid hhb
  have hhc : u2.cell? ⟨qh, d, none⟩ = some (.bool hb) := by
    rw [hhb]
    have e := T2.out.hh.cell d hdN
    rw [HD.out, drvHit_at HG.out (show kk < (gQ N p).p.toNat + 1 from HKP.out)] at e
    rw [HD.out]
    exact e
  have hhf := T2.out.hh.free d hdN
  have zi1 : (d : Int) < (N : Int) := by omega
  have zi0 : (0 : Int) ≤ (d : Int) := by omega
  clear hhb
  go_upto_if 34 with fail
  go_cut [5] from 27 to 47 (fun dv wx => dv = .int .i64 (d : Nat) ∧ ∃ h1 : Nat → Bool, Hid (Tru w0 xb G N p gen S R h1 s tb B v L br sa sc ml ma mc qh wx ∧ drvHit (gQ N p) gen h1 d = true ∧ wx.cell? ⟨yb, 0, none⟩ = some (.int .u8 (op : Nat)) ∧ wx.cell? ⟨yb, 3, none⟩ = some (.int .u8 (at' : Nat))))
  case first =>
    cases hbv : hb with
    | true =>
      have hk : h kk = true := by rw [← HB.out, hbv]
      rw [hbv] at hhc
      clear hbv
      go_wp2_with fail
      go_meet
      case rel => exact ⟨rfl, h, T2.out, by rw [HD.out, drvHit_at HG.out (show kk < (gQ N p).p.toNat + 1 from HKP.out)]; exact hk, Y2.out.1, Y2.out.2.2⟩
    | false =>
      have hk' : h kk = false := by rw [← HB.out, hbv]
      rw [hbv] at hhc
      clear hbv
      have hqx := T2.out.aq.2
      have hx9 : (u2.setCell ⟨qh, d, none⟩ (.bool true)).cell? ⟨xb, 10, none⟩ = some (.int .i64 (cntB h (p + 1) : Nat)) := by
        rw [World.cell?_setCell_other _ _ _ _ (by intro e; injection e with e _; exact hqx e)]
        exact T2.out.cs.c10
      have hf10 : (u2.setCell ⟨qh, d, none⟩ (.bool true)).frozen? ⟨xb, 10, none⟩ = false := by rw [World.frozen?_setCell]; exact T2.out.cs.ty.free 10
      have hcnt := cntB_le h (p + 1)
      have hcw : IntKind.i64.wrap ((cntB h (p + 1) : Int) + 1) = ((cntB h (p + 1) + 1 : Nat) : Int) := by rw [IntWalk.i64_in _ (by omega)]; omega
      have TM := Lib.hid (T2.out.mark kk HKP.out hk' (by rw [← HD.out]; exact hdN))
      have HYO : Hid (∀ o x, u2.cell? ⟨yb, o, none⟩ = some x → ∀ q1 o1 v1 q2 o2 v2, yb ≠ q1 → yb ≠ q2 → ((u2.setCell ⟨q1, o1, none⟩ v1).setCell ⟨q2, o2, none⟩ v2).cell? ⟨yb, o, none⟩ = some x) := fun o x hx q1 o1 v1 q2 o2 v2 n1 n2 => by
        rw [World.cell?_setCell_other _ _ _ _ (by intro e; injection e with e _; exact n2 e.symm), World.cell?_setCell_other _ _ _ _ (by intro e; injection e with e _; exact n1 e.symm)]
        exact hx
      rw [← HD.out] at TM
      generalize cntB h (p + 1) = cc at *
      clear hqx
      go_wp2_with fail
      go_meet
      case rel => exact ⟨rfl, _, TM.out, by rw [HD.out]; rw [drvHit_at HG.out (show kk < (gQ N p).p.toNat + 1 from HKP.out)]; simp, HYO.out 0 _ Y2.out.1 _ _ _ _ _ _ HYN.out.1 HYN.out.2.1, HYO.out 3 _ Y2.out.2.2 _ _ _ _ _ _ HYN.out.1 HYN.out.2.1⟩
  case rest =>
    obtain ⟨rfl, h1, HC⟩ := hcut
    have TC := Lib.hid HC.out.1
    have HDH := Lib.hid HC.out.2.1
    obtain ⟨y0, y3⟩ := HC.out.2.2
    clear HC T2 Y2 c9 hhc hhf zi1 zi0 HB
    obtain ⟨o8, ho8⟩ : ∃ o8 : Nat, o8 = op % 8 := ⟨_, rfl⟩
    have r1 : Int.tmod (op : Int) 8 = (o8 : Int) := by rw [Int.tmod_eq_emod_of_nonneg (by omega)]; omega
    have r2 : (op : Int) % 8 = (o8 : Int) := by omega
    have r3 : IntKind.u8.wrap (o8 : Int) = (o8 : Int) := IntWalk.u8_in _ (by omega)
    clear ho8
    have c0 := TC.out.cs.c0
    have hd12 : d ≤ 12 := by omega
    have HNO : Hid (∀ x, drvHit (gQ N p) gen h1 x = false → drvHit (gQ N p) gen h1 x = false ∧ x ≠ ((d : Int)).toNat) := fun x hx => ⟨hx, fun e => by rw [e, show ((d : Int)).toNat = d by omega, HDH.out] at hx; cases hx⟩
    by_cases h5 : o8 = 5
    · have e1 : ((o8 : Int) == 5) = true := by rw [h5]; rfl
      have HW := Lib.hid (wipe_any G s (d : Int) (by omega) (by omega) wc TC.out.st.rk)
      clear h5
      go_wp2_with (go_at_call 26; refine HW.out.mono ?_; rintro e u5 ⟨rfl, hr5, ho5⟩; have L5 := Lib.hid (TC.out.rack hr5 ho5 (TC.out.st.ti.wipe (d : Int) HNO.out) (wipe_cutL _ _).2); clear hr5 ho5)
      go_end0
      exact ⟨rfl, h1, _, L5.out, (wipe_cutL _ _).1⟩
    · have e1 : ((o8 : Int) == 5) = false := by rw [beq_eq_false_iff_ne]; omega
      clear h5
      obtain ⟨gm, hgm⟩ : ∃ gm : Nat, gm = gen % 2 := ⟨_, rfl⟩
      have v1 : Int.tmod (gen : Int) 2 = (gm : Int) := by rw [Int.tmod_eq_emod_of_nonneg (by omega)]; omega
      have v2 : (gen : Int) % 2 = (gm : Int) := by omega
      have v3 : IntKind.i64.wrap (gm : Int) = (gm : Int) := IntWalk.i64_in _ (by omega)
      obtain ⟨g64, hg64⟩ : ∃ g64 : Nat, g64 = gm * 64 := ⟨_, rfl⟩
      have v4 : IntKind.i64.wrap ((gm : Int) * 64) = (g64 : Int) := by rw [IntWalk.i64_in _ (by omega)]; omega
      obtain ⟨Y, hY⟩ : ∃ Y : Nat, Y = 2 + g64 := ⟨_, rfl⟩
      have v5 : IntKind.i64.wrap (2 + (g64 : Int)) = (Y : Int) := by rw [IntWalk.i64_in _ (by omega)]; omega
      have v6 : IntKind.i64.wrap (at' : Int) = (at' : Int) := IntWalk.i64_in _ (by omega)
      obtain ⟨b64, hb64⟩ : ∃ b64 : Nat, b64 = at' % 64 := ⟨_, rfl⟩
      have v7 : Int.tmod (at' : Int) 64 = (b64 : Int) := by rw [Int.tmod_eq_emod_of_nonneg (by omega)]; omega
      have v8 : (at' : Int) % 64 = (b64 : Int) := by omega
      have v9 : IntKind.i64.wrap (b64 : Int) = (b64 : Int) := IntWalk.i64_in _ (by omega)
      obtain ⟨X, hX⟩ : ∃ X : Nat, X = Y + b64 := ⟨_, rfl⟩
      have v10 : IntKind.i64.wrap ((Y : Int) + (b64 : Int)) = (X : Int) := by rw [IntWalk.i64_in _ (by omega)]; omega
      have v11 : IntKind.u64.wrap (gm : Int) = (gm : Int) := IntWalk.u64_in _ (by omega)
      have hX200 : X ≤ 200 := by omega
      clear hgm hg64 hb64 hX hY
      have c4 := TC.out.cs.c4
      have c5 := TC.out.cs.c5
      have TD := Lib.hid (TC.out.kept ((Kept.refl wc).drew))
      have HSP := Lib.hid (spoil_any G s (d : Int) (X : Int) (by omega) (by omega) (by omega) (by omega) wc.drew TD.out.st.rk)
      go_upto_region 9 with fail
      go_still_tail 28, (by kernel_rfl)
      change wpList _ _ _ _ _ wc.drew
      go_wp2_with (go_at_call 41; refine HSP.out.mono ?_; rintro e u5 ⟨rfl, hr5, ho5⟩; have L5 := Lib.hid (TD.out.rack hr5 ho5 (TD.out.st.ti.spoil (d : Int) (X : Int) HNO.out) (spoil_cut _ _ _).2); clear hr5 ho5)
      go_end0
      exact ⟨rfl, h1, _, L5.out, (spoil_cut _ _ _).1⟩
end Go.Proofs.YtmgkkoajjdgmbaaGreatDoor

/- The law's loaded: what Load tells, mended. -/
namespace Go.Proofs.YtmgkkoajjdgmbaaGreatDoor
open Go.RowKit Sm Wr _root_.Go.Proofs.YtmgkkoajjdgmbaaGreatDoor.Nm
set_option linter.unusedVariables false
/-- The truth, in whatever blocks; its tail is not broken only if all is sure. -/
def TruE (w0 : World) (xb G N p gen : Nat) (W : World) : Prop :=
  ∃ S R h s tb B v L br sa sc ml ma mc qh, Tru w0 xb G N p gen S R h s tb B v L br sa sc ml ma mc qh W ∧ (br = false → R = S ∧ L = S)
def LoadedPost (w0 : World) (xb G N p gen : Nat) (e : Ending) (w' : World) : Prop :=
  ∃ over : Bool, e = .returned (.tuple #[.bool true, .bool over]) ∧ Kept w0 w' ∧ (over = false → TruE w0 xb G N p gen w')
theorem cut_sn (s : RSt) (k : Int) : (s.cutS k).n = s.n := by unfold RSt.cutS; split <;> rfl
theorem down_cut {s : RSt} (h : s.down = true) : s.cut = true := by
  cases e : s.cut with
  | true => rfl
  | false => rw [not_down e] at h; cases h
/-- What Mend leaves, with what was there before it. -/
structure MendB (tb B G : Nat) (g : Geo) (gen : Nat) (S R L : List ByteArray) (hit : Nat → Bool) (s s' : RSt) (v : Value) (e : Nat) (w w' : World) : Prop where
  st : Sit tb B G g gen S R L hit s' v (decide (e ≠ 0)) w'
  ok : e = 0 ∧ TInv g gen L L (fun _ => false) s' ∨ e = 71
  cut : s'.cut = s.cut
  n : s'.n = s.n
  fr : TO G (G + 2 + s.n) tb v w w'
theorem Sit.mendb {tb B G : Nat} {g : Geo} {gen : Nat} {S R L : List ByteArray} {hit : Nat → Bool} {s : RSt} {v : Value} {W : World} (h : Sit tb B G g gen S R L hit s v false W) (hL : L = S ∨ L = R) :
    Calls Tryz.prog 19 #[.pointer (some ⟨tb, 0, none⟩)] W fun r w' => ∃ (e : Nat) (s' : RSt), r = .returned (.int .i64 (e : Nat)) ∧ MendB tb B G g gen S R L hit s s' v e W w' := by
  refine (mend_law tb B G s g gen S R L hit v W h.tl h.rk h.ti hL h.hB h.htb).mono ?_
  rintro r w' ⟨e, s', rfl, hA⟩
  have hB' : G + 2 + s'.n ≤ B := by rw [hA.n]; exact h.hB
  have hb' : G + 2 + s'.n ≤ tb := by rw [hA.n]; exact h.htb
  have hw' := Nat.le_trans h.hBw hA.fr.size
  exact ⟨e, s', rfl, ⟨hA.rk, hA.ti, hA.tl, hB', hw', hb'⟩, hA.ok.imp id fun q => q.1, hA.cut, hA.n, hA.fr⟩
theorem Tru.mended {w0 : World} {xb G N p gen : Nat} {S R : List ByteArray} {h : Nat → Bool} {s : RSt} {tb B : Nat} {v : Value} {L : List ByteArray} {sa : Option Addr} {sc ml : Nat} {ma : Option Addr} {mc qh : Nat} {W : World} (t : Tru w0 xb G N p gen S R h s tb B v L false sa sc ml ma mc qh W) {s' : RSt} {e : Nat} {W' : World} (m : MendB tb B G (gQ N p) gen S R L (drvHit (gQ N p) gen h) s s' v e W W') :
    Tru w0 xb G N p gen S R h s' tb B v L (decide (e ≠ 0)) sa sc ml ma mc qh W' :=
  t.moved rfl rfl m.fr.size (fun y a => m.fr.block y a.1 (by have := t.sn; have := a.2.1; omega) a.2.2.1 a.2.2.2) (t.st.low t.lo.1 t.kp m.fr) (fun k h => .inl h) m.st
/-- A row of texts that is apart from all the rest. -/
def RowA (G N tb xb : Nat) (v : Value) (W : World) (a : Option Addr) (L : List ByteArray) : Prop := Strs W a L ∧ ∀ q o, a = some ⟨q, o, none⟩ → Apt G N tb v W q ∧ q ≠ xb
theorem RowA.moved {G N tb xb : Nat} {v : Value} {W W' : World} {a : Option Addr} {L : List ByteArray} (h : RowA G N tb xb v W a L) (hs : W.heap.size ≤ W'.heap.size) (hb : ∀ y, Apt G N tb v W y → y ≠ xb → W'.heap[y]? = W.heap[y]?) : RowA G N tb xb v W' a L :=
  ⟨strs_blk h.1 fun q o e => hb q (h.2 q o e).1 (h.2 q o e).2, fun q o e => ⟨(h.2 q o e).1.up hs fun k hk => .inl hk, (h.2 q o e).2⟩⟩
theorem RowA.kept {G N tb xb : Nat} {v : Value} {W W' : World} {a : Option Addr} {L : List ByteArray} (h : RowA G N tb xb v W a L) (k : Kept W W') : RowA G N tb xb v W' a L := h.moved k.size fun y a _ => k.block y a.1
set_option maxHeartbeats 8000000 in
set_option maxRecDepth 100000 in
theorem loaded_any {w0 : World} {xb G N p gen : Nat} {S R : List ByteArray} {h : Nat → Bool} {s : RSt} {tb B : Nat} {v : Value} {L : List ByteArray} {br : Bool} {sa : Option Addr} {sc ml : Nat} {ma : Option Addr} {mc qh : Nat} {W : World} (t : Tru w0 xb G N p gen S R h s tb B v L br sa sc ml ma mc qh W)
    (hN1 : 1 ≤ N) (hN6 : N ≤ 6) (hpN : p < N) (c : Int) (hc1 : -1 ≤ c) (hc2 : c ≤ 100) :
    Calls Tryz.prog 23 #[.pointer (some ⟨xb, 0, none⟩), .int .i64 c] W fun e w' => LoadedPost w0 xb G N p gen e w' := by
  have HG := Lib.hid t.gh
  have HT := Lib.hid t
  have c0 := t.cs.c0
  have HLF := Lib.hid (lift_any G s W t.st.rk)
  have HPK := Lib.hid t.st.ti.pre
  clear t
  go_enter Tryz.func23, Tryz.ntmps23
  go_upto_region 2 with (go_at_call 15; refine HLF.out.mono ?_; rintro e u1 ⟨rfl, hr1, ho1⟩; have T1 := Lib.hid (HT.out.rack hr1 ho1 HT.out.st.ti.lift rfl); clear hr1 ho1)
  clear c0 HLF HT
  have hcl : s.liftS.cut = false := rfl
  generalize s.liftS = s1 at *
  have HCL := Lib.hid hcl
  clear hcl
  have c0 := T1.out.cs.c0
  have c1 := T1.out.cs.c1
  have c2 := T1.out.cs.c2
  have c3 := T1.out.cs.c3
  have c4 := T1.out.cs.c4
  have c5 := T1.out.cs.c5
  have HKC : Hid (∀ W', Kept u1 W' → W'.cell? ⟨xb, 0, none⟩ = some (.pointer (some ⟨G + 1, 0, none⟩)) ∧ W'.cell? ⟨xb, 1, none⟩ = some (.int .i64 (N : Nat)) ∧ W'.cell? ⟨xb, 2, none⟩ = some (.int .i64 (p : Nat)) ∧ W'.cell? ⟨xb, 3, none⟩ = some (.int .i64 138) ∧ W'.cell? ⟨xb, 4, none⟩ = some (.int .i64 64) ∧ W'.cell? ⟨xb, 5, none⟩ = some (.int .u64 (gen : Nat))) := fun W' k => ⟨(T1.out.kept k).cs.c0, (T1.out.kept k).cs.c1, (T1.out.kept k).cs.c2, (T1.out.kept k).cs.c3, (T1.out.kept k).cs.c4, (T1.out.kept k).cs.c5⟩
  have HLD : Hid (∀ W', Kept u1 W' → Calls Tryz.prog 17 #[.pointer (some ⟨G + 1, 0, none⟩), .agg #[.int .i64 (N : Nat), .int .i64 (p : Nat), .int .i64 138, .int .i64 64], .int .u64 (gen : Nat)] W' fun r w' => ∃ (p' sl : Value) (er : Nat), r = .returned (.tuple #[p', sl, .int .i64 (er : Nat)]) ∧ ∃ W0, Hid (LoadS G (gQ N p) gen S R (drvHit (gQ N p) gen h) s1 W0 w' p' sl er ∧ Kept u1 W0 ∧ Kept W0 w' ∧ ((∃ d ∈ drvL (gQ N p) gen, drvHit (gQ N p) gen h d.toNat = false) → er = 0)) ∧ Kept u1 w') := fun W' k => by
    refine (load_sit G s1 (gQ N p) gen S R (drvHit (gQ N p) gen h) W' (T1.out.kept k).st.rk (T1.out.kept k).st.ti (not_down HCL.out)).mono ?_
    rintro r w' ⟨p', sl, er, rfl, hh⟩
    have hh := Lib.hid hh
    exact ⟨p', sl, er, rfl, W', ⟨hh.out.1, k, hh.out.2.1, hh.out.2.2.1⟩, k.trans hh.out.2.1⟩
  go_wp2_with fail
  go_region_held3 (fun W' => W'.cell? ⟨xb, 0, none⟩ = some (.pointer (some ⟨G + 1, 0, none⟩)) ∧ W'.cell? ⟨xb, 1, none⟩ = some (.int .i64 (N : Nat)) ∧ W'.cell? ⟨xb, 2, none⟩ = some (.int .i64 (p : Nat)) ∧ W'.cell? ⟨xb, 3, none⟩ = some (.int .i64 138) ∧ W'.cell? ⟨xb, 4, none⟩ = some (.int .i64 64) ∧ W'.cell? ⟨xb, 5, none⟩ = some (.int .u64 (gen : Nat))) (first | exact ⟨c0, c1, c2, c3, c4, c5⟩ | exact HKC.out _ ((Kept.refl _).drewN _) | exact HKC.out _ KU2 | exact HKC.out _ (KU2.drewN _)) (first | (go_at_call 17; refine (HLD.out _ ((Kept.refl _).drewN _)).mono ?_; rintro e u2 ⟨p2, sl2, er2, rfl, U0, H2, KU2⟩))
  have T2 := Lib.hid (T1.out.kept KU2)
  have HUN := Lib.hid H2.out.2.2.2
  have hl2 := H2.out.1
  clear c0 c1 c2 c3 c4 c5 HLD HKC
  cases hl2 with
  | lost =>
    have hcnt : p < cntB h (p + 1) := by
      refine Nat.lt_of_not_le fun hle => ?_
      have := HUN.out (drvHit_some HG.out hle)
      cases this
    have b1 : decide ((p : Int) < (cntB h (p + 1) : Int)) = true := decide_eq_true (by omega)
    have b1N : decide (p < cntB h (p + 1)) = true := decide_eq_true hcnt
    have c10 := T2.out.cs.c10
    have c2 := T2.out.cs.c2
    generalize cntB h (p + 1) = cc at *
    go_upto_region 4 with fail
    go_quiet (fail)
    go_wp2_with fail
    go_ret2
    exact ⟨true, rfl, T2.out.kp.trans ((Kept.refl _).drewN nq), fun e => by cases e⟩
  | got L' tb' B' cl v' a' hL h1 h2 st hS ha =>
    have ST := Lib.hid st
    have HL := Lib.hid hL
    have HBB : Hid (B' ≤ tb' ∧ xb < B' ∧ qh < B' ∧ (∀ q o, sa = some ⟨q, o, none⟩ → q < B') ∧ (∀ q o, ma = some ⟨q, o, none⟩ → q < B')) := by
      have e := H2.out.2.1.size
      have hx := T1.out.ax.1
      have hq := T1.out.aq.1.1
      exact ⟨h2, by omega, by omega, fun q o e2 => by have := (T1.out.asr q o e2).1.1; omega, fun q o e2 => by have := (T1.out.amr q o e2).1.1; omega⟩
    have HRA : Hid (RowA G N tb' xb v' u2 a' L') := by
      refine ⟨hS, fun q o e2 => ?_⟩
      have h3 := ha q o e2
      have h4 := T1.out.st.rk.lt
      have h5 := T1.out.sn
      have h6 := H2.out.2.1.size
      have h7 := st.hBw
      have h8 := T1.out.ax.1
      exact ⟨⟨by omega, .inr (by omega), by omega, fun e3 => by have := (st.own q e3).1; omega⟩, by omega⟩
    have HLN : Hid (S.length ≤ 1000 ∧ R.length ≤ 1000 ∧ L'.length ≤ 1000) := by
      have h3 : lenT R ≤ 64 := T1.out.st.ti.len
      have h4 : lenT S ≤ 64 := T1.out.st.ti.lenS
      have h5 := len_le R
      have h6 := len_le S
      refine ⟨by omega, by omega, ?_⟩
      rcases hL with e | e <;> rw [e] <;> omega
    have HT1 : Hid (∀ W, Kept u2 W → Calls Tryz.prog 18 #[.slice a' L'.length cl, .slice sa S.length sc] W fun e w' => e = .returned (.bool (decide (L' = S))) ∧ Kept W w') := fun W k => texts_any a' sa cl sc L' S W (hS.kept k) (T2.out.ss.kept k) HLN.out.2.2 HLN.out.1
    clear st hS ha hL h1 h2 H2
    go_upto_region 5 with fail
    go_cut [77] from 46 to 77 (fun bv wx => bv = .bool false ∧ Hid (Kept u2 wx))
    case first =>
      have c7 := T2.out.cs.c7
      have C8 := Lib.hid (fun W (k : Kept u2 W) => (T2.out.kept k).cs.c8)
      by_cases hLS : L' = S
      · rw [decide_eq_true hLS] at HT1
        clear hLS
        go_wp2_with (go_at_call 18; refine (HT1.out u2 (Kept.refl _)).mono ?_; rintro e ua ⟨rfl, kua⟩; have KUa := Lib.hid kua; have c8 := C8.out ua kua; clear kua)
        go_meet
        case rel => exact ⟨rfl, KUa.out⟩
      · have hLR : L' = R := HL.out.resolve_left hLS
        have hRS : R ≠ S := fun e => hLS (hLR.trans e)
        obtain ⟨-, hml, hMS⟩ := T2.out.ms.resolve_left (fun h => hRS h.1)
        have hml0 : ml ≠ 0 := by
          intro e
          have h3 := T2.out.st.ti.pre
          rcases h3 with h3 | ⟨t, h3⟩
          · exact hRS h3.symm
          · rw [h3, List.length_append] at hml
            simp at hml
            omega
        have e0 : ((ml : Int) == 0) = false := by rw [beq_eq_false_iff_ne]; omega
        have HT2 : Hid (∀ W, Kept u2 W → Calls Tryz.prog 18 #[.slice a' L'.length cl, .slice ma ml mc] W fun e w' => e = .returned (.bool true) ∧ Kept W w') := fun W k => by
          have h := texts_any a' ma cl mc L' R W (HRA.out.1.kept k) (hMS.kept k) HLN.out.2.2 HLN.out.2.1
          rw [decide_eq_true hLR, ← hml] at h
          exact h
        rw [decide_eq_false hLS] at HT1
        clear hLS hLR hRS hml hMS hml0
        go_wp2_with (first
          | (go_at_call 18; (with_reducible refine (HT1.out u2 (Kept.refl _)).mono ?_); rintro e ua ⟨rfl, kua⟩; have KUa := Lib.hid kua; have c8 := C8.out ua kua; clear kua)
          | (go_at_call 18; (with_reducible refine (HT2.out ua KUa.out).mono ?_); rintro e ub ⟨rfl, kub⟩; have KUb := Lib.hid (KUa.out.trans kub); clear kub))
        go_meet
        case rel => exact ⟨rfl, KUb.out⟩
    case rest =>
      obtain ⟨rfl, KC⟩ := hcut
      have T3 := Lib.hid (T2.out.kept KC.out)
      have S3 := Lib.hid (ST.out.kept KC.out)
      have A3 := Lib.hid (HRA.out.kept KC.out)
      clear T2 ST HRA HT1 T1 HUN KC HPK
      go_upto_if 79 with fail
      go_cut [] from 78 to 85 (fun wx => ∃ s2 : RSt, Hid (Tru w0 xb G N p gen S R h s2 tb B v L br sa sc ml ma mc qh wx ∧ Sit tb' B' G (gQ N p) gen S R L' (drvHit (gQ N p) gen h) s2 v' false wx ∧ RowA G N tb' xb v' wx a' L' ∧ (s2.cut = true → 0 ≤ c)))
      case first =>
        by_cases hc0 : 0 ≤ c
        · have b1 : decide (0 ≤ c) = true := decide_eq_true hc0
          have c0 := T3.out.cs.c0
          have HCU := Lib.hid (cut_any G s1 c (by omega) (by omega) wc T3.out.st.rk)
          go_wp2_with (go_at_call 13; refine HCU.out.mono ?_; rintro e u4 ⟨rfl, hr4, ho4⟩; have R4 := Lib.hid hr4; have O4 := Lib.hid ho4; clear hr4 ho4)
          go_meet
          case rel => exact ⟨_, T3.out.rack R4.out O4.out (T3.out.st.ti.cuts c) (cut_sn _ _), S3.out.rack R4.out O4.out (S3.out.ti.cuts c) (cut_sn _ _), A3.out.moved O4.out.size (fun y a _ => O4.out.block y a.1 (by have := T3.out.sn; have := a.2.1; omega)), fun _ => hc0⟩
        · have b1 : decide (0 ≤ c) = false := decide_eq_false hc0
          go_wp2_with fail
          go_meet
          case rel => exact ⟨s1, T3.out, S3.out, A3.out, fun e => by rw [HCL.out] at e; cases e⟩
      case rest =>
        obtain ⟨s2, HC⟩ := hcut
        have T4 := Lib.hid HC.out.1
        have HCT := Lib.hid HC.out.2.2.2
        have c6 := T4.out.cs.c6
        have hf6 := T4.out.cs.ty.free 6
        have T5 := Lib.hid ((T4.out.newt (v' := v') (L' := L') (br' := false) HC.out.2.1 HBB.out.1 HBB.out.2.1 HBB.out.2.2.1 HBB.out.2.2.2.1 HBB.out.2.2.2.2))
        have A5 : Hid (RowA G N tb' xb v' (wc.setCell ⟨xb, 6, none⟩ (.pointer (some ⟨tb', 0, none⟩))) a' L') := HC.out.2.2.1.moved (by simp) (fun y _ hy => heap_setCell_other wc ⟨xb, 6, none⟩ y _ hy)
        clear HC T3 S3 A3 T4
        go_upto_region 10 with fail
        clear c6 hf6
        generalize wc.setCell ⟨xb, 6, none⟩ (.pointer (some ⟨tb', 0, none⟩)) = w5 at *
        have HMD := Lib.hid (T5.out.st.mendb HL.out)
        go_upto_region 11 with (go_at_call 19; refine HMD.out.mono ?_; rintro e w6 ⟨e6, s6, rfl, h6⟩; have M6 := Lib.hid h6; clear h6)
        have T6 := Lib.hid (T5.out.mended M6.out)
        have A6 := Lib.hid (A5.out.moved M6.out.fr.size (fun y a _ => M6.out.fr.block y a.1 (by have := T5.out.sn; have := a.2.1; omega) a.2.2.1 a.2.2.2))
        rcases M6.out.ok with ⟨he, ti6⟩ | he
        · have TI := Lib.hid ti6
          clear ti6 HMD A5
          subst he
          have T7 := Lib.hid (T6.out.reset TI.out a' cl A6.out.1 A6.out.2)
          have HCT7 : Hid (s6.down = true → 0 ≤ c) := fun e => HCT.out (by rw [← M6.out.cut]; exact down_cut e)
          have C1 := Lib.hid (T6.out.cs.set7 (.slice a' L'.length cl))
          have hxs := T6.out.ax.1
          have hxs1 : xb < ((w6.setCell ⟨xb, 7, none⟩ (.slice a' L'.length cl)).setCell ⟨xb, 8, none⟩ (.slice none 0 0)).heap.size := by simpa using hxs
          have HX1 := Lib.hid hxs1
          clear hxs hxs1
          have c7 := T6.out.cs.c7
          have f7 := T6.out.cs.ty.free 7
          go_upto_region 16 with fail
          clear c7 f7
          have hsz1 : (w6.setCell ⟨xb, 7, none⟩ (.slice a' L'.length cl)).heap.size = w6.heap.size := by simp
          generalize w6.setCell ⟨xb, 7, none⟩ (.slice a' L'.length cl) = w7 at *
          have C2 := Lib.hid (C1.out.set8 (.slice none 0 0))
          have c8 := C1.out.c8
          have f8 := C1.out.ty.free 8
          go_upto_region 17 with fail
          clear c8 f8
          have hsz2 : (w7.setCell ⟨xb, 8, none⟩ (.slice none 0 0)).heap.size = w6.heap.size := by rw [← hsz1]; simp
          generalize w7.setCell ⟨xb, 8, none⟩ (.slice none 0 0) = w8 at *
          have c1 := C2.out.c1
          have HMK := make_bools N (by omega) w8
          have C3 := Lib.hid (C2.out.frame (((Kept.refl w8).alloc (.cells (madeCells #[.bool false] N) 4)).block xb HX1.out))
          have c9 := C3.out.c9
          have f9 := C3.out.ty.free 9
          have C4 := Lib.hid (C3.out.set9 (.slice (some ⟨w6.heap.size, 0, none⟩) N N))
          go_upto_region 18 with fail
          clear c9 f9 c1 HMK C3 C2
          generalize (w8.alloc (.cells (madeCells #[.bool false] N) 4)).setCell ⟨xb, 9, none⟩ (.slice (some ⟨w6.heap.size, 0, none⟩) N N) = w9 at *
          have c10 := C4.out.c10
          have f10 := C4.out.ty.free 10
          clear hsz1 hsz2
          go_upto_region 19 with fail
          clear c10 f10 C4 C1
          have T8 : Hid (Tru w0 xb G N p gen L' L' (fun _ => false) s6 tb' B' v' L' false a' cl 0 none 0 w6.heap.size (w9.setCell ⟨xb, 10, none⟩ (.int .i64 0))) := T7
          clear T7
          generalize w9.setCell ⟨xb, 10, none⟩ (.int .i64 0) = w10 at *
          have hz : drvHit (gQ N p) gen (fun _ => false) = fun _ => false := funext fun d => drvHit_none _ _ d
          have HMI : Hid (Calls Tryz.prog 20 #[.pointer (some ⟨tb', 0, none⟩)] w10 fun r w' => ∃ (a : Option Addr) (c e : Nat), r = .returned (.tuple #[.slice a 0 c, .int .i64 (e : Nat)]) ∧ Hid (Kept w10 w' ∧ (e = 0 ∨ e = 71 ∧ s6.down = true))) := by
            have h8 := T8.out.st
            rw [hz] at h8
            exact h8.miss
          clear hz T6 A6 T5 M6
          go_upto_region 20 with (go_at_call 20; refine HMI.out.mono ?_; rintro e w11 ⟨am, cm, e11, rfl, h11⟩; have K11 := Lib.hid h11.out.1; have HE11 := Lib.hid h11.out.2; clear h11)
          have T9 := Lib.hid (T8.out.kept K11.out)
          rcases HE11.out with he | ⟨he, hd⟩
          · subst he
            go_wp2_with fail
            go_ret2
            exact ⟨false, rfl, T9.out.kp, fun _ => ⟨L', L', _, s6, tb', B', v', L', false, a', cl, 0, none, 0, _, T9.out, fun _ => ⟨rfl, rfl⟩⟩⟩
          · subst he
            have hc0 := HCT7.out hd
            have b1 : decide (0 ≤ c) = true := decide_eq_true hc0
            go_wp2_with fail
            go_ret2
            exact ⟨false, rfl, T9.out.kp, fun _ => ⟨L', L', _, s6, tb', B', v', L', false, a', cl, 0, none, 0, _, T9.out, fun _ => ⟨rfl, rfl⟩⟩⟩
        · subst he
          clear HMD A5
          go_wp2_with fail
          go_ret2
          exact ⟨false, rfl, T6.out.kp, fun _ => ⟨S, R, h, s6, tb', B', v', L', true, sa, sc, ml, ma, mc, qh, T6.out, fun e => by cases e⟩⟩
end Go.Proofs.YtmgkkoajjdgmbaaGreatDoor

/- The law's truth: what an Append makes of it. -/
namespace Go.Proofs.YtmgkkoajjdgmbaaGreatDoor
open Go.RowKit Sm Wr _root_.Go.Proofs.YtmgkkoajjdgmbaaGreatDoor.Nm
set_option linter.unusedVariables false
/-- A row of texts laid above all. -/
def RowN (lo : Nat) (W : World) (a : Option Addr) (L : List ByteArray) : Prop := Strs W a L ∧ ∀ q o, a = some ⟨q, o, none⟩ → lo ≤ q ∧ q < W.heap.size
section
variable {w0 : World} {xb G N p gen : Nat} {S R : List ByteArray} {h : Nat → Bool} {s : RSt} {tb B : Nat} {v : Value} {L : List ByteArray} {br : Bool} {sa : Option Addr} {sc ml : Nat} {ma : Option Addr} {mc qh : Nat} {W : World}
theorem Tru.told (t : Tru w0 xb G N p gen S S h s tb B v S false sa sc ml ma mc qh W) {x : ByteArray} {s' : RSt} {v' : Value} {W6 W7 : World} (fr : TO G (G + 2 + s.n) tb v W W6) (own : ∀ k, v'.ownBlock = some k → v.ownBlock = some k ∨ W.heap.size ≤ k)
    (st : Sit tb B G (gQ N p) gen (S ++ [x]) (S ++ [x]) (S ++ [x]) (drvHit (gQ N p) gen h) s' v' false W6) (k7 : Kept W6 W7) (am : Option Addr) (cm : Nat) (hr : RowN W6.heap.size W7 am (S ++ [x])) :
    Tru w0 xb G N p gen (S ++ [x]) (S ++ [x]) h s' tb B v' (S ++ [x]) false am cm ml ma mc qh (W7.setCell ⟨xb, 7, none⟩ (.slice am (S ++ [x]).length cm)) := by
  have hn := t.sn
  have hsz : (W7.setCell ⟨xb, 7, none⟩ (.slice am (S ++ [x]).length cm)).heap.size = W7.heap.size := by simp
  have e1 : ∀ y, y ≠ xb → (W7.setCell ⟨xb, 7, none⟩ (.slice am (S ++ [x]).length cm)).heap[y]? = W7.heap[y]? := fun y hy => heap_setCell_other W7 ⟨xb, 7, none⟩ y _ hy
  have h6 := fr.size
  have h7 := k7.size
  have e0 : ∀ y, Apt G N tb v W y → W7.heap[y]? = W.heap[y]? := fun y a => (k7.block y (Nat.lt_of_lt_of_le a.1 h6)).trans (fr.block y a.1 (by have := a.2.1; omega) a.2.2.1 a.2.2.2)
  have hap : ∀ {y}, Apt G N tb v W y → Apt G N tb v' (W7.setCell ⟨xb, 7, none⟩ (.slice am (S ++ [x]).length cm)) y := fun a => a.up (by rw [hsz]; omega) own
  have kw : Kept w0 W7 := (t.st.low t.lo.1 t.kp fr).trans k7
  have s7 := st.kept k7
  have ml0 : ml = 0 := by
    rcases t.ms with e | e
    · exact e.2
    · exact absurd rfl e.1
  have hlt := t.st.rk.lt
  have htb := t.st.tl.ty.lt
  have hn' := st.ti.fit.1
  have egn : (gQ N p).n = (N : Int) := rfl
  refine ⟨(t.cs.frame (e0 xb t.ax)).set7 _, s7.apart (by rw [hsz]; exact Nat.le_refl _) xb (fun j _ hj => e1 j hj) (by have := t.ax.2.1; omega) (hap t.ax).2.2.1 (hap t.ax).2.2.2, strs_blk hr.1 fun q o e => e1 q (by have := (hr.2 q o e).1; have := t.ax.1; omega), .inl ⟨rfl, ml0⟩, t.hh.blk ((e1 qh t.aq.2).trans (e0 qh t.aq.1)), kw.setCell (p := ⟨xb, 7, none⟩) t.lo.2.1 _, t.lo, hap t.ax, ⟨hap t.aq.1, t.aq.2⟩, fun q o e => ?_, fun q o e => ⟨hap (t.amr q o e).1, (t.amr q o e).2⟩⟩
  have h1 := hr.2 q o e
  have h2 := t.ax.1
  have h3 := t.aq.1.1
  exact ⟨⟨by rw [hsz]; exact h1.2, .inr (by omega), by omega, fun e2 => by have := (st.own q e2).2; omega⟩, by omega, by omega⟩
theorem Tru.torn (t : Tru w0 xb G N p gen S S h s tb B v S false sa sc ml ma mc qh W) {x : ByteArray} {s' : RSt} {v' : Value} {W6 W7 : World} (fr : TO G (G + 2 + s.n) tb v W W6) (own : ∀ k, v'.ownBlock = some k → v.ownBlock = some k ∨ W.heap.size ≤ k)
    (st : Sit tb B G (gQ N p) gen S (S ++ [x]) S (drvHit (gQ N p) gen h) s' v' true W6) (k7 : Kept W6 W7) (am : Option Addr) (cm : Nat) (hr : RowN W6.heap.size W7 am (S ++ [x])) :
    Tru w0 xb G N p gen S (S ++ [x]) h s' tb B v' S true sa sc (S ++ [x]).length am cm qh (W7.setCell ⟨xb, 8, none⟩ (.slice am (S ++ [x]).length cm)) := by
  have hn := t.sn
  have hsz : (W7.setCell ⟨xb, 8, none⟩ (.slice am (S ++ [x]).length cm)).heap.size = W7.heap.size := by simp
  have e1 : ∀ y, y ≠ xb → (W7.setCell ⟨xb, 8, none⟩ (.slice am (S ++ [x]).length cm)).heap[y]? = W7.heap[y]? := fun y hy => heap_setCell_other W7 ⟨xb, 8, none⟩ y _ hy
  have h6 := fr.size
  have h7 := k7.size
  have e0 : ∀ y, Apt G N tb v W y → W7.heap[y]? = W.heap[y]? := fun y a => (k7.block y (Nat.lt_of_lt_of_le a.1 h6)).trans (fr.block y a.1 (by have := a.2.1; omega) a.2.2.1 a.2.2.2)
  have hap : ∀ {y}, Apt G N tb v W y → Apt G N tb v' (W7.setCell ⟨xb, 8, none⟩ (.slice am (S ++ [x]).length cm)) y := fun a => a.up (by rw [hsz]; omega) own
  have kw : Kept w0 W7 := (t.st.low t.lo.1 t.kp fr).trans k7
  have s7 := st.kept k7
  have hlt := t.st.rk.lt
  have htb := t.st.tl.ty.lt
  have hn' := st.ti.fit.1
  have egn : (gQ N p).n = (N : Int) := rfl
  have hne : S ++ [x] ≠ S := fun e => by have := congrArg List.length e; simp at this
  have hlo : ∀ q o, am = some ⟨q, o, none⟩ → q ≠ xb := fun q o e => by have := (hr.2 q o e).1; have := t.ax.1; omega
  refine ⟨(t.cs.frame (e0 xb t.ax)).set8 _, s7.apart (by rw [hsz]; exact Nat.le_refl _) xb (fun j _ hj => e1 j hj) (by have := t.ax.2.1; omega) (hap t.ax).2.2.1 (hap t.ax).2.2.2, strs_blk t.ss fun q o e => (e1 q (t.asr q o e).2.1).trans (e0 q (t.asr q o e).1), .inr ⟨hne, rfl, strs_blk hr.1 fun q o e => e1 q (hlo q o e)⟩, t.hh.blk ((e1 qh t.aq.2).trans (e0 qh t.aq.1)), kw.setCell (p := ⟨xb, 8, none⟩) t.lo.2.1 _, t.lo, hap t.ax, ⟨hap t.aq.1, t.aq.2⟩, fun q o e => ⟨hap (t.asr q o e).1, (t.asr q o e).2⟩, fun q o e => ?_⟩
  have h1 := hr.2 q o e
  have h2 := t.ax.1
  have h3 := t.aq.1.1
  exact ⟨⟨by rw [hsz]; exact h1.2, .inr (by omega), by omega, fun e2 => by have := (st.own q e2).2; omega⟩, by omega, by omega⟩
/-- What an Append leaves: it is told, it was cut, or nothing was done. -/
structure AppT (w0 : World) (xb G N p gen : Nat) (S : List ByteArray) (x : ByteArray) (tb : Nat) (v : Value) (ml e : Nat) (W w' : World) : Prop where
  size : W.heap.size ≤ w'.heap.size
  block : ∀ y, Apt G N tb v W y → w'.heap[y]? = W.heap[y]?
  kp : Kept w0 w'
  ok : (e = 0 ∧ ∀ W7 am cm, Kept w' W7 → RowN w'.heap.size W7 am (S ++ [x]) → TruE w0 xb G N p gen (W7.setCell ⟨xb, 7, none⟩ (.slice am (S ++ [x]).length cm))) ∨
    (e = 71 ∧ ml = 0 ∧ ∀ W7 am cm, Kept w' W7 → RowN w'.heap.size W7 am (S ++ [x]) → TruE w0 xb G N p gen (W7.setCell ⟨xb, 8, none⟩ (.slice am (S ++ [x]).length cm))) ∨
    (e ≠ 0 ∧ e ≠ 71 ∧ TruE w0 xb G N p gen w')
theorem Tru.append (t : Tru w0 xb G N p gen S R h s tb B v L br sa sc ml ma mc qh W) (hb : br = false → R = S ∧ L = S) (x : ByteArray) (hx : x.size ≤ 1024) :
    Calls Tryz.prog 14 #[.pointer (some ⟨tb, 0, none⟩), .string x] W fun r w' => ∃ e : Nat, r = .returned (.int .i64 (e : Nat)) ∧ AppT w0 xb G N p gen S x tb v ml e W w' := by
  cases br with
  | true =>
    refine (top_app_broken tb B G (gQ N p) gen v _ _ x W t.st.tl).mono ?_
    rintro r w' ⟨rfl, k⟩
    exact ⟨3, rfl, k.size, fun y a => k.block y a.1, t.kp.trans k, .inr (.inr ⟨by decide, by decide, _, _, _, _, _, _, _, _, _, _, _, _, _, _, _, t.kept k, hb⟩)⟩
  | false =>
    obtain ⟨rfl, rfl⟩ := hb rfl
    have ml0 : ml = 0 := by
      rcases t.ms with e | e
      · exact e.2
      · exact absurd rfl e.1
    by_cases hfit : lenT L + partsN x.size ≤ (gQ N p).t.toNat
    · refine (t.st.app x hfit).mono ?_
      rintro r w' ⟨e, s', v', rfl, hA⟩
      refine ⟨e, rfl, hA.fr.size, fun y a => hA.fr.block y a.1 (by have := t.sn; have := a.2.1; omega) a.2.2.1 a.2.2.2, t.st.low t.lo.1 t.kp hA.fr, ?_⟩
      rcases hA.st with ⟨rfl, st⟩ | ⟨rfl, hc, st⟩
      · exact .inl ⟨rfl, fun W7 am cm k7 hr => ⟨_, _, _, _, _, _, _, _, _, _, _, _, _, _, _, t.told hA.fr hA.own st k7 am cm hr, fun _ => ⟨rfl, rfl⟩⟩⟩
      · exact .inr (.inl ⟨rfl, ml0, fun W7 am cm k7 hr => ⟨_, _, _, _, _, _, _, _, _, _, _, _, _, _, _, t.torn hA.fr hA.own st k7 am cm hr, fun e => by cases e⟩⟩)
    · refine (t.st.full (.inl rfl) x (by omega) (by omega)).mono ?_
      rintro r w' ⟨rfl, k⟩
      exact ⟨6, rfl, k.size, fun y a => k.block y a.1, t.kp.trans k, .inr (.inr ⟨by decide, by decide, _, _, _, _, _, _, _, _, _, _, _, _, _, _, _, t.kept k, hb⟩)⟩
end
theorem TruE.kept {w0 : World} {xb G N p gen : Nat} {W W' : World} (h : TruE w0 xb G N p gen W) (k : Kept W W') : TruE w0 xb G N p gen W' := by
  obtain ⟨S, R, h, s, tb, B, v, L, br, sa, sc, ml, ma, mc, qh, t, e⟩ := h
  exact ⟨S, R, h, s, tb, B, v, L, br, sa, sc, ml, ma, mc, qh, t.kept k, e⟩
/-- The truth's cells as they were laid, before there is a rack. -/
structure TruZ (xb q N p gen : Nat) (rv tv : Value) (W : World) : Prop where
  ty : Typ W xb 64
  c0 : W.cell? ⟨xb, 0, none⟩ = some rv
  c1 : W.cell? ⟨xb, 1, none⟩ = some (.int .i64 (N : Nat))
  c2 : W.cell? ⟨xb, 2, none⟩ = some (.int .i64 (p : Nat))
  c3 : W.cell? ⟨xb, 3, none⟩ = some (.int .i64 138)
  c4 : W.cell? ⟨xb, 4, none⟩ = some (.int .i64 64)
  c5 : W.cell? ⟨xb, 5, none⟩ = some (.int .u64 (gen : Nat))
  c6 : W.cell? ⟨xb, 6, none⟩ = some tv
  c7 : W.cell? ⟨xb, 7, none⟩ = some (.slice none 0 0)
  c8 : W.cell? ⟨xb, 8, none⟩ = some (.slice none 0 0)
  c9 : W.cell? ⟨xb, 9, none⟩ = some (.slice (some ⟨q, 0, none⟩) N N)
  c10 : W.cell? ⟨xb, 10, none⟩ = some (.int .i64 0)
theorem TruZ.frame {xb q N p gen : Nat} {rv tv : Value} {W : World} (h : TruZ xb q N p gen rv tv W) {W' : World} (e : W'.heap[xb]? = W.heap[xb]?) : TruZ xb q N p gen rv tv W' := by
  have ce : ∀ o, W'.cell? ⟨xb, o, none⟩ = W.cell? ⟨xb, o, none⟩ := fun o => World.cell?_of_block (w := W) (a := ⟨xb, o, none⟩) e
  exact ⟨h.ty.frame e, by rw [ce]; exact h.c0, by rw [ce]; exact h.c1, by rw [ce]; exact h.c2, by rw [ce]; exact h.c3, by rw [ce]; exact h.c4, by rw [ce]; exact h.c5, by rw [ce]; exact h.c6, by rw [ce]; exact h.c7, by rw [ce]; exact h.c8, by rw [ce]; exact h.c9, by rw [ce]; exact h.c10⟩
theorem TruZ.set0 {xb q N p gen : Nat} {rv tv : Value} {W : World} (h : TruZ xb q N p gen rv tv W) (x : Value) : TruZ xb q N p gen x tv (W.setCell ⟨xb, 0, none⟩ x) := by
  refine ⟨h.ty.setCell _ _ _, World.cell?_setCell_same _ _ _ h.c0, ?_, ?_, ?_, ?_, ?_, ?_, ?_, ?_, ?_, ?_⟩
  all_goals rw [xoff _ _ _ _ _ (by decide)]
  all_goals first | exact h.c1 | exact h.c2 | exact h.c3 | exact h.c4 | exact h.c5 | exact h.c6 | exact h.c7 | exact h.c8 | exact h.c9 | exact h.c10
theorem TruZ.set6 {xb q N p gen : Nat} {rv tv : Value} {W : World} (h : TruZ xb q N p gen rv tv W) (x : Value) : TruZ xb q N p gen rv x (W.setCell ⟨xb, 6, none⟩ x) := by
  refine ⟨h.ty.setCell _ _ _, ?_, ?_, ?_, ?_, ?_, ?_, World.cell?_setCell_same _ _ _ h.c6, ?_, ?_, ?_, ?_⟩
  all_goals rw [xoff _ _ _ _ _ (by decide)]
  all_goals first | exact h.c0 | exact h.c1 | exact h.c2 | exact h.c3 | exact h.c4 | exact h.c5 | exact h.c7 | exact h.c8 | exact h.c9 | exact h.c10
/-- What is there before there is a rack. -/
structure TruA (w : World) (N p gen : Nat) (W : World) : Prop where
  kp : Kept w W
  tz : TruZ (w.heap.size + 1) w.heap.size N p gen (.pointer none) (.pointer none) W
  hh : HitAt W w.heap.size N (fun _ => false)
  lt : w.heap.size + 1 < W.heap.size
theorem TruA.kept {w : World} {N p gen : Nat} {W W' : World} (h : TruA w N p gen W) (k : Kept W W') : TruA w N p gen W' :=
  ⟨h.kp.trans k, h.tz.frame (k.block _ h.lt), h.hh.kept k, Nat.lt_of_lt_of_le h.lt k.size⟩
theorem tru_laid (w : World) (N p gen : Nat) : TruA w N p gen ((w.alloc (.cells (madeCells #[.bool false] N) 4)).alloc (.cells #[.pointer none, .int .i64 (N : Nat), .int .i64 (p : Nat), .int .i64 138, .int .i64 64, .int .u64 (gen : Nat), .pointer none, .slice none 0 0, .slice none 0 0, .slice (some ⟨w.heap.size, 0, none⟩) N N, .int .i64 0] 64)).drew := by
  have s1 : (w.alloc (.cells (madeCells #[.bool false] N) 4)).heap.size = w.heap.size + 1 := size_alloc _ _
  have HM := HitAt.made w N 4
  have k1 : Kept w (w.alloc (.cells (madeCells #[.bool false] N) 4)) := (Kept.refl _).alloc _
  generalize w.alloc (.cells (madeCells #[.bool false] N) 4) = w1 at *
  have c : ∀ (j : Nat) (v : Value), #[Value.pointer none, .int .i64 (N : Nat), .int .i64 (p : Nat), .int .i64 138, .int .i64 64, .int .u64 (gen : Nat), .pointer none, .slice none 0 0, .slice none 0 0, .slice (some ⟨w.heap.size, 0, none⟩) N N, .int .i64 0][j]? = some v → (w1.alloc (.cells #[.pointer none, .int .i64 (N : Nat), .int .i64 (p : Nat), .int .i64 138, .int .i64 64, .int .u64 (gen : Nat), .pointer none, .slice none 0 0, .slice none 0 0, .slice (some ⟨w.heap.size, 0, none⟩) N N, .int .i64 0] 64)).drew.cell? ⟨w.heap.size + 1, j, none⟩ = some v := fun j v e =>
    cell_keptT (newT_cell w1 _ 64 j v _ s1.symm e) (Kept.refl _).drew
  refine ⟨(k1.alloc _).drew, ⟨?_, c 0 _ rfl, c 1 _ rfl, c 2 _ rfl, c 3 _ rfl, c 4 _ rfl, c 5 _ rfl, c 6 _ rfl, c 7 _ rfl, c 8 _ rfl, c 9 _ rfl, c 10 _ rfl⟩, HM.kept (((Kept.refl w1).alloc _).drew), ?_⟩
  · have h := (Typ.new w1 #[.pointer none, .int .i64 (N : Nat), .int .i64 (p : Nat), .int .i64 138, .int .i64 64, .int .u64 (gen : Nat), .pointer none, .slice none 0 0, .slice none 0 0, .slice (some ⟨w.heap.size, 0, none⟩) N N, .int .i64 0] 64).kept ((Kept.refl _).drew)
    rw [s1] at h
    exact h
  · simp [s1]
theorem TruA.only {w : World} {N p gen : Nat} {W W' : World} (h : TruA w N p gen W) {lo hi : Nat} (hl : w.heap.size + 1 < lo) (k : Only lo hi W W') : TruA w N p gen W' :=
  ⟨Only.kept h.kp (by omega) k, h.tz.frame (k.block _ h.lt (.inl hl)), h.hh.blk (k.block _ (by have := h.lt; omega) (.inl (by omega))), Nat.lt_of_lt_of_le h.lt k.size⟩
/-- The tail is begun: the truth stands. -/
theorem tru_start {w W3 W4 : World} {N p gen : Nat} (t : TruA w N p gen W3) {G tb : Nat} {v : Value} {s s' : RSt} (hG : w.heap.size + 1 < G) (hn : s.n = N) (b : BegS G (gQ N p) gen s s' tb v W3 W4) :
    Tru w (w.heap.size + 1) G N p gen [] [] (fun _ => false) s' tb W3.heap.size v [] false none 0 0 none 0 w.heap.size ((W4.setCell ⟨w.heap.size + 1, 0, none⟩ (.pointer (some ⟨G + 1, 0, none⟩))).setCell ⟨w.heap.size + 1, 6, none⟩ (.pointer (some ⟨tb, 0, none⟩))) := by
  have t4 := t.only hG b.on
  have hz : drvHit (gQ N p) gen (fun _ => false) = fun _ => false := funext fun d => drvHit_none _ _ d
  have st := b.st
  rw [← hz] at st
  have s4 := b.on.size
  have l3 := t.lt
  have lo := b.lo
  have hlt := st.rk.lt
  have hn' : s'.n = N := b.n.trans hn
  have hsz : ((W4.setCell ⟨w.heap.size + 1, 0, none⟩ (.pointer (some ⟨G + 1, 0, none⟩))).setCell ⟨w.heap.size + 1, 6, none⟩ (.pointer (some ⟨tb, 0, none⟩))).heap.size = W4.heap.size := by simp
  have e1 : ∀ y, y ≠ w.heap.size + 1 → ((W4.setCell ⟨w.heap.size + 1, 0, none⟩ (.pointer (some ⟨G + 1, 0, none⟩))).setCell ⟨w.heap.size + 1, 6, none⟩ (.pointer (some ⟨tb, 0, none⟩))).heap[y]? = W4.heap[y]? := fun y hy => (heap_setCell_other _ ⟨w.heap.size + 1, 6, none⟩ y _ hy).trans (heap_setCell_other W4 ⟨w.heap.size + 1, 0, none⟩ y _ hy)
  have z := (t4.tz.set0 (.pointer (some ⟨G + 1, 0, none⟩))).set6 (.pointer (some ⟨tb, 0, none⟩))
  have hax : ∀ y, y ≤ w.heap.size + 1 → Apt G N tb v ((W4.setCell ⟨w.heap.size + 1, 0, none⟩ (.pointer (some ⟨G + 1, 0, none⟩))).setCell ⟨w.heap.size + 1, 6, none⟩ (.pointer (some ⟨tb, 0, none⟩))) y := fun y hy =>
    ⟨by rw [hsz]; omega, .inl (by omega), by omega, fun e => by have := (st.own y e).1; omega⟩
  have hc : cntB (fun _ => false) (p + 1) = 0 := cntB_none _
  refine ⟨?_, st.apart (by rw [hsz]; exact Nat.le_refl _) (w.heap.size + 1) (fun j _ hj => e1 j hj) (.inl hG) (hax _ (Nat.le_refl _)).2.2.1 (hax _ (Nat.le_refl _)).2.2.2, .inl rfl, .inl ⟨rfl, rfl⟩, ?_, (t4.kp.setCell (p := ⟨w.heap.size + 1, 0, none⟩) (by simp) _).setCell (p := ⟨w.heap.size + 1, 6, none⟩) (by simp) _, ⟨by omega, by omega, Nat.le_refl _⟩, hax _ (Nat.le_refl _), ⟨hax _ (by omega), by omega⟩, (fun q o e => by cases e), (fun q o e => by cases e)⟩
  · rw [hc]
    exact ⟨z.ty, z.c0, z.c1, z.c2, z.c3, z.c4, z.c5, z.c6, z.c7, z.c8, z.c9, z.c10⟩
  · rw [hz]
    exact t4.hh.blk (e1 w.heap.size (by omega))
end Go.Proofs.YtmgkkoajjdgmbaaGreatDoor

