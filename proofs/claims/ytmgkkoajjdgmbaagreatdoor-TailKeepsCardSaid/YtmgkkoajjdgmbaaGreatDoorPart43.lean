/- TailHit, TailLoseM, TailLose. -/
import Derived.Test.YtmgkkoajjdgmbaaGreatDoorPart41
import Derived.Test.YtmgkkoajjdgmbaaGreatDoorPart19
import Derived.Test.YtmgkkoajjdgmbaaGreatDoorPart25
import Derived.Deep.LoopGhost
set_option linter.unusedVariables false
set_option linter.unusedSimpArgs false
set_option linter.unusedSectionVars false
set_option linter.unnecessarySimpa false
set_option linter.deprecated false
/- Bools that a call has made. -/
namespace Go.Proofs.YtmgkkoajjdgmbaaGreatDoor
open Go.RowKit
set_option linter.unusedVariables false
theorem info_boolB : (Tryz.prog.info? 4).map (fun i => (i.zero, i.size, i.bytes)) = some (some (.bool false), 1, 1) := by kernel_rfl
/-- Bools in a block of the call's own. -/
structure HitAt (w : World) (q n : Nat) (hit : Nat → Bool) : Prop where
  cell : ∀ j, j < n → w.cell? ⟨q, j, none⟩ = some (.bool (hit j))
  free : ∀ j, j < n → w.frozen? ⟨q, j, none⟩ = false
theorem HitAt.kept {w w' : World} {q n : Nat} {hit : Nat → Bool} (h : HitAt w q n hit) (k : Kept w w') : HitAt w' q n hit :=
  ⟨fun j hj => by rw [Below.cell k (p := ⟨q, j, none⟩) (block_lt_of_cell (h.cell j hj))]; exact h.cell j hj, fun j hj => by rw [Below.frozen k (p := ⟨q, j, none⟩) (block_lt_of_cell (h.cell j hj))]; exact h.free j hj⟩
theorem HitAt.only {w w' : World} {q n lo hi : Nat} {hit : Nat → Bool} (h : HitAt w q n hit) (k : Only lo hi w w') (hq : hi ≤ q) : HitAt w' q n hit :=
  ⟨fun j hj => by rw [k.cell (p := ⟨q, j, none⟩) (block_lt_of_cell (h.cell j hj)) (.inr hq)]; exact h.cell j hj, fun j hj => by rw [k.frozen (p := ⟨q, j, none⟩) (block_lt_of_cell (h.cell j hj)) (.inr hq)]; exact h.free j hj⟩
theorem HitAt.set {w : World} {q n : Nat} {hit : Nat → Bool} (h : HitAt w q n hit) (d : Nat) (hd : d < n) : HitAt (w.setCell ⟨q, d, none⟩ (.bool true)) q n (fun j => hit j || decide (j = d)) := by
  refine ⟨fun j hj => ?_, fun j hj => by rw [World.frozen?_setCell]; exact h.free j hj⟩
  by_cases e : j = d
  · subst e
    rw [World.cell?_setCell_same _ _ _ (h.cell j hj), decide_eq_true rfl, Bool.or_true]
  · rw [World.cell?_setCell_other _ _ _ _ (fun h => e (by injection h with _ e2; exact e2.symm)), h.cell j hj, decide_eq_false e, Bool.or_false]
theorem make_bools (n : Nat) (hn : n ≤ 1000) (W : World) : (Instr.makeSlice 62 (.int .i64 (n : Int)) (.int .i64 (n : Int))).run Tryz.prog W = .ok (.slice (some ⟨W.heap.size, 0, none⟩) n n) (W.alloc (.cells (madeCells #[.bool false] n) 4)) :=
  run_make_row' (P := Tryz.prog) 62 4 (.bool false) 1 Tryz.underlying62 info_boolB rfl .i64 .i64 n (by omega) (by omega) W
theorem HitAt.made (w : World) (n : Nat) (T : TypeId) : HitAt (w.alloc (.cells (madeCells #[.bool false] n) T)) w.heap.size n (fun _ => false) :=
  ⟨fun j hj => by rw [World.cell?_alloc_mark]; have h := made_get #[.bool false] n j 0 hj (by decide); rw [show (#[Value.bool false] : Array Value).size = 1 from rfl, Nat.mul_one, Nat.mul_one] at h; exact h, fun j hj => by rw [World.frozen?_alloc_mark]; simp⟩
end Go.Proofs.YtmgkkoajjdgmbaaGreatDoor

/- Which drives were hit. -/
namespace Go.Proofs.YtmgkkoajjdgmbaaGreatDoor
open Go.RowKit Sm Wr _root_.Go.Proofs.YtmgkkoajjdgmbaaGreatDoor.Nm
set_option linter.unusedVariables false
/-- How many of the first n. -/
def cntB (h : Nat → Bool) : Nat → Nat
  | 0 => 0
  | n + 1 => cntB h n + (if h n then 1 else 0)
theorem cntB_le (h : Nat → Bool) : ∀ n, cntB h n ≤ n
  | 0 => Nat.le_refl _
  | n + 1 => by
    have := cntB_le h n
    show cntB h n + (if h n then 1 else 0) ≤ n + 1
    split <;> omega
theorem cntB_some (h : Nat → Bool) : ∀ n, cntB h n < n → ∃ k, k < n ∧ h k = false
  | 0, hn => absurd hn (Nat.lt_irrefl _)
  | n + 1, hn => by
    by_cases e : h n = true
    · have : cntB h (n + 1) = cntB h n + 1 := by show cntB h n + (if h n then 1 else 0) = _; rw [if_pos e]
      obtain ⟨k, hk, hk2⟩ := cntB_some h n (by omega)
      exact ⟨k, by omega, hk2⟩
    · exact ⟨n, by omega, by simpa using e⟩
theorem cntB_set (h : Nat → Bool) (k : Nat) (hk : h k = false) : ∀ n, cntB (fun j => h j || decide (j = k)) n = cntB h n + (if k < n then 1 else 0)
  | 0 => rfl
  | n + 1 => by
    show cntB (fun j => h j || decide (j = k)) n + (if (h n || decide (n = k)) then 1 else 0) = cntB h n + (if h n then 1 else 0) + (if k < n + 1 then 1 else 0)
    rw [cntB_set h k hk n]
    by_cases e : n = k
    · subst e
      rw [hk, decide_eq_true rfl, if_neg (Nat.lt_irrefl n), if_pos (Nat.lt_succ_self n)]
      rfl
    · rw [decide_eq_false e, Bool.or_false]
      by_cases l : k < n
      · rw [if_pos l, if_pos (show k < n + 1 by omega)]; omega
      · rw [if_neg l, if_neg (show ¬ k < n + 1 by omega), Nat.add_zero, Nat.add_zero]
theorem cntB_none (n : Nat) : cntB (fun _ => false) n = 0 := by
  induction n with
  | zero => rfl
  | succ n ih => show cntB (fun _ => false) n + 0 = 0; rw [ih]
/-- The drives that stand in the rows hit. -/
def drvHit (g : Geo) (gen : Nat) (h : Nat → Bool) (d : Nat) : Bool := (List.range (g.p.toNat + 1)).any fun k => h k && decide (drvN g gen k = d)
theorem drvHit_no {g : Geo} {gen : Nat} {h : Nat → Bool} {d : Nat} (e : drvHit g gen h d = false) : ∀ k, k < g.p.toNat + 1 → h k = true → drvN g gen k ≠ d := by
  intro k hk hh he
  unfold drvHit at e
  have := List.any_eq_false.1 e k (List.mem_range.2 hk)
  rw [hh, decide_eq_true he] at this
  exact this rfl
theorem drvHit_none (g : Geo) (gen : Nat) (d : Nat) : drvHit g gen (fun _ => false) d = false := by
  unfold drvHit
  exact List.any_eq_false.2 fun k _ => by simp
theorem drvHit_set {g : Geo} {gen : Nat} {h : Nat → Bool} {k d : Nat} (hk : k < g.p.toNat + 1) (e : drvHit g gen (fun j => h j || decide (j = k)) d = false) : drvHit g gen h d = false ∧ d ≠ drvN g gen k := by
  have hn := drvHit_no e
  refine ⟨List.any_eq_false.2 fun j hj => ?_, fun he => hn k hk (by simp) he.symm⟩
  have hj := List.mem_range.1 hj
  intro hc
  rw [Bool.and_eq_true] at hc
  exact hn j hj (by simp [hc.1]) (of_decide_eq_true hc.2)
theorem drvN_ne {g : Geo} {gen : Nat} (hg : gOk g gen) {i j : Nat} (hi : i < g.p.toNat + 1) (hj : j < g.p.toNat + 1) (hne : i ≠ j) : drvN g gen i ≠ drvN g gen j := by
  intro e
  obtain ⟨g1, g2, g3, g4, g5, g6, g7, g8⟩ := geo_n hg
  unfold drvN at e
  rcases Nat.lt_trichotomy i j with hl | hl | hl
  · have := Nat.sub_mod_eq_zero_of_mod_eq e.symm
    rw [show gen + j - (gen + i) = j - i by omega, Nat.mod_eq_of_lt (by omega)] at this
    omega
  · exact hne hl
  · have := Nat.sub_mod_eq_zero_of_mod_eq e
    rw [show gen + i - (gen + j) = i - j by omega, Nat.mod_eq_of_lt (by omega)] at this
    omega
/-- As long as not all rows are hit, a drive of the tail is not. -/
theorem drvHit_some {g : Geo} {gen : Nat} {h : Nat → Bool} (hg : gOk g gen) (hc : cntB h (g.p.toNat + 1) ≤ g.p.toNat) : ∃ d ∈ drvL g gen, drvHit g gen h d.toNat = false := by
  obtain ⟨k, hk, hf⟩ := cntB_some h (g.p.toNat + 1) (by omega)
  refine ⟨((drvN g gen k : Nat) : Int), List.mem_map.2 ⟨k, List.mem_range.2 hk, rfl⟩, List.any_eq_false.2 fun j hj => ?_⟩
  have hj := List.mem_range.1 hj
  intro hcc
  rw [Bool.and_eq_true] at hcc
  have he : drvN g gen j = drvN g gen k := by have := of_decide_eq_true hcc.2; omega
  by_cases e : j = k
  · rw [e, hf] at hcc; exact absurd hcc.1 (by decide)
  · exact drvN_ne hg hj hk e he
theorem drvL_at (g : Geo) (gen k : Nat) (hk : k < g.p.toNat + 1) : (drvL g gen).getD k 0 = ((drvN g gen k : Nat) : Int) := by
  unfold drvL
  rw [List.getD_eq_getElem?_getD, List.getElem?_map, List.getElem?_range hk]
  rfl
theorem Only.setNew {lo hi : Nat} {u w : World} (h : Only lo hi u w) (a : Addr) (v : Value) (ha : u.heap.size ≤ a.block) : Only lo hi u (w.setCell a v) :=
  ⟨h.os, h.tape, h.output, by simpa using h.size, fun k hk hj => by rw [heap_setCell_other w a k v (by omega)]; exact h.block k hk hj⟩
theorem wipe_cutL (s : RSt) (d : Int) : (s.wipeS d).cut = s.cut ∧ (s.wipeS d).n = s.n := by unfold RSt.wipeS; split <;> exact ⟨rfl, rfl⟩
theorem spoil_cut (s : RSt) (d i : Int) : (s.spoilS d i).cut = s.cut ∧ (s.spoilS d i).n = s.n := by unfold RSt.spoilS; split <;> exact ⟨rfl, rfl⟩
end Go.Proofs.YtmgkkoajjdgmbaaGreatDoor

/- The law's lose. -/
namespace Go.Proofs.YtmgkkoajjdgmbaaGreatDoor
open Go.RowKit Sm Wr _root_.Go.Proofs.YtmgkkoajjdgmbaaGreatDoor.Nm
set_option linter.unusedVariables false
/-- The geo of TailKeeps. -/
def gK (N p : Nat) : Geo := ⟨N, p, 74, 32⟩
/-- What lose leaves. -/
structure LoseTo (G : Nat) (g : Geo) (gen : Nat) (S R : List ByteArray) (s s' : RSt) (hit : Nat → Bool) (w w' : World) : Prop where
  rk : RackAt G s' w'
  ti : TInv g gen S R hit s'
  n : s'.n = s.n
  cut : s'.cut = s.cut
  un : ∃ d ∈ drvL g gen, hit d.toNat = false
  on : Only G (G + 2 + s.n) w w'
/-- What stands while drives are lost. -/
structure Loo (G N p gen : Nat) (S R : List ByteArray) (s : RSt) (gb qd qh P : Nat) (w : World) (h : Nat → Bool) (s' : RSt) (W : World) : Prop where
  rk : RackAt G s' W
  ti : TInv (gK N p) gen S R (drvHit (gK N p) gen h) s'
  n : s'.n = s.n
  cut : s'.cut = s.cut
  hit : HitAt W qh P h
  c1 : W.cell? ⟨gb, 1, none⟩ = some (.int .i64 (p : Int))
  c3 : W.cell? ⟨gb, 3, none⟩ = some (.int .i64 32)
  cd : ∀ i, i < P → W.cell? ⟨qd, i, none⟩ = some (.int .i64 ((drvN (gK N p) gen i : Nat) : Int))
  on : Only G (G + 2 + s.n) w W
  ge : G + 2 + s.n ≤ gb ∧ G + 2 + s.n ≤ qd ∧ G + 2 + s.n ≤ qh ∧ gb ≠ qh ∧ qd ≠ qh ∧ w.heap.size ≤ qh
section
variable {G N p gen : Nat} {S R : List ByteArray} {s : RSt} {gb qd qh P : Nat} {w : World} {h : Nat → Bool} {s' : RSt} {W : World}
theorem Loo.set (l : Loo G N p gen S R s gb qd qh P w h s' W) (k : Nat) (hk : k < P) (hP : P = p + 1) : Loo G N p gen S R s gb qd qh P w (fun j => h j || decide (j = k)) s' (W.setCell ⟨qh, k, none⟩ (.bool true)) := by
  obtain ⟨e1, e2, e3, e4, e5, e6⟩ := l.ge
  have hne : ∀ b o, b ≠ qh → (W.setCell ⟨qh, k, none⟩ (.bool true)).cell? ⟨b, o, none⟩ = W.cell? ⟨b, o, none⟩ := fun b o hb => World.cell?_setCell_other _ _ _ _ (fun e => hb (by injection e with e _; exact e.symm))
  refine ⟨l.rk.frame fun j h1 h2 => heap_setCell_other W ⟨qh, k, none⟩ j _ (by have := l.n; show j ≠ qh; omega), l.ti.hits fun d hd => (drvHit_set (show k < (gK N p).p.toNat + 1 by have e : (gK N p).p = (p : Int) := rfl; omega) hd).1, l.n, l.cut, l.hit.set k hk, by rw [hne _ _ e4]; exact l.c1, by rw [hne _ _ e4]; exact l.c3, fun i hi => by rw [hne _ _ e5]; exact l.cd i hi, l.on.setNew _ _ e6, l.ge⟩
theorem Loo.lost (l : Loo G N p gen S R s gb qd qh P w h s' W) {s2 : RSt} {W' : World} (h1 : RackAt G s2 W') (h2 : Only G (G + 2 + s'.n) W W') (h3 : TInv (gK N p) gen S R (drvHit (gK N p) gen h) s2) (hn : s2.n = s'.n) (hc : s2.cut = s'.cut) : Loo G N p gen S R s gb qd qh P w h s2 W' := by
  obtain ⟨e1, e2, e3, e4, e5, e6⟩ := l.ge
  rw [l.n] at h2
  refine ⟨h1, h3, hn.trans l.n, hc.trans l.cut, l.hit.only h2 e3, by rw [h2.cell (p := ⟨gb, 1, none⟩) (block_lt_of_cell l.c1) (.inr e1)]; exact l.c1, by rw [h2.cell (p := ⟨gb, 3, none⟩) (block_lt_of_cell l.c3) (.inr e1)]; exact l.c3, fun i hi => by rw [h2.cell (p := ⟨qd, i, none⟩) (block_lt_of_cell (l.cd i hi)) (.inr e2)]; exact l.cd i hi, l.on.trans h2, l.ge⟩
theorem Loo.draws (l : Loo G N p gen S R s gb qd qh P w h s' W) (m : Nat) : Loo G N p gen S R s gb qd qh P w h s' (W.drewN m) :=
  ⟨l.rk.drewN m, l.ti, l.n, l.cut, ⟨l.hit.cell, l.hit.free⟩, l.c1, l.c3, l.cd, l.on.trans ⟨rfl, rfl, rfl, Nat.le_refl _, fun _ _ _ => rfl⟩, l.ge⟩
end
set_option maxHeartbeats 4000000 in
set_option maxRecDepth 100000 in
theorem lose_any (G N p gen : Nat) (S R : List ByteArray) (s : RSt) (a : Option Addr) (n c by' : Nat) (zs : List Int) (w : World) (hR : RackAt G s w) (hi : TInv (gK N p) gen S R (fun _ => false) s) (hZ : ∀ W, Only G (G + 2 + s.n) w W → Ints .u8 W a zs) (hzl : zs.length = n) (hzw : ∀ x ∈ zs, (Lit.int .u8 x).wf = true) (hn30 : n ≤ 30) (hby : by' ≤ 255) :
    Calls Tryz.prog 16 #[.pointer (some ⟨G + 1, 0, none⟩), .agg #[.int .i64 (N : Int), .int .i64 (p : Int), .int .i64 74, .int .i64 32], .int .u64 (gen : Nat), .slice a n c, .int .u8 (by' : Nat)] w fun e w' => e = .returned (.tuple #[]) ∧ ∃ (s' : RSt) (hit : Nat → Bool), LoseTo G (gK N p) gen S R s s' hit w w' := by
  have hg := hi.gk
  obtain ⟨g1, g2, g3, g4, g5, g6, g7, g8⟩ := geo_n hg
  have hN1 : 1 ≤ N := by have e : (gK N p).n = (N : Int) := rfl; omega
  have hN2 : N ≤ 12 := by have e : (gK N p).n = (N : Int) := rfl; omega
  have hpN : p < N := by have e : (gK N p).n = (N : Int) := rfl; have e2 : (gK N p).p = (p : Int) := rfl; omega
  have hg48 := hg.2.2
  have HG := Lib.hid hg
  have HI := Lib.hid hi
  have HR := Lib.hid hR
  have HZ := Lib.hid hZ
  have HZL := Lib.hid hzl
  have HZW := Lib.hid hzw
  have hlt : G + 2 + s.n ≤ w.heap.size := hR.lt
  have HDR := Lib.hid (fun W => drives_part (gK N p) gen W hg)
  have hdl : (drvL (gK N p) gen).length = p + 1 := by rw [drvL_length]; rfl
  have K0 := Lib.hid ((Kept.refl w).alloc (.cells #[.int .i64 (N : Int), .int .i64 (p : Int), .int .i64 74, .int .i64 32] 28))
  have GG : Hid (GeoAt (w.alloc (.cells #[.int .i64 (N : Int), .int .i64 (p : Int), .int .i64 74, .int .i64 32] 28)) w.heap.size (gK N p)) := GeoAt.laid w 28 (gK N p)
  have HDA := Lib.hid (fun k hk => drvL_at (gK N p) gen k hk)
  have HLT := Lib.hid hlt
  rw [hdl] at HDR
  clear hg hi hR hZ hzl hzw hlt hdl g1 g2 g3 g4 g5 g6 g7 g8
  have HGB : Hid (∀ W, Kept (w.alloc (.cells #[.int .i64 (N : Int), .int .i64 (p : Int), .int .i64 74, .int .i64 32] 28)) W → W.cell? ⟨w.heap.size, 0, none⟩ = some (.int .i64 (N : Int)) ∧ W.cell? ⟨w.heap.size, 1, none⟩ = some (.int .i64 (p : Int)) ∧ W.cell? ⟨w.heap.size, 2, none⟩ = some (.int .i64 74) ∧ W.cell? ⟨w.heap.size, 3, none⟩ = some (.int .i64 32)) := fun W k => by
    obtain ⟨c0, c1, c2, c3⟩ := GG.out.kept k
    exact ⟨c0, c1, c2, c3⟩
  go_enter Tryz.func16, Tryz.ntmps16
  go_upto_region 1 with fail
  generalize w.alloc (.cells #[.int .i64 (N : Int), .int .i64 (p : Int), .int .i64 74, .int .i64 32] 28) = w0 at *
  obtain ⟨c0, c1, c2, c3⟩ := HGB.out w0 (Kept.refl _)
  go_upto_region 3 with (go_at_call 25; refine (HDR.out w0).mono ?_; rintro e w1 ⟨qd, cd, rfl, HQ⟩)
  have hmk := make_bools (p + 1) (by omega) w1
  have HH0 := Lib.hid (HitAt.made w1 (p + 1) 4)
  have K2 : Hid (Kept w1 (w1.alloc (.cells (madeCells #[.bool false] (p + 1)) 4))) := (Kept.refl _).alloc _
  generalize hP1 : p + 1 = P at *
  have HPP := Lib.hid hP1
  clear hP1
  go_upto_region 5 with fail
  have hq12 := HQ.out
  have HL0 : Hid (Loo G N p gen S R s w.heap.size qd w1.heap.size P w (fun _ => false) s (w1.alloc (.cells (madeCells #[.bool false] P) 4))) := by
    obtain ⟨q1, q2, q3, q4, q5⟩ := hq12
    have k02 : Kept w (w1.alloc (.cells (madeCells #[.bool false] P) 4)) := K0.out.trans (q5.trans K2.out)
    obtain ⟨d0, d1, d2, d3⟩ := HGB.out _ (q5.trans K2.out)
    have h0 : w.heap.size < w0.heap.size := block_lt_of_cell (HGB.out w0 (Kept.refl _)).1
    have h1 := q5.size
    have h2 := HLT.out
    refine ⟨HR.out.kept k02, HI.out.hits (fun d _ => rfl), rfl, rfl, HH0.out, d1, d3, fun i hi => ?_, k02.only _ _, h2, by omega, by omega, by omega, by omega, by omega⟩
    rw [← HDA.out i (by have := HPP.out; show i < p + 1; omega)]
    exact cell_keptT (q4 i hi) K2.out
  generalize w1.alloc (.cells (madeCells #[.bool false] P) 4) = w2 at *
  generalize w1.heap.size = qh at *
  generalize w.heap.size = gb at *
  clear hq12 HQ HH0 K2 hmk HDR c0 c1 c2 c3 HGB GG K0
  obtain ⟨bm, hbm⟩ : ∃ bm : Nat, bm = by' % 2 := ⟨_, rfl⟩
  have hb1 : Int.tmod (by' : Int) 2 = (bm : Int) := by rw [Int.tmod_eq_emod_of_nonneg (by omega)]; omega
  have hb2 : (by' : Int) % 2 = (bm : Int) := by omega
  have HBM := Lib.hid hbm
  clear hbm
  go_loopg [11, 13] n (fun gh gv iv wr => ∃ (k cnt : Nat) (h : Nat → Bool) (s' : RSt), k + gh = n ∧ iv = .int .i64 (k : Nat) ∧ gv = .int .i64 (cnt : Nat) ∧ cnt ≤ p ∧ Hid (Loo G N p gen S R s gb qd qh P w h s' wr ∧ cnt = cntB h P))
  case atStart => exact ⟨0, 0, fun _ => false, s, by omega, rfl, rfl, Nat.zero_le _, HL0.out, (cntB_none P).symm⟩
  case round =>
    clear HL0
    obtain ⟨k, cnt, h, s', hkn, rfl, rfl, hcp, HLo⟩ := hrel
    have LW := Lib.hid HLo.out.1
    have CN := Lib.hid HLo.out.2
    clear HLo
    have c1 := LW.out.c1
    have HEND : Hid (LoseTo G (gK N p) gen S R s s' (drvHit (gK N p) gen h) w wr) := ⟨LW.out.rk, LW.out.ti, LW.out.n, LW.out.cut, drvHit_some HG.out (by have e : (gK N p).p.toNat = p := rfl; rw [e, HPP.out, ← CN.out]; exact hcp), LW.out.on⟩
    cases gk with
    | zero =>
      obtain rfl : k = n := by omega
      have b1 : decide ((k : Int) < (k : Int)) = false := decide_eq_false (by omega)
      have b1N : decide (k < k) = false := decide_eq_false (by omega)
      go_wp2_with fail
      go_end0
      exact ⟨rfl, _, _, HEND.out⟩
    | succ gh =>
      have hlt : k < n := by omega
      have b1 : decide ((k : Int) < (n : Int)) = true := decide_eq_true (by omega)
      have b1N : decide (k < n) = true := decide_eq_true hlt
      have hkw : IntKind.i64.wrap ((k : Int) + 1) = ((k + 1 : Nat) : Int) := by rw [IntWalk.i64_in _ (by omega)]; omega
      by_cases hgp : cnt < p
      · have b2 : decide ((cnt : Int) < (p : Int)) = true := decide_eq_true (by omega)
        have b2N : decide (cnt < p) = true := decide_eq_true hgp
        have b3 : decide ((0 : Int) < (P : Int)) = true := decide_eq_true (by have := HPP.out; omega)
        have b3N : decide (0 < P) = true := decide_eq_true (by have := HPP.out; omega)
        have hcw : IntKind.i64.wrap ((cnt : Int) + 1) = ((cnt + 1 : Nat) : Int) := by rw [IntWalk.i64_in _ (by omega)]; omega
        rcases HZ.out wr LW.out.on with h0 | ⟨zb, zo, rfl, hzc⟩
        · have := HZL.out
          rw [h0] at this
          exact absurd hlt (by rw [← this]; simp)
        · have hcz := hzc k (by rw [HZL.out]; exact hlt)
          have hwf := bounds_u8 (HZW.out (nthI zs k) (by
            unfold nthI
            rw [List.getD_eq_getElem?_getD, List.getElem?_eq_getElem (by rw [HZL.out]; exact hlt)]
            exact List.getElem_mem _))
          obtain ⟨z, hz⟩ : ∃ z : Nat, nthI zs k = (z : Int) := ⟨(nthI zs k).toNat, by omega⟩
          rw [hz] at hcz hwf
          clear hz hzc
          have hzw : IntKind.i64.wrap (z : Int) = (z : Int) := IntWalk.i64_in _ (by omega)
          have hP0 : ((P : Int) == 0) = false := by rw [beq_eq_false_iff_ne]; have := HPP.out; omega
          obtain ⟨kk, hkk⟩ : ∃ kk : Nat, kk = z % P := ⟨_, rfl⟩
          have hkP : kk < P := by rw [hkk]; exact Nat.mod_lt _ (by have := HPP.out; omega)
          have hm1 : Int.tmod (z : Int) (P : Int) = (kk : Int) := by rw [Int.tmod_eq_emod_of_nonneg (by omega), hkk]; exact (Int.natCast_emod z P).symm
          have hm2 : (z : Int) % (P : Int) = (kk : Int) := by rw [hkk]; exact (Int.natCast_emod z P).symm
          have hm3 : IntKind.i64.wrap (kk : Int) = (kk : Int) := IntWalk.i64_in _ (by have := HPP.out; omega)
          clear hkk
          have xi1 : (k : Int) < (n : Int) := by omega
          have xi0 : (0 : Int) ≤ (k : Int) := by omega
          have yi1 : (kk : Int) < (P : Int) := by omega
          have yi0 : (0 : Int) ≤ (kk : Int) := by omega
          have hhc := LW.out.hit.cell kk hkP
          have hhf := LW.out.hit.free kk hkP
          by_cases hhk : h kk = true
          · rw [hhk] at hhc
            go_wp2_with fail
            go_roundg gh
            all_goals first | omega | exact ⟨k + 1, cnt, h, s', by omega, by go_num, rfl, hcp, LW.out, CN.out⟩
          · have hhk' : h kk = false := by simpa using hhk
            rw [hhk'] at hhc
            go_upto_region 11 with fail
            have LS := Lib.hid (LW.out.set kk hkP HPP.out.symm)
            have CN2 : Hid (cnt + 1 = cntB (fun j => h j || decide (j = kk)) P) := by show _ = _; rw [cntB_set h kk hhk' P, if_pos hkP, ← CN.out]
            have HNO : Hid (∀ x, drvHit (gK N p) gen (fun j => h j || decide (j = kk)) x = false → drvHit (gK N p) gen (fun j => h j || decide (j = kk)) x = false ∧ x ≠ (((drvN (gK N p) gen kk : Nat) : Int)).toNat) := fun x hx => ⟨hx, fun e => drvHit_no hx kk (by have e2 : (gK N p).p.toNat = p := rfl; have := HPP.out; omega) (by simp) (by omega)⟩
            have HCD : Hid (∀ W h3 s3, Loo G N p gen S R s gb qd qh P w h3 s3 W → W.cell? ⟨qd, kk, none⟩ = some (.int .i64 ((drvN (gK N p) gen kk : Nat) : Int))) := fun W h3 s3 l => l.cd kk hkP
            have hdb : drvN (gK N p) gen kk ≤ 12 := by
              have : drvN (gK N p) gen kk < N := Nat.mod_lt _ (by have e2 : (gK N p).n.toNat = N := rfl; omega)
              omega
            have hcd := LS.out.cd kk hkP
            have hc3 := LS.out.c3
            clear hhc hhf hcz c1 LW HEND CN
            generalize wr.setCell ⟨qh, kk, none⟩ (.bool true) = u1 at *
            generalize (fun j => h j || decide (j = kk)) = h2 at *
            generalize drvN (gK N p) gen kk = dd at *
            by_cases hb0 : bm = 0
            · have e1 : ((bm : Int) == 0) = true := by rw [hb0]; rfl
              have HW := Lib.hid (wipe_any G s' (dd : Int) (by omega) (by omega) u1 LS.out.rk)
              have HB0 := Lib.hid hb0
              clear hb0
              go_wp2_with (go_at_call 26; (refine HW.out.mono ?_; rintro e u2 ⟨rfl, hr2, ho2⟩; have L2 := Lib.hid (LS.out.lost hr2 ho2 (LS.out.ti.wipe (dd : Int) HNO.out) (wipe_cutL _ _).2 (wipe_cutL _ _).1); clear hr2 ho2))
              go_roundg gh
              all_goals first | omega | exact ⟨k + 1, cnt + 1, h2, _, by omega, by go_num, by go_num, by omega, L2.out, CN2.out⟩
            · have e1 : ((bm : Int) == 0) = false := by rw [beq_eq_false_iff_ne]; omega
              obtain ⟨gm, hgm⟩ : ∃ gm : Nat, gm = gen % 2 := ⟨_, rfl⟩
              have v1 : Int.tmod (gen : Int) 2 = (gm : Int) := by rw [Int.tmod_eq_emod_of_nonneg (by omega)]; omega
              have v2 : (gen : Int) % 2 = (gm : Int) := by omega
              have v3 : IntKind.i64.wrap (gm : Int) = (gm : Int) := IntWalk.i64_in _ (by omega)
              obtain ⟨g32, hg32⟩ : ∃ g32 : Nat, g32 = gm * 32 := ⟨_, rfl⟩
              have v4 : IntKind.i64.wrap ((gm : Int) * 32) = (g32 : Int) := by rw [IntWalk.i64_in _ (by omega)]; omega
              have v5 : IntKind.i64.wrap (2 + (g32 : Int)) = ((2 + g32 : Nat) : Int) := by rw [IntWalk.i64_in _ (by omega)]; omega
              have v6 : IntKind.i64.wrap (by' : Int) = (by' : Int) := IntWalk.i64_in _ (by omega)
              obtain ⟨b32, hb32⟩ : ∃ b32 : Nat, b32 = by' % 32 := ⟨_, rfl⟩
              have v7 : Int.tmod (by' : Int) 32 = (b32 : Int) := by rw [Int.tmod_eq_emod_of_nonneg (by omega)]; omega
              have v8 : (by' : Int) % 32 = (b32 : Int) := by omega
              have v9 : IntKind.i64.wrap (b32 : Int) = (b32 : Int) := IntWalk.i64_in _ (by omega)
              have v10 : IntKind.i64.wrap (((2 + g32 : Nat) : Int) + (b32 : Int)) = ((2 + g32 + b32 : Nat) : Int) := by rw [IntWalk.i64_in _ (by omega)]; omega
              have v11 : IntKind.u64.wrap (gm : Int) = (gm : Int) := IntWalk.u64_in _ (by omega)
              have hxb : 2 + g32 + b32 ≤ 200 := by omega
              obtain ⟨X, hX⟩ : ∃ X : Nat, X = 2 + g32 + b32 := ⟨_, rfl⟩
              obtain ⟨Y, hY⟩ : ∃ Y : Nat, Y = 2 + g32 := ⟨_, rfl⟩
              rw [← hX] at v10
              rw [← hY] at v5 v10
              have hX200 : X ≤ 200 := by omega
              clear hgm hg32 hb32 hX hY hxb
              have HSP := Lib.hid (fun W (hk : RackAt G s' W) => spoil_any G s' (dd : Int) (X : Int) (by omega) (by omega) (by omega) (by omega) W hk)
              have HKD : Hid (RackAt G s' u1.drew) := LS.out.rk.drewN 1
              have HKL : Hid (Loo G N p gen S R s gb qd qh P w h2 s' u1.drew) := LS.out.draws 1
              go_upto_region 13 with fail
              have HS2 : Hid (u1.drew.cell? ⟨qd, kk, none⟩ = some (.int .i64 (dd : Int)) ∧ u1.drew.cell? ⟨gb, 3, none⟩ = some (.int .i64 32)) := ⟨HCD.out _ _ _ HKL.out, HKL.out.c3⟩
              go_region_held3 (fun W' => W'.cell? ⟨qd, kk, none⟩ = some (.int .i64 (dd : Int)) ∧ W'.cell? ⟨gb, 3, none⟩ = some (.int .i64 32))
                (first | exact ⟨hcd, hc3⟩ | exact HS2.out | exact ⟨HCD.out _ _ _ L2.out, L2.out.c3⟩)
                (first | (go_at_call 41; refine (HSP.out u1.drew HKD.out).mono ?_; rintro e u2 ⟨rfl, hr2, ho2⟩; have L2 := Lib.hid (HKL.out.lost hr2 ho2 (HKL.out.ti.spoil (dd : Int) (X : Int) HNO.out) (spoil_cut _ _ _).2 (spoil_cut _ _ _).1); clear hr2 ho2))
              all_goals
                go_wp2_with fail
                go_roundg gh
                all_goals first | omega | exact ⟨k + 1, cnt + 1, h2, _, by omega, by go_num, by go_num, by omega, L2.out, CN2.out⟩
      · have b2 : decide ((cnt : Int) < (p : Int)) = false := decide_eq_false (by omega)
        have b2N : decide (cnt < p) = false := decide_eq_false hgp
        go_wp2_with fail
        go_end0
        exact ⟨rfl, _, _, HEND.out⟩
end Go.Proofs.YtmgkkoajjdgmbaaGreatDoor

