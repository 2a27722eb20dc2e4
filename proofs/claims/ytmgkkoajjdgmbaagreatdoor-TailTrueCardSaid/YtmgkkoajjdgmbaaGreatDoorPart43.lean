/- TailHit, TailLoseM. -/
import Derived.Test.YtmgkkoajjdgmbaaGreatDoorPart41
import Derived.Test.YtmgkkoajjdgmbaaGreatDoorPart19
set_option linter.unusedVariables false
set_option linter.unusedSimpArgs false
set_option linter.unusedSectionVars false
set_option linter.unnecessarySimpa false
set_option linter.deprecated false
/- Bools that a call has made. -/
namespace Go.Proofs.YtmgkkoajjdgmbaaGreatDoor
open Go.RowKit
set_option linter.unusedVariables false
theorem info_boolB : (Tryz.prog.info? 4).map (fun i => (i.zero, i.size, i.bytes)) = some (some (.bool false), 1, 1) := by kernel_rfl
/-- Bools in a block of the call's own. -/
structure HitAt (w : World) (q n : Nat) (hit : Nat → Bool) : Prop where
  cell : ∀ j, j < n → w.cell? ⟨q, j, none⟩ = some (.bool (hit j))
  free : ∀ j, j < n → w.frozen? ⟨q, j, none⟩ = false
theorem HitAt.kept {w w' : World} {q n : Nat} {hit : Nat → Bool} (h : HitAt w q n hit) (k : Kept w w') : HitAt w' q n hit :=
  ⟨fun j hj => by rw [Below.cell k (p := ⟨q, j, none⟩) (block_lt_of_cell (h.cell j hj))]; exact h.cell j hj, fun j hj => by rw [Below.frozen k (p := ⟨q, j, none⟩) (block_lt_of_cell (h.cell j hj))]; exact h.free j hj⟩
theorem HitAt.only {w w' : World} {q n lo hi : Nat} {hit : Nat → Bool} (h : HitAt w q n hit) (k : Only lo hi w w') (hq : hi ≤ q) : HitAt w' q n hit :=
  ⟨fun j hj => by rw [k.cell (p := ⟨q, j, none⟩) (block_lt_of_cell (h.cell j hj)) (.inr hq)]; exact h.cell j hj, fun j hj => by rw [k.frozen (p := ⟨q, j, none⟩) (block_lt_of_cell (h.cell j hj)) (.inr hq)]; exact h.free j hj⟩
theorem HitAt.set {w : World} {q n : Nat} {hit : Nat → Bool} (h : HitAt w q n hit) (d : Nat) (hd : d < n) : HitAt (w.setCell ⟨q, d, none⟩ (.bool true)) q n (fun j => hit j || decide (j = d)) := by
  refine ⟨fun j hj => ?_, fun j hj => by rw [World.frozen?_setCell]; exact h.free j hj⟩
  by_cases e : j = d
  · subst e
    rw [World.cell?_setCell_same _ _ _ (h.cell j hj), decide_eq_true rfl, Bool.or_true]
  · rw [World.cell?_setCell_other _ _ _ _ (fun h => e (by injection h with _ e2; exact e2.symm)), h.cell j hj, decide_eq_false e, Bool.or_false]
theorem make_bools (n : Nat) (hn : n ≤ 1000) (W : World) : (Instr.makeSlice 62 (.int .i64 (n : Int)) (.int .i64 (n : Int))).run Tryz.prog W = .ok (.slice (some ⟨W.heap.size, 0, none⟩) n n) (W.alloc (.cells (madeCells #[.bool false] n) 4)) :=
  run_make_row' (P := Tryz.prog) 62 4 (.bool false) 1 Tryz.underlying62 info_boolB rfl .i64 .i64 n (by omega) (by omega) W
theorem HitAt.made (w : World) (n : Nat) (T : TypeId) : HitAt (w.alloc (.cells (madeCells #[.bool false] n) T)) w.heap.size n (fun _ => false) :=
  ⟨fun j hj => by rw [World.cell?_alloc_mark]; have h := made_get #[.bool false] n j 0 hj (by decide); rw [show (#[Value.bool false] : Array Value).size = 1 from rfl, Nat.mul_one, Nat.mul_one] at h; exact h, fun j hj => by rw [World.frozen?_alloc_mark]; simp⟩
end Go.Proofs.YtmgkkoajjdgmbaaGreatDoor

/- Which drives were hit. -/
namespace Go.Proofs.YtmgkkoajjdgmbaaGreatDoor
open Go.RowKit Sm Wr _root_.Go.Proofs.YtmgkkoajjdgmbaaGreatDoor.Nm
set_option linter.unusedVariables false
/-- How many of the first n. -/
def cntB (h : Nat → Bool) : Nat → Nat
  | 0 => 0
  | n + 1 => cntB h n + (if h n then 1 else 0)
theorem cntB_le (h : Nat → Bool) : ∀ n, cntB h n ≤ n
  | 0 => Nat.le_refl _
  | n + 1 => by
    have := cntB_le h n
    show cntB h n + (if h n then 1 else 0) ≤ n + 1
    split <;> omega
theorem cntB_some (h : Nat → Bool) : ∀ n, cntB h n < n → ∃ k, k < n ∧ h k = false
  | 0, hn => absurd hn (Nat.lt_irrefl _)
  | n + 1, hn => by
    by_cases e : h n = true
    · have : cntB h (n + 1) = cntB h n + 1 := by show cntB h n + (if h n then 1 else 0) = _; rw [if_pos e]
      obtain ⟨k, hk, hk2⟩ := cntB_some h n (by omega)
      exact ⟨k, by omega, hk2⟩
    · exact ⟨n, by omega, by simpa using e⟩
theorem cntB_set (h : Nat → Bool) (k : Nat) (hk : h k = false) : ∀ n, cntB (fun j => h j || decide (j = k)) n = cntB h n + (if k < n then 1 else 0)
  | 0 => rfl
  | n + 1 => by
    show cntB (fun j => h j || decide (j = k)) n + (if (h n || decide (n = k)) then 1 else 0) = cntB h n + (if h n then 1 else 0) + (if k < n + 1 then 1 else 0)
    rw [cntB_set h k hk n]
    by_cases e : n = k
    · subst e
      rw [hk, decide_eq_true rfl, if_neg (Nat.lt_irrefl n), if_pos (Nat.lt_succ_self n)]
      rfl
    · rw [decide_eq_false e, Bool.or_false]
      by_cases l : k < n
      · rw [if_pos l, if_pos (show k < n + 1 by omega)]; omega
      · rw [if_neg l, if_neg (show ¬ k < n + 1 by omega), Nat.add_zero, Nat.add_zero]
theorem cntB_none (n : Nat) : cntB (fun _ => false) n = 0 := by
  induction n with
  | zero => rfl
  | succ n ih => show cntB (fun _ => false) n + 0 = 0; rw [ih]
/-- The drives that stand in the rows hit. -/
def drvHit (g : Geo) (gen : Nat) (h : Nat → Bool) (d : Nat) : Bool := (List.range (g.p.toNat + 1)).any fun k => h k && decide (drvN g gen k = d)
theorem drvHit_no {g : Geo} {gen : Nat} {h : Nat → Bool} {d : Nat} (e : drvHit g gen h d = false) : ∀ k, k < g.p.toNat + 1 → h k = true → drvN g gen k ≠ d := by
  intro k hk hh he
  unfold drvHit at e
  have := List.any_eq_false.1 e k (List.mem_range.2 hk)
  rw [hh, decide_eq_true he] at this
  exact this rfl
theorem drvHit_none (g : Geo) (gen : Nat) (d : Nat) : drvHit g gen (fun _ => false) d = false := by
  unfold drvHit
  exact List.any_eq_false.2 fun k _ => by simp
theorem drvHit_set {g : Geo} {gen : Nat} {h : Nat → Bool} {k d : Nat} (hk : k < g.p.toNat + 1) (e : drvHit g gen (fun j => h j || decide (j = k)) d = false) : drvHit g gen h d = false ∧ d ≠ drvN g gen k := by
  have hn := drvHit_no e
  refine ⟨List.any_eq_false.2 fun j hj => ?_, fun he => hn k hk (by simp) he.symm⟩
  have hj := List.mem_range.1 hj
  intro hc
  rw [Bool.and_eq_true] at hc
  exact hn j hj (by simp [hc.1]) (of_decide_eq_true hc.2)
theorem drvN_ne {g : Geo} {gen : Nat} (hg : gOk g gen) {i j : Nat} (hi : i < g.p.toNat + 1) (hj : j < g.p.toNat + 1) (hne : i ≠ j) : drvN g gen i ≠ drvN g gen j := by
  intro e
  obtain ⟨g1, g2, g3, g4, g5, g6, g7, g8⟩ := geo_n hg
  unfold drvN at e
  rcases Nat.lt_trichotomy i j with hl | hl | hl
  · have := Nat.sub_mod_eq_zero_of_mod_eq e.symm
    rw [show gen + j - (gen + i) = j - i by omega, Nat.mod_eq_of_lt (by omega)] at this
    omega
  · exact hne hl
  · have := Nat.sub_mod_eq_zero_of_mod_eq e
    rw [show gen + i - (gen + j) = i - j by omega, Nat.mod_eq_of_lt (by omega)] at this
    omega
/-- As long as not all rows are hit, a drive of the tail is not. -/
theorem drvHit_some {g : Geo} {gen : Nat} {h : Nat → Bool} (hg : gOk g gen) (hc : cntB h (g.p.toNat + 1) ≤ g.p.toNat) : ∃ d ∈ drvL g gen, drvHit g gen h d.toNat = false := by
  obtain ⟨k, hk, hf⟩ := cntB_some h (g.p.toNat + 1) (by omega)
  refine ⟨((drvN g gen k : Nat) : Int), List.mem_map.2 ⟨k, List.mem_range.2 hk, rfl⟩, List.any_eq_false.2 fun j hj => ?_⟩
  have hj := List.mem_range.1 hj
  intro hcc
  rw [Bool.and_eq_true] at hcc
  have he : drvN g gen j = drvN g gen k := by have := of_decide_eq_true hcc.2; omega
  by_cases e : j = k
  · rw [e, hf] at hcc; exact absurd hcc.1 (by decide)
  · exact drvN_ne hg hj hk e he
theorem drvL_at (g : Geo) (gen k : Nat) (hk : k < g.p.toNat + 1) : (drvL g gen).getD k 0 = ((drvN g gen k : Nat) : Int) := by
  unfold drvL
  rw [List.getD_eq_getElem?_getD, List.getElem?_map, List.getElem?_range hk]
  rfl
theorem Only.setNew {lo hi : Nat} {u w : World} (h : Only lo hi u w) (a : Addr) (v : Value) (ha : u.heap.size ≤ a.block) : Only lo hi u (w.setCell a v) :=
  ⟨h.os, h.tape, h.output, by simpa using h.size, fun k hk hj => by rw [heap_setCell_other w a k v (by omega)]; exact h.block k hk hj⟩
theorem wipe_cutL (s : RSt) (d : Int) : (s.wipeS d).cut = s.cut ∧ (s.wipeS d).n = s.n := by unfold RSt.wipeS; split <;> exact ⟨rfl, rfl⟩
theorem spoil_cut (s : RSt) (d i : Int) : (s.spoilS d i).cut = s.cut ∧ (s.spoilS d i).n = s.n := by unfold RSt.spoilS; split <;> exact ⟨rfl, rfl⟩
end Go.Proofs.YtmgkkoajjdgmbaaGreatDoor

