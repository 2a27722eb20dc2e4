/- Rows of bytes, each in a block of its own, in a slice that the call itself has gathered. -/
import Derived.Test.YthifdfbdekkmgaaPart11
import Derived.Deep.AppendLies
set_option linter.unusedVariables false
set_option linter.unusedSimpArgs false
set_option linter.unusedSectionVars false
set_option linter.unnecessarySimpa false
set_option linter.deprecated false
namespace Go.Proofs.Ythifdfbdekkmgaa
open Go.RowKit
set_option linter.unusedVariables false
def rowV (m : Nat) (ρ κ : Nat → Nat) (i : Nat) : Value := .slice (some ⟨ρ i, 0, none⟩) m (κ i)
theorem info_bytes : (Seq.prog.info? 41).map (fun i => (i.zero, i.size, i.bytes)) = some (some (.slice none 0 0), 1, 24) := by kernel_rfl
/-- k rows of m bytes have been gathered, all of it in blocks from B on. -/
structure Grd (B m k : Nat) (X : Nat → Nat → UInt8) (ρ κ : Nat → Nat) (v : Value) (w : World) : Prop where
  own : w.ownsRow B 41 1 v k ((List.range k).map (rowV m ρ κ))
  byt : ∀ i, i < k → Byt (ρ i) m (X i) w
  low : ∀ i, i < k → B ≤ ρ i
  lt : ∀ i, i < k → ρ i < w.heap.size
  ne : ∀ i, i < k → v.ownBlock ≠ some (ρ i)
  inj : ∀ i j, i < k → j < k → ρ i = ρ j → i = j
  cap : ∀ i, i < k → m ≤ κ i
theorem Byt.keptBut {g n : Nat} {f : Nat → UInt8} {w w' : World} (h : Byt g n f w) {b : Nat} (k : But b w w') (hg : g < w.heap.size) (hb : g ≠ b) : Byt g n f w' :=
  ⟨fun j hj => by rw [k.cell (p := ⟨g, j, none⟩) hg hb]; exact h.cell j hj, fun j hj => by rw [k.frozen (p := ⟨g, j, none⟩) hg hb]; exact h.free j hj⟩
theorem Byt.kept {g n : Nat} {f : Nat → UInt8} {w w' : World} (h : Byt g n f w) (k : Kept w w') (hg : g < w.heap.size) : Byt g n f w' :=
  h.keptBut (k.but w.heap.size) hg (Nat.ne_of_lt hg)
theorem Grd.nil (B m : Nat) (X : Nat → Nat → UInt8) (w : World) : Grd B m 0 X (fun _ => 0) (fun _ => 0) (.slice none 0 0) w :=
  ⟨World.ownsRow_nil _ _ _ _, fun _ h => absurd h (by omega), fun _ h => absurd h (by omega), fun _ h => absurd h (by omega), fun _ h => absurd h (by omega), fun _ _ h => absurd h (by omega), fun _ h => absurd h (by omega)⟩
theorem Grd.kept {B m k : Nat} {X : Nat → Nat → UInt8} {ρ κ : Nat → Nat} {v : Value} {w w' : World} (h : Grd B m k X ρ κ v w) (kp : Kept w w') : Grd B m k X ρ κ v w' := by
  refine ⟨?_, fun i hi => (h.byt i hi).kept kp (h.lt i hi), h.low, fun i hi => Nat.lt_of_lt_of_le (h.lt i hi) kp.size, h.ne, h.inj, h.cap⟩
  obtain ⟨h1, h2⟩ := h.own
  refine ⟨h1, ?_⟩
  rcases h2 with h2 | ⟨g, cap, cur, h2, h3, h4, h5⟩
  · exact .inl h2
  · exact .inr ⟨g, cap, cur, h2, h3, by rw [kp.block g (Array.getElem?_eq_some_iff.1 h4).1]; exact h4, h5⟩
/-- What an append of one row leaves: w0 is the world in which the gathered rows stood, the new row's block came later. -/
theorem Grd.snoc {B m k : Nat} {X : Nat → Nat → UInt8} {ρ κ : Nat → Nat} {v : Value} {w0 w1 w2 : World} (h : Grd B m k X ρ κ v w0) (k1 : Kept w0 w1) (hB : B ≤ w0.heap.size) (g' cap' : Nat) (hb : Byt g' m (X k) w1) (hg : w0.heap.size ≤ g') (hl : g' < w1.heap.size) (hcp : m ≤ cap')
    (G cap : Nat) (h2 : w2.ownsRow B 41 1 (.slice (some ⟨G, 0, none⟩) (k + 1) cap) (k + 1) ((List.range k).map (rowV m ρ κ) ++ [.slice (some ⟨g', 0, none⟩) m cap'])) (hgr : w1.grownBy w2 v.ownBlock) (hG : v.ownBlock = some G ∨ G = w1.heap.size) :
    Grd B m (k + 1) X (fun i => if i = k then g' else ρ i) (fun i => if i = k then cap' else κ i) (.slice (some ⟨G, 0, none⟩) (k + 1) cap) w2 := by
  have hvb : ∀ q, v.ownBlock = some q → q < w0.heap.size := fun q hq => (h.own.lt q hq).2
  have hbt : But (match v.ownBlock with | some q => q | none => w1.heap.size) w1 w2 := ⟨hgr.os, hgr.tape, hgr.output, hgr.size, fun q hq hne => hgr.block q hq (by
    intro e
    cases hv : v.ownBlock with
    | none => rw [hv] at e; cases e
    | some r => rw [hv] at e hne; injection e with e; exact hne e)⟩
  have hnb : ∀ q, q < w1.heap.size → v.ownBlock ≠ some q → q ≠ (match v.ownBlock with | some q => q | none => w1.heap.size) := fun q hq hne e => by
    cases hv : v.ownBlock with
    | none => rw [hv] at e; simp only at e; omega
    | some r => rw [hv] at e hne; simp only at e; exact hne (by rw [e])
  have hgv : v.ownBlock ≠ some g' := fun e => by have := hvb _ e; omega
  have hk1 := h.kept k1
  refine ⟨?_, fun i hi => ?_, fun i hi => ?_, fun i hi => ?_, fun i hi => ?_, fun i j hi hj e => ?_, fun i hi => ?_⟩
  · have e : (List.range (k + 1)).map (rowV m (fun i => if i = k then g' else ρ i) (fun i => if i = k then cap' else κ i)) = (List.range k).map (rowV m ρ κ) ++ [.slice (some ⟨g', 0, none⟩) m cap'] := by
      rw [List.range_succ, List.map_append]
      congr 1
      · apply List.map_congr_left
        intro i hi
        have := List.mem_range.1 hi
        unfold rowV
        simp only [if_neg (show i ≠ k by omega)]
      · simp [rowV]
    rw [e]
    exact h2
  · by_cases e : i = k
    · subst e
      simp only [if_pos]
      exact hb.keptBut hbt hl (hnb g' hl hgv)
    · simp only [if_neg e]
      exact (hk1.byt i (by omega)).keptBut hbt (hk1.lt i (by omega)) (hnb _ (hk1.lt i (by omega)) (h.ne i (by omega)))
  · by_cases e : i = k
    · simp only [if_pos e]; omega
    · simp only [if_neg e]; exact h.low i (by omega)
  · refine Nat.lt_of_lt_of_le ?_ hgr.size
    by_cases e : i = k
    · simp only [if_pos e]; exact hl
    · simp only [if_neg e]; exact hk1.lt i (by omega)
  · show some G ≠ _
    intro e1
    injection e1 with e1
    by_cases e : i = k
    · simp only [if_pos e] at e1
      rcases hG with hG | hG
      · exact hgv (by rw [hG, e1])
      · omega
    · simp only [if_neg e] at e1
      rcases hG with hG | hG
      · exact h.ne i (by omega) (by rw [hG, e1])
      · have := hk1.lt i (by omega); omega
  · have hlt : ∀ i, i < k + 1 → i ≠ k → ρ i < w0.heap.size := fun i hi hne => h.lt i (by omega)
    by_cases e1 : i = k
    · by_cases e2 : j = k
      · omega
      · simp only [if_pos e1, if_neg e2] at e
        have := hlt j hj e2
        omega
    · by_cases e2 : j = k
      · simp only [if_neg e1, if_pos e2] at e
        have := hlt i hi e1
        omega
      · simp only [if_neg e1, if_neg e2] at e
        exact h.inj i j (by omega) (by omega) e
  · by_cases e : i = k
    · simp only [if_pos e]; exact hcp
    · simp only [if_neg e]; exact h.cap i (by omega)
/-- n rows of m bytes stand in block G, each in a block of its own. -/
structure Rws (B G n m : Nat) (X : Nat → Nat → UInt8) (ρ κ : Nat → Nat) (w : World) : Prop where
  row : ∀ i, i < n → w.cell? ⟨G, i, none⟩ = some (rowV m ρ κ i)
  free : ∀ i, i < n → w.frozen? ⟨G, i, none⟩ = false
  byt : ∀ i, i < n → Byt (ρ i) m (X i) w
  low : ∀ i, i < n → B ≤ ρ i
  lt : ∀ i, i < n → ρ i < w.heap.size
  ne : ∀ i, i < n → ρ i ≠ G
  inj : ∀ i j, i < n → j < n → ρ i = ρ j → i = j
  G0 : B ≤ G
  G1 : G < w.heap.size
  cap : ∀ i, i < n → m ≤ κ i
theorem Grd.rws {B m n : Nat} {X : Nat → Nat → UInt8} {ρ κ : Nat → Nat} {v : Value} {w : World} (h : Grd B m n X ρ κ v w) (hn : 1 ≤ n) : ∃ G cap, v = .slice (some ⟨G, 0, none⟩) n cap ∧ Rws B G n m X ρ κ w := by
  obtain ⟨h1, h2⟩ := h.own
  rcases h2 with ⟨_, h2⟩ | ⟨G, cap, cur, rfl, h3, h4, h5, h6, h7, h8⟩
  · omega
  · refine ⟨G, cap, rfl, fun i hi => ?_, fun i hi => ?_, h.byt, h.low, h.lt, fun i hi e => h.ne i hi (by show some G = _; rw [e]), h.inj, h3, (Array.getElem?_eq_some_iff.1 h4).1, h.cap⟩
    · rw [cell_of_row _ _ i _ _ _ h4]
      have e : (cur.toList.take (n * 1))[i]? = ((List.range n).map (rowV m ρ κ))[i]? := by rw [h8]
      rw [List.getElem?_take_of_lt (by omega)] at e
      rw [← Array.getElem?_toList, e, List.getElem?_map, List.getElem?_range hi]
      rfl
    · simp [World.frozen?, h4]
theorem Rws.keptBut {B G n m : Nat} {X : Nat → Nat → UInt8} {ρ κ : Nat → Nat} {w w' : World} (h : Rws B G n m X ρ κ w) {b : Nat} (k : But b w w') (hb : ∀ i, i < n → ρ i ≠ b) (hG : G ≠ b) : Rws B G n m X ρ κ w' :=
  ⟨fun i hi => by rw [k.cell (p := ⟨G, i, none⟩) h.G1 hG]; exact h.row i hi, fun i hi => by rw [k.frozen (p := ⟨G, i, none⟩) h.G1 hG]; exact h.free i hi, fun i hi => (h.byt i hi).keptBut k (h.lt i hi) (hb i hi), h.low, fun i hi => Nat.lt_of_lt_of_le (h.lt i hi) k.size, h.ne, h.inj, h.G0, Nat.lt_of_lt_of_le h.G1 k.size, h.cap⟩
theorem Rws.kept {B G n m : Nat} {X : Nat → Nat → UInt8} {ρ κ : Nat → Nat} {w w' : World} (h : Rws B G n m X ρ κ w) (k : Kept w w') : Rws B G n m X ρ κ w' :=
  h.keptBut (k.but w.heap.size) (fun i hi => Nat.ne_of_lt (h.lt i hi)) (Nat.ne_of_lt h.G1)
/-- A cell of G set to what it is told. -/
theorem cellG (w : World) (G i j : Nat) (u v : Value) (h : w.cell? ⟨G, j, none⟩ = some u) : (w.setCell ⟨G, i, none⟩ v).cell? ⟨G, j, none⟩ = some (if j = i then v else u) := by
  by_cases e : j = i
  · subst e; rw [if_pos rfl, World.cell?_setCell_same _ _ _ h]
  · rw [if_neg e, World.cell?_setCell_other _ _ _ _ (fun h => e (by injection h with _ e2; exact e2.symm)), h]
theorem but_cell (w : World) (G i : Nat) (v : Value) : But G w (w.setCell ⟨G, i, none⟩ v) := (But.refl G w).setCell i v
/-- Two rows changed places. -/
theorem Rws.swap {B G n m : Nat} {X : Nat → Nat → UInt8} {ρ κ : Nat → Nat} {w : World} (h : Rws B G n m X ρ κ w) (p c : Nat) (hp : p < n) (hc : c < n) (sw : Nat → Nat) (hsw : ∀ i, sw i = if i = p then c else if i = c then p else i) :
    Rws B G n m (fun i => X (sw i)) (fun i => ρ (sw i)) (fun i => κ (sw i)) ((w.setCell ⟨G, p, none⟩ (rowV m ρ κ c)).setCell ⟨G, c, none⟩ (rowV m ρ κ p)) := by
  have hs : ∀ i, i < n → sw i < n := fun i hi => by rw [hsw]; split <;> (try split) <;> omega
  have hss : ∀ i j, sw i = sw j → i = j := fun i j e => by
    rw [hsw, hsw] at e
    by_cases h1 : i = p <;> by_cases h2 : i = c <;> by_cases h3 : j = p <;> by_cases h4 : j = c <;> simp only [h1, h2, h3, h4, if_true, if_false] at e <;> (try omega) <;> (repeat split at e) <;> omega
  have hb := (but_cell w G p (rowV m ρ κ c)).trans (but_cell (w.setCell ⟨G, p, none⟩ (rowV m ρ κ c)) G c (rowV m ρ κ p))
  refine ⟨fun i hi => ?_, fun i hi => ?_, fun i hi => (h.byt _ (hs i hi)).keptBut hb (h.lt _ (hs i hi)) (h.ne _ (hs i hi)), fun i hi => h.low _ (hs i hi), fun i hi => Nat.lt_of_lt_of_le (h.lt _ (hs i hi)) hb.size, fun i hi => h.ne _ (hs i hi), fun i j hi hj e => hss i j (h.inj _ _ (hs i hi) (hs j hj) e), h.G0, Nat.lt_of_lt_of_le h.G1 hb.size, fun i hi => h.cap _ (hs i hi)⟩
  · rw [cellG _ G c i _ _ (cellG w G p i _ _ (h.row i hi))]
    show _ = some (rowV m (fun i => ρ (sw i)) (fun i => κ (sw i)) i)
    unfold rowV
    simp only [hsw]
    by_cases h1 : i = c
    · subst h1
      by_cases h2 : i = p
      · subst h2; simp
      · simp [h2]
    · by_cases h2 : i = p
      · subst h2; simp [h1]
      · simp [h1, h2]
  · rw [World.frozen?_setCell, World.frozen?_setCell]
    exact h.free i hi
/-- A row put in the place of another one. -/
theorem Rws.put {B G n m : Nat} {X : Nat → Nat → UInt8} {ρ κ : Nat → Nat} {w : World} (h : Rws B G n m X ρ κ w) (c g' cap' : Nat) (Y : Nat → UInt8) (hc : c < n) (hY : Byt g' m Y w) (hB : B ≤ g') (hl : g' < w.heap.size) (hG : g' ≠ G) (hn : ∀ i, i < n → ρ i ≠ g') (hcp : m ≤ cap') :
    Rws B G n m (fun i => if i = c then Y else X i) (fun i => if i = c then g' else ρ i) (fun i => if i = c then cap' else κ i) (w.setCell ⟨G, c, none⟩ (.slice (some ⟨g', 0, none⟩) m cap')) := by
  have hb := but_cell w G c (.slice (some ⟨g', 0, none⟩) m cap')
  refine ⟨fun i hi => ?_, fun i hi => ?_, fun i hi => ?_, fun i hi => ?_, fun i hi => Nat.lt_of_lt_of_le ?_ hb.size, fun i hi => ?_, fun i j hi hj e => ?_, h.G0, Nat.lt_of_lt_of_le h.G1 hb.size, fun i hi => ?_⟩
  · rw [cellG _ G c i _ _ (h.row i hi)]
    unfold rowV
    by_cases e : i = c
    · simp only [if_pos e]
    · simp only [if_neg e]
  · rw [World.frozen?_setCell]
    exact h.free i hi
  · by_cases e : i = c
    · simp only [if_pos e]; exact hY.keptBut hb hl hG
    · simp only [if_neg e]; exact (h.byt i hi).keptBut hb (h.lt i hi) (h.ne i hi)
  · by_cases e : i = c
    · simp only [if_pos e]; exact hB
    · simp only [if_neg e]; exact h.low i hi
  · by_cases e : i = c
    · simp only [if_pos e]; exact hl
    · simp only [if_neg e]; exact h.lt i hi
  · by_cases e : i = c
    · simp only [if_pos e]; exact hG
    · simp only [if_neg e]; exact h.ne i hi
  · by_cases e1 : i = c
    · by_cases e2 : j = c
      · omega
      · simp only [if_pos e1, if_neg e2] at e; exact absurd e.symm (hn j hj)
    · by_cases e2 : j = c
      · simp only [if_neg e1, if_pos e2] at e; exact absurd e (hn i hi)
      · simp only [if_neg e1, if_neg e2] at e; exact h.inj i j hi hj e
  · by_cases e : i = c
    · simp only [if_pos e]; exact hcp
    · simp only [if_neg e]; exact h.cap i hi
/-- A row's bytes changed. -/
theorem Rws.write {B G n m : Nat} {X : Nat → Nat → UInt8} {ρ κ : Nat → Nat} {w w' : World} (h : Rws B G n m X ρ κ w) (i : Nat) (hi : i < n) (k : But (ρ i) w w') (Y : Nat → UInt8) (hY : Byt (ρ i) m Y w') : Rws B G n m (fun r => if r = i then Y else X r) ρ κ w' :=
  ⟨fun r hr => by rw [k.cell (p := ⟨G, r, none⟩) h.G1 (Ne.symm (h.ne i hi))]; exact h.row r hr, fun r hr => by rw [k.frozen (p := ⟨G, r, none⟩) h.G1 (Ne.symm (h.ne i hi))]; exact h.free r hr, fun r hr => by
    by_cases e : r = i
    · subst e; simp only [if_pos]; exact hY
    · simp only [if_neg e]; exact (h.byt r hr).keptBut k (h.lt r hr) (fun e2 => e (h.inj r i hr hi e2)), h.low, fun r hr => Nat.lt_of_lt_of_le (h.lt r hr) k.size, h.ne, h.inj, h.G0, Nat.lt_of_lt_of_le h.G1 k.size, h.cap⟩
end Go.Proofs.Ythifdfbdekkmgaa
