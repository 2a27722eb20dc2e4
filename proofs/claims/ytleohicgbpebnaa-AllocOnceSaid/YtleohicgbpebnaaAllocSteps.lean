/- A slice of steps that came in, opened: what to do, a number, a list of rows. Are there too many? -/
import Derived.Test.YtleohicgbpebnaaAllocAlive
import Derived.Deep.Slices
import Derived.Deep.Strs
import Derived.ChangeArms
import Derived.ChangeSlices
import Derived.OpenShut
namespace Go.Proofs.Ytleohicgbpebnaa
open Go.RowKit Go.Deep
set_option linter.unusedVariables false
/-- One step: what to do, how many, and which rows: where these lie. -/
structure AStp where
  op : Int
  k : Int
  a : Option Addr
  ln : Nat
  cap : Nat
  l : List Int
/-- What element i of such a slice at block b from o on is. -/
def AStpAt (w : World) (b o i : Nat) (z : AStp) : Prop :=
  w.cell? ⟨b, o + i * 3, none⟩ = some (.int .i64 z.op) ∧ w.cell? ⟨b, o + i * 3 + 1, none⟩ = some (.int .i64 z.k) ∧ w.cell? ⟨b, o + i * 3 + 2, none⟩ = some (.slice z.a z.ln z.cap) ∧
    (-9223372036854775808 ≤ z.op ∧ z.op ≤ 9223372036854775807) ∧ (-9223372036854775808 ≤ z.k ∧ z.k ≤ 9223372036854775807) ∧ z.l.length = z.ln ∧ z.ln ≤ maxLen ∧ Ints .i64 w z.a z.l ∧ ∀ r ∈ z.l, -9223372036854775808 ≤ r ∧ r ≤ 9223372036854775807
/-- A slice of such. -/
def IsASteps (w : World) (a : Option Addr) (len cap : Nat) (zs : List AStp) : Prop :=
  (a = none ∧ len = 0 ∧ cap = 0 ∧ zs = []) ∨
  ∃ p, a = some p ∧ len ≤ cap ∧ cap ≤ maxLen ∧ zs.length = len ∧ ∀ (i : Nat) (h : i < zs.length), p.spot = none ∧ AStpAt w p.block p.off i zs[i]
theorem list_of {α : Type} (Q : Nat → α → Prop) (n : Nat) (h : ∀ i, i < n → ∃ z, Q i z) : ∃ zs : List α, zs.length = n ∧ ∀ (i : Nat) (hi : i < zs.length), Q i zs[i] := by
  induction n with
  | zero => exact ⟨[], rfl, fun i hi => by simp at hi⟩
  | succ n ih =>
    obtain ⟨zs, hl, hq⟩ := ih (fun i hi => h i (by omega))
    obtain ⟨z, hz⟩ := h n (by omega)
    refine ⟨zs ++ [z], by simp [hl], fun i hi => ?_⟩
    rw [List.length_append, List.length_singleton] at hi
    rcases Nat.lt_or_ge i zs.length with h1 | h1
    · rw [List.getElem_append_left h1]
      exact hq i h1
    · obtain rfl : i = n := by omega
      rw [List.getElem_append_right h1]
      simpa using hz
theorem one_cell {P : Program} {H : Type} {enc : TypeId × Value → H} {w : World} {base : Nat} {spare : Nat → Bool} {held : Bool} {n : Nat} {k : IntKind} {t : TypeId} {cs : List Value} {y : DataW H × List MemPlace} (o : Nat) (ht : P.underlying t = some (.int k)) (hc : P.cellsOf t = 1)
    (h : DataW.trod enc P w base spare held n t ((cs.drop o).take (P.cellsOf t)) = some y) : ∃ z, cs[o]? = some (.int k z) ∧ (Lit.int k z).wf = true := by
  obtain ⟨z, h1, _, h2⟩ := DataW.trod_int ht h
  rw [hc] at h1
  refine ⟨z, ?_, h2⟩
  have h3 := congrArg (fun l => l[0]?) h1
  simpa [List.getElem?_take, List.getElem?_drop] using h3
theorem wf_i64 {x : Int} (h : (Lit.int .i64 x).wf = true) : -9223372036854775808 ≤ x ∧ x ≤ 9223372036854775807 := by
  have := bounds_i64 h
  omega
theorem trod3 {P : Program} {H : Type} {enc : TypeId × Value → H} {w : World} {base : Nat} {spare : Nat → Bool} {held : Bool} {t : TypeId} {f0 f1 f2 : Field} {fuel : Nat} {cs : List Value} {x : DataW H × List MemPlace} (ht : P.underlying t = some (.struct #[f0, f1, f2])) (h : DataW.trod enc P w base spare held fuel t cs = some x) :
    ∃ y0 y1 y2 n, cs.length = P.cellsOf t ∧ DataW.trod enc P w base spare held n f0.type ((cs.drop f0.offset).take (P.cellsOf f0.type)) = some y0 ∧ DataW.trod enc P w base spare held n f1.type ((cs.drop f1.offset).take (P.cellsOf f1.type)) = some y1 ∧
      DataW.trod enc P w base spare held n f2.type ((cs.drop f2.offset).take (P.cellsOf f2.type)) = some y2 := by
  obtain ⟨xs, n, _, rfl, hl, hlen, hf⟩ := DataW.trod_struct ht h
  match xs, hlen with
  | [y0, y1, y2], _ => exact ⟨y0, y1, y2, n, hl, by simpa using hf 0 f0 rfl, by simpa using hf 1 f1 rfl, by simpa using hf 2 f2 rfl⟩
theorem one_ints {P : Program} {H : Type} {enc : TypeId × Value → H} {w : World} {base : Nat} {spare : Nat → Bool} {held : Bool} {n : Nat} {t e : TypeId} {cs : List Value} {y : DataW H × List MemPlace} (o : Nat) (ht : P.underlying t = some (.slice e)) (he : P.underlying e = some (.int .i64)) (hc : P.cellsOf t = 1) (hce : P.cellsOf e = 1)
    (h : DataW.trod enc P w base spare held n t ((cs.drop o).take (P.cellsOf t)) = some y) : ∃ a ln cap l, cs[o]? = some (.slice a ln cap) ∧ l.length = ln ∧ ln ≤ maxLen ∧ Ints .i64 w a l ∧ ∀ r ∈ l, -9223372036854775808 ≤ r ∧ r ≤ 9223372036854775807 := by
  have hget : ∀ v, (cs.drop o).take (P.cellsOf t) = [v] → cs[o]? = some v := fun v h1 => by
    rw [hc] at h1
    have h3 := congrArg (fun l => l[0]?) h1
    simpa [List.getElem?_take, List.getElem?_drop] using h3
  rcases Go.ChangeShapes.open_ints ht he hce h with ⟨h1, _⟩ | ⟨a, ln, cap, zs, h1, _, hl, hm, hz, _, hcell, hwf⟩
  · exact ⟨none, 0, 0, [], hget _ h1, rfl, Nat.zero_le _, .inl rfl, fun r hr => by cases hr⟩
  · have hzl : ln ≤ zs.length := by rw [hz]; split <;> omega
    refine ⟨some a, ln, cap, zs.take ln, hget _ h1, by rw [List.length_take]; omega, by omega, ?_, fun r hr => wf_i64 (hwf r (List.mem_of_mem_take hr))⟩
    rcases Nat.eq_zero_or_pos ln with h0 | h0
    · left; rw [h0]; simp
    · right
      obtain ⟨b, off, spot⟩ := a
      have hspot : spot = none := by simpa [Addr.add] using World.cell?_spot (hcell 0 (by omega))
      subst hspot
      refine ⟨b, off, rfl, fun i hi => ?_⟩
      rw [List.length_take] at hi
      have h1 := hcell i (by omega)
      rw [Go.WideShapes.add_plain] at h1
      rw [h1]
      unfold nthI
      congr 2
      simp [List.getD, List.getElem?_take_of_lt (show i < ln by omega)]
theorem open_asteps {H : Type} {enc : TypeId × Value → H} {w : World} {base : Nat} {spare : Nat → Bool} {held : Bool} {fuel : Nat} {a : Option Addr} {len cap : Nat} {x : DataW H × List MemPlace}
    (h : DataW.trod enc Try.prog w base spare held fuel 23 [.slice a len cap] = some x) : ∃ zs, IsASteps w a len cap zs := by
  have hC : Try.prog.cellsOf 34 = 3 := by kernel_rfl
  rcases open_slice Try.underlying23 h with ⟨hcs, _⟩ | ⟨p, l, c, m, n, D, Pl, hcs, hb, hl, hm, hmm, _, hi⟩
  · simp at hcs
    obtain ⟨rfl, rfl, rfl⟩ := hcs
    exact ⟨[], .inl ⟨rfl, rfl, rfl, rfl⟩⟩
  · simp at hcs
    obtain ⟨rfl, rfl, rfl⟩ := hcs
    have hlm : len ≤ m := by rw [hmm]; split <;> omega
    have hz : ∀ i, i < len → ∃ z : AStp, p.spot = none ∧ AStpAt w p.block p.off i z := by
      intro i hil
      have hspot : p.spot = none := by
        obtain ⟨cs', hc, _⟩ := hi 0 (by omega)
        rw [hC] at hc
        obtain ⟨_, hcl, hat⟩ := World.cells?_some hc
        have d0 := hat 0 (by omega)
        rw [add_add, List.getElem?_eq_getElem (by omega)] at d0
        have := World.cell?_spot d0
        simpa [Addr.add] using this
      obtain ⟨cs', hc, ht'⟩ := hi i (by omega)
      rw [hC] at hc
      obtain ⟨_, hcl, hat⟩ := World.cells?_some hc
      obtain ⟨y0, y1, y2, n', _, g0, g1, g2⟩ := trod3 Try.underlying34 ht'
      obtain ⟨z0, e0, v0⟩ := one_cell 0 Try.underlying3 (by kernel_rfl) g0
      obtain ⟨z1, e1, v1⟩ := one_cell 1 Try.underlying3 (by kernel_rfl) g1
      obtain ⟨a2, ln2, cap2, l2, e2, v2, v3, v4, v5⟩ := one_ints 2 Try.underlying22 Try.underlying3 (by kernel_rfl) (by kernel_rfl) g2
      have d0 := (hat 0 (by omega)).trans e0
      have d1 := (hat 1 (by omega)).trans e1
      have d2 := (hat 2 (by omega)).trans e2
      obtain ⟨b, o, spot⟩ := p
      dsimp only at hspot
      subst hspot
      rw [add_add, Go.WideShapes.add_plain] at d0 d1 d2
      exact ⟨⟨z0, z1, a2, ln2, cap2, l2⟩, rfl, d0, d1, d2, wf_i64 v0, wf_i64 v1, v2, v3, v4, v5⟩
    obtain ⟨zs, hzl, hzq⟩ := list_of (fun i z => p.spot = none ∧ AStpAt w p.block p.off i z) len hz
    exact ⟨zs, .inr ⟨p, rfl, hl, hm, hzl, hzq⟩⟩
/-- The steps lie there, behind a pointer of the slice. -/
def AStps (w : World) (a : Option Addr) (zs : List AStp) : Prop :=
  zs = [] ∨ ∃ b o, a = some ⟨b, o, none⟩ ∧ ∀ (i : Nat) (h : i < zs.length), AStpAt w b o i zs[i]
theorem IsASteps.stps {w : World} {a : Option Addr} {len cap : Nat} {zs : List AStp} (h : IsASteps w a len cap zs) : AStps w a zs ∧ zs.length = len ∧ len ≤ maxLen := by
  rcases h with ⟨rfl, rfl, rfl, rfl⟩ | ⟨p, rfl, hl, hm, hz, hq⟩
  · exact ⟨.inl rfl, rfl, by decide⟩
  · refine ⟨?_, hz, by omega⟩
    rcases Nat.eq_zero_or_pos zs.length with h0 | h0
    · exact .inl (List.length_eq_zero_iff.1 h0)
    · obtain ⟨b, o, spot⟩ := p
      have := (hq 0 h0).1
      dsimp only at this
      subst this
      exact .inr ⟨b, o, rfl, fun i hi => (hq i hi).2⟩
theorem cell_kept {w w' : World} {b o : Nat} {v : Value} (h : w.cell? ⟨b, o, none⟩ = some v) (k : Kept w w') : w'.cell? ⟨b, o, none⟩ = some v := by
  rw [Below.cell (p := ⟨b, o, none⟩) k (block_lt_of_cell h)]; exact h
theorem AStpAt.kept {w w' : World} {b o i : Nat} {z : AStp} (h : AStpAt w b o i z) (k : Kept w w') : AStpAt w' b o i z := by
  obtain ⟨h0, h1, h2, h3, h4, h5, h6, h7, h8⟩ := h
  exact ⟨cell_kept h0 k, cell_kept h1 k, cell_kept h2 k, h3, h4, h5, h6, h7.kept k, h8⟩
theorem AStps.kept {w w' : World} {a : Option Addr} {zs : List AStp} (h : AStps w a zs) (k : Kept w w') : AStps w' a zs := by
  rcases h with h | ⟨b, o, rfl, h⟩
  · exact .inl h
  · exact .inr ⟨b, o, rfl, fun i hi => (h i hi).kept k⟩
/-- Not too many. -/
def Light (zs : List AStp) (na nb : Nat) : Prop := zs.length ≤ 200 ∧ na ≤ 2000 ∧ nb ≤ 2000 ∧ ∀ (i : Nat) (hi : i < zs.length), zs[i].ln ≤ 200
def GotHeavy (zs : List AStp) (na nb : Nat) (w : World) (e : Ending) (w' : World) : Prop := ∃ v : Bool, e = .returned (.bool v) ∧ (v = false → Light zs na nb) ∧ w' = w
set_option maxHeartbeats 1000000 in
set_option maxRecDepth 100000 in
theorem heavy_any (a : Option Addr) (len cap : Nat) (zs : List AStp) (hl : zs.length = len) (hm : len ≤ maxLen) (w : World) (hS : AStps w a zs) (b c : Option Addr) (nb cb nc cc : Nat) (hnb : nb ≤ maxLen) (hnc : nc ≤ maxLen) :
    Calls Try.prog 7 #[.slice a len cap, .slice b nb cb, .slice c nc cc] w fun e w' => GotHeavy zs nb nc w e w' := by
  subst hl
  unfold maxLen at hm hnb hnc
  have HS := Lib.hid hS
  clear hS
  obtain ⟨n, hn⟩ : ∃ n, n = zs.length := ⟨_, rfl⟩
  rw [← hn] at hm ⊢
  have HN := Lib.hid hn
  clear hn
  go_enter Try.func7, Try.ntmps7
  go_wp2_with fail
  go_loopw [7, 8] (fun s i wr => ∃ k t : Nat, k ≤ n ∧ k ≤ 300 ∧ t ≤ 200 * k ∧ s = .int .i64 t ∧ i = .int .i64 k ∧ wr = w ∧ Hid (∀ (j : Nat) (hj : j < zs.length), j < k → zs[j].ln ≤ 200)) (fun _ i _ => n - (intOf i).toNat)
  case atStart => exact ⟨0, 0, Nat.zero_le _, Nat.zero_le _, Nat.zero_le _, rfl, rfl, rfl, fun j hj h => absurd h (by omega)⟩
  case round =>
    obtain ⟨k, t, hk, hk3, ht, rfl, rfl, rfl, HA⟩ := hrel
    by_cases hlt : k < n ∧ k < 300
    · obtain ⟨hlt, h300⟩ := hlt
      have hkz : k < zs.length := by rw [← HN.out]; exact hlt
      rcases HS.out with h0 | ⟨b, o, rfl, hq⟩
      · rw [h0] at hkz; cases hkz
      · obtain ⟨_, _, c2, _, _, _, hmx, _, _⟩ := hq k hkz
        have HSZ : Hid (zs[k].ln ≤ 200 → ∀ (j : Nat) (hj : j < zs.length), j < k + 1 → zs[j].ln ≤ 200) := fun h j hj hjk => by
          by_cases e : j = k
          · subst e; exact h
          · exact HA.out j hj (by omega)
        generalize zs[k].ln = q at *
        generalize zs[k].a = qa at *
        generalize zs[k].cap = qc at *
        unfold maxLen at hmx
        clear hq
        by_cases h2 : 200 < q
        · have hb2 : decide ((200 : Int) < (q : Nat)) = true := decide_eq_true (by omega)
          clear h2 HSZ
          go_wp2_with fail
          go_ret
          exact ⟨true, rfl, (fun h => by cases h), rfl⟩
        · have hb2 : decide ((200 : Int) < (q : Nat)) = false := decide_eq_false (by omega)
          have HR := Lib.hid (HSZ.out (by omega))
          go_wp2_with fail
          go_roundw
          case rel => exact ⟨k + 1, t + q, by omega, by omega, by omega, by go_num, by go_num, trivial, HR.out⟩
          case measure => simp [intOf]; omega
    · have HFIN : Hid (n ≤ 200 → nb ≤ 2000 → nc ≤ 2000 → Light zs nb nc) := fun h1 h2 h3 => ⟨by rw [← HN.out]; exact h1, h2, h3, fun i hi => HA.out i hi (by have := HN.out; omega)⟩
      have hkk : decide (k < n) = false ∨ (decide (k < n) = true ∧ decide ((k : Int) < 300) = false) := by
        by_cases h1 : k < n
        · exact .inr ⟨decide_eq_true h1, decide_eq_false (by omega)⟩
        · exact .inl (decide_eq_false h1)
      clear HA HS
      have hall : decide ((200 : Int) < (n : Nat)) = true ∨ (decide ((200 : Int) < (n : Nat)) = false ∧ (decide ((2000 : Int) < (t : Nat)) = true ∨ (decide ((2000 : Int) < (t : Nat)) = false ∧ (decide ((2000 : Int) < (nb : Nat)) = true ∨ (decide ((2000 : Int) < (nb : Nat)) = false ∧ (decide ((2000 : Int) < (nc : Nat)) = true ∨ decide ((2000 : Int) < (nc : Nat)) = false)))))) := by
        cases h1 : decide ((200 : Int) < (n : Nat)) <;> cases h2 : decide ((2000 : Int) < (t : Nat)) <;> cases h3 : decide ((2000 : Int) < (nb : Nat)) <;> cases h4 : decide ((2000 : Int) < (nc : Nat)) <;> simp
      rcases hkk with hk1 | ⟨hk1, hk2⟩
      all_goals
        rcases hall with h1 | ⟨h1, h2 | ⟨h2, h3 | ⟨h3, h4 | h4⟩⟩⟩
      all_goals
        go_wp2_with fail
        go_ret
        first
          | exact ⟨true, rfl, (fun h => by cases h), rfl⟩
          | exact ⟨false, rfl, fun _ => HFIN.out (by have := of_decide_eq_false h1; omega) (by have := of_decide_eq_false h3; omega) (by have := of_decide_eq_false h4; omega), rfl⟩
end Go.Proofs.Ytleohicgbpebnaa
