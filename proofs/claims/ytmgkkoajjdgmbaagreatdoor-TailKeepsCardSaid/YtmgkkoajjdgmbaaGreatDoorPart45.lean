/- TailSteps, TailMay. -/
import Derived.Test.YtmgkkoajjdgmbaaGreatDoorPart41
import Derived.Test.YtmgkkoajjdgmbaaGreatDoorPart42
import Derived.Test.YtmgkkoajjdgmbaaGreatDoorPart33
import Derived.Deep.QuietTactic
import Derived.BigQuiet
set_option linter.unusedVariables false
set_option linter.unusedSimpArgs false
set_option linter.unusedSectionVars false
set_option linter.unnecessarySimpa false
set_option linter.deprecated false
/- A slice of steps that came in, opened; whether there are too many, or a text is too long. -/
namespace Go.Proofs.YtmgkkoajjdgmbaaGreatDoor
open Go.RowKit Go.Deep Sm Wr _root_.Go.Proofs.YtmgkkoajjdgmbaaGreatDoor.Nm
set_option linter.unusedVariables false
/-- One step: what to do, the number, the text, the rack's text. -/
structure TStp where
  op : Nat
  gen : Nat
  t : ByteArray
  rt : ByteArray
structure TStpAt (w : World) (b o i : Nat) (z : TStp) : Prop where
  c0 : w.cell? ⟨b, o + i * 7, none⟩ = some (.int .u8 (z.op : Nat))
  c1 : w.cell? ⟨b, o + i * 7 + 1, none⟩ = some (.int .u64 (z.gen : Nat))
  c2 : w.cell? ⟨b, o + i * 7 + 2, none⟩ = some (.string z.t)
  c6 : w.cell? ⟨b, o + i * 7 + 6, none⟩ = some (.string z.rt)
  bo : z.op ≤ 255
  bg : z.gen ≤ 18446744073709551615
  st : z.t.size ≤ maxLen
  sr : z.rt.size ≤ maxLen
theorem TStpAt.kept {w w' : World} {b o i : Nat} {z : TStp} (h : TStpAt w b o i z) (k : Kept w w') : TStpAt w' b o i z :=
  { h with c0 := cell_keptT h.c0 k, c1 := cell_keptT h.c1 k, c2 := cell_keptT h.c2 k, c6 := cell_keptT h.c6 k }
def IsTSteps (w : World) (a : Option Addr) (len cap : Nat) (zs : List TStp) : Prop :=
  (a = none ∧ len = 0 ∧ cap = 0 ∧ zs = []) ∨
  ∃ p, a = some p ∧ len ≤ cap ∧ cap ≤ maxLen ∧ zs.length = len ∧ ∀ (i : Nat) (h : i < zs.length), p.spot = none ∧ TStpAt w p.block p.off i zs[i]
def TStps (w : World) (a : Option Addr) (zs : List TStp) : Prop :=
  zs = [] ∨ ∃ b o, a = some ⟨b, o, none⟩ ∧ ∀ (i : Nat) (h : i < zs.length), TStpAt w b o i zs[i]
theorem IsTSteps.stps {w : World} {a : Option Addr} {len cap : Nat} {zs : List TStp} (h : IsTSteps w a len cap zs) : TStps w a zs ∧ zs.length = len ∧ len ≤ maxLen := by
  rcases h with ⟨rfl, rfl, rfl, rfl⟩ | ⟨p, rfl, hl, hm, hz, hq⟩
  · exact ⟨.inl rfl, rfl, by decide⟩
  · refine ⟨?_, hz, by omega⟩
    rcases Nat.eq_zero_or_pos zs.length with h0 | h0
    · exact .inl (List.length_eq_zero_iff.1 h0)
    · obtain ⟨b, o, spot⟩ := p
      have := (hq 0 h0).1
      dsimp only at this
      subst this
      exact .inr ⟨b, o, rfl, fun i hi => (hq i hi).2⟩
theorem subT (cs : List Value) (o m j : Nat) (hj : j < m) : ((cs.drop o).take m)[j]? = cs[o + j]? := by
  rw [List.getElem?_take, if_pos hj, List.getElem?_drop]
set_option maxRecDepth 100000 in
set_option maxHeartbeats 1000000 in
theorem open_tsteps {H : Type} {enc : TypeId × Value → H} {w : World} {base : Nat} {spare : Nat → Bool} {held : Bool} {fuel : Nat} {a : Option Addr} {len cap : Nat} {x : DataW H × List MemPlace}
    (h : DataW.trod enc Tryz.prog w base spare held fuel 23 [.slice a len cap] = some x) : ∃ zs, IsTSteps w a len cap zs := by
  have hC : Tryz.prog.cellsOf 42 = 7 := by kernel_rfl
  have c8 : Tryz.prog.cellsOf 5 = 1 := by kernel_rfl
  have cu : Tryz.prog.cellsOf 37 = 1 := by kernel_rfl
  have cst : Tryz.prog.cellsOf 9 = 1 := by kernel_rfl
  have c7 : Tryz.prog.cellsOf 40 = 4 := by kernel_rfl
  rcases open_slice Tryz.underlying23 h with ⟨hcs, _⟩ | ⟨p, l, c, m, n, D, Pl, hcs, hb, hl, hm, hmm, _, hi⟩
  · simp at hcs
    obtain ⟨rfl, rfl, rfl⟩ := hcs
    exact ⟨[], .inl ⟨rfl, rfl, rfl, rfl⟩⟩
  · simp at hcs
    obtain ⟨rfl, rfl, rfl⟩ := hcs
    have hlm : len ≤ m := by rw [hmm]; split <;> omega
    have hz : ∀ i, i < len → ∃ z : TStp, p.spot = none ∧ TStpAt w p.block p.off i z := by
      intro i hil
      have hspot : p.spot = none := by
        obtain ⟨cs', hc, _⟩ := hi 0 (by omega)
        rw [hC] at hc
        obtain ⟨_, hcl, hat⟩ := World.cells?_some hc
        have d0 := hat 0 (by omega)
        rw [add_add, List.getElem?_eq_getElem (by omega)] at d0
        have := World.cell?_spot d0
        simpa [Addr.add] using this
      obtain ⟨cs', hc, ht'⟩ := hi i (by omega)
      rw [hC] at hc
      obtain ⟨_, hcl, hat⟩ := World.cells?_some hc
      obtain ⟨xs, n', _, _, _, hlen, hf⟩ := DataW.trod_struct Tryz.underlying42 ht'
      match xs, hlen with
      | [y0, y1, y2, y3], _ =>
        have g0 : DataW.trod enc Tryz.prog w base spare held n' 5 ((cs'.drop 0).take (Tryz.prog.cellsOf 5)) = some y0 := by simpa using hf 0 _ rfl
        have g1 : DataW.trod enc Tryz.prog w base spare held n' 37 ((cs'.drop 1).take (Tryz.prog.cellsOf 37)) = some y1 := by simpa using hf 1 _ rfl
        have g2 : DataW.trod enc Tryz.prog w base spare held n' 9 ((cs'.drop 2).take (Tryz.prog.cellsOf 9)) = some y2 := by simpa using hf 2 _ rfl
        have g3 : DataW.trod enc Tryz.prog w base spare held n' 40 ((cs'.drop 3).take (Tryz.prog.cellsOf 40)) = some y3 := by simpa using hf 3 _ rfl
        rw [c7] at g3
        obtain ⟨z0, e0, v0⟩ := one_cell 0 Tryz.underlying5 c8 g0
        obtain ⟨z1, e1, v1⟩ := one_cell 1 Tryz.underlying37 cu g1
        obtain ⟨z2, e2, v2⟩ := one_text 2 Tryz.underlying9 cst g2
        obtain ⟨q0, q1, q2, q3, n2, _, j0, j1, j2, j3⟩ := trod4 Tryz.underlying40 g3
        obtain ⟨z6, e6, v6⟩ := one_text 3 Tryz.underlying9 cst j3
        rw [subT _ _ _ _ (by decide)] at e6
        have d0 := (hat 0 (by omega)).trans e0
        have d1 := (hat 1 (by omega)).trans e1
        have d2 := (hat 2 (by omega)).trans e2
        have d6 := (hat 6 (by omega)).trans e6
        obtain ⟨b, o, spot⟩ := p
        dsimp only at hspot
        subst hspot
        rw [add_add, Go.WideShapes.add_plain] at d0 d1 d2 d6
        have b0 := bounds_u8 v0
        have b1 := bounds_u64 v1
        obtain ⟨z0n, rfl⟩ : ∃ s : Nat, z0 = s := ⟨z0.toNat, by omega⟩
        obtain ⟨z1n, rfl⟩ : ∃ s : Nat, z1 = s := ⟨z1.toNat, by omega⟩
        exact ⟨⟨z0n, z1n, z2, z6⟩, rfl, d0, d1, d2, d6, by show z0n ≤ _; omega, by show z1n ≤ _; omega, v2, v6⟩
    obtain ⟨zs, hzl, hzq⟩ := list_of (fun i z => p.spot = none ∧ TStpAt w p.block p.off i z) len hz
    exact ⟨zs, .inr ⟨p, rfl, hl, hm, hzl, hzq⟩⟩
theorem TStps.kept {w w' : World} {a : Option Addr} {zs : List TStp} (h : TStps w a zs) (k : Kept w w') : TStps w' a zs := by
  rcases h with h | ⟨b, o, rfl, h⟩
  · exact .inl h
  · exact .inr ⟨b, o, rfl, fun i hi => (h i hi).kept k⟩
def tBig (z : TStp) : Bool := decide (4096 < z.t.size) || decide (1024 < z.rt.size)
def theavyB (zs : List TStp) : Bool := decide (100 < zs.length) || zs.any tBig
theorem theavy_not {zs : List TStp} (h : theavyB zs = false) : zs.length ≤ 100 ∧ ∀ (i : Nat) (hi : i < zs.length), zs[i].t.size ≤ 4096 := by
  unfold theavyB at h
  rw [Bool.or_eq_false_iff] at h
  refine ⟨by have := of_decide_eq_false h.1; omega, fun i hi => ?_⟩
  have h2 := List.any_eq_false.1 h.2 zs[i] (List.getElem_mem hi)
  have h3 : tBig zs[i] = false := by simpa using h2
  unfold tBig at h3
  rw [Bool.or_eq_false_iff] at h3
  have h4 := of_decide_eq_false h3.1
  omega
set_option maxHeartbeats 1000000 in
set_option maxRecDepth 100000 in
theorem theavy_any (a : Option Addr) (len cap : Nat) (zs : List TStp) (hl : zs.length = len) (hm : len ≤ maxLen) (w : World) (hS : TStps w a zs) :
    Calls Tryz.prog 8 #[.slice a len cap] w fun e w' => e = .returned (.bool (theavyB zs)) ∧ Kept w w' := by
  subst hl
  have hm2 : zs.length ≤ 9223372036854775807 := by unfold maxLen at hm; exact hm
  clear hm
  by_cases h200 : 100 < zs.length
  · have HB : Hid (theavyB zs = true) := by show _ = _; unfold theavyB; rw [decide_eq_true h200]; rfl
    have hb : decide ((100 : Int) < (zs.length : Nat)) = true := decide_eq_true (by omega)
    clear hS
    generalize zs.length = n at *
    go_enter Tryz.func8, Tryz.ntmps8
    go_wp2_with fail
    go_ret
    rw [HB.out]
    exact ⟨rfl, Kept.refl _⟩
  · have hb : decide ((100 : Int) < (zs.length : Nat)) = false := decide_eq_false (by omega)
    have HS := Lib.hid hS
    clear hS
    obtain ⟨n, hn⟩ : ∃ n, n = zs.length := ⟨_, rfl⟩
    rw [← hn] at hb h200 hm2
    rw [← hn]
    have HN := Lib.hid hn
    clear hn
    go_enter Tryz.func8, Tryz.ntmps8
    go_wp2_with fail
    go_loopw [3] (fun i wr => ∃ k : Nat, k ≤ n ∧ i = .int .i64 k ∧ wr = w ∧ Hid (∀ (j : Nat) (hj : j < zs.length), j < k → tBig zs[j] = false)) (fun i _ => n - (intOf i).toNat)
    case atStart => exact ⟨0, Nat.zero_le _, rfl, rfl, fun j hj h => absurd h (by omega)⟩
    case round =>
      obtain ⟨k, hk, rfl, rfl, HA⟩ := hrel
      by_cases hlt : k < n
      · have hkz : k < zs.length := by rw [← HN.out]; exact hlt
        rcases HS.out with h0 | ⟨b, o, rfl, hq⟩
        · rw [h0] at hkz; cases hkz
        · have c2 := (hq k hkz).c2
          have c6 := (hq k hkz).c6
          have hsz1 := (hq k hkz).st
          have hsz2 := (hq k hkz).sr
          have HSZ : Hid (tBig zs[k] = false → ∀ (j : Nat) (hj : j < zs.length), j < k + 1 → tBig zs[j] = false) := fun h j hj hjk => by
            by_cases e : j = k
            · subst e; exact h
            · exact HA.out j hj (by omega)
          have HBT : Hid (tBig zs[k] = true → theavyB zs = true) := fun h => by
            unfold theavyB
            rw [List.any_eq_true.2 ⟨zs[k], List.getElem_mem hkz, h⟩]
            simp
          have HBD : Hid (tBig zs[k] = (decide (4096 < zs[k].t.size) || decide (1024 < zs[k].rt.size))) := rfl
          have hs1 : zs[k].t.size ≤ 9223372036854775807 := by unfold maxLen at hsz1; exact hsz1
          have hs2 : zs[k].rt.size ≤ 9223372036854775807 := by unfold maxLen at hsz2; exact hsz2
          generalize tBig zs[k] = B at *
          generalize zs[k].t = u at *
          generalize zs[k].rt = u' at *
          have c6b : wr.cell? ⟨b, o + k * 7 + 3 + 3, none⟩ = some (.string u') := c6
          clear hq hsz1 hsz2
          by_cases h3 : 4096 < u.size
          · have hb3 : decide ((4096 : Int) < (u.size : Nat)) = true := decide_eq_true (by omega)
            have HR := Lib.hid (HBT.out (by rw [HBD.out, decide_eq_true h3]; rfl))
            clear h3
            go_wp2_with fail
            go_ret
            rw [HR.out]
            exact ⟨rfl, Kept.refl _⟩
          · have hb3 : decide ((4096 : Int) < (u.size : Nat)) = false := decide_eq_false (by omega)
            by_cases h4 : 1024 < u'.size
            · have hb4 : decide ((1024 : Int) < (u'.size : Nat)) = true := decide_eq_true (by omega)
              have HR := Lib.hid (HBT.out (by rw [HBD.out, decide_eq_true h4]; simp))
              clear h3 h4
              go_wp2_with fail
              go_ret
              rw [HR.out]
              exact ⟨rfl, Kept.refl _⟩
            · have hb4 : decide ((1024 : Int) < (u'.size : Nat)) = false := decide_eq_false (by omega)
              have HR := Lib.hid (HSZ.out (by rw [HBD.out, decide_eq_false h3, decide_eq_false h4]; rfl))
              clear h3 h4
              go_wp2_with fail
              exact ⟨⟨k + 1, by omega, by go_num, trivial, HR⟩, by simp [intOf]; omega⟩
      · have HR : Hid (theavyB zs = false) := by
          show _ = _
          unfold theavyB
          rw [Bool.or_eq_false_iff]
          refine ⟨decide_eq_false (by rw [← HN.out]; omega), List.any_eq_false.2 fun z hz => ?_⟩
          obtain ⟨j, hj, rfl⟩ := List.getElem_of_mem hz
          have := HA.out j hj (by have := HN.out; omega)
          simp [this]
        go_wp2_with fail
        go_ret
        rw [HR.out]
        exact ⟨rfl, Kept.refl _⟩
end Go.Proofs.YtmgkkoajjdgmbaaGreatDoor

/- The document's geo: which may be. -/
namespace Go.Proofs.YtmgkkoajjdgmbaaGreatDoor
open Go.RowKit Sm Wr _root_.Go.Proofs.YtmgkkoajjdgmbaaGreatDoor.Nm
set_option linter.unusedVariables false
set_option linter.unusedSimpArgs false
set_option maxRecDepth 100000 in
theorem gMay_any (g : Geo) (w : World) :
    Calls Tryz.prog 10 #[g.val] w fun e w' => e = .returned (.bool g.may) ∧ Kept w w' := by
  have fin : ∀ r : Bool, (r = true ↔ g.may = true) → Ending.returned (.bool r) = Ending.returned (.bool g.may) := fun r h => by rw [Bool.eq_iff_iff.2 h]
  have HM := Lib.hid g.may_iff
  have HF := Lib.hid fin
  clear fin
  obtain ⟨a, b, c, d⟩ := g
  unfold Geo.val
  dsimp only at *
  generalize Geo.may ⟨a, b, c, d⟩ = mb at *
  by_cases ht : 2 ≤ d ∧ d ≤ 512
  · obtain ⟨t1, t2⟩ := ht
    go_enter Tryz.func10, Tryz.ntmps10
    go_wp2_with fail
    all_goals
      go_ret
      refine ⟨HF.out _ ?_, (Kept.refl _).alloc _⟩
      rw [HM.out]
      clear HF HM
      simp only [decide_eq_true_eq, Bool.false_eq_true, false_iff, true_iff]
      omega
  · go_enter Tryz.func10, Tryz.ntmps10
    go_wp2_with fail
    all_goals
      go_ret
      refine ⟨HF.out _ ?_, (Kept.refl _).alloc _⟩
      rw [HM.out]
      clear HF HM
      simp only [decide_eq_true_eq, Bool.false_eq_true, false_iff, true_iff]
      omega

end Go.Proofs.YtmgkkoajjdgmbaaGreatDoor

