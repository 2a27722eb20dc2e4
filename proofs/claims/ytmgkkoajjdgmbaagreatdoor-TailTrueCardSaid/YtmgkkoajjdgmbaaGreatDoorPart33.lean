/- A geo, plain; the program's: which may be. -/
import Derived.Test.YtmgkkoajjdgmbaaGreatDoorPart20
import Derived.Test.YtmgkkoajjdgmbaaGreatDoorPart17
import Derived.Test.YtmgkkoajjdgmbaaGreatDoorPart7
import Derived.Test.YtmgkkoajjdgmbaaGreatDoorPart11
import Derived.Deep.Quiet
import Derived.Deep.QuietTactic
import Derived.BigQuiet
import Derived.WalkKit
import Derived.WalkSmall
set_option linter.unusedVariables false
set_option linter.unusedSimpArgs false
set_option linter.unusedSectionVars false
set_option linter.unnecessarySimpa false
set_option linter.deprecated false
namespace Go.Proofs.YtmgkkoajjdgmbaaGreatDoor
open Go.RowKit Sm Wr _root_.Go.Proofs.YtmgkkoajjdgmbaaGreatDoor.Nm
set_option linter.unusedVariables false
/-- A geo: drives, parity, sectors, tail. -/
structure Geo where
  n : Int
  p : Int
  m : Int
  t : Int
namespace Geo
def val (g : Geo) : Value := .agg #[.int .i64 g.n, .int .i64 g.p, .int .i64 g.m, .int .i64 g.t]
structure Wf (g : Geo) : Prop where
  n1 : -9223372036854775808 ≤ g.n
  n2 : g.n ≤ 9223372036854775807
  p1 : -9223372036854775808 ≤ g.p
  p2 : g.p ≤ 9223372036854775807
  m1 : -9223372036854775808 ≤ g.m
  m2 : g.m ≤ 9223372036854775807
  t1 : -9223372036854775808 ≤ g.t
  t2 : g.t ≤ 9223372036854775807
def may (g : Geo) : Bool := decide (1 ≤ g.n ∧ g.n ≤ 12 ∧ 0 ≤ g.p ∧ g.p < g.n ∧ 2 ≤ g.t ∧ g.t ≤ 512 ∧ g.m ≤ 4096 ∧ 10 + 2 * g.t ≤ g.m)
theorem may_iff (g : Geo) : g.may = true ↔ 1 ≤ g.n ∧ g.n ≤ 12 ∧ 0 ≤ g.p ∧ g.p < g.n ∧ 2 ≤ g.t ∧ g.t ≤ 512 ∧ g.m ≤ 4096 ∧ 10 + 2 * g.t ≤ g.m := decide_eq_true_iff
/-- Does a rack fit? -/
def fits (g : Geo) (s : RSt) : Bool := g.may && decide ((s.n : Int) = g.n) && decide ((s.m : Int) = g.m)
end Geo
theorem readT_64 (s : RSt) (h : s.Wf) (d i : Int) (he : s.readE d i = 0) : (s.readT d i).size = 64 := by
  unfold RSt.readT
  rw [if_pos he]
  have ht : s.there d i = true := by
    unfold RSt.readE at he
    split at he
    · cases he
    · split at he
      · cases he
      · rename_i h2; cases hq : s.there d i
        · exact absurd hq h2
        · rfl
  obtain ⟨d', i', rfl, rfl, hd, hi⟩ := RSt.there_iff ht
  rw [Int.toNat_natCast, Int.toNat_natCast, mk_len]
  exact h.len d' i' hd hi
structure GeoAt (w : World) (b : Nat) (g : Geo) : Prop where
  c0 : w.cell? ⟨b, 0, none⟩ = some (.int .i64 g.n)
  c1 : w.cell? ⟨b, 1, none⟩ = some (.int .i64 g.p)
  c2 : w.cell? ⟨b, 2, none⟩ = some (.int .i64 g.m)
  c3 : w.cell? ⟨b, 3, none⟩ = some (.int .i64 g.t)
theorem GeoAt.frame {w w' : World} {b : Nat} {g : Geo} (h : GeoAt w b g) (e : w'.heap[b]? = w.heap[b]?) : GeoAt w' b g := by
  have ce : ∀ o, w'.cell? ⟨b, o, none⟩ = w.cell? ⟨b, o, none⟩ := fun o => World.cell?_of_block (w := w) (a := ⟨b, o, none⟩) e
  exact ⟨by rw [ce]; exact h.c0, by rw [ce]; exact h.c1, by rw [ce]; exact h.c2, by rw [ce]; exact h.c3⟩
theorem GeoAt.lt {w : World} {b : Nat} {g : Geo} (h : GeoAt w b g) : b < w.heap.size := block_lt_of_cell h.c0
theorem GeoAt.kept {w w' : World} {b : Nat} {g : Geo} (h : GeoAt w b g) (k : Kept w w') : GeoAt w' b g := h.frame (k.block b h.lt)
theorem GeoAt.only {w w' : World} {b lo hi : Nat} {g : Geo} (h : GeoAt w b g) (k : Only lo hi w w') (hb : hi ≤ b) : GeoAt w' b g := h.frame (k.block b h.lt (.inr hb))
theorem GeoAt.laid (w : World) (T : TypeId) (g : Geo) : GeoAt (w.alloc (.cells #[.int .i64 g.n, .int .i64 g.p, .int .i64 g.m, .int .i64 g.t] T)) w.heap.size g := by
  constructor
  all_goals (rw [World.cell?_alloc_mark]; rfl)
theorem ahead_any (g : Geo) (w : World) (h1 : 2 ≤ g.t) (h2 : g.t ≤ 512) :
    Calls Tryz.prog 66 #[g.val] w fun e w' => e = .returned (.int .i64 (2 + 2 * g.t)) ∧ Kept w w' := by
  obtain ⟨a, b, c, d⟩ := g
  dsimp only at h1 h2 ⊢
  unfold Geo.val
  dsimp only
  go_enter Tryz.func66, Tryz.ntmps66
  go_wp2_with fail
  go_ret
  exact ⟨rfl, (Kept.refl _).alloc _⟩
theorem wp_quietG {P : Program} {C : World → Prop} {id : Nat} {Q : Exit → Act → World → Prop} {a : Act} {w : World} {l : List Oper} (hm : P.follows .mixedOrders = true) (hB : Region.lexB .any l.toArray = true) (hC : C w.drew)
    (h : wpQuiet P l.toArray C (fun a' => ∀ w', C w' → Q .normal a' w') l a) : (Code.region id l.toArray true).wp P Q a w :=
  wp_region_quiet (C := C) hm hB hC (by simpa using h)
set_option maxHeartbeats 2000000 in
set_option maxRecDepth 100000 in
theorem pGeo_any (g : Geo) (w : World) :
    Calls Tryz.prog 48 #[g.val] w fun e w' => e = .returned (.bool g.may) ∧ Kept w w' := by
  have fin : ∀ r : Bool, (r = true ↔ g.may = true) → Ending.returned (.bool r) = Ending.returned (.bool g.may) := fun r h => by rw [Bool.eq_iff_iff.2 h]
  have HM := Lib.hid g.may_iff
  have HF := Lib.hid fin
  have HA := Lib.hid (fun W h1 h2 => ahead_any g W h1 h2)
  have HG := Lib.hid (fun W k => (GeoAt.laid w 28 g).kept (w' := W) k)
  clear fin
  obtain ⟨a, b, c, d⟩ := g
  have HCL : Hid (∀ W, Kept (w.alloc (.cells #[.int .i64 a, .int .i64 b, .int .i64 c, .int .i64 d] 28)) W → W.cell? ⟨w.heap.size, 0, none⟩ = some (.int .i64 a) ∧ W.cell? ⟨w.heap.size, 1, none⟩ = some (.int .i64 b) ∧ W.cell? ⟨w.heap.size, 2, none⟩ = some (.int .i64 c) ∧ W.cell? ⟨w.heap.size, 3, none⟩ = some (.int .i64 d)) := fun W k => ⟨(HG.out W k).c0, (HG.out W k).c1, (HG.out W k).c2, (HG.out W k).c3⟩
  clear HG
  unfold Geo.val at *
  dsimp only at *
  generalize Geo.may ⟨a, b, c, d⟩ = mb at *
  have HK0 : Hid (Kept w (w.alloc (.cells #[.int .i64 a, .int .i64 b, .int .i64 c, .int .i64 d] 28))) := (Kept.refl _).alloc _
  by_cases h : 1 ≤ a ∧ a ≤ 12 ∧ 0 ≤ b ∧ b < a ∧ 2 ≤ d ∧ d ≤ 512
  · obtain ⟨h1, h2, h3, h4, h5, h6⟩ := h
    have HA2 := Lib.hid (fun W => HA.out W h5 h6)
    have b1 : decide (1 ≤ a) = true := decide_eq_true h1
    have b2 : decide (a ≤ 12) = true := decide_eq_true h2
    have b3 : decide (0 ≤ b) = true := decide_eq_true h3
    have b4 : decide (b < a) = true := decide_eq_true h4
    have b5 : decide (2 ≤ d) = true := decide_eq_true h5
    have b6 : decide (d ≤ 512) = true := decide_eq_true h6
    clear HA
    go_enter Tryz.func48, Tryz.ntmps48
    go_wp2_with fail
    generalize w.alloc (.cells #[.int .i64 a, .int .i64 b, .int .i64 c, .int .i64 d] 28) = w1 at *
    refine wp_quietG (C := fun W => Kept w1 W) (by kernel_rfl) (by kernel_rfl) ((Kept.refl w1).drew) ?_
    have hw : IntKind.i64.wrap (2 + 2 * d + 8) = 2 + 2 * d + 8 := IntWalk.i64_in _ (by omega)
    by_cases h7 : 2 + 2 * d + 8 ≤ c
    · have b7 : decide (2 + 2 * d + 8 ≤ c) = true := decide_eq_true h7
      repeat (first
        | go_big_quiet_skip
        | (go_big_quiet_want
           refine ⟨_, fun W hW => by
             obtain ⟨c0, c1, c2, c3⟩ := HCL.out W hW
             unfold Oper.quietAt
             go_simp
             first
               | exact rfl
               | exact (HA2.out W).mono fun e w' h => ⟨h.1, hW.trans h.2⟩, ?_⟩
           go_simp
           go_big_quiet_on))
      refine wpQuiet_nil ?_
      intro W hW
      have HKW : Hid (Kept w W) := HK0.out.trans hW
      clear hW
      go_wp2_with fail
      go_ret
      refine ⟨HF.out _ ?_, HKW.out⟩
      rw [HM.out]
      clear HF HM
      simp only [decide_eq_true_eq, h1, h2, h3, h4, h5, h6, true_and]
      omega
    · have b7 : decide (2 + 2 * d + 8 ≤ c) = false := decide_eq_false h7
      repeat (first
        | go_big_quiet_skip
        | (go_big_quiet_want
           refine ⟨_, fun W hW => by
             obtain ⟨c0, c1, c2, c3⟩ := HCL.out W hW
             unfold Oper.quietAt
             go_simp
             first
               | exact rfl
               | exact (HA2.out W).mono fun e w' h => ⟨h.1, hW.trans h.2⟩, ?_⟩
           go_simp
           go_big_quiet_on))
      refine wpQuiet_nil ?_
      intro W hW
      have HKW : Hid (Kept w W) := HK0.out.trans hW
      clear hW
      go_wp2_with fail
      go_ret
      refine ⟨HF.out _ ?_, HKW.out⟩
      rw [HM.out]
      clear HF HM
      simp only [Bool.false_eq_true, h1, h2, h3, h4, h5, h6, true_and, false_iff]
      omega
  · have hf : ∀ r, r = false → Ending.returned (.bool r) = Ending.returned (.bool mb) := fun r hr => HF.out r (by rw [HM.out, hr]; exact ⟨fun h => Bool.noConfusion h, fun hh => absurd ⟨hh.1, hh.2.1, hh.2.2.1, hh.2.2.2.1, hh.2.2.2.2.1, hh.2.2.2.2.2.1⟩ h⟩)
    have HFF := Lib.hid hf
    have key : decide (1 ≤ a) = false ∨ (decide (1 ≤ a) = true ∧ decide (a ≤ 12) = false) ∨ (decide (1 ≤ a) = true ∧ decide (a ≤ 12) = true ∧ decide (0 ≤ b) = false) ∨ (decide (1 ≤ a) = true ∧ decide (a ≤ 12) = true ∧ decide (0 ≤ b) = true ∧ decide (b < a) = false) ∨ (decide (1 ≤ a) = true ∧ decide (a ≤ 12) = true ∧ decide (0 ≤ b) = true ∧ decide (b < a) = true ∧ decide (2 ≤ d) = false) ∨ (decide (1 ≤ a) = true ∧ decide (a ≤ 12) = true ∧ decide (0 ≤ b) = true ∧ decide (b < a) = true ∧ decide (2 ≤ d) = true ∧ decide (d ≤ 512) = false) := by
      simp only [decide_eq_true_eq, decide_eq_false_iff_not]
      omega
    clear hf HM HF h HA
    go_enter Tryz.func48, Tryz.ntmps48
    go_wp2_with fail
    generalize w.alloc (.cells #[.int .i64 a, .int .i64 b, .int .i64 c, .int .i64 d] 28) = w1 at *
    refine wp_quietG (C := fun W => Kept w1 W) (by kernel_rfl) (by kernel_rfl) ((Kept.refl w1).drew) ?_
    rcases key with b1 | ⟨b1, b2⟩ | ⟨b1, b2, b3⟩ | ⟨b1, b2, b3, b4⟩ | ⟨b1, b2, b3, b4, b5⟩ | ⟨b1, b2, b3, b4, b5, b6⟩
    all_goals
      repeat (first
        | go_big_quiet_skip
        | (go_big_quiet_want
           refine ⟨_, fun W hW => by
             obtain ⟨c0, c1, c2, c3⟩ := HCL.out W hW
             unfold Oper.quietAt
             go_simp
             exact rfl, ?_⟩
           go_simp
           go_big_quiet_on))
      refine wpQuiet_nil ?_
      intro W hW
      have HKW : Hid (Kept w W) := HK0.out.trans hW
      clear hW
      go_wp2_with fail
      go_ret
      exact ⟨HFF.out _ rfl, HKW.out⟩
end Go.Proofs.YtmgkkoajjdgmbaaGreatDoor
