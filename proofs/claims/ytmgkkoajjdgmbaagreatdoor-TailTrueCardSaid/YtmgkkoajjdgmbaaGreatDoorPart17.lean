/- RackFault2, RackFault3, RackFault4, RackFault5, RackCode, RackCode2. -/
import Derived.Test.YtmgkkoajjdgmbaaGreatDoorPart16
import Derived.BigQuiet
import Derived.Shelf.Abstract
import Derived.Deep.RegionHeld3
set_option linter.unusedVariables false
set_option linter.unusedSimpArgs false
set_option linter.unusedSectionVars false
set_option linter.unnecessarySimpa false
set_option linter.deprecated false
/- What each closure of the program's rack tells. -/
namespace Go.Proofs.YtmgkkoajjdgmbaaGreatDoor
open Go.RowKit
set_option linter.unusedVariables false
/-- What a closure tells: no rack; no such drive; no such sector; all stands still; spoilt; a text too long; too few. -/
def noneE (n : Nat) : Nat := if n = 0 then 1 else 0
def drvE (n : Nat) (d : Int) : Nat := if 0 ≤ d ∧ d < n then 0 else 70
def ifE (b : Bool) (e : Nat) : Nat := if b then e else 0
/-- A pointer to a rack of n drives; nil has none. -/
def Has (p : Option Addr) (n : Nat) (w : World) : Prop :=
  (p = none ∧ n = 0) ∨ ∃ b a c, p = some ⟨b, 0, none⟩ ∧ w.cell? ⟨b, 0, none⟩ = some (.slice a n c)
theorem Has.kept {p : Option Addr} {n : Nat} {w w' : World} (h : Has p n w) (k : Kept w w') : Has p n w' := by
  rcases h with h | ⟨b, a, c, h1, h2⟩
  · exact .inl h
  · exact .inr ⟨b, a, c, h1, by rw [Below.cell k (p := ⟨b, 0, none⟩) (block_lt_of_cell h2)]; exact h2⟩
theorem RackAt.has {g : Nat} {s : RSt} {w : World} (h : RackAt g s w) : Has (some ⟨g + 1, 0, none⟩) s.n w := .inr ⟨_, _, _, rfl, h.c0⟩
theorem cell_kept {w w' : World} {b o : Nat} {v : Value} (h : w.cell? ⟨b, o, none⟩ = some v) (k : Kept w w') : w'.cell? ⟨b, o, none⟩ = some v := by
  rw [Below.cell k (p := ⟨b, o, none⟩) (block_lt_of_cell h)]; exact h
theorem cell_box (w : World) (v : Value) (t : TypeId) : (w.alloc (.cells #[v] t)).cell? ⟨w.heap.size, 0, none⟩ = some v := by
  rw [World.cell?_alloc_mark]; rfl
theorem size_alloc (w : World) (o : Obj) : (w.alloc o).heap.size = w.heap.size + 1 := by
  show (w.heap.push o).size = _
  rw [Array.size_push]
theorem cell_box2 (w : World) (o : Obj) (v : Value) (t : TypeId) : ((w.alloc o).alloc (.cells #[v] t)).cell? ⟨w.heap.size + 1, 0, none⟩ = some v := by
  have h := cell_box (w.alloc o) v t
  rw [size_alloc] at h; exact h
theorem cell_box3 (w : World) (o o2 : Obj) (v : Value) (t : TypeId) : (((w.alloc o).alloc o2).alloc (.cells #[v] t)).cell? ⟨w.heap.size + 2, 0, none⟩ = some v := by
  have h := cell_box2 (w.alloc o) o2 v t
  rw [size_alloc] at h; exact h
set_option maxRecDepth 100000 in
theorem drives_any (p : Option Addr) (n : Nat) (w : World) (h : Has p n w) :
    Calls Tryz.prog 50 #[.pointer p] w fun r w' => r = .returned (.int .i64 (n : Nat)) ∧ w' = w := by
  rcases h with ⟨rfl, rfl⟩ | ⟨b, a, c, rfl, hc⟩
  all_goals
    go_enter Tryz.func50, Tryz.ntmps50
    go_wp2_with fail
    go_ret
    exact ⟨rfl, rfl⟩
set_option maxRecDepth 100000 in
theorem none_fn (p : Option Addr) (n g : Nat) (w : World) (hc : w.cell? ⟨g, 0, none⟩ = some (.pointer p)) (hp : Has p n w) :
    Calls Tryz.prog 52 #[.pointer (some ⟨g, 0, none⟩)] w fun r w' => r = .returned (.int .i64 (noneE n : Nat)) ∧ Kept w w' := by
  have HP := Lib.hid hp
  clear hp
  by_cases hn : n = 0
  · rw [show noneE n = 1 from if_pos hn]
    have hz : ((n : Int) == 0) = true := by simp [hn]
    have hwh := fun w => when_any true 1 w
    rw [if_pos rfl] at hwh
    clear hn
    go_enter Tryz.func52, Tryz.ntmps52
    go_wp2_with fail
    refine (drives_any p n _ HP.out).mono ?_
    rintro e w1 ⟨rfl, rfl⟩
    go_wp2_with fail
    refine (hwh _).mono ?_
    rintro e w1 ⟨rfl, rfl⟩
    go_wp2_with fail
    go_ret
    exact ⟨rfl, Kept.refl _⟩
  · rw [show noneE n = 0 from if_neg hn]
    have hz : ((n : Int) == 0) = false := by simp [hn]
    have hwh := fun w => when_any false 1 w
    rw [if_neg (by decide)] at hwh
    clear hn
    go_enter Tryz.func52, Tryz.ntmps52
    go_wp2_with fail
    refine (drives_any p n _ HP.out).mono ?_
    rintro e w1 ⟨rfl, rfl⟩
    go_wp2_with fail
    refine (hwh _).mono ?_
    rintro e w1 ⟨rfl, rfl⟩
    go_wp2_with fail
    go_ret
    exact ⟨rfl, Kept.refl _⟩
set_option maxRecDepth 100000 in
theorem none_any (p : Option Addr) (n : Nat) (w : World) (hp : Has p n w) :
    Calls Tryz.prog 30 #[.pointer p] w fun r w' => ∃ j caps, r = .returned (.func (.func j) #[] caps) ∧ Fault (.func (.func j) #[] caps) (noneE n) w' ∧ Kept w w' := by
  have hmf : ∀ (fn : Fn) (first cap : Array Value) (w : World), (Instr.makeFunc fn first cap).run Tryz.prog w = .ok (.func fn first cap) w := fun _ _ _ _ => rfl
  have HP := Lib.hid hp
  clear hp
  go_enter Tryz.func30, Tryz.ntmps30
  go_wp2_with fail
  go_ret
  refine ⟨_, _, rfl, ⟨_, _, rfl, enters_of Tryz.func52 (by kernel_rfl) rfl, fun w' k => ?_⟩, (Kept.refl _).alloc _⟩
  exact none_fn p n w.heap.size w' (cell_kept (cell_box _ _ _) k) ((HP.out.kept ((Kept.refl _).alloc _)).kept k)
set_option maxRecDepth 100000 in
theorem noDrive_fn (p : Option Addr) (n g1 g2 : Nat) (d : Int) (w : World) (hn : n ≤ 1000) (hd1 : -9223372036854775808 ≤ d) (hd2 : d ≤ 9223372036854775807) (h1 : w.cell? ⟨g1, 0, none⟩ = some (.int .i64 d)) (h2 : w.cell? ⟨g2, 0, none⟩ = some (.pointer p)) (hp : Has p n w) :
    Calls Tryz.prog 67 #[.pointer (some ⟨g1, 0, none⟩), .pointer (some ⟨g2, 0, none⟩)] w fun r w' => r = .returned (.int .i64 (drvE n d : Nat)) ∧ Kept w w' := by
  have HP := Lib.hid hp
  clear hp
  have hwt := fun w => when_any true 70 w
  rw [if_pos rfl] at hwt
  have hwf := fun w => when_any false 70 w
  rw [if_neg (by decide)] at hwf
  by_cases h0 : d < 0
  · rw [show drvE n d = 70 from if_neg (by omega)]
    have hb : decide (d < 0) = true := decide_eq_true h0
    go_enter Tryz.func67, Tryz.ntmps67
    go_wp2_with fail
    go_quiet (first | (go_at_call 53; exact Calls.quiet_of ((hwt _).mono fun _ _ h => ⟨h.1, 0, h.2⟩)))
    go_wp2_with fail
    go_ret
    exact ⟨rfl, (Kept.refl _).drewN _⟩
  · have hb : decide (d < 0) = false := decide_eq_false h0
    by_cases h3 : d < n
    · rw [show drvE n d = 0 from if_pos (by omega)]
      have hb2 : decide (n ≤ d) = false := decide_eq_false (by omega)
      go_enter Tryz.func67, Tryz.ntmps67
      go_wp2_with fail
      go_quiet (first | (go_at_call 50; exact Calls.quiet_of_same (drives_any p n _ (HP.out.kept ((Kept.refl _).drewN _)))) | (go_at_call 53; exact Calls.quiet_of ((hwf _).mono fun _ _ h => ⟨h.1, 0, h.2⟩)))
      go_wp2_with fail
      go_ret
      exact ⟨rfl, (Kept.refl _).drewN _⟩
    · rw [show drvE n d = 70 from if_neg (by omega)]
      have hb2 : decide (n ≤ d) = true := decide_eq_true (by omega)
      go_enter Tryz.func67, Tryz.ntmps67
      go_wp2_with fail
      go_quiet (first | (go_at_call 50; exact Calls.quiet_of_same (drives_any p n _ (HP.out.kept ((Kept.refl _).drewN _)))) | (go_at_call 53; exact Calls.quiet_of ((hwt _).mono fun _ _ h => ⟨h.1, 0, h.2⟩)))
      go_wp2_with fail
      go_ret
      exact ⟨rfl, (Kept.refl _).drewN _⟩
end Go.Proofs.YtmgkkoajjdgmbaaGreatDoor

/- Rows of one, two and four closures; how many sectors there are. -/
namespace Go.Proofs.YtmgkkoajjdgmbaaGreatDoor
open Go.RowKit
set_option linter.unusedVariables false
/-- The first of two faults. -/
def or2 (a b : Nat) : Nat := if a = 0 then b else a
theorem or2_zero {a b : Nat} (h : or2 a b = 0) : a = 0 ∧ b = 0 := by
  unfold or2 at h
  split at h
  · exact ⟨by assumption, h⟩
  · exact absurd h (by assumption)
theorem first1 (g : Nat) (v : Value) (e : Nat) (w : World) (h0 : w.cell? ⟨g, 0, none⟩ = some v) (f0 : Fault v e w) :
    Calls Tryz.prog 29 #[.slice (some ⟨g, 0, none⟩) 1 1] w fun r w' => r = .returned (.int .i64 (e : Nat)) ∧ Kept w w' := by
  have h := first_any g 1 (fun _ => v) (fun _ => e) w (by decide) (fun i hi => by
      obtain rfl : i = 0 := by omega
      exact h0) (fun i hi _ => f0)
  exact h
theorem first2 (g : Nat) (v0 v1 : Value) (e0 e1 : Nat) (w : World) (h0 : w.cell? ⟨g, 0, none⟩ = some v0) (h1 : w.cell? ⟨g, 1, none⟩ = some v1) (f0 : Fault v0 e0 w) (f1 : e0 = 0 → Fault v1 e1 w) :
    Calls Tryz.prog 29 #[.slice (some ⟨g, 0, none⟩) 2 2] w fun r w' => r = .returned (.int .i64 (or2 e0 e1 : Nat)) ∧ Kept w w' := by
  have h := first_any g 2 (fun i => if i = 0 then v0 else v1) (fun i => if i = 0 then e0 else e1) w (by decide)
    (fun i hi => by
      rcases (by omega : i = 0 ∨ i = 1) with rfl | rfl
      · exact h0
      · exact h1)
    (fun i hi h => by
      rcases (by omega : i = 0 ∨ i = 1) with rfl | rfl
      · exact f0
      · exact f1 h)
  exact h
theorem first4 (g : Nat) (v0 v1 v2 v3 : Value) (e0 e1 e2 e3 : Nat) (w : World) (h0 : w.cell? ⟨g, 0, none⟩ = some v0) (h1 : w.cell? ⟨g, 1, none⟩ = some v1) (h2 : w.cell? ⟨g, 2, none⟩ = some v2) (h3 : w.cell? ⟨g, 3, none⟩ = some v3)
    (f0 : Fault v0 e0 w) (f1 : e0 = 0 → Fault v1 e1 w) (f2 : e0 = 0 → e1 = 0 → Fault v2 e2 w) (f3 : e0 = 0 → e1 = 0 → e2 = 0 → Fault v3 e3 w) :
    Calls Tryz.prog 29 #[.slice (some ⟨g, 0, none⟩) 4 4] w fun r w' => r = .returned (.int .i64 (or2 (or2 (or2 e0 e1) e2) e3 : Nat)) ∧ Kept w w' := by
  have h := first_any g 4 (fun i => if i = 0 then v0 else if i = 1 then v1 else if i = 2 then v2 else v3) (fun i => if i = 0 then e0 else if i = 1 then e1 else if i = 2 then e2 else e3) w (by decide)
    (fun i hi => by
      rcases (by omega : i = 0 ∨ i = 1 ∨ i = 2 ∨ i = 3) with rfl | rfl | rfl | rfl
      · exact h0
      · exact h1
      · exact h2
      · exact h3)
    (fun i hi h => by
      rcases (by omega : i = 0 ∨ i = 1 ∨ i = 2 ∨ i = 3) with rfl | rfl | rfl | rfl
      · exact f0
      · exact f1 h
      · have h : or2 e0 e1 = 0 := h
        exact f2 (or2_zero h).1 (or2_zero h).2
      · have h : or2 (or2 e0 e1) e2 = 0 := h
        have h2 := or2_zero h
        exact f3 (or2_zero h2.1).1 (or2_zero h2.1).2 h2.2)
  exact h
set_option maxRecDepth 100000 in
theorem noDrive_any (p : Option Addr) (n : Nat) (d : Int) (w : World) (hn : n ≤ 1000) (hd1 : -9223372036854775808 ≤ d) (hd2 : d ≤ 9223372036854775807) (hp : Has p n w) :
    Calls Tryz.prog 49 #[.pointer p, .int .i64 d] w fun r w' => ∃ j caps, r = .returned (.func (.func j) #[] caps) ∧ Fault (.func (.func j) #[] caps) (drvE n d) w' ∧ Kept w w' := by
  have hmf : ∀ (fn : Fn) (first cap : Array Value) (w : World), (Instr.makeFunc fn first cap).run Tryz.prog w = .ok (.func fn first cap) w := fun _ _ _ _ => rfl
  have HP := Lib.hid hp
  clear hp
  go_enter Tryz.func49, Tryz.ntmps49
  go_wp2_with fail
  go_ret
  refine ⟨_, _, rfl, ⟨_, _, rfl, enters_of Tryz.func67 (by kernel_rfl) rfl, fun w' k => ?_⟩, ((Kept.refl _).alloc _).alloc _⟩
  refine noDrive_fn p n (w.heap.size + 1) w.heap.size d w' hn hd1 hd2 (cell_kept (cell_box2 _ _ _ _) k) (cell_kept (cell_box _ _ _) (((Kept.refl _).alloc _).trans k)) ((HP.out.kept (((Kept.refl _).alloc _).alloc _)).kept k)
theorem cell_one_new (w : World) (v : Value) (t : TypeId) : (w.alloc (.cells #[v] t)).cell? ⟨w.heap.size, 0, none⟩ = some v := cell_box w v t
set_option maxRecDepth 100000 in
theorem sectors_any (g : Nat) (s : RSt) (w : World) (h : RackAt g s w) :
    Calls Tryz.prog 51 #[.pointer (some ⟨g + 1, 0, none⟩)] w fun r w' => r = .returned (.int .i64 (s.m : Nat)) ∧ Kept w w' := by
  have hn1 := h.wf.n1
  have hm2 := h.wf.m2
  have H := Lib.hid h
  clear h
  go_enter Tryz.func51, Tryz.ntmps51
  go_wp2_with fail
  refine (none_any _ s.n _ H.out.has).mono ?_
  rintro e w1 ⟨j, caps, rfl, hf, hk⟩
  have HF := Lib.hid hf
  have HK := Lib.hid hk
  clear hf hk
  go_wp2_with fail
  refine (first1 w1.heap.size (.func (.func j) #[] caps) (noneE s.n) _ (cell_box _ _ _) (HF.out.kept ((Kept.refl _).alloc _))).mono ?_
  rintro e w2 ⟨rfl, hk2⟩
  have HK2 : Hid (Kept w w2) := (HK.out.trans ((Kept.refl _).alloc _)).trans hk2
  have HR := Lib.hid (H.out.kept HK2.out)
  have hz : noneE s.n = 0 := if_neg (by omega)
  rw [hz]
  have h0 := HR.out.c0
  have h1 := HR.out.ds 0 (by omega)
  clear hk2 hz
  go_wp2_with fail
  go_ret
  exact ⟨rfl, HK2.out⟩
set_option maxRecDepth 100000 in
theorem sectors_nil (w : World) :
    Calls Tryz.prog 51 #[.pointer none] w fun r w' => r = .returned (.int .i64 0) ∧ Kept w w' := by
  go_enter Tryz.func51, Tryz.ntmps51
  go_wp2_with fail
  refine (none_any _ 0 _ (.inl ⟨rfl, rfl⟩)).mono ?_
  rintro e w1 ⟨j, caps, rfl, hf, hk⟩
  have HF := Lib.hid hf
  have HK := Lib.hid hk
  clear hf hk
  go_wp2_with fail
  refine (first1 w1.heap.size (.func (.func j) #[] caps) 1 _ (cell_box _ _ _) (HF.out.kept ((Kept.refl _).alloc _))).mono ?_
  rintro e w2 ⟨rfl, hk2⟩
  have HK2 : Hid (Kept w w2) := (HK.out.trans ((Kept.refl _).alloc _)).trans hk2
  clear hk2
  go_wp2_with fail
  go_ret
  exact ⟨rfl, HK2.out⟩
end Go.Proofs.YtmgkkoajjdgmbaaGreatDoor

/- The other closures of the program's rack. -/
namespace Go.Proofs.YtmgkkoajjdgmbaaGreatDoor
open Go.RowKit
set_option linter.unusedVariables false
theorem when_if (b : Bool) (e : Nat) (w : World) :
    Calls Tryz.prog 53 #[.bool b, .int .i64 (e : Nat)] w fun r w' => r = .returned (.int .i64 (ifE b e : Nat)) ∧ w' = w := when_any b e w
set_option maxRecDepth 100000 in
theorem tooFew_fn (g : Nat) (k : Int) (w : World) (h : w.cell? ⟨g, 0, none⟩ = some (.int .i64 k)) :
    Calls Tryz.prog 54 #[.pointer (some ⟨g, 0, none⟩)] w fun r w' => r = .returned (.int .i64 (RSt.cutE k : Nat)) ∧ Kept w w' := by
  by_cases h0 : k < 0
  · rw [show RSt.cutE k = 2 from if_pos h0]
    have hb : decide (k < 0) = true := decide_eq_true h0
    have hwt := fun w => when_any true 2 w
    rw [if_pos rfl] at hwt
    go_enter Tryz.func54, Tryz.ntmps54
    go_wp2_with fail
    refine (hwt _).mono ?_
    rintro e w1 ⟨rfl, rfl⟩
    go_wp2_with fail
    go_ret
    exact ⟨rfl, Kept.refl _⟩
  · rw [show RSt.cutE k = 0 from if_neg h0]
    have hb : decide (k < 0) = false := decide_eq_false h0
    have hwt := fun w => when_any false 2 w
    rw [if_neg (by decide)] at hwt
    go_enter Tryz.func54, Tryz.ntmps54
    go_wp2_with fail
    refine (hwt _).mono ?_
    rintro e w1 ⟨rfl, rfl⟩
    go_wp2_with fail
    go_ret
    exact ⟨rfl, Kept.refl _⟩
set_option maxRecDepth 100000 in
theorem tooFew_any (k : Int) (w : World) :
    Calls Tryz.prog 31 #[.int .i64 k] w fun r w' => ∃ j caps, r = .returned (.func (.func j) #[] caps) ∧ Fault (.func (.func j) #[] caps) (RSt.cutE k) w' ∧ Kept w w' := by
  have hmf : ∀ (fn : Fn) (first cap : Array Value) (w : World), (Instr.makeFunc fn first cap).run Tryz.prog w = .ok (.func fn first cap) w := fun _ _ _ _ => rfl
  go_enter Tryz.func31, Tryz.ntmps31
  go_wp2_with fail
  go_ret
  refine ⟨_, _, rfl, ⟨_, _, rfl, enters_of Tryz.func54 (by kernel_rfl) rfl, fun w' k' => ?_⟩, (Kept.refl _).alloc _⟩
  exact tooFew_fn w.heap.size k w' (cell_kept (cell_box _ _ _) k')
/-- What a text that is too long comes to. -/
def longE (t : ByteArray) : Nat := if 64 < t.size then 4 else 0
set_option maxRecDepth 100000 in
theorem tooLong_fn (g : Nat) (t : ByteArray) (w : World) (ht : t.size ≤ 9223372036854775807) (h : w.cell? ⟨g, 0, none⟩ = some (.string t)) :
    Calls Tryz.prog 95 #[.pointer (some ⟨g, 0, none⟩)] w fun r w' => r = .returned (.int .i64 (longE t : Nat)) ∧ Kept w w' := by
  by_cases h0 : 64 < t.size
  · rw [show longE t = 4 from if_pos h0]
    have hb : decide ((64 : Int) < (t.size : Nat)) = true := decide_eq_true (by omega)
    have hwt := fun w => when_any true 4 w
    rw [if_pos rfl] at hwt
    go_enter Tryz.func95, Tryz.ntmps95
    go_wp2_with fail
    refine (hwt _).mono ?_
    rintro e w1 ⟨rfl, rfl⟩
    go_wp2_with fail
    go_ret
    exact ⟨rfl, Kept.refl _⟩
  · rw [show longE t = 0 from if_neg h0]
    have hb : decide ((64 : Int) < (t.size : Nat)) = false := decide_eq_false (by omega)
    have hwt := fun w => when_any false 4 w
    rw [if_neg (by decide)] at hwt
    go_enter Tryz.func95, Tryz.ntmps95
    go_wp2_with fail
    refine (hwt _).mono ?_
    rintro e w1 ⟨rfl, rfl⟩
    go_wp2_with fail
    go_ret
    exact ⟨rfl, Kept.refl _⟩
set_option maxRecDepth 100000 in
theorem tooLong_any (t : ByteArray) (w : World) (ht : t.size ≤ 9223372036854775807) :
    Calls Tryz.prog 71 #[.string t] w fun r w' => ∃ j caps, r = .returned (.func (.func j) #[] caps) ∧ Fault (.func (.func j) #[] caps) (longE t) w' ∧ Kept w w' := by
  have hmf : ∀ (fn : Fn) (first cap : Array Value) (w : World), (Instr.makeFunc fn first cap).run Tryz.prog w = .ok (.func fn first cap) w := fun _ _ _ _ => rfl
  go_enter Tryz.func71, Tryz.ntmps71
  go_wp2_with fail
  go_ret
  refine ⟨_, _, rfl, ⟨_, _, rfl, enters_of Tryz.func95 (by kernel_rfl) rfl, fun w' k' => ?_⟩, (Kept.refl _).alloc _⟩
  exact tooLong_fn w.heap.size t w' ht (cell_kept (cell_box _ _ _) k')
set_option maxRecDepth 100000 in
theorem still_fn (g r : Nat) (s : RSt) (w : World) (h : w.cell? ⟨r, 0, none⟩ = some (.pointer (some ⟨g + 1, 0, none⟩))) (hR : RackAt g s w) :
    Calls Tryz.prog 96 #[.pointer (some ⟨r, 0, none⟩)] w fun e w' => e = .returned (.int .i64 (ifE s.down 71 : Nat)) ∧ Kept w w' := by
  have h1 := hR.c1
  have h2 := hR.c2
  clear hR
  have hwt := fun w => when_any true 71 w
  rw [if_pos rfl] at hwt
  have hwf := fun w => when_any false 71 w
  rw [if_neg (by decide)] at hwf
  unfold RSt.down
  cases hc : s.cut
  · rw [hc] at h1
    rw [show ifE (false && s.left == 0) 71 = 0 from rfl]
    go_enter Tryz.func96, Tryz.ntmps96
    go_wp2_with fail
    refine (hwf _).mono ?_
    rintro e w1 ⟨rfl, rfl⟩
    go_wp2_with fail
    go_ret
    exact ⟨rfl, Kept.refl _⟩
  · rw [hc] at h1
    by_cases h0 : s.left = 0
    · rw [h0] at h2
      rw [h0, show ifE (true && (0 : Nat) == 0) 71 = 71 from rfl]
      go_enter Tryz.func96, Tryz.ntmps96
      go_wp2_with fail
      refine (hwt _).mono ?_
      rintro e w1 ⟨rfl, rfl⟩
      go_wp2_with fail
      go_ret
      exact ⟨rfl, Kept.refl _⟩
    · have hz : (s.left == 0) = false := by simp [h0]
      rw [show ifE (true && (s.left == 0)) 71 = 0 from by rw [hz]; rfl]
      have hz2 : ((s.left : Int) == 0) = false := by simp [h0]
      generalize s.left = k at *
      clear hz h0
      go_enter Tryz.func96, Tryz.ntmps96
      go_wp2_with fail
      refine (hwf _).mono ?_
      rintro e w1 ⟨rfl, rfl⟩
      go_wp2_with fail
      go_ret
      exact ⟨rfl, Kept.refl _⟩
set_option maxRecDepth 100000 in
theorem still_any (g : Nat) (s : RSt) (p : Option Addr) (w : World) :
    Calls Tryz.prog 72 #[.pointer p] w fun r w' => ∃ j caps, r = .returned (.func (.func j) #[] caps) ∧ (p = some ⟨g + 1, 0, none⟩ → RackAt g s w → Fault (.func (.func j) #[] caps) (ifE s.down 71) w') ∧ Kept w w' := by
  have hmf : ∀ (fn : Fn) (first cap : Array Value) (w : World), (Instr.makeFunc fn first cap).run Tryz.prog w = .ok (.func fn first cap) w := fun _ _ _ _ => rfl
  go_enter Tryz.func72, Tryz.ntmps72
  go_wp2_with fail
  go_ret
  refine ⟨_, _, rfl, fun hp hR => ⟨_, _, rfl, enters_of Tryz.func96 (by kernel_rfl) rfl, fun w' k' => ?_⟩, (Kept.refl _).alloc _⟩
  subst hp
  exact still_fn g w.heap.size s w' (cell_kept (cell_box _ _ _) k') (hR.kept (((Kept.refl _).alloc _).trans k'))
/-- What a sector that is not there comes to. -/
def secE (s : RSt) (d i : Int) : Nat := if s.there d i then 0 else 70
def rowE (m : Nat) (i : Int) : Nat := if 0 ≤ i ∧ i < m then 0 else 70
theorem or2_secE (s : RSt) (d i : Int) : or2 (drvE s.n d) (rowE s.m i) = secE s d i := by
  unfold or2 secE drvE rowE RSt.there
  by_cases h1 : 0 ≤ d ∧ d < s.n
  · by_cases h2 : 0 ≤ i ∧ i < s.m
    · rw [if_pos h1, if_pos rfl, if_pos h2, if_pos (decide_eq_true ⟨h1.1, h1.2, h2.1, h2.2⟩)]
    · rw [if_pos h1, if_pos rfl, if_neg h2, if_neg (by simp; intros; omega)]
  · rw [if_neg h1, if_neg (by decide), if_neg (by simp; intros; omega)]
set_option maxHeartbeats 1000000 in
set_option maxRecDepth 100000 in
theorem row_fn (g g1 g2 : Nat) (s : RSt) (i : Int) (w : World) (hd1 : -9223372036854775808 ≤ i) (hd2 : i ≤ 9223372036854775807) (h1 : w.cell? ⟨g1, 0, none⟩ = some (.int .i64 i)) (h2 : w.cell? ⟨g2, 0, none⟩ = some (.pointer (some ⟨g + 1, 0, none⟩))) (hR : RackAt g s w) :
    Calls Tryz.prog 74 #[.pointer (some ⟨g1, 0, none⟩), .pointer (some ⟨g2, 0, none⟩)] w fun r w' => r = .returned (.int .i64 (rowE s.m i : Nat)) ∧ Kept w w' := by
  have HR := Lib.hid hR
  have hm := hR.wf.m2
  clear hR
  have hwt := fun w => when_any true 70 w
  rw [if_pos rfl] at hwt
  have hwf := fun w => when_any false 70 w
  rw [if_neg (by decide)] at hwf
  by_cases h0 : i < 0
  · rw [show rowE s.m i = 70 from if_neg (by omega)]
    have hb : decide (i < 0) = true := decide_eq_true h0
    go_enter Tryz.func74, Tryz.ntmps74
    go_wp2_with fail
    go_quiet (first | (go_at_call 53; exact Calls.quiet_of ((hwt _).mono fun _ _ h => ⟨h.1, 0, h.2⟩)))
    go_wp2_with fail
    go_ret
    exact ⟨rfl, (Kept.refl _).drewN _⟩
  · have hb : decide (i < 0) = false := decide_eq_false h0
    have HKC : Hid (∀ w', Kept w w' → w'.cell? ⟨g1, 0, none⟩ = some (.int .i64 i) ∧ w'.cell? ⟨g2, 0, none⟩ = some (.pointer (some ⟨g + 1, 0, none⟩))) := fun w' k => ⟨cell_kept h1 k, cell_kept h2 k⟩
    have HLT : Hid (g1 < w.heap.size) := block_lt_of_cell h1
    have HK : Hid (Kept w w) := Kept.refl _
    by_cases h3 : i < s.m
    · rw [show rowE s.m i = 0 from if_pos (by omega)]
      have hb2 : decide (s.m ≤ i) = false := decide_eq_false (by omega)
      go_enter Tryz.func74, Tryz.ntmps74
      go_wp2_with fail
      go_region_held3 (fun w' => w'.cell? ⟨g1, 0, none⟩ = some (.int .i64 i) ∧ w'.cell? ⟨g2, 0, none⟩ = some (.pointer (some ⟨g + 1, 0, none⟩))) (first | exact ⟨h1, h2⟩ | exact HKC.out _ (((Kept.refl _).drewN _).trans hk1) | exact HKC.out _ ((((Kept.refl _).drewN _).trans hk1).drewN _)) (first | (go_at_call 51; refine (sectors_any g s _ (HR.out.drewN _)).mono ?_; rintro e w1 ⟨rfl, hk1⟩) | (go_at_call 53; refine (hwf _).mono ?_; rintro e w3 ⟨rfl, rfl⟩))
      all_goals (go_wp2_with fail; go_ret; first | exact ⟨rfl, ((Kept.refl _).drewN _).trans hk1⟩ | exact ⟨rfl, (((Kept.refl _).drewN _).trans hk1).drewN _⟩)
    · rw [show rowE s.m i = 70 from if_neg (by omega)]
      have hb2 : decide (s.m ≤ i) = true := decide_eq_true (by omega)
      go_enter Tryz.func74, Tryz.ntmps74
      go_wp2_with fail
      go_region_held3 (fun w' => w'.cell? ⟨g1, 0, none⟩ = some (.int .i64 i) ∧ w'.cell? ⟨g2, 0, none⟩ = some (.pointer (some ⟨g + 1, 0, none⟩))) (first | exact ⟨h1, h2⟩ | exact HKC.out _ (((Kept.refl _).drewN _).trans hk1) | exact HKC.out _ ((((Kept.refl _).drewN _).trans hk1).drewN _)) (first | (go_at_call 51; refine (sectors_any g s _ (HR.out.drewN _)).mono ?_; rintro e w1 ⟨rfl, hk1⟩) | (go_at_call 53; refine (hwt _).mono ?_; rintro e w3 ⟨rfl, rfl⟩))
      all_goals (go_wp2_with fail; go_ret; first | exact ⟨rfl, ((Kept.refl _).drewN _).trans hk1⟩ | exact ⟨rfl, (((Kept.refl _).drewN _).trans hk1).drewN _⟩)
end Go.Proofs.YtmgkkoajjdgmbaaGreatDoor

/- The closures that look at a sector. -/
namespace Go.Proofs.YtmgkkoajjdgmbaaGreatDoor
open Go.RowKit
set_option linter.unusedVariables false
set_option maxHeartbeats 1000000 in
set_option maxRecDepth 100000 in
theorem sector_fn (g r1 r2 r3 : Nat) (s : RSt) (d i : Int) (w : World) (hd1 : -9223372036854775808 ≤ d) (hd2 : d ≤ 9223372036854775807) (hi1 : -9223372036854775808 ≤ i) (hi2 : i ≤ 9223372036854775807)
    (h1 : w.cell? ⟨r1, 0, none⟩ = some (.pointer (some ⟨g + 1, 0, none⟩))) (h2 : w.cell? ⟨r2, 0, none⟩ = some (.int .i64 d)) (h3 : w.cell? ⟨r3, 0, none⟩ = some (.int .i64 i)) (hR : RackAt g s w) :
    Calls Tryz.prog 73 #[.pointer (some ⟨r1, 0, none⟩), .pointer (some ⟨r2, 0, none⟩), .pointer (some ⟨r3, 0, none⟩)] w fun r w' => r = .returned (.int .i64 (secE s d i : Nat)) ∧ Kept w w' := by
  have hmf : ∀ (fn : Fn) (first cap : Array Value) (w : World), (Instr.makeFunc fn first cap).run Tryz.prog w = .ok (.func fn first cap) w := fun _ _ _ _ => rfl
  have HR := Lib.hid hR
  have HN : Hid (s.n ≤ 1000) := by have := hR.wf.n2; show _ ≤ _; omega
  have H1 := Lib.hid h1
  have H3 := Lib.hid h3
  clear hR
  go_enter Tryz.func73, Tryz.ntmps73
  go_wp2_with fail
  refine (noDrive_any _ s.n d _ HN.out hd1 hd2 HR.out.has).mono ?_
  rintro e w1 ⟨j, caps, rfl, hf, hk⟩
  have HF := Lib.hid hf
  have HK := Lib.hid hk
  clear hf hk
  go_wp2_with fail
  refine (first2 w1.heap.size (.func (.func j) #[] caps) _ (drvE s.n d) (rowE s.m i) _ (by rw [World.cell?_alloc_mark]; rfl) (by rw [World.cell?_alloc_mark]; rfl) (HF.out.kept ((Kept.refl _).alloc _)) (fun _ => ⟨_, _, rfl, enters_of Tryz.func74 (by kernel_rfl) rfl, fun w' k' => ?_⟩)).mono ?_
  · have HKK := (HK.out.trans ((Kept.refl _).alloc _)).trans k'
    exact row_fn g r3 r1 s i w' hi1 hi2 (cell_kept H3.out HKK) (cell_kept H1.out HKK) (HR.out.kept HKK)
  · rintro e w2 ⟨rfl, hk2⟩
    have HK2 : Hid (Kept w w2) := (HK.out.trans ((Kept.refl _).alloc _)).trans hk2
    have HE := Lib.hid (or2_secE s d i)
    clear hk2
    go_wp2_with fail
    go_ret
    rw [HE.out]
    exact ⟨rfl, HK2.out⟩
set_option maxRecDepth 100000 in
theorem noSector_any (g : Nat) (s : RSt) (p : Option Addr) (d i : Int) (w : World) (hd1 : -9223372036854775808 ≤ d) (hd2 : d ≤ 9223372036854775807) (hi1 : -9223372036854775808 ≤ i) (hi2 : i ≤ 9223372036854775807) :
    Calls Tryz.prog 59 #[.pointer p, .int .i64 d, .int .i64 i] w fun r w' => ∃ j caps, r = .returned (.func (.func j) #[] caps) ∧ (p = some ⟨g + 1, 0, none⟩ → RackAt g s w → Fault (.func (.func j) #[] caps) (secE s d i) w') ∧ Kept w w' := by
  have hmf : ∀ (fn : Fn) (first cap : Array Value) (w : World), (Instr.makeFunc fn first cap).run Tryz.prog w = .ok (.func fn first cap) w := fun _ _ _ _ => rfl
  go_enter Tryz.func59, Tryz.ntmps59
  go_wp2_with fail
  go_ret
  refine ⟨_, _, rfl, fun hp hR => ⟨_, _, rfl, enters_of Tryz.func73 (by kernel_rfl) rfl, fun w' k' => ?_⟩, (((Kept.refl _).alloc _).alloc _).alloc _⟩
  subst hp
  exact sector_fn g w.heap.size (w.heap.size + 1) (w.heap.size + 2) s d i w' hd1 hd2 hi1 hi2 (cell_kept (cell_box _ _ _) (((((Kept.refl _).alloc _).alloc _)).trans k')) (cell_kept (cell_box2 _ _ _ _) (((Kept.refl _).alloc _).trans k')) (cell_kept (cell_box3 _ _ _ _ _) k') (hR.kept (((((Kept.refl _).alloc _).alloc _).alloc _).trans k'))
/-- The cell that tells whether a sector is spoilt. -/
theorem RackAt.flag {g : Nat} {s : RSt} {w : World} (h : RackAt g s w) {d i : Nat} (hd : d < s.n) (hi : i < s.m) : w.cell? ⟨g + 2 + d, i * 65 + 64, none⟩ = some (.bool (s.bad d i)) := by
  refine h.sr d i hd hi 64 _ ?_
  unfold secL
  rw [List.getElem?_append_right (by rw [List.length_map, h.wf.shown hd hi]; omega), List.length_map, h.wf.shown hd hi]
  rfl
set_option maxHeartbeats 1000000 in
set_option maxRecDepth 100000 in
theorem spoilt_fn (g r1 r2 r3 : Nat) (s : RSt) (d i : Nat) (hd : d < s.n) (hi : i < s.m) (w : World)
    (h1 : w.cell? ⟨r1, 0, none⟩ = some (.pointer (some ⟨g + 1, 0, none⟩))) (h2 : w.cell? ⟨r2, 0, none⟩ = some (.int .i64 (d : Nat))) (h3 : w.cell? ⟨r3, 0, none⟩ = some (.int .i64 (i : Nat))) (hR : RackAt g s w) :
    Calls Tryz.prog 114 #[.pointer (some ⟨r1, 0, none⟩), .pointer (some ⟨r2, 0, none⟩), .pointer (some ⟨r3, 0, none⟩)] w fun r w' => r = .returned (.int .i64 (ifE (s.bad d i) 72 : Nat)) ∧ Kept w w' := by
  have c0 := hR.c0
  have c1 := hR.ds d hd
  have c2 := hR.flag hd hi
  have n2 := hR.wf.n2
  have m2 := hR.wf.m2
  clear hR
  have hwh := fun w => when_if (s.bad d i) 72 w
  generalize s.bad d i = b at *
  go_enter Tryz.func114, Tryz.ntmps114
  go_wp2_with fail
  go_quiet (first | (go_at_call 53; exact Calls.quiet_of ((hwh _).mono fun _ _ h => ⟨h.1, 0, h.2⟩)))
  go_wp2_with fail
  go_ret
  exact ⟨rfl, (Kept.refl _).drewN _⟩
set_option maxRecDepth 100000 in
theorem spoilt_any (g : Nat) (s : RSt) (p : Option Addr) (d i : Int) (w : World) :
    Calls Tryz.prog 97 #[.pointer p, .int .i64 d, .int .i64 i] w fun r w' => ∃ j caps, r = .returned (.func (.func j) #[] caps) ∧ (p = some ⟨g + 1, 0, none⟩ → RackAt g s w → s.there d i = true → Fault (.func (.func j) #[] caps) (ifE (s.bad d.toNat i.toNat) 72) w') ∧ Kept w w' := by
  have hmf : ∀ (fn : Fn) (first cap : Array Value) (w : World), (Instr.makeFunc fn first cap).run Tryz.prog w = .ok (.func fn first cap) w := fun _ _ _ _ => rfl
  go_enter Tryz.func97, Tryz.ntmps97
  go_wp2_with fail
  go_ret
  refine ⟨_, _, rfl, fun hp hR ht => ⟨_, _, rfl, enters_of Tryz.func114 (by kernel_rfl) rfl, fun w' k' => ?_⟩, (((Kept.refl _).alloc _).alloc _).alloc _⟩
  subst hp
  obtain ⟨d, i, rfl, rfl, hd, hi⟩ := RSt.there_iff ht
  exact spoilt_fn g w.heap.size (w.heap.size + 1) (w.heap.size + 2) s d i hd hi w' (cell_kept (cell_box _ _ _) (((((Kept.refl _).alloc _).alloc _)).trans k')) (cell_kept (cell_box2 _ _ _ _) (((Kept.refl _).alloc _).trans k')) (cell_kept (cell_box3 _ _ _ _ _) k') (hR.kept (((((Kept.refl _).alloc _).alloc _).alloc _).trans k'))
end Go.Proofs.YtmgkkoajjdgmbaaGreatDoor

/- What the program's rack refuses. -/
namespace Go.Proofs.YtmgkkoajjdgmbaaGreatDoor
open Go.RowKit
set_option linter.unusedVariables false
theorem secE_there {s : RSt} {d i : Int} (h : secE s d i = 0) : s.there d i = true := by
  unfold secE at h
  split at h
  · assumption
  · cases h
set_option maxHeartbeats 1000000 in
set_option maxRecDepth 100000 in
theorem pRead_bad (g n : Nat) (s : RSt) (p : Option Addr) (d i : Int) (hd1 : -9223372036854775808 ≤ d) (hd2 : d ≤ 9223372036854775807) (hi1 : -9223372036854775808 ≤ i) (hi2 : i ≤ 9223372036854775807) (e : Nat) (w : World) (hp : (p = none ∧ n = 0) ∨ (p = some ⟨g + 1, 0, none⟩ ∧ n = s.n ∧ RackAt g s w)) (he : or2 (or2 (or2 (noneE n) (ifE s.down 71)) (secE s d i)) (ifE (s.bad d.toNat i.toNat) 72) = e) (hne : e ≠ 0) :
    Calls Tryz.prog 76 #[.pointer p, .int .i64 d, .int .i64 i] w fun r w' => r = .returned (.tuple #[.string ⟨#[]⟩, .int .i64 (e : Nat)]) ∧ Kept w w' := by
  have hmf : ∀ (fn : Fn) (first cap : Array Value) (w : World), (Instr.makeFunc fn first cap).run Tryz.prog w = .ok (.func fn first cap) w := fun _ _ _ _ => rfl
  have HH : Hid (Has p n w) := by
    rcases hp with ⟨rfl, rfl⟩ | ⟨rfl, rfl, hR⟩
    · exact .inl ⟨rfl, rfl⟩
    · exact hR.has
  have HP : Hid (noneE n = 0 → p = some ⟨g + 1, 0, none⟩ ∧ RackAt g s w) := fun hz => by
    rcases hp with ⟨rfl, rfl⟩ | ⟨rfl, rfl, hR⟩
    · cases hz
    · exact ⟨rfl, hR⟩
  have HN : Hid (n ≤ 1000) := by
    show _ ≤ _
    rcases hp with ⟨rfl, rfl⟩ | ⟨rfl, rfl, hR⟩
    · omega
    · have := hR.wf.n2; omega
  clear hp
  have hz := int_nz e hne
  clear hne
  go_enter Tryz.func76, Tryz.ntmps76
  go_wp2_with fail
  refine (none_any _ n _ HH.out).mono ?_
  rintro e w1 ⟨j0, caps0, rfl, hf, hk⟩
  have F0 := Lib.hid hf
  have K0 := Lib.hid hk
  clear hf hk
  go_wp2_with fail
  refine (still_any g s _ _).mono ?_
  rintro e w2 ⟨j1, caps1, rfl, hf, hk⟩
  have F1 := Lib.hid hf
  have K1 : Hid (Kept w w2) := K0.out.trans hk
  have L1 := Lib.hid hk
  clear hf hk
  go_wp2_with fail
  refine (noSector_any g s _ d i _ hd1 hd2 hi1 hi2).mono ?_
  rintro e w3 ⟨j2, caps2, rfl, hf, hk⟩
  have F2 := Lib.hid hf
  have K2 : Hid (Kept w w3) := K1.out.trans hk
  have L2 := Lib.hid hk
  clear hf hk
  go_wp2_with fail
  refine (spoilt_any g s _ d i _).mono ?_
  rintro e w4 ⟨j3, caps3, rfl, hf, hk⟩
  have F3 := Lib.hid hf
  have K3 : Hid (Kept w w4) := K2.out.trans hk
  have L3 := Lib.hid hk
  clear hf hk
  go_wp2_with fail
  refine (first4 w4.heap.size (.func (.func j0) #[] caps0) (.func (.func j1) #[] caps1) (.func (.func j2) #[] caps2) (.func (.func j3) #[] caps3) (noneE n) (ifE s.down 71) (secE s d i) (ifE (s.bad d.toNat i.toNat) 72) _ (by rw [World.cell?_alloc_mark]; rfl) (by rw [World.cell?_alloc_mark]; rfl) (by rw [World.cell?_alloc_mark]; rfl) (by rw [World.cell?_alloc_mark]; rfl) (F0.out.kept (((((Kept.refl _).trans L1.out).trans L2.out).trans L3.out).alloc _)) (fun z0 => (F1.out (HP.out z0).1 ((HP.out z0).2.kept K0.out)).kept ((((Kept.refl _).trans L2.out).trans L3.out).alloc _)) (fun z0 z1 => (F2.out (HP.out z0).1 ((HP.out z0).2.kept K1.out)).kept (((Kept.refl _).trans L3.out).alloc _)) (fun z0 z1 z2 => (F3.out (HP.out z0).1 ((HP.out z0).2.kept K2.out) (secE_there z2)).kept ((Kept.refl _).alloc _))).mono ?_
  rintro x w9 ⟨rfl, hk⟩
  have K9 : Hid (Kept w w9) := (K3.out.trans ((Kept.refl _).alloc _)).trans hk
  rw [he]
  clear hk
  go_wp2_with fail
  go_ret2
  exact ⟨rfl, K9.out⟩
set_option maxHeartbeats 1000000 in
set_option maxRecDepth 100000 in
theorem pWrite_bad (g n : Nat) (s : RSt) (p : Option Addr) (d i : Int) (hd1 : -9223372036854775808 ≤ d) (hd2 : d ≤ 9223372036854775807) (hi1 : -9223372036854775808 ≤ i) (hi2 : i ≤ 9223372036854775807) (t : ByteArray) (ht : t.size ≤ 9223372036854775807) (e : Nat) (w : World) (hp : (p = none ∧ n = 0) ∨ (p = some ⟨g + 1, 0, none⟩ ∧ n = s.n ∧ RackAt g s w)) (he : or2 (or2 (or2 (noneE n) (secE s d i)) (longE t)) (ifE s.down 71) = e) (hne : e ≠ 0) :
    Calls Tryz.prog 57 #[.pointer p, .int .i64 d, .int .i64 i, .string t] w fun r w' => r = .returned (.int .i64 (e : Nat)) ∧ Kept w w' := by
  have hmf : ∀ (fn : Fn) (first cap : Array Value) (w : World), (Instr.makeFunc fn first cap).run Tryz.prog w = .ok (.func fn first cap) w := fun _ _ _ _ => rfl
  have HH : Hid (Has p n w) := by
    rcases hp with ⟨rfl, rfl⟩ | ⟨rfl, rfl, hR⟩
    · exact .inl ⟨rfl, rfl⟩
    · exact hR.has
  have HP : Hid (noneE n = 0 → p = some ⟨g + 1, 0, none⟩ ∧ RackAt g s w) := fun hz => by
    rcases hp with ⟨rfl, rfl⟩ | ⟨rfl, rfl, hR⟩
    · cases hz
    · exact ⟨rfl, hR⟩
  have HN : Hid (n ≤ 1000) := by
    show _ ≤ _
    rcases hp with ⟨rfl, rfl⟩ | ⟨rfl, rfl, hR⟩
    · omega
    · have := hR.wf.n2; omega
  clear hp
  have hz := int_nz e hne
  clear hne
  go_enter Tryz.func57, Tryz.ntmps57
  go_wp2_with fail
  refine (none_any _ n _ HH.out).mono ?_
  rintro e w1 ⟨j0, caps0, rfl, hf, hk⟩
  have F0 := Lib.hid hf
  have K0 := Lib.hid hk
  clear hf hk
  go_wp2_with fail
  refine (noSector_any g s _ d i _ hd1 hd2 hi1 hi2).mono ?_
  rintro e w2 ⟨j1, caps1, rfl, hf, hk⟩
  have F1 := Lib.hid hf
  have K1 : Hid (Kept w w2) := K0.out.trans hk
  have L1 := Lib.hid hk
  clear hf hk
  go_wp2_with fail
  refine (tooLong_any t _ ht).mono ?_
  rintro e w3 ⟨j2, caps2, rfl, hf, hk⟩
  have F2 := Lib.hid hf
  have K2 : Hid (Kept w w3) := K1.out.trans hk
  have L2 := Lib.hid hk
  clear hf hk
  go_wp2_with fail
  refine (still_any g s _ _).mono ?_
  rintro e w4 ⟨j3, caps3, rfl, hf, hk⟩
  have F3 := Lib.hid hf
  have K3 : Hid (Kept w w4) := K2.out.trans hk
  have L3 := Lib.hid hk
  clear hf hk
  go_wp2_with fail
  refine (first4 w4.heap.size (.func (.func j0) #[] caps0) (.func (.func j1) #[] caps1) (.func (.func j2) #[] caps2) (.func (.func j3) #[] caps3) (noneE n) (secE s d i) (longE t) (ifE s.down 71) _ (by rw [World.cell?_alloc_mark]; rfl) (by rw [World.cell?_alloc_mark]; rfl) (by rw [World.cell?_alloc_mark]; rfl) (by rw [World.cell?_alloc_mark]; rfl) (F0.out.kept (((((Kept.refl _).trans L1.out).trans L2.out).trans L3.out).alloc _)) (fun z0 => (F1.out (HP.out z0).1 ((HP.out z0).2.kept K0.out)).kept ((((Kept.refl _).trans L2.out).trans L3.out).alloc _)) (fun z0 z1 => F2.out.kept (((Kept.refl _).trans L3.out).alloc _)) (fun z0 z1 z2 => (F3.out (HP.out z0).1 ((HP.out z0).2.kept K2.out)).kept ((Kept.refl _).alloc _))).mono ?_
  rintro x w9 ⟨rfl, hk⟩
  have K9 : Hid (Kept w w9) := (K3.out.trans ((Kept.refl _).alloc _)).trans hk
  rw [he]
  clear hk
  go_wp2_with fail
  go_ret
  exact ⟨rfl, K9.out⟩
set_option maxHeartbeats 1000000 in
set_option maxRecDepth 100000 in
theorem pCut_bad (g n : Nat) (s : RSt) (p : Option Addr) (k : Int) (hk1 : -9223372036854775808 ≤ k) (hk2 : k ≤ 9223372036854775807) (e : Nat) (w : World) (hp : (p = none ∧ n = 0) ∨ (p = some ⟨g + 1, 0, none⟩ ∧ n = s.n ∧ RackAt g s w)) (he : or2 (noneE n) (RSt.cutE k) = e) (hne : e ≠ 0) :
    Calls Tryz.prog 13 #[.pointer p, .int .i64 k] w fun r w' => r = .returned (.int .i64 (e : Nat)) ∧ Kept w w' := by
  have hmf : ∀ (fn : Fn) (first cap : Array Value) (w : World), (Instr.makeFunc fn first cap).run Tryz.prog w = .ok (.func fn first cap) w := fun _ _ _ _ => rfl
  have HH : Hid (Has p n w) := by
    rcases hp with ⟨rfl, rfl⟩ | ⟨rfl, rfl, hR⟩
    · exact .inl ⟨rfl, rfl⟩
    · exact hR.has
  have HP : Hid (noneE n = 0 → p = some ⟨g + 1, 0, none⟩ ∧ RackAt g s w) := fun hz => by
    rcases hp with ⟨rfl, rfl⟩ | ⟨rfl, rfl, hR⟩
    · cases hz
    · exact ⟨rfl, hR⟩
  have HN : Hid (n ≤ 1000) := by
    show _ ≤ _
    rcases hp with ⟨rfl, rfl⟩ | ⟨rfl, rfl, hR⟩
    · omega
    · have := hR.wf.n2; omega
  clear hp
  have hz := int_nz e hne
  clear hne
  go_enter Tryz.func13, Tryz.ntmps13
  go_wp2_with fail
  refine (none_any _ n _ HH.out).mono ?_
  rintro e w1 ⟨j0, caps0, rfl, hf, hk⟩
  have F0 := Lib.hid hf
  have K0 := Lib.hid hk
  clear hf hk
  go_wp2_with fail
  refine (tooFew_any k _).mono ?_
  rintro e w2 ⟨j1, caps1, rfl, hf, hk⟩
  have F1 := Lib.hid hf
  have K1 : Hid (Kept w w2) := K0.out.trans hk
  have L1 := Lib.hid hk
  clear hf hk
  go_wp2_with fail
  refine (first2 w2.heap.size (.func (.func j0) #[] caps0) (.func (.func j1) #[] caps1) (noneE n) (RSt.cutE k) _ (by rw [World.cell?_alloc_mark]; rfl) (by rw [World.cell?_alloc_mark]; rfl) (F0.out.kept (((Kept.refl _).trans L1.out).alloc _)) (fun z0 => F1.out.kept ((Kept.refl _).alloc _))).mono ?_
  rintro x w9 ⟨rfl, hk⟩
  have K9 : Hid (Kept w w9) := (K1.out.trans ((Kept.refl _).alloc _)).trans hk
  rw [he]
  clear hk
  go_wp2_with fail
  go_ret
  exact ⟨rfl, K9.out⟩
set_option maxHeartbeats 1000000 in
set_option maxRecDepth 100000 in
theorem pLift_bad (g n : Nat) (s : RSt) (p : Option Addr)  (e : Nat) (w : World) (hp : (p = none ∧ n = 0) ∨ (p = some ⟨g + 1, 0, none⟩ ∧ n = s.n ∧ RackAt g s w)) (he : noneE n = e) (hne : e ≠ 0) :
    Calls Tryz.prog 15 #[.pointer p] w fun r w' => r = .returned (.int .i64 (e : Nat)) ∧ Kept w w' := by
  have hmf : ∀ (fn : Fn) (first cap : Array Value) (w : World), (Instr.makeFunc fn first cap).run Tryz.prog w = .ok (.func fn first cap) w := fun _ _ _ _ => rfl
  have HH : Hid (Has p n w) := by
    rcases hp with ⟨rfl, rfl⟩ | ⟨rfl, rfl, hR⟩
    · exact .inl ⟨rfl, rfl⟩
    · exact hR.has
  have HP : Hid (noneE n = 0 → p = some ⟨g + 1, 0, none⟩ ∧ RackAt g s w) := fun hz => by
    rcases hp with ⟨rfl, rfl⟩ | ⟨rfl, rfl, hR⟩
    · cases hz
    · exact ⟨rfl, hR⟩
  have HN : Hid (n ≤ 1000) := by
    show _ ≤ _
    rcases hp with ⟨rfl, rfl⟩ | ⟨rfl, rfl, hR⟩
    · omega
    · have := hR.wf.n2; omega
  clear hp
  have hz := int_nz e hne
  clear hne
  go_enter Tryz.func15, Tryz.ntmps15
  go_wp2_with fail
  refine (none_any _ n _ HH.out).mono ?_
  rintro e w1 ⟨j0, caps0, rfl, hf, hk⟩
  have F0 := Lib.hid hf
  have K0 := Lib.hid hk
  clear hf hk
  go_wp2_with fail
  refine (first1 w1.heap.size (.func (.func j0) #[] caps0) (noneE n) _ (by rw [World.cell?_alloc_mark]; rfl) (F0.out.kept ((Kept.refl _).alloc _))).mono ?_
  rintro x w9 ⟨rfl, hk⟩
  have K9 : Hid (Kept w w9) := (K0.out.trans ((Kept.refl _).alloc _)).trans hk
  rw [he]
  clear hk
  go_wp2_with fail
  go_ret
  exact ⟨rfl, K9.out⟩
set_option maxHeartbeats 1000000 in
set_option maxRecDepth 100000 in
theorem pWipe_bad (g n : Nat) (s : RSt) (p : Option Addr) (d : Int) (hd1 : -9223372036854775808 ≤ d) (hd2 : d ≤ 9223372036854775807) (e : Nat) (w : World) (hp : (p = none ∧ n = 0) ∨ (p = some ⟨g + 1, 0, none⟩ ∧ n = s.n ∧ RackAt g s w)) (he : or2 (noneE n) (drvE n d) = e) (hne : e ≠ 0) :
    Calls Tryz.prog 26 #[.pointer p, .int .i64 d] w fun r w' => r = .returned (.int .i64 (e : Nat)) ∧ Kept w w' := by
  have hmf : ∀ (fn : Fn) (first cap : Array Value) (w : World), (Instr.makeFunc fn first cap).run Tryz.prog w = .ok (.func fn first cap) w := fun _ _ _ _ => rfl
  have HH : Hid (Has p n w) := by
    rcases hp with ⟨rfl, rfl⟩ | ⟨rfl, rfl, hR⟩
    · exact .inl ⟨rfl, rfl⟩
    · exact hR.has
  have HP : Hid (noneE n = 0 → p = some ⟨g + 1, 0, none⟩ ∧ RackAt g s w) := fun hz => by
    rcases hp with ⟨rfl, rfl⟩ | ⟨rfl, rfl, hR⟩
    · cases hz
    · exact ⟨rfl, hR⟩
  have HN : Hid (n ≤ 1000) := by
    show _ ≤ _
    rcases hp with ⟨rfl, rfl⟩ | ⟨rfl, rfl, hR⟩
    · omega
    · have := hR.wf.n2; omega
  clear hp
  have hz := int_nz e hne
  clear hne
  go_enter Tryz.func26, Tryz.ntmps26
  go_wp2_with fail
  refine (none_any _ n _ HH.out).mono ?_
  rintro e w1 ⟨j0, caps0, rfl, hf, hk⟩
  have F0 := Lib.hid hf
  have K0 := Lib.hid hk
  clear hf hk
  go_wp2_with fail
  refine (noDrive_any _ n d _ HN.out hd1 hd2 (HH.out.kept K0.out)).mono ?_
  rintro e w2 ⟨j1, caps1, rfl, hf, hk⟩
  have F1 := Lib.hid hf
  have K1 : Hid (Kept w w2) := K0.out.trans hk
  have L1 := Lib.hid hk
  clear hf hk
  go_wp2_with fail
  refine (first2 w2.heap.size (.func (.func j0) #[] caps0) (.func (.func j1) #[] caps1) (noneE n) (drvE n d) _ (by rw [World.cell?_alloc_mark]; rfl) (by rw [World.cell?_alloc_mark]; rfl) (F0.out.kept (((Kept.refl _).trans L1.out).alloc _)) (fun z0 => F1.out.kept ((Kept.refl _).alloc _))).mono ?_
  rintro x w9 ⟨rfl, hk⟩
  have K9 : Hid (Kept w w9) := (K1.out.trans ((Kept.refl _).alloc _)).trans hk
  rw [he]
  clear hk
  go_wp2_with fail
  go_ret
  exact ⟨rfl, K9.out⟩
set_option maxHeartbeats 1000000 in
set_option maxRecDepth 100000 in
theorem pSpoil_bad (g n : Nat) (s : RSt) (p : Option Addr) (d i : Int) (hd1 : -9223372036854775808 ≤ d) (hd2 : d ≤ 9223372036854775807) (hi1 : -9223372036854775808 ≤ i) (hi2 : i ≤ 9223372036854775807) (e : Nat) (w : World) (hp : (p = none ∧ n = 0) ∨ (p = some ⟨g + 1, 0, none⟩ ∧ n = s.n ∧ RackAt g s w)) (he : or2 (noneE n) (secE s d i) = e) (hne : e ≠ 0) :
    Calls Tryz.prog 41 #[.pointer p, .int .i64 d, .int .i64 i] w fun r w' => r = .returned (.int .i64 (e : Nat)) ∧ Kept w w' := by
  have hmf : ∀ (fn : Fn) (first cap : Array Value) (w : World), (Instr.makeFunc fn first cap).run Tryz.prog w = .ok (.func fn first cap) w := fun _ _ _ _ => rfl
  have HH : Hid (Has p n w) := by
    rcases hp with ⟨rfl, rfl⟩ | ⟨rfl, rfl, hR⟩
    · exact .inl ⟨rfl, rfl⟩
    · exact hR.has
  have HP : Hid (noneE n = 0 → p = some ⟨g + 1, 0, none⟩ ∧ RackAt g s w) := fun hz => by
    rcases hp with ⟨rfl, rfl⟩ | ⟨rfl, rfl, hR⟩
    · cases hz
    · exact ⟨rfl, hR⟩
  have HN : Hid (n ≤ 1000) := by
    show _ ≤ _
    rcases hp with ⟨rfl, rfl⟩ | ⟨rfl, rfl, hR⟩
    · omega
    · have := hR.wf.n2; omega
  clear hp
  have hz := int_nz e hne
  clear hne
  go_enter Tryz.func41, Tryz.ntmps41
  go_wp2_with fail
  refine (none_any _ n _ HH.out).mono ?_
  rintro e w1 ⟨j0, caps0, rfl, hf, hk⟩
  have F0 := Lib.hid hf
  have K0 := Lib.hid hk
  clear hf hk
  go_wp2_with fail
  refine (noSector_any g s _ d i _ hd1 hd2 hi1 hi2).mono ?_
  rintro e w2 ⟨j1, caps1, rfl, hf, hk⟩
  have F1 := Lib.hid hf
  have K1 : Hid (Kept w w2) := K0.out.trans hk
  have L1 := Lib.hid hk
  clear hf hk
  go_wp2_with fail
  refine (first2 w2.heap.size (.func (.func j0) #[] caps0) (.func (.func j1) #[] caps1) (noneE n) (secE s d i) _ (by rw [World.cell?_alloc_mark]; rfl) (by rw [World.cell?_alloc_mark]; rfl) (F0.out.kept (((Kept.refl _).trans L1.out).alloc _)) (fun z0 => (F1.out (HP.out z0).1 ((HP.out z0).2.kept K0.out)).kept ((Kept.refl _).alloc _))).mono ?_
  rintro x w9 ⟨rfl, hk⟩
  have K9 : Hid (Kept w w9) := (K1.out.trans ((Kept.refl _).alloc _)).trans hk
  rw [he]
  clear hk
  go_wp2_with fail
  go_ret
  exact ⟨rfl, K9.out⟩
end Go.Proofs.YtmgkkoajjdgmbaaGreatDoor

/- What the program's rack does. -/
namespace Go.Proofs.YtmgkkoajjdgmbaaGreatDoor
open Go.RowKit
set_option linter.unusedVariables false
theorem zero_sec (w : World) : (zeroValue 109).run Tryz.prog w = .ok (.agg (secL zero64 false).toArray) w := by kernel_rfl
theorem sec_set : (secL zero64 false).toArray.setIfInBounds 64 (.bool true) = (secL zero64 true).toArray := by kernel_rfl
theorem info_sec : (Tryz.prog.info? 109).map (·.size) = some 65 := by kernel_rfl
set_option maxHeartbeats 1000000 in
set_option maxRecDepth 100000 in
theorem pLift_ok (g : Nat) (s : RSt)  (w : World) (hR : RackAt g s w) :
    Calls Tryz.prog 15 #[.pointer (some ⟨g + 1, 0, none⟩)] w fun r w' => r = .returned (.int .i64 0) ∧ RackAt g s.liftS w' ∧ Only g (g + 2 + s.n) w w' := by
  have hmf : ∀ (fn : Fn) (first cap : Array Value) (w : World), (Instr.makeFunc fn first cap).run Tryz.prog w = .ok (.func fn first cap) w := fun _ _ _ _ => rfl
  obtain ⟨n, hn⟩ : ∃ n, n = s.n := ⟨_, rfl⟩
  obtain ⟨p, hpe⟩ : ∃ p, p = some (⟨g + 1, 0, none⟩ : Addr) := ⟨_, rfl⟩
  have hp : (p = none ∧ n = 0) ∨ (p = some ⟨g + 1, 0, none⟩ ∧ n = s.n ∧ RackAt g s w) := .inr ⟨hpe, hn, hR⟩
  have h1 : noneE n = 0 := if_neg (by have := hR.wf.n1; omega)
  have he : noneE n = 0 := by
    rw [h1]
  have HRK := Lib.hid hR
  clear h1 hn hR
  rw [← hpe]
  have HPE := Lib.hid hpe
  clear hpe
  have HH : Hid (Has p n w) := by
    rcases hp with ⟨rfl, rfl⟩ | ⟨rfl, rfl, hR⟩
    · exact .inl ⟨rfl, rfl⟩
    · exact hR.has
  have HP : Hid (noneE n = 0 → p = some ⟨g + 1, 0, none⟩ ∧ RackAt g s w) := fun hz => by
    rcases hp with ⟨rfl, rfl⟩ | ⟨rfl, rfl, hR⟩
    · cases hz
    · exact ⟨rfl, hR⟩
  have HN : Hid (n ≤ 1000) := by
    show _ ≤ _
    rcases hp with ⟨rfl, rfl⟩ | ⟨rfl, rfl, hR⟩
    · omega
    · have := hR.wf.n2; omega
  clear hp
  go_enter Tryz.func15, Tryz.ntmps15
  go_wp2_with fail
  refine (none_any _ n _ HH.out).mono ?_
  rintro e w1 ⟨j0, caps0, rfl, hf, hk⟩
  have F0 := Lib.hid hf
  have K0 := Lib.hid hk
  clear hf hk
  go_wp2_with fail
  refine (first1 w1.heap.size (.func (.func j0) #[] caps0) (noneE n) _ (by rw [World.cell?_alloc_mark]; rfl) (F0.out.kept ((Kept.refl _).alloc _))).mono ?_
  rintro x w9 ⟨rfl, hk⟩
  have K9 : Hid (Kept w w9) := (K0.out.trans ((Kept.refl _).alloc _)).trans hk
  rw [he]
  clear hk
  have hR9 := HRK.out.kept K9.out
  have c1 := hR9.c1
  have c2 := hR9.c2
  have f1 := hR9.f1
  have f2 := hR9.f2
  have n1 := hR9.wf.n1
  have HA := Lib.hid hR9
  have hpe := HPE.out
  subst hpe
  clear hR9
  go_wp2_with fail
  go_ret
  exact ⟨rfl, (HA.out.cutTo false).left 0 (by decide), ((K9.out.only _ _).setCell _ _ (by simp <;> omega) (by simp <;> omega)).setCell _ _ (by simp <;> omega) (by simp <;> omega)⟩
set_option maxHeartbeats 1000000 in
set_option maxRecDepth 100000 in
theorem pCut_ok (g : Nat) (s : RSt) (k : Nat) (hk2 : k ≤ 9223372036854775807) (w : World) (hR : RackAt g s w) :
    Calls Tryz.prog 13 #[.pointer (some ⟨g + 1, 0, none⟩), .int .i64 (k : Nat)] w fun r w' => r = .returned (.int .i64 0) ∧ RackAt g (s.lim true k) w' ∧ Only g (g + 2 + s.n) w w' := by
  have hmf : ∀ (fn : Fn) (first cap : Array Value) (w : World), (Instr.makeFunc fn first cap).run Tryz.prog w = .ok (.func fn first cap) w := fun _ _ _ _ => rfl
  obtain ⟨n, hn⟩ : ∃ n, n = s.n := ⟨_, rfl⟩
  obtain ⟨p, hpe⟩ : ∃ p, p = some (⟨g + 1, 0, none⟩ : Addr) := ⟨_, rfl⟩
  have hp : (p = none ∧ n = 0) ∨ (p = some ⟨g + 1, 0, none⟩ ∧ n = s.n ∧ RackAt g s w) := .inr ⟨hpe, hn, hR⟩
  have h1 : noneE n = 0 := if_neg (by have := hR.wf.n1; omega)
  have he : or2 (noneE n) (RSt.cutE (k : Nat)) = 0 := by
    rw [h1, show RSt.cutE (k : Nat) = 0 from if_neg (by omega)]; rfl
  have HRK := Lib.hid hR
  clear h1 hn hR
  rw [← hpe]
  have HPE := Lib.hid hpe
  clear hpe
  have HH : Hid (Has p n w) := by
    rcases hp with ⟨rfl, rfl⟩ | ⟨rfl, rfl, hR⟩
    · exact .inl ⟨rfl, rfl⟩
    · exact hR.has
  have HP : Hid (noneE n = 0 → p = some ⟨g + 1, 0, none⟩ ∧ RackAt g s w) := fun hz => by
    rcases hp with ⟨rfl, rfl⟩ | ⟨rfl, rfl, hR⟩
    · cases hz
    · exact ⟨rfl, hR⟩
  have HN : Hid (n ≤ 1000) := by
    show _ ≤ _
    rcases hp with ⟨rfl, rfl⟩ | ⟨rfl, rfl, hR⟩
    · omega
    · have := hR.wf.n2; omega
  clear hp
  go_enter Tryz.func13, Tryz.ntmps13
  go_wp2_with fail
  refine (none_any _ n _ HH.out).mono ?_
  rintro e w1 ⟨j0, caps0, rfl, hf, hk⟩
  have F0 := Lib.hid hf
  have K0 := Lib.hid hk
  clear hf hk
  go_wp2_with fail
  refine (tooFew_any (k : Nat) _).mono ?_
  rintro e w2 ⟨j1, caps1, rfl, hf, hk⟩
  have F1 := Lib.hid hf
  have K1 : Hid (Kept w w2) := K0.out.trans hk
  have L1 := Lib.hid hk
  clear hf hk
  go_wp2_with fail
  refine (first2 w2.heap.size (.func (.func j0) #[] caps0) (.func (.func j1) #[] caps1) (noneE n) (RSt.cutE (k : Nat)) _ (by rw [World.cell?_alloc_mark]; rfl) (by rw [World.cell?_alloc_mark]; rfl) (F0.out.kept (((Kept.refl _).trans L1.out).alloc _)) (fun z0 => F1.out.kept ((Kept.refl _).alloc _))).mono ?_
  rintro x w9 ⟨rfl, hk⟩
  have K9 : Hid (Kept w w9) := (K1.out.trans ((Kept.refl _).alloc _)).trans hk
  rw [he]
  clear hk
  have hR9 := HRK.out.kept K9.out
  have c1 := hR9.c1
  have c2 := hR9.c2
  have f1 := hR9.f1
  have f2 := hR9.f2
  have n1 := hR9.wf.n1
  have HA := Lib.hid hR9
  have hpe := HPE.out
  subst hpe
  clear hR9
  go_wp2_with fail
  go_ret
  exact ⟨rfl, (HA.out.cutTo true).left k hk2, ((K9.out.only _ _).setCell _ _ (by simp <;> omega) (by simp <;> omega)).setCell _ _ (by simp <;> omega) (by simp <;> omega)⟩
set_option maxHeartbeats 1000000 in
set_option maxRecDepth 100000 in
theorem pSpoil_ok (g : Nat) (s : RSt) (d i : Nat) (hd : d < s.n) (hi : i < s.m) (w : World) (hR : RackAt g s w) :
    Calls Tryz.prog 41 #[.pointer (some ⟨g + 1, 0, none⟩), .int .i64 (d : Nat), .int .i64 (i : Nat)] w fun r w' => r = .returned (.int .i64 0) ∧ RackAt g (s.spoil d i) w' ∧ Only g (g + 2 + s.n) w w' := by
  have hd1 : -9223372036854775808 ≤ (d : Int) := by omega
  have hd2 : (d : Int) ≤ 9223372036854775807 := by have := hR.wf.n2; omega
  have hi1 : -9223372036854775808 ≤ (i : Int) := by omega
  have hi2 : (i : Int) ≤ 9223372036854775807 := by have := hR.wf.m2; omega
  have hmf : ∀ (fn : Fn) (first cap : Array Value) (w : World), (Instr.makeFunc fn first cap).run Tryz.prog w = .ok (.func fn first cap) w := fun _ _ _ _ => rfl
  obtain ⟨n, hn⟩ : ∃ n, n = s.n := ⟨_, rfl⟩
  obtain ⟨p, hpe⟩ : ∃ p, p = some (⟨g + 1, 0, none⟩ : Addr) := ⟨_, rfl⟩
  have hp : (p = none ∧ n = 0) ∨ (p = some ⟨g + 1, 0, none⟩ ∧ n = s.n ∧ RackAt g s w) := .inr ⟨hpe, hn, hR⟩
  have h1 : noneE n = 0 := if_neg (by have := hR.wf.n1; omega)
  have he : or2 (noneE n) (secE s d i) = 0 := by
    rw [h1, show secE s d i = 0 from if_pos (decide_eq_true ⟨by omega, by omega, by omega, by omega⟩)]; rfl
  have HRK := Lib.hid hR
  clear h1 hn hR
  rw [← hpe]
  have HPE := Lib.hid hpe
  clear hpe
  have HH : Hid (Has p n w) := by
    rcases hp with ⟨rfl, rfl⟩ | ⟨rfl, rfl, hR⟩
    · exact .inl ⟨rfl, rfl⟩
    · exact hR.has
  have HP : Hid (noneE n = 0 → p = some ⟨g + 1, 0, none⟩ ∧ RackAt g s w) := fun hz => by
    rcases hp with ⟨rfl, rfl⟩ | ⟨rfl, rfl, hR⟩
    · cases hz
    · exact ⟨rfl, hR⟩
  have HN : Hid (n ≤ 1000) := by
    show _ ≤ _
    rcases hp with ⟨rfl, rfl⟩ | ⟨rfl, rfl, hR⟩
    · omega
    · have := hR.wf.n2; omega
  clear hp
  go_enter Tryz.func41, Tryz.ntmps41
  go_wp2_with fail
  refine (none_any _ n _ HH.out).mono ?_
  rintro e w1 ⟨j0, caps0, rfl, hf, hk⟩
  have F0 := Lib.hid hf
  have K0 := Lib.hid hk
  clear hf hk
  go_wp2_with fail
  refine (noSector_any g s _ d i _ hd1 hd2 hi1 hi2).mono ?_
  rintro e w2 ⟨j1, caps1, rfl, hf, hk⟩
  have F1 := Lib.hid hf
  have K1 : Hid (Kept w w2) := K0.out.trans hk
  have L1 := Lib.hid hk
  clear hf hk
  go_wp2_with fail
  refine (first2 w2.heap.size (.func (.func j0) #[] caps0) (.func (.func j1) #[] caps1) (noneE n) (secE s d i) _ (by rw [World.cell?_alloc_mark]; rfl) (by rw [World.cell?_alloc_mark]; rfl) (F0.out.kept (((Kept.refl _).trans L1.out).alloc _)) (fun z0 => (F1.out (HP.out z0).1 ((HP.out z0).2.kept K0.out)).kept ((Kept.refl _).alloc _))).mono ?_
  rintro x w9 ⟨rfl, hk⟩
  have K9 : Hid (Kept w w9) := (K1.out.trans ((Kept.refl _).alloc _)).trans hk
  rw [he]
  clear hk
  have hR9 := HRK.out.kept K9.out
  have c0 := hR9.c0
  have c1 := hR9.ds d hd
  have HT := Lib.hid (hR9.st d i hd hi)
  have n2 := hR9.wf.n2
  have m2 := hR9.wf.m2
  have n1 := hR9.wf.n1
  have HA := Lib.hid hR9
  have hpe := HPE.out
  subst hpe
  clear hR9
  obtain ⟨Z, hZ⟩ : ∃ Z, Z = (secL zero64 false).toArray := ⟨_, rfl⟩
  obtain ⟨Y, hY⟩ : ∃ Y, Y = (secL zero64 true).toArray := ⟨_, rfl⟩
  have hz0 := zero_sec
  have hst := sec_set
  have hsz : Z.size = 65 := by rw [hZ]; kernel_rfl
  have HYS : Hid ((Tryz.prog.info? 109).map (·.size) = some Y.size) := by show _ = _; rw [hY]; exact info_sec
  have HC : Hid (Y.all (·.oneCell') = true) := by show _ = _; rw [hY]; exact all_oneCell_toArray (secL_one _ _)
  have HYL : Hid (Y.toList = secL zero64 true) := by show _ = _; rw [hY]
  have HT2 : Hid (w9.there (g + 2 + d) (i * 65) Y.size) := by show World.there _ _ _ _; rw [hY]; exact HT.out
  rw [← hZ] at hz0 hst
  rw [← hY] at hst
  clear hZ hY
  go_wp2_with (first | (with_reducible refine wpList_store_mid rfl 109 _ _ rfl (g + 2 + d) (i * 65) Y rfl rfl HT2.out HYS.out HC.out ?_))
  rw [HYL.out]
  go_wp2_with fail
  go_ret
  exact ⟨rfl, HA.out.put d i (s.T d i) true hd hi (HA.out.wf.len d i hd hi) zero64 rfl, Only.setCells _ (by omega) (by omega) _ _ (K9.out.only _ _)⟩
end Go.Proofs.YtmgkkoajjdgmbaaGreatDoor

