/- What each closure of the program's rack tells. -/
import Derived.Test.YtnfehfmmpjbgdaaRackFault
import Derived.BigQuiet
import Derived.Shelf.Abstract
import Derived.Deep.RegionHeld3
namespace Go.Proofs.Ytnfehfmmpjbgdaa
open Go.RowKit
set_option linter.unusedVariables false
/-- What a closure tells: no rack; no such drive; no such sector; all stands still; spoilt; a text too long; too few. -/
def noneE (n : Nat) : Nat := if n = 0 then 1 else 0
def drvE (n : Nat) (d : Int) : Nat := if 0 ≤ d ∧ d < n then 0 else 70
def ifE (b : Bool) (e : Nat) : Nat := if b then e else 0
/-- A pointer to a rack of n drives; nil has none. -/
def Has (p : Option Addr) (n : Nat) (w : World) : Prop :=
  (p = none ∧ n = 0) ∨ ∃ b a c, p = some ⟨b, 0, none⟩ ∧ w.cell? ⟨b, 0, none⟩ = some (.slice a n c)
theorem Has.kept {p : Option Addr} {n : Nat} {w w' : World} (h : Has p n w) (k : Kept w w') : Has p n w' := by
  rcases h with h | ⟨b, a, c, h1, h2⟩
  · exact .inl h
  · exact .inr ⟨b, a, c, h1, by rw [Below.cell k (p := ⟨b, 0, none⟩) (block_lt_of_cell h2)]; exact h2⟩
theorem RackAt.has {g : Nat} {s : RSt} {w : World} (h : RackAt g s w) : Has (some ⟨g + 1, 0, none⟩) s.n w := .inr ⟨_, _, _, rfl, h.c0⟩
theorem cell_kept {w w' : World} {b o : Nat} {v : Value} (h : w.cell? ⟨b, o, none⟩ = some v) (k : Kept w w') : w'.cell? ⟨b, o, none⟩ = some v := by
  rw [Below.cell k (p := ⟨b, o, none⟩) (block_lt_of_cell h)]; exact h
theorem cell_box (w : World) (v : Value) (t : TypeId) : (w.alloc (.cells #[v] t)).cell? ⟨w.heap.size, 0, none⟩ = some v := by
  rw [World.cell?_alloc_mark]; rfl
theorem size_alloc (w : World) (o : Obj) : (w.alloc o).heap.size = w.heap.size + 1 := by
  show (w.heap.push o).size = _
  rw [Array.size_push]
theorem cell_box2 (w : World) (o : Obj) (v : Value) (t : TypeId) : ((w.alloc o).alloc (.cells #[v] t)).cell? ⟨w.heap.size + 1, 0, none⟩ = some v := by
  have h := cell_box (w.alloc o) v t
  rw [size_alloc] at h; exact h
theorem cell_box3 (w : World) (o o2 : Obj) (v : Value) (t : TypeId) : (((w.alloc o).alloc o2).alloc (.cells #[v] t)).cell? ⟨w.heap.size + 2, 0, none⟩ = some v := by
  have h := cell_box2 (w.alloc o) o2 v t
  rw [size_alloc] at h; exact h
set_option maxRecDepth 100000 in
theorem drives_any (p : Option Addr) (n : Nat) (w : World) (h : Has p n w) :
    Calls Try.prog 16 #[.pointer p] w fun r w' => r = .returned (.int .i64 (n : Nat)) ∧ w' = w := by
  rcases h with ⟨rfl, rfl⟩ | ⟨b, a, c, rfl, hc⟩
  all_goals
    go_enter Try.func16, Try.ntmps16
    go_wp2_with fail
    go_ret
    exact ⟨rfl, rfl⟩
set_option maxRecDepth 100000 in
theorem none_fn (p : Option Addr) (n g : Nat) (w : World) (hc : w.cell? ⟨g, 0, none⟩ = some (.pointer p)) (hp : Has p n w) :
    Calls Try.prog 45 #[.pointer (some ⟨g, 0, none⟩)] w fun r w' => r = .returned (.int .i64 (noneE n : Nat)) ∧ Kept w w' := by
  have HP := Lib.hid hp
  clear hp
  by_cases hn : n = 0
  · rw [show noneE n = 1 from if_pos hn]
    have hz : ((n : Int) == 0) = true := by simp [hn]
    have hwh := fun w => when_any true 1 w
    rw [if_pos rfl] at hwh
    clear hn
    go_enter Try.func45, Try.ntmps45
    go_wp2_with fail
    refine (drives_any p n _ HP.out).mono ?_
    rintro e w1 ⟨rfl, rfl⟩
    go_wp2_with fail
    refine (hwh _).mono ?_
    rintro e w1 ⟨rfl, rfl⟩
    go_wp2_with fail
    go_ret
    exact ⟨rfl, Kept.refl _⟩
  · rw [show noneE n = 0 from if_neg hn]
    have hz : ((n : Int) == 0) = false := by simp [hn]
    have hwh := fun w => when_any false 1 w
    rw [if_neg (by decide)] at hwh
    clear hn
    go_enter Try.func45, Try.ntmps45
    go_wp2_with fail
    refine (drives_any p n _ HP.out).mono ?_
    rintro e w1 ⟨rfl, rfl⟩
    go_wp2_with fail
    refine (hwh _).mono ?_
    rintro e w1 ⟨rfl, rfl⟩
    go_wp2_with fail
    go_ret
    exact ⟨rfl, Kept.refl _⟩
set_option maxRecDepth 100000 in
theorem none_any (p : Option Addr) (n : Nat) (w : World) (hp : Has p n w) :
    Calls Try.prog 35 #[.pointer p] w fun r w' => ∃ j caps, r = .returned (.func (.func j) #[] caps) ∧ Fault (.func (.func j) #[] caps) (noneE n) w' ∧ Kept w w' := by
  have hmf : ∀ (fn : Fn) (first cap : Array Value) (w : World), (Instr.makeFunc fn first cap).run Try.prog w = .ok (.func fn first cap) w := fun _ _ _ _ => rfl
  have HP := Lib.hid hp
  clear hp
  go_enter Try.func35, Try.ntmps35
  go_wp2_with fail
  go_ret
  refine ⟨_, _, rfl, ⟨_, _, rfl, enters_of Try.func45 (by kernel_rfl) rfl, fun w' k => ?_⟩, (Kept.refl _).alloc _⟩
  exact none_fn p n w.heap.size w' (cell_kept (cell_box _ _ _) k) ((HP.out.kept ((Kept.refl _).alloc _)).kept k)
set_option maxRecDepth 100000 in
theorem noDrive_fn (p : Option Addr) (n g1 g2 : Nat) (d : Int) (w : World) (hn : n ≤ 1000) (hd1 : -9223372036854775808 ≤ d) (hd2 : d ≤ 9223372036854775807) (h1 : w.cell? ⟨g1, 0, none⟩ = some (.int .i64 d)) (h2 : w.cell? ⟨g2, 0, none⟩ = some (.pointer p)) (hp : Has p n w) :
    Calls Try.prog 41 #[.pointer (some ⟨g1, 0, none⟩), .pointer (some ⟨g2, 0, none⟩)] w fun r w' => r = .returned (.int .i64 (drvE n d : Nat)) ∧ Kept w w' := by
  have HP := Lib.hid hp
  clear hp
  have hwt := fun w => when_any true 70 w
  rw [if_pos rfl] at hwt
  have hwf := fun w => when_any false 70 w
  rw [if_neg (by decide)] at hwf
  by_cases h0 : d < 0
  · rw [show drvE n d = 70 from if_neg (by omega)]
    have hb : decide (d < 0) = true := decide_eq_true h0
    go_enter Try.func41, Try.ntmps41
    go_wp2_with fail
    go_quiet (first | (go_at_call 42; exact Calls.quiet_of ((hwt _).mono fun _ _ h => ⟨h.1, 0, h.2⟩)))
    go_wp2_with fail
    go_ret
    exact ⟨rfl, (Kept.refl _).drewN _⟩
  · have hb : decide (d < 0) = false := decide_eq_false h0
    by_cases h3 : d < n
    · rw [show drvE n d = 0 from if_pos (by omega)]
      have hb2 : decide (n ≤ d) = false := decide_eq_false (by omega)
      go_enter Try.func41, Try.ntmps41
      go_wp2_with fail
      go_quiet (first | (go_at_call 16; exact Calls.quiet_of_same (drives_any p n _ (HP.out.kept ((Kept.refl _).drewN _)))) | (go_at_call 42; exact Calls.quiet_of ((hwf _).mono fun _ _ h => ⟨h.1, 0, h.2⟩)))
      go_wp2_with fail
      go_ret
      exact ⟨rfl, (Kept.refl _).drewN _⟩
    · rw [show drvE n d = 70 from if_neg (by omega)]
      have hb2 : decide (n ≤ d) = true := decide_eq_true (by omega)
      go_enter Try.func41, Try.ntmps41
      go_wp2_with fail
      go_quiet (first | (go_at_call 16; exact Calls.quiet_of_same (drives_any p n _ (HP.out.kept ((Kept.refl _).drewN _)))) | (go_at_call 42; exact Calls.quiet_of ((hwt _).mono fun _ _ h => ⟨h.1, 0, h.2⟩)))
      go_wp2_with fail
      go_ret
      exact ⟨rfl, (Kept.refl _).drewN _⟩
end Go.Proofs.Ytnfehfmmpjbgdaa
