/- The other closures of the program's rack. -/
import Derived.Test.YtnfehfmmpjbgdaaRackFault3
namespace Go.Proofs.Ytnfehfmmpjbgdaa
open Go.RowKit
set_option linter.unusedVariables false
theorem when_if (b : Bool) (e : Nat) (w : World) :
    Calls Try.prog 42 #[.bool b, .int .i64 (e : Nat)] w fun r w' => r = .returned (.int .i64 (ifE b e : Nat)) ∧ w' = w := when_any b e w
set_option maxRecDepth 100000 in
theorem tooFew_fn (g : Nat) (k : Int) (w : World) (h : w.cell? ⟨g, 0, none⟩ = some (.int .i64 k)) :
    Calls Try.prog 46 #[.pointer (some ⟨g, 0, none⟩)] w fun r w' => r = .returned (.int .i64 (RSt.cutE k : Nat)) ∧ Kept w w' := by
  by_cases h0 : k < 0
  · rw [show RSt.cutE k = 2 from if_pos h0]
    have hb : decide (k < 0) = true := decide_eq_true h0
    have hwt := fun w => when_any true 2 w
    rw [if_pos rfl] at hwt
    go_enter Try.func46, Try.ntmps46
    go_wp2_with fail
    refine (hwt _).mono ?_
    rintro e w1 ⟨rfl, rfl⟩
    go_wp2_with fail
    go_ret
    exact ⟨rfl, Kept.refl _⟩
  · rw [show RSt.cutE k = 0 from if_neg h0]
    have hb : decide (k < 0) = false := decide_eq_false h0
    have hwt := fun w => when_any false 2 w
    rw [if_neg (by decide)] at hwt
    go_enter Try.func46, Try.ntmps46
    go_wp2_with fail
    refine (hwt _).mono ?_
    rintro e w1 ⟨rfl, rfl⟩
    go_wp2_with fail
    go_ret
    exact ⟨rfl, Kept.refl _⟩
set_option maxRecDepth 100000 in
theorem tooFew_any (k : Int) (w : World) :
    Calls Try.prog 36 #[.int .i64 k] w fun r w' => ∃ j caps, r = .returned (.func (.func j) #[] caps) ∧ Fault (.func (.func j) #[] caps) (RSt.cutE k) w' ∧ Kept w w' := by
  have hmf : ∀ (fn : Fn) (first cap : Array Value) (w : World), (Instr.makeFunc fn first cap).run Try.prog w = .ok (.func fn first cap) w := fun _ _ _ _ => rfl
  go_enter Try.func36, Try.ntmps36
  go_wp2_with fail
  go_ret
  refine ⟨_, _, rfl, ⟨_, _, rfl, enters_of Try.func46 (by kernel_rfl) rfl, fun w' k' => ?_⟩, (Kept.refl _).alloc _⟩
  exact tooFew_fn w.heap.size k w' (cell_kept (cell_box _ _ _) k')
/-- What a text that is too long comes to. -/
def longE (t : ByteArray) : Nat := if 64 < t.size then 4 else 0
set_option maxRecDepth 100000 in
theorem tooLong_fn (g : Nat) (t : ByteArray) (w : World) (ht : t.size ≤ 9223372036854775807) (h : w.cell? ⟨g, 0, none⟩ = some (.string t)) :
    Calls Try.prog 49 #[.pointer (some ⟨g, 0, none⟩)] w fun r w' => r = .returned (.int .i64 (longE t : Nat)) ∧ Kept w w' := by
  by_cases h0 : 64 < t.size
  · rw [show longE t = 4 from if_pos h0]
    have hb : decide ((64 : Int) < (t.size : Nat)) = true := decide_eq_true (by omega)
    have hwt := fun w => when_any true 4 w
    rw [if_pos rfl] at hwt
    go_enter Try.func49, Try.ntmps49
    go_wp2_with fail
    refine (hwt _).mono ?_
    rintro e w1 ⟨rfl, rfl⟩
    go_wp2_with fail
    go_ret
    exact ⟨rfl, Kept.refl _⟩
  · rw [show longE t = 0 from if_neg h0]
    have hb : decide ((64 : Int) < (t.size : Nat)) = false := decide_eq_false (by omega)
    have hwt := fun w => when_any false 4 w
    rw [if_neg (by decide)] at hwt
    go_enter Try.func49, Try.ntmps49
    go_wp2_with fail
    refine (hwt _).mono ?_
    rintro e w1 ⟨rfl, rfl⟩
    go_wp2_with fail
    go_ret
    exact ⟨rfl, Kept.refl _⟩
set_option maxRecDepth 100000 in
theorem tooLong_any (t : ByteArray) (w : World) (ht : t.size ≤ 9223372036854775807) :
    Calls Try.prog 38 #[.string t] w fun r w' => ∃ j caps, r = .returned (.func (.func j) #[] caps) ∧ Fault (.func (.func j) #[] caps) (longE t) w' ∧ Kept w w' := by
  have hmf : ∀ (fn : Fn) (first cap : Array Value) (w : World), (Instr.makeFunc fn first cap).run Try.prog w = .ok (.func fn first cap) w := fun _ _ _ _ => rfl
  go_enter Try.func38, Try.ntmps38
  go_wp2_with fail
  go_ret
  refine ⟨_, _, rfl, ⟨_, _, rfl, enters_of Try.func49 (by kernel_rfl) rfl, fun w' k' => ?_⟩, (Kept.refl _).alloc _⟩
  exact tooLong_fn w.heap.size t w' ht (cell_kept (cell_box _ _ _) k')
set_option maxRecDepth 100000 in
theorem still_fn (g r : Nat) (s : RSt) (w : World) (h : w.cell? ⟨r, 0, none⟩ = some (.pointer (some ⟨g + 1, 0, none⟩))) (hR : RackAt g s w) :
    Calls Try.prog 50 #[.pointer (some ⟨r, 0, none⟩)] w fun e w' => e = .returned (.int .i64 (ifE s.down 71 : Nat)) ∧ Kept w w' := by
  have h1 := hR.c1
  have h2 := hR.c2
  clear hR
  have hwt := fun w => when_any true 71 w
  rw [if_pos rfl] at hwt
  have hwf := fun w => when_any false 71 w
  rw [if_neg (by decide)] at hwf
  unfold RSt.down
  cases hc : s.cut
  · rw [hc] at h1
    rw [show ifE (false && s.left == 0) 71 = 0 from rfl]
    go_enter Try.func50, Try.ntmps50
    go_wp2_with fail
    refine (hwf _).mono ?_
    rintro e w1 ⟨rfl, rfl⟩
    go_wp2_with fail
    go_ret
    exact ⟨rfl, Kept.refl _⟩
  · rw [hc] at h1
    by_cases h0 : s.left = 0
    · rw [h0] at h2
      rw [h0, show ifE (true && (0 : Nat) == 0) 71 = 71 from rfl]
      go_enter Try.func50, Try.ntmps50
      go_wp2_with fail
      refine (hwt _).mono ?_
      rintro e w1 ⟨rfl, rfl⟩
      go_wp2_with fail
      go_ret
      exact ⟨rfl, Kept.refl _⟩
    · have hz : (s.left == 0) = false := by simp [h0]
      rw [show ifE (true && (s.left == 0)) 71 = 0 from by rw [hz]; rfl]
      have hz2 : ((s.left : Int) == 0) = false := by simp [h0]
      generalize s.left = k at *
      clear hz h0
      go_enter Try.func50, Try.ntmps50
      go_wp2_with fail
      refine (hwf _).mono ?_
      rintro e w1 ⟨rfl, rfl⟩
      go_wp2_with fail
      go_ret
      exact ⟨rfl, Kept.refl _⟩
set_option maxRecDepth 100000 in
theorem still_any (g : Nat) (s : RSt) (p : Option Addr) (w : World) :
    Calls Try.prog 39 #[.pointer p] w fun r w' => ∃ j caps, r = .returned (.func (.func j) #[] caps) ∧ (p = some ⟨g + 1, 0, none⟩ → RackAt g s w → Fault (.func (.func j) #[] caps) (ifE s.down 71) w') ∧ Kept w w' := by
  have hmf : ∀ (fn : Fn) (first cap : Array Value) (w : World), (Instr.makeFunc fn first cap).run Try.prog w = .ok (.func fn first cap) w := fun _ _ _ _ => rfl
  go_enter Try.func39, Try.ntmps39
  go_wp2_with fail
  go_ret
  refine ⟨_, _, rfl, fun hp hR => ⟨_, _, rfl, enters_of Try.func50 (by kernel_rfl) rfl, fun w' k' => ?_⟩, (Kept.refl _).alloc _⟩
  subst hp
  exact still_fn g w.heap.size s w' (cell_kept (cell_box _ _ _) k') (hR.kept (((Kept.refl _).alloc _).trans k'))
/-- What a sector that is not there comes to. -/
def secE (s : RSt) (d i : Int) : Nat := if s.there d i then 0 else 70
def rowE (m : Nat) (i : Int) : Nat := if 0 ≤ i ∧ i < m then 0 else 70
theorem or2_secE (s : RSt) (d i : Int) : or2 (drvE s.n d) (rowE s.m i) = secE s d i := by
  unfold or2 secE drvE rowE RSt.there
  by_cases h1 : 0 ≤ d ∧ d < s.n
  · by_cases h2 : 0 ≤ i ∧ i < s.m
    · rw [if_pos h1, if_pos rfl, if_pos h2, if_pos (decide_eq_true ⟨h1.1, h1.2, h2.1, h2.2⟩)]
    · rw [if_pos h1, if_pos rfl, if_neg h2, if_neg (by simp; intros; omega)]
  · rw [if_neg h1, if_neg (by decide), if_neg (by simp; intros; omega)]
set_option maxHeartbeats 1000000 in
set_option maxRecDepth 100000 in
theorem row_fn (g g1 g2 : Nat) (s : RSt) (i : Int) (w : World) (hd1 : -9223372036854775808 ≤ i) (hd2 : i ≤ 9223372036854775807) (h1 : w.cell? ⟨g1, 0, none⟩ = some (.int .i64 i)) (h2 : w.cell? ⟨g2, 0, none⟩ = some (.pointer (some ⟨g + 1, 0, none⟩))) (hR : RackAt g s w) :
    Calls Try.prog 48 #[.pointer (some ⟨g1, 0, none⟩), .pointer (some ⟨g2, 0, none⟩)] w fun r w' => r = .returned (.int .i64 (rowE s.m i : Nat)) ∧ Kept w w' := by
  have HR := Lib.hid hR
  have hm := hR.wf.m2
  clear hR
  have hwt := fun w => when_any true 70 w
  rw [if_pos rfl] at hwt
  have hwf := fun w => when_any false 70 w
  rw [if_neg (by decide)] at hwf
  by_cases h0 : i < 0
  · rw [show rowE s.m i = 70 from if_neg (by omega)]
    have hb : decide (i < 0) = true := decide_eq_true h0
    go_enter Try.func48, Try.ntmps48
    go_wp2_with fail
    go_quiet (first | (go_at_call 42; exact Calls.quiet_of ((hwt _).mono fun _ _ h => ⟨h.1, 0, h.2⟩)))
    go_wp2_with fail
    go_ret
    exact ⟨rfl, (Kept.refl _).drewN _⟩
  · have hb : decide (i < 0) = false := decide_eq_false h0
    have HKC : Hid (∀ w', Kept w w' → w'.cell? ⟨g1, 0, none⟩ = some (.int .i64 i) ∧ w'.cell? ⟨g2, 0, none⟩ = some (.pointer (some ⟨g + 1, 0, none⟩))) := fun w' k => ⟨cell_kept h1 k, cell_kept h2 k⟩
    have HLT : Hid (g1 < w.heap.size) := block_lt_of_cell h1
    have HK : Hid (Kept w w) := Kept.refl _
    by_cases h3 : i < s.m
    · rw [show rowE s.m i = 0 from if_pos (by omega)]
      have hb2 : decide (s.m ≤ i) = false := decide_eq_false (by omega)
      go_enter Try.func48, Try.ntmps48
      go_wp2_with fail
      go_region_held3 (fun w' => w'.cell? ⟨g1, 0, none⟩ = some (.int .i64 i) ∧ w'.cell? ⟨g2, 0, none⟩ = some (.pointer (some ⟨g + 1, 0, none⟩))) (first | exact ⟨h1, h2⟩ | exact HKC.out _ (((Kept.refl _).drewN _).trans hk1) | exact HKC.out _ ((((Kept.refl _).drewN _).trans hk1).drewN _)) (first | (go_at_call 17; refine (sectors_any g s _ (HR.out.drewN _)).mono ?_; rintro e w1 ⟨rfl, hk1⟩) | (go_at_call 42; refine (hwf _).mono ?_; rintro e w3 ⟨rfl, rfl⟩))
      all_goals (go_wp2_with fail; go_ret; first | exact ⟨rfl, ((Kept.refl _).drewN _).trans hk1⟩ | exact ⟨rfl, (((Kept.refl _).drewN _).trans hk1).drewN _⟩)
    · rw [show rowE s.m i = 70 from if_neg (by omega)]
      have hb2 : decide (s.m ≤ i) = true := decide_eq_true (by omega)
      go_enter Try.func48, Try.ntmps48
      go_wp2_with fail
      go_region_held3 (fun w' => w'.cell? ⟨g1, 0, none⟩ = some (.int .i64 i) ∧ w'.cell? ⟨g2, 0, none⟩ = some (.pointer (some ⟨g + 1, 0, none⟩))) (first | exact ⟨h1, h2⟩ | exact HKC.out _ (((Kept.refl _).drewN _).trans hk1) | exact HKC.out _ ((((Kept.refl _).drewN _).trans hk1).drewN _)) (first | (go_at_call 17; refine (sectors_any g s _ (HR.out.drewN _)).mono ?_; rintro e w1 ⟨rfl, hk1⟩) | (go_at_call 42; refine (hwt _).mono ?_; rintro e w3 ⟨rfl, rfl⟩))
      all_goals (go_wp2_with fail; go_ret; first | exact ⟨rfl, ((Kept.refl _).drewN _).trans hk1⟩ | exact ⟨rfl, (((Kept.refl _).drewN _).trans hk1).drewN _⟩)
end Go.Proofs.Ytnfehfmmpjbgdaa
