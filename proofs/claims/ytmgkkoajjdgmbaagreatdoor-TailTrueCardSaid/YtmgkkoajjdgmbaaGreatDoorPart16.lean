/- What may be wrong, told by a row of closures: the first one that tells a fault. -/
import Derived.Test.YtmgkkoajjdgmbaaGreatDoorPart15
import Derived.Deep.DeepCutAuto
import Derived.Deep.RegionWith
set_option linter.unusedVariables false
set_option linter.unusedSimpArgs false
set_option linter.unusedSectionVars false
set_option linter.unnecessarySimpa false
set_option linter.deprecated false
namespace Go.Proofs.YtmgkkoajjdgmbaaGreatDoor
open Go.RowKit
set_option linter.unusedVariables false
/-- The function value v tells e, from w on, whatever memory is made. -/
def Fault (v : Value) (e : Nat) (w : World) : Prop :=
  ∃ (j : Nat) (caps : Array Value), v = .func (.func j) #[] caps ∧ (∀ args w, (callFunc j args).run Tryz.prog w = .ok (.enter j args) w) ∧
    ∀ w', Kept w w' → Calls Tryz.prog j caps w' fun r w'' => r = .returned (.int .i64 (e : Nat)) ∧ Kept w' w''
theorem Fault.kept {v : Value} {e : Nat} {w w' : World} (h : Fault v e w) (k : Kept w w') : Fault v e w' := by
  obtain ⟨j, caps, rfl, hen, hc⟩ := h
  exact ⟨j, caps, rfl, hen, fun w'' k' => hc w'' (k.trans k')⟩
/-- The first fault of n. -/
def fstE (es : Nat → Nat) : Nat → Nat
  | 0 => 0
  | n + 1 => if fstE es n = 0 then es n else fstE es n
theorem fstE_zero (es : Nat → Nat) : ∀ n, fstE es n = 0 ↔ ∀ j, j < n → es j = 0
  | 0 => by simp [fstE]
  | n + 1 => by
    have ih := fstE_zero es n
    unfold fstE
    split
    · rename_i h
      constructor
      · intro h2 j hj
        by_cases e : j = n
        · subst e; exact h2
        · exact ih.1 h j (by omega)
      · intro h2; exact h2 n (by omega)
    · rename_i h
      constructor
      · intro h2; exact absurd h2 h
      · intro h2; exact absurd (ih.2 fun j hj => h2 j (by omega)) h
theorem fstE_stop (es : Nat → Nat) (k : Nat) (h0 : fstE es k = 0) (h : es k ≠ 0) : ∀ n, k < n → fstE es n = es k
  | n + 1, hn => by
    unfold fstE
    by_cases e : k = n
    · subst e; rw [if_pos h0]
    · have := fstE_stop es k h0 h n (by omega)
      rw [this, if_neg h]
theorem int_nz (e : Nat) (h : e ≠ 0) : ((e : Int) != 0) = true := by simp [bne]; omega
theorem int_eq (e : Nat) (h : e = 0) : ((e : Int) != 0) = false := by subst h; rfl
set_option maxHeartbeats 1000000 in
set_option maxRecDepth 100000 in
theorem first_any (g n : Nat) (vs : Nat → Value) (es : Nat → Nat) (w : World) (hn : n ≤ 100)
    (hv : ∀ i, i < n → w.cell? ⟨g, i, none⟩ = some (vs i)) (hf : ∀ i, i < n → fstE es i = 0 → Fault (vs i) (es i) w) :
    Calls Tryz.prog 29 #[.slice (some ⟨g, 0, none⟩) n n] w fun r w' => r = .returned (.int .i64 (fstE es n : Nat)) ∧ Kept w w' := by
  have HV := Lib.hid hv
  have HF := Lib.hid hf
  clear hv hf
  go_enter Tryz.func29, Tryz.ntmps29
  go_wp2_with fail
  go_loopw [8] (fun i wr => ∃ k : Nat, k ≤ n ∧ i = .int .i64 k ∧ Kept w wr ∧ fstE es k = 0) (fun i _ => n - (intOf i).toNat)
  case atStart => exact ⟨0, Nat.zero_le _, rfl, Kept.refl _, rfl⟩
  case round =>
    obtain ⟨k, hk, rfl, hkk, h0⟩ := hrel
    by_cases hlt : k < n
    · have hc : wr.cell? ⟨g, k, none⟩ = some (vs k) := by
        have h := HV.out k hlt
        rw [Below.cell hkk (p := ⟨g, k, none⟩) (block_lt_of_cell h)]; exact h
      obtain ⟨j, caps, hvk, hen, hcall⟩ := HF.out k hlt h0
      rw [hvk] at hc
      have HK := Lib.hid hkk
      have HCL := Lib.hid (hcall _ hkk)
      have HEJ := Lib.hid hen
      have HES := Lib.hid (fstE_stop es k h0)
      have HEN : Hid (es k = 0 → fstE es (k + 1) = 0) := fun h => by show fstE es (k + 1) = 0; unfold fstE; rw [if_pos h0]; exact h
      generalize hek : es k = e at *
      clear hcall hvk hkk h0 hen
      by_cases he : e = 0
      · have hz := int_eq e he
        go_wp2_with fail
        rw [HEJ.out, Oper.upon_enter]
        refine HCL.out.mono ?_
        rintro r w1 ⟨rfl, hk1⟩
        have HK1 : Hid (Kept w w1) := HK.out.trans hk1
        clear HCL hk1
        go_wp2_with fail
        exact ⟨⟨k + 1, by omega, by go_num, HK1.out, HEN.out he⟩, by simp [intOf]; omega⟩
      · have hz := int_nz e he
        go_wp2_with fail
        rw [HEJ.out, Oper.upon_enter]
        refine HCL.out.mono ?_
        rintro r w1 ⟨rfl, hk1⟩
        have HK1 : Hid (Kept w w1) := HK.out.trans hk1
        have HR := Lib.hid (HES.out he n hlt)
        clear HCL hk1
        go_wp2_with fail
        go_ret
        rw [HR.out]
        exact ⟨rfl, HK1.out⟩
    · obtain rfl : k = n := by omega
      go_wp2_with fail
      go_ret
      rw [h0]
      exact ⟨rfl, hkk⟩
set_option maxRecDepth 100000 in
theorem when_any (b : Bool) (e : Nat) (w : World) :
    Calls Tryz.prog 53 #[.bool b, .int .i64 (e : Nat)] w fun r w' => r = .returned (.int .i64 ((if b then e else 0 : Nat) : Nat)) ∧ w' = w := by
  cases b
  all_goals
    go_enter Tryz.func53, Tryz.ntmps53
    go_wp2_with fail
    go_ret
    exact ⟨rfl, rfl⟩
end Go.Proofs.YtmgkkoajjdgmbaaGreatDoor
