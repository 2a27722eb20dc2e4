/- Is there a map; what a row is; is a number no row; rows become something. -/
import Derived.Test.YtleohicgbpebnaaAllocSt
import Derived.Deep.DeepCutAuto
import Derived.Deep.RegionWith
import Derived.Deep.QuietTactic
namespace Go.Proofs.Ytleohicgbpebnaa
open Go.RowKit
set_option linter.unusedVariables false
theorem none_any (g : Nat) (w : World) (h : w.cell? ⟨g, 0, none⟩ = some (.bool true)) :
    Calls Try.prog 27 #[.pointer (some ⟨g, 0, none⟩)] w fun e w' => e = .returned (.bool false) ∧ w' = w := by
  go_enter Try.func27, Try.ntmps27
  go_wp2_with fail
  go_ret
  exact ⟨rfl, rfl⟩
theorem none_nil (w : World) :
    Calls Try.prog 27 #[.pointer none] w fun e w' => e = .returned (.bool true) ∧ w' = w := by
  go_enter Try.func27, Try.ntmps27
  go_wp2_with fail
  go_ret
  exact ⟨rfl, rfl⟩
/-- What a row is: 0, if it is none. -/
def ofN (n : Nat) (f : Nat → Nat) (r : Int) : Nat := if isRow n r = true then f r.toNat else 0
set_option maxRecDepth 100000 in
theorem of_any (g c n cap : Nat) (f : Nat → Nat) (r : Int) (hr : -9223372036854775808 ≤ r ∧ r ≤ 9223372036854775807) (w : World) (h : MapAt g c n cap f w) :
    Calls Try.prog 21 #[.pointer (some ⟨g, 0, none⟩), .int .i64 r] w fun e w' => e = .returned (.int .u8 (ofN n f r : Nat)) ∧ w' = w := by
  have h1 := h.hd
  have HM := Lib.hid h.made
  have HR := Lib.hid h.rows.cell
  have hn := h.nm
  clear h
  by_cases hneg : r < 0
  · have HO : Hid (ofN n f r = 0) := if_neg (fun h => by have := of_decide_eq_true h; omega)
    have hb : decide (r < 0) = true := decide_eq_true hneg
    go_enter Try.func21, Try.ntmps21
    go_wp2_with (go_at_call 27; refine (none_any g _ HM.out).mono ?_; rintro e w1 ⟨rfl, rfl⟩)
    go_ret
    rw [HO.out]
    exact ⟨rfl, rfl⟩
  · obtain ⟨j, rfl⟩ : ∃ j : Nat, r = j := ⟨r.toNat, by omega⟩
    have hb : decide ((j : Int) < 0) = false := decide_eq_false hneg
    by_cases hlt : j < n
    · have HO : Hid (ofN n f (j : Nat) = f j) := if_pos (decide_eq_true ⟨by omega, by omega⟩)
      have hc := HR.out j hlt
      go_enter Try.func21, Try.ntmps21
      go_wp2_with (go_at_call 27; refine (none_any g _ HM.out).mono ?_; rintro e w1 ⟨rfl, rfl⟩)
      go_ret
      rw [HO.out]
      exact ⟨rfl, rfl⟩
    · have HO : Hid (ofN n f (j : Nat) = 0) := if_neg (fun h => by have := of_decide_eq_true h; omega)
      go_enter Try.func21, Try.ntmps21
      go_wp2_with (go_at_call 27; refine (none_any g _ HM.out).mono ?_; rintro e w1 ⟨rfl, rfl⟩)
      go_ret
      rw [HO.out]
      exact ⟨rfl, rfl⟩
theorem of_nil (r : Int) (w : World) :
    Calls Try.prog 21 #[.pointer none, .int .i64 r] w fun e w' => e = .returned (.int .u8 0) ∧ w' = w := by
  go_enter Try.func21, Try.ntmps21
  go_wp2_with (go_at_call 27; refine (none_nil _).mono ?_; rintro e w1 ⟨rfl, rfl⟩)
  go_ret
  exact ⟨rfl, rfl⟩
end Go.Proofs.Ytleohicgbpebnaa
