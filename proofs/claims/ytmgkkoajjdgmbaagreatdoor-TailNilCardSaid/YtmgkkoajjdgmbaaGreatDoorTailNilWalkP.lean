/- TailNil's walk. -/
import Derived.Test.YtmgkkoajjdgmbaaGreatDoorPart41
namespace Go.Proofs.YtmgkkoajjdgmbaaGreatDoor
open Go.RowKit Go.Shelf Sm Wr _root_.Go.Proofs.YtmgkkoajjdgmbaaGreatDoor.Nm
set_option linter.unusedVariables false
theorem room_nilK (w : World) : Calls Tryz.prog 22 #[.pointer none] w fun e w' => e = .returned (.int .i64 0) ∧ Kept w w' := by
  refine (room_nilT w).mono ?_
  rintro e w' ⟨rfl, h⟩
  rw [h]
  exact ⟨rfl, Kept.refl _⟩
set_option maxHeartbeats 1000000 in
set_option maxRecDepth 100000 in
theorem tailNil_walk (a0 : Int) (a1 : ByteArray) (w : World) (w0 : (Lit.int .u64 a0).wf = true) (w1 : a1.size ≤ maxLen) :
    Calls Tryz.prog 5 #[.int .u64 a0, .string a1] w fun e w' => e = .returned (.bool true) ∧ Kept w w' := by
  obtain ⟨d1, d2⟩ := bounds_u64 w0
  obtain ⟨gen, rfl⟩ : ∃ gen : Nat, a0 = (gen : Int) := ⟨a0.toNat, by omega⟩
  have HAL := Lib.hid (fun W => alive_any W)
  have H3 := Lib.hid (fun W => three_any W)
  have HB : Hid (∀ W, Calls Tryz.prog 12 #[.pointer none, .agg #[.int .i64 3, .int .i64 1, .int .i64 24, .int .i64 4], .int .u64 (gen : Nat)] W fun e w' => e = .returned (.tuple #[.pointer none, .int .i64 1]) ∧ Kept W w') := fun W => begin_nil g3 gen W
  have HL : Hid (∀ W, Calls Tryz.prog 17 #[.pointer none, .agg #[.int .i64 3, .int .i64 1, .int .i64 24, .int .i64 4], .int .u64 (gen : Nat)] W fun e w' => e = .returned (.tuple #[.pointer none, .slice none 0 0, .int .i64 1]) ∧ Kept W w') := fun W => load_nil g3 gen W
  have HM := Lib.hid (fun W => top_miss_nil W)
  have HMD := Lib.hid (fun W => top_mend_nil W)
  have HA := Lib.hid (fun W => top_app_nil a1 W)
  have HR := Lib.hid (fun W => room_nilK W)
  by_cases hs : a1.size ≤ 1024
  · have b1 : decide ((1024 : Int) < (a1.size : Int)) = false := decide_eq_false (by omega)
    go_enter Tryz.func5, Tryz.ntmps5
    go_upto_region 6 with (first
      | (go_at_call 21; refine (H3.out _).mono ?_; rintro e u1 ⟨rfl, k1⟩)
      | (go_at_call 12; refine (HB.out _).mono ?_; rintro e u2 ⟨rfl, k2⟩))
    have K2 := Lib.hid (k1.trans k2)
    clear k1 k2 HB
    go_upto_region 7 with (first
      | (go_at_call 21; refine (H3.out _).mono ?_; rintro e u3 ⟨rfl, k1⟩)
      | (go_at_call 17; refine (HL.out _).mono ?_; rintro e u4 ⟨rfl, k2⟩))
    have K4 := Lib.hid (K2.out.trans (k1.trans k2))
    clear k1 k2 HL H3 K2
    go_wp2_with (first
      | (go_at_call 20; refine (HM.out _).mono ?_; rintro e u5 ⟨rfl, k5⟩)
      | (go_at_call 19; refine (HMD.out _).mono ?_; rintro e u6 ⟨rfl, k6⟩)
      | (go_at_call 14; refine (HA.out _).mono ?_; rintro e u7 ⟨rfl, k7⟩)
      | (go_at_call 22; refine (HR.out _).mono ?_; rintro e u8 ⟨rfl, k8⟩)
      | (go_at_call 9; refine (HAL.out _).mono ?_; rintro e u9 ⟨rfl, k9⟩))
    go_ret
    exact ⟨rfl, K4.out.trans (k5.trans (k6.trans (k7.trans (k8.trans k9))))⟩
  · have b1 : decide ((1024 : Int) < (a1.size : Int)) = true := decide_eq_true (by omega)
    go_enter Tryz.func5, Tryz.ntmps5
    go_wp2_with (go_at_call 9; refine (HAL.out _).mono ?_; rintro e u1 ⟨rfl, k1⟩)
    go_ret
    exact ⟨rfl, k1⟩
end Go.Proofs.YtmgkkoajjdgmbaaGreatDoor
