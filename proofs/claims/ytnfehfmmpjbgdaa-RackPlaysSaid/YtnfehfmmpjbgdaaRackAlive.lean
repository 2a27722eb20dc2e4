/- Some answers that the document fixes. -/
import Derived.Test.YtnfehfmmpjbgdaaRackAny
namespace Go.Proofs.Ytnfehfmmpjbgdaa
open Go.RowKit
set_option linter.unusedVariables false
namespace Al
def A0 : RSt := rack0 2 3
def A1 : RSt := A0.writeS 0 1 ⟨#[97, 98]⟩
def A2 : RSt := A1.spoilS 0 1
def A3 : RSt := A2.writeS 0 1 ⟨#[99]⟩
def A4 : RSt := A3.cutS 1
def A5 : RSt := A4.writeS 1 0 ⟨#[120]⟩
def A6 : RSt := A5.writeS 1 0 ⟨#[121]⟩
def A7 : RSt := A6.liftS
def A8 : RSt := A7.writeS 2 0 ⟨#[]⟩
def A9 : RSt := A8.wipeS 0
end Al
open Al
set_option maxHeartbeats 4000000 in
set_option maxRecDepth 100000 in
theorem alive_any (w : World) : Calls Try.prog 8 #[] w fun e w' => e = .returned (.bool true) ∧ Kept w w' := by
  obtain ⟨g, hg⟩ : ∃ g, g = w.heap.size := ⟨_, rfl⟩
  have HG := Lib.hid hg
  have K0 : Hid (Kept w w) := Kept.refl _
  clear hg
  go_enter Try.func8, Try.ntmps8
  go_wp2_with fail
  refine (pNew_ok 2 3 (by decide) (by decide) (by decide) (by decide) _).mono ?_
  rintro e w1 ⟨rfl, hk, hR, _⟩
  rw [← HG.out] at hR
  rw [← HG.out]
  have R1 : Hid (RackAt g A0 w1) := hR
  have K1 : Hid (Kept w w1) := hk
  clear hk hR
  have hc := write_any g A0 0 1 (by decide) (by decide) (by decide) (by decide) ⟨#[97, 98]⟩ (by decide) w1 R1.out
  rw [show A0.writeE 0 1 ⟨#[97, 98]⟩ = 0 from by kernel_rfl] at hc
  go_wp2_with fail
  refine hc.mono ?_
  clear hc
  rintro e w2 ⟨rfl, hR, hO⟩
  have R2 : Hid (RackAt g A1 w2) := hR
  have K2 : Hid (Kept w w2) := Only.kept K1.out (Nat.le_of_eq HG.out.symm) hO
  clear hR hO
  have hc := spoil_any g A1 0 1 (by decide) (by decide) (by decide) (by decide) w2 R2.out
  rw [show A1.spoilE 0 1 = 0 from by kernel_rfl] at hc
  go_wp2_with fail
  refine hc.mono ?_
  clear hc
  rintro e w3 ⟨rfl, hR, hO⟩
  have R3 : Hid (RackAt g A2 w3) := hR
  have K3 : Hid (Kept w w3) := Only.kept K2.out (Nat.le_of_eq HG.out.symm) hO
  clear hR hO
  have hc := read_any g A2 0 1 (by decide) (by decide) (by decide) (by decide) w3 R3.out
  rw [show A2.readE 0 1 = 72 from by kernel_rfl] at hc
  rw [show A2.readT 0 1 = ⟨#[]⟩ from by kernel_rfl] at hc
  go_wp2_with fail
  refine hc.mono ?_
  clear hc
  rintro e w4 ⟨rfl, hk⟩
  have R4 : Hid (RackAt g A2 w4) := R3.out.kept hk
  have K4 : Hid (Kept w w4) := K3.out.trans hk
  clear hk
  have hc := write_any g A2 0 1 (by decide) (by decide) (by decide) (by decide) ⟨#[99]⟩ (by decide) w4 R4.out
  rw [show A2.writeE 0 1 ⟨#[99]⟩ = 0 from by kernel_rfl] at hc
  go_wp2_with fail
  refine hc.mono ?_
  clear hc
  rintro e w5 ⟨rfl, hR, hO⟩
  have R5 : Hid (RackAt g A3 w5) := hR
  have K5 : Hid (Kept w w5) := Only.kept K4.out (Nat.le_of_eq HG.out.symm) hO
  clear hR hO
  obtain ⟨X, hX⟩ : ∃ X, X = A3.readT 0 1 := ⟨_, rfl⟩
  have hXs : X.size = 64 := by rw [hX]; kernel_rfl
  have hX0 : X[0] = 99 := by subst hX; kernel_rfl
  have hX1 : X[1] = 0 := by subst hX; kernel_rfl
  have hc := read_any g A3 0 1 (by decide) (by decide) (by decide) (by decide) w5 R5.out
  rw [show A3.readE 0 1 = 0 from by kernel_rfl] at hc
  rw [← hX] at hc
  go_wp2_with fail
  refine hc.mono ?_
  clear hc
  rintro e w6 ⟨rfl, hk⟩
  have R6 : Hid (RackAt g A3 w6) := R5.out.kept hk
  have K6 : Hid (Kept w w6) := K5.out.trans hk
  clear hk
  clear hX
  have hc := cut_any g A3 1 (by decide) (by decide) w6 R6.out
  rw [show RSt.cutE 1 = 0 from by kernel_rfl] at hc
  go_wp2_with fail
  refine hc.mono ?_
  clear hc
  rintro e w7 ⟨rfl, hR, hO⟩
  have R7 : Hid (RackAt g A4 w7) := hR
  have K7 : Hid (Kept w w7) := Only.kept K6.out (Nat.le_of_eq HG.out.symm) hO
  clear hR hO
  have hc := write_any g A4 1 0 (by decide) (by decide) (by decide) (by decide) ⟨#[120]⟩ (by decide) w7 R7.out
  rw [show A4.writeE 1 0 ⟨#[120]⟩ = 0 from by kernel_rfl] at hc
  go_wp2_with fail
  refine hc.mono ?_
  clear hc
  rintro e w8 ⟨rfl, hR, hO⟩
  have R8 : Hid (RackAt g A5 w8) := hR
  have K8 : Hid (Kept w w8) := Only.kept K7.out (Nat.le_of_eq HG.out.symm) hO
  clear hR hO
  have hc := write_any g A5 1 0 (by decide) (by decide) (by decide) (by decide) ⟨#[121]⟩ (by decide) w8 R8.out
  rw [show A5.writeE 1 0 ⟨#[121]⟩ = 71 from by kernel_rfl] at hc
  go_wp2_with fail
  refine hc.mono ?_
  clear hc
  rintro e w9 ⟨rfl, hR, hO⟩
  have R9 : Hid (RackAt g A6 w9) := hR
  have K9 : Hid (Kept w w9) := Only.kept K8.out (Nat.le_of_eq HG.out.symm) hO
  clear hR hO
  have hc := read_any g A6 1 0 (by decide) (by decide) (by decide) (by decide) w9 R9.out
  rw [show A6.readE 1 0 = 71 from by kernel_rfl] at hc
  rw [show A6.readT 1 0 = ⟨#[]⟩ from by kernel_rfl] at hc
  go_wp2_with fail
  refine hc.mono ?_
  clear hc
  rintro e w10 ⟨rfl, hk⟩
  have R10 : Hid (RackAt g A6 w10) := R9.out.kept hk
  have K10 : Hid (Kept w w10) := K9.out.trans hk
  clear hk
  have hc := lift_any g A6  w10 R10.out
  go_wp2_with fail
  refine hc.mono ?_
  clear hc
  rintro e w11 ⟨rfl, hR, hO⟩
  have R11 : Hid (RackAt g A7 w11) := hR
  have K11 : Hid (Kept w w11) := Only.kept K10.out (Nat.le_of_eq HG.out.symm) hO
  clear hR hO
  obtain ⟨Y, hY⟩ : ∃ Y, Y = A7.readT 1 0 := ⟨_, rfl⟩
  have hYs : Y.size = 64 := by rw [hY]; kernel_rfl
  have hY0 : Y[0] = 120 := by subst hY; kernel_rfl
  have hc := read_any g A7 1 0 (by decide) (by decide) (by decide) (by decide) w11 R11.out
  rw [show A7.readE 1 0 = 0 from by kernel_rfl] at hc
  rw [← hY] at hc
  go_wp2_with fail
  refine hc.mono ?_
  clear hc
  rintro e w12 ⟨rfl, hk⟩
  have R12 : Hid (RackAt g A7 w12) := R11.out.kept hk
  have K12 : Hid (Kept w w12) := K11.out.trans hk
  clear hk
  clear hY
  have hc := write_any g A7 2 0 (by decide) (by decide) (by decide) (by decide) ⟨#[]⟩ (by decide) w12 R12.out
  rw [show A7.writeE 2 0 ⟨#[]⟩ = 70 from by kernel_rfl] at hc
  go_wp2_with fail
  refine hc.mono ?_
  clear hc
  rintro e w13 ⟨rfl, hR, hO⟩
  have R13 : Hid (RackAt g A8 w13) := hR
  have K13 : Hid (Kept w w13) := Only.kept K12.out (Nat.le_of_eq HG.out.symm) hO
  clear hR hO
  have hc := writes_any g A8 0 (by decide) (by decide) w13 R13.out
  rw [show A8.writes 0 = 2 from by kernel_rfl] at hc
  go_wp2_with fail
  refine hc.mono ?_
  clear hc
  rintro e w14 ⟨rfl, hk⟩
  have R14 : Hid (RackAt g A8 w14) := R13.out.kept hk
  have K14 : Hid (Kept w w14) := K13.out.trans hk
  clear hk
  go_wp2_with fail
  refine (drives_any _ 2 _ R14.out.has).mono ?_
  rintro e w15 ⟨rfl, hw⟩
  have R15 : Hid (RackAt g A8 w15) := by rw [hw]; exact R14.out
  have K15 : Hid (Kept w w15) := by rw [hw]; exact K14.out
  clear hw
  go_wp2_with fail
  refine (sectors_any g A8 _ R15.out).mono ?_
  rintro e w16 ⟨rfl, hk⟩
  have R16 : Hid (RackAt g A8 w16) := R15.out.kept hk
  have K16 : Hid (Kept w w16) := K15.out.trans hk
  rw [show A8.m = 3 from rfl]
  clear hk
  obtain ⟨Z, hZ⟩ : ∃ Z, Z = A8.all 1 := ⟨_, rfl⟩
  have hZs : Z.size = 192 := by rw [hZ]; kernel_rfl
  have hc := all_any g A8 1 (by decide) (by decide) w16 R16.out
  rw [← hZ] at hc
  go_wp2_with fail
  refine hc.mono ?_
  clear hc
  rintro e w17 ⟨rfl, hk⟩
  have R17 : Hid (RackAt g A8 w17) := R16.out.kept hk
  have K17 : Hid (Kept w w17) := K16.out.trans hk
  clear hk
  clear hZ
  have hc := wipe_any g A8 0 (by decide) (by decide) w17 R17.out
  rw [show A8.wipeE 0 = 0 from by kernel_rfl] at hc
  go_wp2_with fail
  refine hc.mono ?_
  clear hc
  rintro e w18 ⟨rfl, hR, hO⟩
  have R18 : Hid (RackAt g A9 w18) := hR
  have K18 : Hid (Kept w w18) := Only.kept K17.out (Nat.le_of_eq HG.out.symm) hO
  clear hR hO
  have hc := cut_any g A9 (-1) (by decide) (by decide) w18 R18.out
  rw [show RSt.cutE (-1) = 2 from by kernel_rfl] at hc
  go_wp2_with fail
  refine hc.mono ?_
  clear hc
  rintro e w19 ⟨rfl, hR, hO⟩
  have R19 : Hid (RackAt g (A9.cutS (-1)) w19) := hR
  have K19 : Hid (Kept w w19) := Only.kept K18.out (Nat.le_of_eq HG.out.symm) hO
  clear hR hO
  go_wp2_with fail
  go_ret
  exact ⟨rfl, K19.out⟩
end Go.Proofs.Ytnfehfmmpjbgdaa
