/- strings.Trim by one byte below 128: the library's own two walks, laid at this program. -/
import Derived.Shelf.Strings.Trim
import Derived.Test.YtmgkkoajjdgmbaaGreatDoorPart0
import Derived.BigQuiet
set_option linter.unusedVariables false
set_option linter.unusedSimpArgs false
set_option linter.unusedSectionVars false
set_option linter.unnecessarySimpa false
set_option linter.deprecated false
namespace Go.Proofs.YtmgkkoajjdgmbaaGreatDoor
open Go.Shelf Go.RowKit Go.Lib
set_option linter.unusedVariables false
def trimRen : Go.Shelf.Ren := ⟨fun | 231 => 115 | 232 => 116 | n => n, fun | 9 => 9 | 4 => 4 | 3 => 3 | 5 => 5 | n => n, fun | n => n⟩
theorem trimLLays : Go.Proofs.Lays.n231 Tryz.prog trimRen := {
  mixed := by kernel_rfl
  f231 := Tryz.func115.trans (congrArg some (by kernel_rfl))
  t3 := Tryz.underlying3
  a3 := Tryz.isAgg3
  z3 := Tryz.sizeOf3
  v3 := Tryz.zeroValue3
  t4 := Tryz.underlying4
  a4 := Tryz.isAgg4
  z4 := Tryz.sizeOf4
  v4 := Tryz.zeroValue4
  t5 := Tryz.underlying5
  a5 := Tryz.isAgg5
  z5 := Tryz.sizeOf5
  v5 := Tryz.zeroValue5
  t9 := Tryz.underlying9
  a9 := Tryz.isAgg9
  z9 := Tryz.sizeOf9
  v9 := Tryz.zeroValue9 }
theorem trimRLays : Go.Proofs.Lays.n232 Tryz.prog trimRen := {
  mixed := by kernel_rfl
  f232 := Tryz.func116.trans (congrArg some (by kernel_rfl))
  t3 := Tryz.underlying3
  a3 := Tryz.isAgg3
  z3 := Tryz.sizeOf3
  v3 := Tryz.zeroValue3
  t4 := Tryz.underlying4
  a4 := Tryz.isAgg4
  z4 := Tryz.sizeOf4
  v4 := Tryz.zeroValue4
  t5 := Tryz.underlying5
  a5 := Tryz.isAgg5
  z5 := Tryz.sizeOf5
  v5 := Tryz.zeroValue5
  t9 := Tryz.underlying9
  a9 := Tryz.isAgg9
  z9 := Tryz.sizeOf9
  v9 := Tryz.zeroValue9 }
theorem trimL_any (s : ByteArray) (c : UInt8) (w : World) :
    Calls Tryz.prog 115 #[.string s, .int .u8 c.toNat] w fun e w' => e = .returned (.string ⟨(Lib.trimLeftB s.data.toList c).toArray⟩) ∧ w' = w := Any.strings_trimLeftByte trimLLays s c w
theorem trimR_any (s : ByteArray) (c : UInt8) (w : World) (hs : s.size ≤ 9223372036854775807) :
    Calls Tryz.prog 116 #[.string s, .int .u8 c.toNat] w fun e w' => e = .returned (.string ⟨(Lib.trimRightB s.data.toList c).toArray⟩) ∧ w' = w := Any.strings_trimRightByte trimRLays s c w hs
theorem trimB_nil (c : UInt8) : Lib.trimB [] c = [] := rfl
set_option maxHeartbeats 1000000 in
set_option maxRecDepth 100000 in
theorem trim_zero (s : ByteArray) (w : World) (hs : s.size ≤ 9223372036854775807) :
    Calls Tryz.prog 98 #[.string s, .string ⟨#[0]⟩] w fun e w' => (∃ r : ByteArray, e = .returned (.string r) ∧ Hid (r.data.toList = Lib.trimB s.data.toList 0)) ∧ Kept w w' := by
  have HR := Lib.hid (fun W => trimR_any s 0 W hs)
  have HL := Lib.hid (fun W => trimL_any ⟨(Lib.trimRightB s.data.toList 0).toArray⟩ 0 W)
  obtain ⟨x1, hx1⟩ : ∃ x : ByteArray, (⟨(Lib.trimRightB s.data.toList 0).toArray⟩ : ByteArray) = x := ⟨_, rfl⟩
  have HX1 := Lib.hid hx1
  rw [hx1] at HR HL
  clear hx1
  obtain ⟨x2, hx2⟩ : ∃ x : ByteArray, (⟨(Lib.trimLeftB x1.data.toList 0).toArray⟩ : ByteArray) = x := ⟨_, rfl⟩
  have HX2 := Lib.hid hx2
  rw [hx2] at HL
  clear hx2
  have HF : Hid (x2.data.toList = Lib.trimB s.data.toList 0) := by
    show _ = _
    rw [← HX2.out, ← HX1.out]; rfl
  cases he : s.toList == [] with
  | true =>
    have HE : Hid (s.data.toList = []) := by
      show _ = _
      rw [← ByteArray.toList_eq]; exact eq_of_beq he
    go_enter Tryz.func98, Tryz.ntmps98
    go_wp2_with fail
    go_ret
    exact ⟨⟨_, rfl, by show _ = _; rw [HE.out]; rfl⟩, Kept.refl _⟩
  | false =>
    go_enter Tryz.func98, Tryz.ntmps98
    go_wp2_with fail
    go_quiet (first | (go_at_call 116; exact Calls.quiet_of_same (HR.out _)) | (go_at_call 115; exact Calls.quiet_of_same (HL.out _)))
    all_goals (go_wp2_with fail; go_ret; exact ⟨⟨_, rfl, HF⟩, (Kept.refl _).drewN _⟩)
end Go.Proofs.YtmgkkoajjdgmbaaGreatDoor
