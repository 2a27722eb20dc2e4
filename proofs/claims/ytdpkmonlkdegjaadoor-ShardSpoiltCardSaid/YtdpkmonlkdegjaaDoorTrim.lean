/- strings.Trim by one byte below 128: the library's own two walks, laid at this program. -/
import Derived.Shelf.Strings.Trim
import Derived.Test.YtdpkmonlkdegjaaDoorKept
import Derived.BigQuiet
namespace Go.Proofs.YtdpkmonlkdegjaaDoor
open Go.Shelf Go.RowKit Go.Lib
set_option linter.unusedVariables false
def trimRen : Go.Shelf.Ren := ⟨fun | 231 => 62 | 232 => 63 | n => n, fun | 9 => 9 | 4 => 4 | 3 => 3 | 5 => 5 | n => n, fun | n => n⟩
theorem trimLLays : Go.Proofs.Lays.n231 Tryd.prog trimRen := {
  mixed := by kernel_rfl
  f231 := Tryd.func62.trans (congrArg some (by kernel_rfl))
  t3 := Tryd.underlying3
  a3 := Tryd.isAgg3
  z3 := Tryd.sizeOf3
  v3 := Tryd.zeroValue3
  t4 := Tryd.underlying4
  a4 := Tryd.isAgg4
  z4 := Tryd.sizeOf4
  v4 := Tryd.zeroValue4
  t5 := Tryd.underlying5
  a5 := Tryd.isAgg5
  z5 := Tryd.sizeOf5
  v5 := Tryd.zeroValue5
  t9 := Tryd.underlying9
  a9 := Tryd.isAgg9
  z9 := Tryd.sizeOf9
  v9 := Tryd.zeroValue9 }
theorem trimRLays : Go.Proofs.Lays.n232 Tryd.prog trimRen := {
  mixed := by kernel_rfl
  f232 := Tryd.func63.trans (congrArg some (by kernel_rfl))
  t3 := Tryd.underlying3
  a3 := Tryd.isAgg3
  z3 := Tryd.sizeOf3
  v3 := Tryd.zeroValue3
  t4 := Tryd.underlying4
  a4 := Tryd.isAgg4
  z4 := Tryd.sizeOf4
  v4 := Tryd.zeroValue4
  t5 := Tryd.underlying5
  a5 := Tryd.isAgg5
  z5 := Tryd.sizeOf5
  v5 := Tryd.zeroValue5
  t9 := Tryd.underlying9
  a9 := Tryd.isAgg9
  z9 := Tryd.sizeOf9
  v9 := Tryd.zeroValue9 }
theorem trimL_any (s : ByteArray) (c : UInt8) (w : World) :
    Calls Tryd.prog 62 #[.string s, .int .u8 c.toNat] w fun e w' => e = .returned (.string ⟨(Lib.trimLeftB s.data.toList c).toArray⟩) ∧ w' = w := Any.strings_trimLeftByte trimLLays s c w
theorem trimR_any (s : ByteArray) (c : UInt8) (w : World) (hs : s.size ≤ 9223372036854775807) :
    Calls Tryd.prog 63 #[.string s, .int .u8 c.toNat] w fun e w' => e = .returned (.string ⟨(Lib.trimRightB s.data.toList c).toArray⟩) ∧ w' = w := Any.strings_trimRightByte trimRLays s c w hs
theorem trimB_nil (c : UInt8) : Lib.trimB [] c = [] := rfl
set_option maxHeartbeats 1000000 in
set_option maxRecDepth 100000 in
theorem trim_zero (s : ByteArray) (w : World) (hs : s.size ≤ 9223372036854775807) :
    Calls Tryd.prog 45 #[.string s, .string ⟨#[0]⟩] w fun e w' => (∃ r : ByteArray, e = .returned (.string r) ∧ Hid (r.data.toList = Lib.trimB s.data.toList 0)) ∧ Kept w w' := by
  have HR := Lib.hid (fun W => trimR_any s 0 W hs)
  have HL := Lib.hid (fun W => trimL_any ⟨(Lib.trimRightB s.data.toList 0).toArray⟩ 0 W)
  obtain ⟨x1, hx1⟩ : ∃ x : ByteArray, (⟨(Lib.trimRightB s.data.toList 0).toArray⟩ : ByteArray) = x := ⟨_, rfl⟩
  have HX1 := Lib.hid hx1
  rw [hx1] at HR HL
  clear hx1
  obtain ⟨x2, hx2⟩ : ∃ x : ByteArray, (⟨(Lib.trimLeftB x1.data.toList 0).toArray⟩ : ByteArray) = x := ⟨_, rfl⟩
  have HX2 := Lib.hid hx2
  rw [hx2] at HL
  clear hx2
  have HF : Hid (x2.data.toList = Lib.trimB s.data.toList 0) := by
    show _ = _
    rw [← HX2.out, ← HX1.out]; rfl
  cases he : s.toList == [] with
  | true =>
    have HE : Hid (s.data.toList = []) := by
      show _ = _
      rw [← ByteArray.toList_eq]; exact eq_of_beq he
    go_enter Tryd.func45, Tryd.ntmps45
    go_wp2_with fail
    go_ret
    exact ⟨⟨_, rfl, by show _ = _; rw [HE.out]; rfl⟩, Kept.refl _⟩
  | false =>
    go_enter Tryd.func45, Tryd.ntmps45
    go_wp2_with fail
    go_quiet (first | (go_at_call 63; exact Calls.quiet_of_same (HR.out _)) | (go_at_call 62; exact Calls.quiet_of_same (HL.out _)))
    all_goals (go_wp2_with fail; go_ret; exact ⟨⟨_, rfl, HF⟩, (Kept.refl _).drewN _⟩)
end Go.Proofs.YtdpkmonlkdegjaaDoor
