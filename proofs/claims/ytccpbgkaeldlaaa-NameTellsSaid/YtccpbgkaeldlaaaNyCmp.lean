/- Which of two keys comes first: the program's. -/
import Derived.Test.YtccpbgkaeldlaaaNyAt
import Derived.Test.YtccpbgkaeldlaaaGatU
namespace Go.Proofs.Ytccpbgkaeldlaaa
open Go.RowKit _root_.Go.Proofs.Ytccpbgkaeldlaaa.Nm Ny
set_option linter.unusedVariables false
set_option linter.unusedSimpArgs false
theorem bcompare_any (a b : ByteArray) (w : World) :
    Calls Try.prog 48 #[.string a, .string b] w fun e w' => e = .returned (.int .i64 (Lib.compareBytes a.data.toList b.data.toList)) ∧ w' = w := by
  go_enter Try.func48, Try.ntmps48
  go_wp2_with fail
  rw [run_callFunc_extern Try.func54 (by kernel_rfl) (by kernel_rfl) (by kernel_rfl) (e := Extern.BytealgCompare.compare) (by kernel_rfl), Lib.run_compareString]
  simp only [Result.andThen]
  rw [Oper.upon_value]
  go_wp2_with fail
  go_ret
  exact ⟨rfl, rfl⟩
theorem scompare_any (a b : ByteArray) (w : World) :
    Calls Try.prog 39 #[.string a, .string b] w fun e w' => e = .returned (.int .i64 (Lib.compareBytes a.data.toList b.data.toList)) ∧ w' = w := by
  go_enter Try.func39, Try.ntmps39
  go_wp2_with fail
  refine (bcompare_any a b _).mono ?_
  rintro e w1 ⟨rfl, rfl⟩
  go_wp2_with fail
  go_ret
  exact ⟨rfl, rfl⟩
set_option maxRecDepth 100000 in
theorem or5_any (a b c d e : Int) (w : World) (g : Nat) (h0 : w.cell? ⟨g, 0, none⟩ = some (.int .i64 a)) (h1 : w.cell? ⟨g, 1, none⟩ = some (.int .i64 b)) (h2 : w.cell? ⟨g, 2, none⟩ = some (.int .i64 c)) (h3 : w.cell? ⟨g, 3, none⟩ = some (.int .i64 d)) (h4 : w.cell? ⟨g, 4, none⟩ = some (.int .i64 e)) :
    Calls Try.prog 37 #[.slice (some ⟨g, 0, none⟩) 5 5] w fun r w' => r = .returned (.int .i64 (or5 a b c d e)) ∧ w' = w := by
  have HO : Hid (or5 a b c d e = if a ≠ 0 then a else if b ≠ 0 then b else if c ≠ 0 then c else if d ≠ 0 then d else e) := rfl
  have HF : Hid (∀ r : Int, r = or5 a b c d e → Ending.returned (.int .i64 r) = Ending.returned (.int .i64 (or5 a b c d e))) := fun r h => by rw [h]
  go_enter Try.func37, Try.ntmps37
  go_wp2_with fail
  go_loopw [8] (fun i wr => ∃ k : Nat, k ≤ 5 ∧ i = .int .i64 k ∧ Hid ((0 < k → a = 0) ∧ (1 < k → b = 0) ∧ (2 < k → c = 0) ∧ (3 < k → d = 0) ∧ (4 < k → e = 0)) ∧ wr = w) (fun i _ => 5 - (intOf i).toNat)
  case atStart => exact ⟨0, by omega, rfl, ⟨fun h => by omega, fun h => by omega, fun h => by omega, fun h => by omega, fun h => by omega⟩, rfl⟩
  case round =>
    obtain ⟨k, hk, rfl, HI, rfl⟩ := hrel
    obtain ⟨i0, i1, i2, i3, i4⟩ := HI.out
    rcases k with _ | _ | _ | _ | _ | _ | k
    · by_cases hz : a = 0
      · have hb : (a != 0) = false := by rw [hz]; rfl
        have HZ := Lib.hid hz
        clear hz i0 i1 i2 i3 i4
        go_wp2_with fail
        go_roundw
        case rel => exact ⟨1, by omega, by go_num, ⟨fun _ => HZ.out, fun h => by omega, fun h => by omega, fun h => by omega, fun h => by omega⟩, by first | rfl | trivial⟩
        case measure => simp [intOf]
      · have hb : (a != 0) = true := by rw [bne_iff_ne]; exact hz
        have HR : Hid (a = or5 a b c d e) := by show _ = _; rw [HO.out, if_pos hz]
        clear i0 i1 i2 i3 i4
        go_wp2_with fail
        go_ret
        exact ⟨HF.out _ HR.out, rfl⟩
    · by_cases hz : b = 0
      · have hb : (b != 0) = false := by rw [hz]; rfl
        have HZ := Lib.hid hz
        have I0 := Lib.hid i0
        clear hz i0 i1 i2 i3 i4
        go_wp2_with fail
        go_roundw
        case rel => exact ⟨2, by omega, by go_num, ⟨fun _ => I0.out (by omega), fun _ => HZ.out, fun h => by omega, fun h => by omega, fun h => by omega⟩, by first | rfl | trivial⟩
        case measure => simp [intOf]
      · have hb : (b != 0) = true := by rw [bne_iff_ne]; exact hz
        have HR : Hid (b = or5 a b c d e) := by show _ = _; rw [HO.out, if_neg (by simp [i0]), if_pos hz]
        clear i0 i1 i2 i3 i4
        go_wp2_with fail
        go_ret
        exact ⟨HF.out _ HR.out, rfl⟩
    · by_cases hz : c = 0
      · have hb : (c != 0) = false := by rw [hz]; rfl
        have HZ := Lib.hid hz
        have I0 := Lib.hid i0
        have I1 := Lib.hid i1
        clear hz i0 i1 i2 i3 i4
        go_wp2_with fail
        go_roundw
        case rel => exact ⟨3, by omega, by go_num, ⟨fun _ => I0.out (by omega), fun _ => I1.out (by omega), fun _ => HZ.out, fun h => by omega, fun h => by omega⟩, by first | rfl | trivial⟩
        case measure => simp [intOf]
      · have hb : (c != 0) = true := by rw [bne_iff_ne]; exact hz
        have HR : Hid (c = or5 a b c d e) := by show _ = _; rw [HO.out, if_neg (by simp [i0]), if_neg (by simp [i1]), if_pos hz]
        clear i0 i1 i2 i3 i4
        go_wp2_with fail
        go_ret
        exact ⟨HF.out _ HR.out, rfl⟩
    · by_cases hz : d = 0
      · have hb : (d != 0) = false := by rw [hz]; rfl
        have HZ := Lib.hid hz
        have I0 := Lib.hid i0
        have I1 := Lib.hid i1
        have I2 := Lib.hid i2
        clear hz i0 i1 i2 i3 i4
        go_wp2_with fail
        go_roundw
        case rel => exact ⟨4, by omega, by go_num, ⟨fun _ => I0.out (by omega), fun _ => I1.out (by omega), fun _ => I2.out (by omega), fun _ => HZ.out, fun h => by omega⟩, by first | rfl | trivial⟩
        case measure => simp [intOf]
      · have hb : (d != 0) = true := by rw [bne_iff_ne]; exact hz
        have HR : Hid (d = or5 a b c d e) := by show _ = _; rw [HO.out, if_neg (by simp [i0]), if_neg (by simp [i1]), if_neg (by simp [i2]), if_pos hz]
        clear i0 i1 i2 i3 i4
        go_wp2_with fail
        go_ret
        exact ⟨HF.out _ HR.out, rfl⟩
    · by_cases hz : e = 0
      · have hb : (e != 0) = false := by rw [hz]; rfl
        have HZ := Lib.hid hz
        have I0 := Lib.hid i0
        have I1 := Lib.hid i1
        have I2 := Lib.hid i2
        have I3 := Lib.hid i3
        clear hz i0 i1 i2 i3 i4
        go_wp2_with fail
        go_roundw
        case rel => exact ⟨5, by omega, by go_num, ⟨fun _ => I0.out (by omega), fun _ => I1.out (by omega), fun _ => I2.out (by omega), fun _ => I3.out (by omega), fun _ => HZ.out⟩, by first | rfl | trivial⟩
        case measure => simp [intOf]
      · have hb : (e != 0) = true := by rw [bne_iff_ne]; exact hz
        have HR : Hid (e = or5 a b c d e) := by show _ = _; rw [HO.out, if_neg (by simp [i0]), if_neg (by simp [i1]), if_neg (by simp [i2]), if_neg (by simp [i3])]
        clear i0 i1 i2 i3 i4
        go_wp2_with fail
        go_ret
        exact ⟨HF.out _ HR.out, rfl⟩
    · have HR : Hid (0 = or5 a b c d e) := by show _ = _; rw [HO.out, if_neg (by simp [i0]), if_neg (by simp [i1]), if_neg (by simp [i2]), if_neg (by simp [i3]), i4 (by omega)]
      clear i0 i1 i2 i3 i4
      go_wp2_with fail
      go_ret
      exact ⟨HF.out _ HR.out, rfl⟩
    · omega
end Go.Proofs.Ytccpbgkaeldlaaa
