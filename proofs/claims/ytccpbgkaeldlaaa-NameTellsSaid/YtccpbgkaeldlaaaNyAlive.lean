/- That the known small cases come out: works. -/
import Derived.Test.YtccpbgkaeldlaaaNyWorks
namespace Go.Proofs.Ytccpbgkaeldlaaa
open Go.RowKit _root_.Go.Proofs.Ytccpbgkaeldlaaa.Nm Ny
set_option linter.unusedVariables false
set_option linter.unusedSimpArgs false
theorem dec_more {l t : List UInt8} {k : Key} (h : Dec l k) (ht : t ≠ []) : decO (l ++ t) = none := by
  refine decO_none fun k0 h0 => ?_
  have key : ∀ a b : List UInt8, Diff a b → ¬ (b = a ++ t) ∧ ¬ (a = b ++ t) := fun a b hd => ⟨fun e => by
    have := hd.apart.symm.take
    rw [e, List.take_left] at this
    exact this rfl, fun e => by
    have := hd.apart.take
    rw [e, List.take_left] at this
    exact this rfl⟩
  rcases key_tri h.1 h0.1 h.2.1 h0.2.1 with ⟨h1, _⟩ | ⟨_, h1, _⟩ | ⟨_, h1, _⟩
  · subst h1
    have e := h0.2.2
    rw [h.2.2] at e
    have hl := congrArg List.length e
    rw [List.length_append] at hl
    have : t.length ≠ 0 := fun e => ht (List.length_eq_zero_iff.1 e)
    omega
  · rw [h.2.2, h0.2.2] at h1
    exact (key _ _ h1).1 rfl
  · rw [h.2.2, h0.2.2] at h1
    exact (key _ _ h1).2 rfl
def k1 : Key := ⟨3, ⟨#[97]⟩, ⟨#[120]⟩, 2, 0⟩
def k2 : Key := ⟨2, ⟨#[45, 97]⟩, ⟨#[]⟩, 0, 0⟩
def s1 : ByteArray := ⟨#[3, 97, 0, 120, 0, 1, 255, 255, 255, 255, 255, 255, 255, 253]⟩
def s2 : ByteArray := ⟨#[3, 97, 0, 120, 0, 1, 255, 255, 255, 255, 255, 255, 255, 253, 120]⟩
theorem k1_wf : k1.Wf := ⟨by decide, by unfold maxLen; decide, by unfold maxLen; decide, by decide, by decide, by decide⟩
theorem k2_wf : k2.Wf := ⟨by decide, by unfold maxLen; decide, by unfold maxLen; decide, by decide, by decide, by decide⟩
theorem k1_enc : encL k1 = s1.data.toList := by decide +kernel
theorem k1_dec : Dec s1.data.toList k1 := ⟨k1_wf, by decide +kernel, k1_enc⟩
theorem e1 (w : World) : Calls Try.prog 9 #[.agg #[.int .u8 3, .string ⟨#[97]⟩, .string ⟨#[120]⟩, .int .u64 2, .int .i64 0]] w fun e w' => e = .returned (.tuple #[.string ⟨#[3, 97, 0, 120, 0, 1, 255, 255, 255, 255, 255, 255, 255, 253]⟩, .int .i64 0]) ∧ Kept w w' := by
  have h := pEncode_any k1 w k1_wf
  unfold encV at h
  rw [if_pos (by decide +kernel), k1_enc] at h
  exact h
theorem e2 (w : World) : Calls Try.prog 9 #[.agg #[.int .u8 2, .string ⟨#[45, 97]⟩, .string ⟨#[]⟩, .int .u64 0, .int .i64 0]] w fun e w' => e = .returned (.tuple #[.string ⟨#[]⟩, .int .i64 2]) ∧ Kept w w' := by
  have h := pEncode_any k2 w k2_wf
  unfold encV at h
  rw [if_neg (by decide +kernel)] at h
  exact h
theorem d1 (w : World) : Calls Try.prog 10 #[.string ⟨#[3, 97, 0, 120, 0, 1, 255, 255, 255, 255, 255, 255, 255, 253]⟩] w fun e w' => e = .returned (.tuple #[.agg #[.int .u8 3, .string ⟨#[97]⟩, .string ⟨#[120]⟩, .int .u64 2, .int .i64 0], .int .i64 0]) ∧ Kept w w' := by
  have h := pDecode_any s1 w (by decide)
  rw [decV_some (decO_some k1_dec)] at h
  exact h
theorem d2 (w : World) : Calls Try.prog 10 #[.string ⟨#[3, 97, 0, 120, 0, 1, 255, 255, 255, 255, 255, 255, 255, 253, 120]⟩] w fun e w' => e = .returned (.tuple #[Key.none.val, .int .i64 8]) ∧ Kept w w' := by
  have h := pDecode_any s2 w (by decide)
  rw [decV_none (show decO s2.data.toList = none from dec_more k1_dec (t := [120]) (by decide))] at h
  exact h
theorem b1 (w : World) : Calls Try.prog 22 #[.string ⟨#[97, 255]⟩] w fun e w' => e = .returned (.string ⟨#[98]⟩) ∧ Kept w w' := by
  have h := pBehind_any ⟨#[97, 255]⟩ w (by decide)
  rw [show behL (⟨#[97, 255]⟩ : ByteArray).data.toList = [98] by decide +kernel] at h
  exact h
theorem g1 (w : World) : Calls Try.prog 14 #[.string ⟨#[97, 46, 98, 45, 49]⟩] w fun e w' => e = .returned (.bool true) ∧ Kept w w' := by
  have h := pBucket_any ⟨#[97, 46, 98, 45, 49]⟩ w (by unfold maxLen; decide)
  rw [show bktB (⟨#[97, 46, 98, 45, 49]⟩ : ByteArray).data.toList = true by decide +kernel] at h
  exact h
theorem o1 (w : World) : Calls Try.prog 16 #[.string ⟨#[]⟩] w fun e w' => e = .returned (.bool false) ∧ w' = w := by
  have h := pObject_any ⟨#[]⟩ w (by unfold maxLen; decide)
  rw [show objB (⟨#[]⟩ : ByteArray).size = false by decide +kernel] at h
  exact h
set_option maxHeartbeats 1000000 in
set_option maxRecDepth 100000 in
theorem works_any (w : World) : Calls Try.prog 8 #[] w fun e w' => e = .returned (.bool true) ∧ Kept w w' := by
  have HLX := Lib.hid (fun W => KyAt.laid W 24 k1)
  go_enter Try.func8, Try.ntmps8
  go_wp2_with fail
  refine (e1 _).mono ?_
  rintro e w1 ⟨rfl, h1⟩
  have H1 := Lib.hid h1
  clear h1
  go_wp2_with fail
  refine (d1 _).mono ?_
  rintro e w2 ⟨rfl, h2⟩
  have H2 := Lib.hid (H1.out.trans h2)
  clear h2 H1
  go_upto_region 3 with fail
  have HX := Lib.hid (HLX.out w2)
  have H3 : Hid (Kept w (w2.alloc (.cells #[.int .u8 3, .string ⟨#[97]⟩, .string ⟨#[120]⟩, .int .u64 2, .int .i64 0] 24))) := H2.out.alloc _
  unfold k1 at HX
  dsimp only at HX
  clear H2
  have HX2 : Hid (KyAt (w2.alloc (.cells #[.int .u8 3, .string ⟨#[97]⟩, .string ⟨#[120]⟩, .int .u64 2, .int .i64 0] 24)) w2.heap.size ⟨3, ⟨#[97]⟩, ⟨#[120]⟩, 2, 0⟩) := HX.out
  clear HX HLX
  generalize w2.alloc (.cells #[.int .u8 3, .string ⟨#[97]⟩, .string ⟨#[120]⟩, .int .u64 2, .int .i64 0] 24) = w3 at *
  have hsl : ∀ W : World, (Op.stringOp .add ⟨#[3, 97, 0, 120, 0, 1, 255, 255, 255, 255, 255, 255, 255, 253]⟩ ⟨#[120]⟩).run Try.prog W = .ok (.string ⟨#[3, 97, 0, 120, 0, 1, 255, 255, 255, 255, 255, 255, 255, 253, 120]⟩) W := fun W => add_strN _ _ [3, 97, 0, 120, 0, 1, 255, 255, 255, 255, 255, 255, 255, 253, 120] rfl (by decide) W
  go_wp2_with fail
  refine (d2 _).mono ?_
  rintro e w4 ⟨rfl, h4⟩
  have H4 := Lib.hid (H3.out.trans h4)
  have HX4 := Lib.hid (HX2.out.kept h4)
  clear h4 H3 HX2 hsl
  unfold Key.val Key.none
  dsimp only
  go_upto_region 4 with fail
  have hk : Kept w4 (w4.alloc (.cells #[.int .u8 ((0 : Nat) : Int), .string ⟨#[]⟩, .string ⟨#[]⟩, .int .u64 ((0 : Nat) : Int), .int .i64 0] 24)) := (Kept.refl _).alloc _
  have H5 := Lib.hid (H4.out.trans hk)
  have HX5 := Lib.hid (HX4.out.kept hk)
  clear hk H4 HX4
  first
    | generalize w4.alloc (.cells #[.int .u8 ((0 : Nat) : Int), .string ⟨#[]⟩, .string ⟨#[]⟩, .int .u64 ((0 : Nat) : Int), .int .i64 0] 24) = w5 at *
  go_wp2_with fail
  refine (e2 _).mono ?_
  rintro e w6 ⟨rfl, h6⟩
  have H6 := Lib.hid (H5.out.trans h6)
  have HX6 := Lib.hid (HX5.out.kept h6)
  clear h6 H5 HX5
  obtain ⟨c0, c1, c2, c3, c4, _, _, _, _, _⟩ := HX6.out
  go_wp2_with (go_at_call 22; refine (b1 _).mono ?_; rintro e w7 ⟨rfl, h7⟩; have H7 := Lib.hid (H6.out.trans h7); clear h7)
  refine (g1 _).mono ?_
  rintro e w8 ⟨rfl, h8⟩
  have H8 := Lib.hid (H7.out.trans h8)
  clear h8
  go_wp2_with fail
  refine (o1 _).mono ?_
  rintro e w9 ⟨rfl, h9⟩
  replace h9 := h9.symm
  subst h9
  go_wp2_with fail
  go_ret
  exact ⟨rfl, H8.out⟩
end Go.Proofs.Ytccpbgkaeldlaaa
