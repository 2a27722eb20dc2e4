/- The small functions of package name and of the document's own: contracts. -/
import Derived.Test.YtccpbgkaeldlaaaNyMath2
import Derived.Test.YtccpbgkaeldlaaaGatU
import Derived.WalkLawsBesides
import Derived.BigQuiet
import Derived.Deep.QuietTactic
import Derived.BigRegion
import Derived.Deep.RegionWith
import Derived.Deep.RegionHeld3
import Derived.Deep.RegionHeldLaw
import Derived.StillTailTactics
import Derived.Deep.DeepCutAuto
import Derived.Deep.CutBlock
import Derived.Deep.LoopGhost
import Derived.Shelf.Abstract
import Derived.Shelf.Strings.Prefix
namespace Go.Proofs.Ytccpbgkaeldlaaa
open Go.RowKit _root_.Go.Proofs.Ytccpbgkaeldlaaa.Nm Ny
set_option linter.unusedVariables false
set_option linter.unusedSimpArgs false
theorem xor_all (n : Nat) (h : n < 18446744073709551616) : 18446744073709551615 ^^^ n = 18446744073709551615 - n := by
  have e := congrArg BitVec.toNat (BitVec.allOnes_xor (x := BitVec.ofNat 64 n))
  rw [BitVec.toNat_xor, BitVec.toNat_allOnes, BitVec.toNat_not, BitVec.toNat_ofNat, Nat.mod_eq_of_lt (by omega)] at e
  exact e
theorem not_u64 (n : Nat) (h : n < 18446744073709551616) : bits .xor .u64 IntKind.u64.max (n : Int) = ((18446744073709551615 - n : Nat) : Int) := by
  rw [show IntKind.u64.max = ((18446744073709551615 : Nat) : Int) from rfl, u64_xor_nat _ _ (by omega) h, xor_all n h]
theorem turned_any (kd n : Nat) (w : World) (hn : n < 18446744073709551616) :
    Calls Try.prog 29 #[.int .u8 (kd : Nat), .int .u64 (n : Nat)] w fun e w' => e = .returned (.int .u64 (tn kd n : Nat)) ∧ w' = w := by
  have h1 := tn_lt kd n hn
  by_cases h : kd = 3
  · subst h
    have HT : Hid (tn 3 n = 18446744073709551615 - n) := rfl
    have HX := Lib.hid (not_u64 n hn)
    clear h1
    go_enter Try.func29, Try.ntmps29
    go_wp2_with fail
    go_ret
    exact ⟨by rw [HT.out, ← HX.out]; rfl, rfl⟩
  · have HT : Hid (tn kd n = n) := by show tn kd n = n; unfold tn; rw [if_neg h]
    have hk : ((kd : Int) == 3) = false := beq_eq_false_iff_ne.2 (by omega)
    clear h h1
    go_enter Try.func29, Try.ntmps29
    go_wp2_with fail
    go_ret
    exact ⟨by rw [HT.out]; rfl, rfl⟩
theorem right_any (a b c : Bool) (w : World) :
    Calls Try.prog 36 #[.bool a, .bool b, .bool c] w fun e w' => e = .returned (.bool (if a then b else c)) ∧ w' = w := by
  cases a
  · go_enter Try.func36, Try.ntmps36
    go_wp2_with fail
    go_ret
    exact ⟨rfl, rfl⟩
  · go_enter Try.func36, Try.ntmps36
    go_wp2_with fail
    go_ret
    exact ⟨rfl, rfl⟩
theorem pObject_any (s : ByteArray) (w : World) (hs : s.size ≤ maxLen) :
    Calls Try.prog 16 #[.string s] w fun e w' => e = .returned (.bool (objB s.size)) ∧ w' = w := by
  unfold maxLen at hs
  have hb : ∀ r : Bool, r = objB s.size → Ending.returned (.bool r) = Ending.returned (.bool (objB s.size)) := fun r h => by rw [h]
  unfold objB at hb ⊢
  have HB := Lib.hid hb
  clear hb
  by_cases h1 : 1 ≤ s.size
  · have b1 : decide ((1 : Int) ≤ s.size) = true := decide_eq_true (by omega)
    go_enter Try.func16, Try.ntmps16
    go_wp2_with fail
    go_ret
    refine ⟨HB.out _ ?_, rfl⟩
    rw [Bool.eq_iff_iff]
    simp
    omega
  · have b1 : decide ((1 : Int) ≤ s.size) = false := decide_eq_false (by omega)
    go_enter Try.func16, Try.ntmps16
    go_wp2_with fail
    go_ret
    refine ⟨HB.out _ ?_, rfl⟩
    rw [Bool.eq_iff_iff]
    simp
    omega
theorem rObject_any (s : ByteArray) (w : World) (hs : s.size ≤ maxLen) :
    Calls Try.prog 17 #[.string s] w fun e w' => e = .returned (.bool (objB s.size)) ∧ w' = w := by
  unfold maxLen at hs
  have hb : ∀ r : Bool, r = objB s.size → Ending.returned (.bool r) = Ending.returned (.bool (objB s.size)) := fun r h => by rw [h]
  unfold objB at hb ⊢
  have HB := Lib.hid hb
  clear hb
  by_cases h1 : 1 ≤ s.size
  · have b1 : decide ((1 : Int) ≤ s.size) = true := decide_eq_true (by omega)
    go_enter Try.func17, Try.ntmps17
    go_wp2_with fail
    go_ret
    refine ⟨HB.out _ ?_, rfl⟩
    rw [Bool.eq_iff_iff]
    simp
    omega
  · have b1 : decide ((1 : Int) ≤ s.size) = false := decide_eq_false (by omega)
    go_enter Try.func17, Try.ntmps17
    go_wp2_with fail
    go_ret
    refine ⟨HB.out _ ?_, rfl⟩
    rw [Bool.eq_iff_iff]
    simp
    omega
theorem rHasB_any (kd : Nat) (w : World) :
    Calls Try.prog 31 #[.int .u8 (kd : Nat)] w fun e w' => e = .returned (.bool (hasB kd)) ∧ w' = w := by
  have hb : ∀ r : Bool, r = hasB kd → Ending.returned (.bool r) = Ending.returned (.bool (hasB kd)) := fun r h => by rw [h]
  unfold hasB at hb ⊢
  have HB := Lib.hid hb
  clear hb
  by_cases h1 : 2 ≤ kd
  · have b1 : decide ((2 : Int) ≤ kd) = true := decide_eq_true (by omega)
    go_enter Try.func31, Try.ntmps31
    go_wp2_with fail
    go_ret
    refine ⟨HB.out _ ?_, rfl⟩
    rw [Bool.eq_iff_iff]
    simp
    omega
  · have b1 : decide ((2 : Int) ≤ kd) = false := decide_eq_false (by omega)
    go_enter Try.func31, Try.ntmps31
    go_wp2_with fail
    go_ret
    refine ⟨HB.out _ ?_, rfl⟩
    rw [Bool.eq_iff_iff]
    simp
    omega
theorem rHasN_any (kd : Nat) (w : World) :
    Calls Try.prog 32 #[.int .u8 (kd : Nat)] w fun e w' => e = .returned (.bool (hasN kd)) ∧ w' = w := by
  have hb : ∀ r : Bool, r = hasN kd → Ending.returned (.bool r) = Ending.returned (.bool (hasN kd)) := fun r h => by rw [h]
  unfold hasN at hb ⊢
  have HB := Lib.hid hb
  clear hb
  by_cases h1 : 3 ≤ kd
  · have b1 : decide ((3 : Int) ≤ kd) = true := decide_eq_true (by omega)
    go_enter Try.func32, Try.ntmps32
    go_wp2_with fail
    go_ret
    refine ⟨HB.out _ ?_, rfl⟩
    rw [Bool.eq_iff_iff]
    simp
    omega
  · have b1 : decide ((3 : Int) ≤ kd) = false := decide_eq_false (by omega)
    go_enter Try.func32, Try.ntmps32
    go_wp2_with fail
    go_ret
    refine ⟨HB.out _ ?_, rfl⟩
    rw [Bool.eq_iff_iff]
    simp
    omega
/-- The lesser first: the document's. -/
theorem rNumbers_any (a b : Int) (w : World) :
    Calls Try.prog 42 #[.int .u64 a, .int .u64 b] w fun e w' => e = .returned (.int .i64 (cmpN a b)) ∧ w' = w := by
  have HN : Hid (cmpN a b = if a < b then -1 else if b < a then 1 else 0) := rfl
  generalize cmpN a b = c at *
  by_cases h1 : a < b
  · obtain rfl : c = -1 := by rw [HN.out, if_pos h1]
    clear HN
    go_enter Try.func42, Try.ntmps42
    go_wp2_with fail
    go_ret
    exact ⟨rfl, rfl⟩
  · by_cases h2 : b < a
    · obtain rfl : c = 1 := by rw [HN.out, if_neg h1, if_pos h2]
      clear HN
      go_enter Try.func42, Try.ntmps42
      go_wp2_with fail
      go_ret
      exact ⟨rfl, rfl⟩
    · obtain rfl : c = 0 := by rw [HN.out, if_neg h1, if_neg h2]
      clear HN
      go_enter Try.func42, Try.ntmps42
      go_wp2_with fail
      go_ret
      exact ⟨rfl, rfl⟩
theorem nan8_any (a : Int) (w : World) : Calls Try.prog 47 #[.int .u8 a] w fun e w' => e = .returned (.bool false) ∧ w' = w := by
  go_enter Try.func47, Try.ntmps47
  go_wp2_with fail
  go_ret
  exact ⟨rfl, rfl⟩
theorem cmp8_any (a b : Int) (w : World) :
    Calls Try.prog 38 #[.int .u8 a, .int .u8 b] w fun e w' => e = .returned (.int .i64 (cmpN a b)) ∧ w' = w := by
  have HN : Hid (cmpN a b = if a < b then -1 else if b < a then 1 else 0) := rfl
  have HI := Lib.hid (fun a W => nan8_any a W)
  generalize cmpN a b = c at *
  by_cases h1 : a < b
  · obtain rfl : c = -1 := by rw [HN.out, if_pos h1]
    clear HN
    go_enter Try.func38, Try.ntmps38
    go_wp2_with (go_at_call 47; refine (HI.out _ _).mono ?_; rintro e w1 ⟨rfl, rfl⟩)
    go_ret
    exact ⟨rfl, rfl⟩
  · by_cases h2 : b < a
    · obtain rfl : c = 1 := by rw [HN.out, if_neg h1, if_pos h2]
      clear HN
      go_enter Try.func38, Try.ntmps38
      go_wp2_with (go_at_call 47; refine (HI.out _ _).mono ?_; rintro e w1 ⟨rfl, rfl⟩)
      go_ret
      exact ⟨rfl, rfl⟩
    · obtain rfl : c = 0 := by rw [HN.out, if_neg h1, if_neg h2]
      clear HN
      go_enter Try.func38, Try.ntmps38
      go_wp2_with (go_at_call 47; refine (HI.out _ _).mono ?_; rintro e w1 ⟨rfl, rfl⟩)
      go_ret
      exact ⟨rfl, rfl⟩
theorem nan64_any (a : Int) (w : World) : Calls Try.prog 49 #[.int .u64 a] w fun e w' => e = .returned (.bool false) ∧ w' = w := by
  go_enter Try.func49, Try.ntmps49
  go_wp2_with fail
  go_ret
  exact ⟨rfl, rfl⟩
theorem cmp64_any (a b : Int) (w : World) :
    Calls Try.prog 40 #[.int .u64 a, .int .u64 b] w fun e w' => e = .returned (.int .i64 (cmpN a b)) ∧ w' = w := by
  have HN : Hid (cmpN a b = if a < b then -1 else if b < a then 1 else 0) := rfl
  have HI := Lib.hid (fun a W => nan64_any a W)
  generalize cmpN a b = c at *
  by_cases h1 : a < b
  · obtain rfl : c = -1 := by rw [HN.out, if_pos h1]
    clear HN
    go_enter Try.func40, Try.ntmps40
    go_wp2_with (go_at_call 49; refine (HI.out _ _).mono ?_; rintro e w1 ⟨rfl, rfl⟩)
    go_ret
    exact ⟨rfl, rfl⟩
  · by_cases h2 : b < a
    · obtain rfl : c = 1 := by rw [HN.out, if_neg h1, if_pos h2]
      clear HN
      go_enter Try.func40, Try.ntmps40
      go_wp2_with (go_at_call 49; refine (HI.out _ _).mono ?_; rintro e w1 ⟨rfl, rfl⟩)
      go_ret
      exact ⟨rfl, rfl⟩
    · obtain rfl : c = 0 := by rw [HN.out, if_neg h1, if_neg h2]
      clear HN
      go_enter Try.func40, Try.ntmps40
      go_wp2_with (go_at_call 49; refine (HI.out _ _).mono ?_; rintro e w1 ⟨rfl, rfl⟩)
      go_ret
      exact ⟨rfl, rfl⟩
theorem nanI_any (a : Int) (w : World) : Calls Try.prog 50 #[.int .i64 a] w fun e w' => e = .returned (.bool false) ∧ w' = w := by
  go_enter Try.func50, Try.ntmps50
  go_wp2_with fail
  go_ret
  exact ⟨rfl, rfl⟩
theorem cmpI_any (a b : Int) (w : World) :
    Calls Try.prog 41 #[.int .i64 a, .int .i64 b] w fun e w' => e = .returned (.int .i64 (cmpN a b)) ∧ w' = w := by
  have HN : Hid (cmpN a b = if a < b then -1 else if b < a then 1 else 0) := rfl
  have HI := Lib.hid (fun a W => nanI_any a W)
  generalize cmpN a b = c at *
  by_cases h1 : a < b
  · obtain rfl : c = -1 := by rw [HN.out, if_pos h1]
    clear HN
    go_enter Try.func41, Try.ntmps41
    go_wp2_with (go_at_call 50; refine (HI.out _ _).mono ?_; rintro e w1 ⟨rfl, rfl⟩)
    go_ret
    exact ⟨rfl, rfl⟩
  · by_cases h2 : b < a
    · obtain rfl : c = 1 := by rw [HN.out, if_neg h1, if_pos h2]
      clear HN
      go_enter Try.func41, Try.ntmps41
      go_wp2_with (go_at_call 50; refine (HI.out _ _).mono ?_; rintro e w1 ⟨rfl, rfl⟩)
      go_ret
      exact ⟨rfl, rfl⟩
    · obtain rfl : c = 0 := by rw [HN.out, if_neg h1, if_neg h2]
      clear HN
      go_enter Try.func41, Try.ntmps41
      go_wp2_with (go_at_call 50; refine (HI.out _ _).mono ?_; rintro e w1 ⟨rfl, rfl⟩)
      go_ret
      exact ⟨rfl, rfl⟩
end Go.Proofs.Ytccpbgkaeldlaaa
