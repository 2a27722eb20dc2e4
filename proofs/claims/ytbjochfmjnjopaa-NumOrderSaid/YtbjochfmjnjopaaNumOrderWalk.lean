/- The walk of NumOrder. -/
import Derived.Test.YtbjochfmjnjopaaRefRead
import Derived.Test.YtbjochfmjnjopaaOrder
namespace Go.Proofs.Ytbjochfmjnjopaa
open Go.RowKit Nm
set_option linter.unusedVariables false

theorem not_front (a b : ByteArray) (h : Apart a.data.toList b.data.toList) : ((a.extract 0 b.size).toList == b.toList) = false := by
  rw [beq_eq_false_iff_ne, ByteArray.toList_eq, ByteArray.toList_eq]
  intro e
  apply h.take
  have hb : b.data.toList.length = b.size := by simp
  rw [hb, ← e]
  simp
set_option maxRecDepth 100000 in
theorem begins_no (a b : ByteArray) (HA : Hid (Apart a.data.toList b.data.toList)) (w : World) (ha : a.size ≤ 9) (hb : b.size ≤ 9) :
    Calls Try.prog 18 #[.string a, .string b] w fun e w' => e = .returned (.bool false) ∧ w = w' := by
  rcases Nat.lt_or_ge a.size b.size with h | h
  · go_enter Try.func18, Try.ntmps18
    go_wp2_with fail
    go_ret
    exact ⟨rfl, rfl⟩
  · have hf := not_front a b HA.out
    go_enter Try.func18, Try.ntmps18
    go_wp2_with fail
    go_ret
    exact ⟨rfl, rfl⟩
theorem less_str (a b s t : ByteArray) (h : Diff a.data.toList b.data.toList) : Op.bytesLess (a ++ s).toList (b ++ t).toList = true ∧ Op.bytesLess (b ++ t).toList (a ++ s).toList = false := by
  rw [ByteArray.toList_eq, ByteArray.toList_eq]
  have e1 : (a ++ s).data.toList = a.data.toList ++ s.data.toList := by simp
  have e2 : (b ++ t).data.toList = b.data.toList ++ t.data.toList := by simp
  rw [e1, e2]
  exact h.less _ _

set_option maxHeartbeats 2000000 in
set_option maxRecDepth 100000 in
theorem numOrder_walk (a0 : Int) (a1 : Int) (a2 : ByteArray) (a3 : ByteArray) (w0 : (Lit.int .u64 a0).wf = true) (w1 : (Lit.int .u64 a1).wf = true) (w2 : a2.size ≤ maxLen) (w3 : a3.size ≤ maxLen) (w : World) :
    Calls Try.prog 5 #[.int .u64 a0, .int .u64 a1, .string a2, .string a3] w fun e w' => e = .returned (.bool true) ∧ Kept w w' := by
  obtain ⟨h0, h1⟩ := u64_bd w0
  obtain ⟨k0, k1⟩ := u64_bd w1
  clear w0 w1 w2 w3
  obtain ⟨m, hm⟩ : ∃ m, nb a0.toNat = m := ⟨_, rfl⟩
  obtain ⟨n, hn⟩ : ∃ n, nb a1.toNat = n := ⟨_, rfl⟩
  have hm8 : m ≤ 8 := hm ▸ nb_le8 (by omega)
  have hn8 : n ≤ 8 := hn ▸ nb_le8 (by omega)
  have HM := Lib.hid hm
  have HN := Lib.hid hn
  clear hm hn
  rcases Nat.lt_or_ge 4096 a2.size with hs | hs
  · go_enter Try.func5, Try.ntmps5
    go_wp2_with fail
    refine (alive_any _).mono ?_
    rintro e w7 ⟨rfl, g7⟩
    go_wp2_with fail
    go_ret
    exact ⟨rfl, g7⟩
  rcases Nat.lt_or_ge 4096 a3.size with ht | ht
  · go_enter Try.func5, Try.ntmps5
    go_wp2_with fail
    refine (alive_any _).mono ?_
    rintro e w7 ⟨rfl, g7⟩
    go_wp2_with fail
    go_ret
    exact ⟨rfl, g7⟩
  go_enter Try.func5, Try.ntmps5
  go_wp2_with fail
  refine (up_v _ _ h0 h1).mono ?_
  rintro e w1 ⟨r1, rfl, e1, z1, g1⟩
  rw [HM.out] at z1
  go_wp2_with fail
  refine (up_v _ _ k0 k1).mono ?_
  rintro e w2 ⟨r2, rfl, e2, z2, g2⟩
  rw [HN.out] at z2
  go_wp2_with fail
  refine (down_v _ _ h0 h1).mono ?_
  rintro e w3 ⟨r3, rfl, e3, z3, g3⟩
  rw [HM.out] at z3
  go_wp2_with fail
  refine (down_v _ _ k0 k1).mono ?_
  rintro e w4 ⟨r4, rfl, e4, z4, g4⟩
  rw [HN.out] at z4
  rcases Int.lt_trichotomy a0 a1 with h | h | h
  · have d := up_diff a0.toNat a1.toNat (by omega) (by omega)
    have d1 : Hid (Diff r1.data.toList r2.data.toList) := by show Diff _ _; rw [e1.out, e2.out]; exact d
    have d2 : Hid (Diff r4.data.toList r3.data.toList) := by show Diff _ _; rw [e3.out, e4.out]; exact d.turned
    obtain ⟨l1, l2⟩ := less_str r1 r2 a2 a3 d1.out
    obtain ⟨l3, l4⟩ := less_str r4 r3 a3 a2 d2.out
    have p1 := Lib.hid d1.out.apart
    have p2 := Lib.hid d2.out.apart
    clear d l2 l3
    have hd : decide (a1 < a0) = false := by simp; omega
    go_wp2_with fail
    refine (begins_no r1 r2 p1.out _ (by omega) (by omega)).mono ?_
    rintro e w5 ⟨rfl, rfl⟩
    go_wp2_with fail
    refine (begins_no r2 r1 p1.out.symm _ (by omega) (by omega)).mono ?_
    rintro e w5 ⟨rfl, rfl⟩
    go_wp2_with fail
    refine (begins_no r3 r4 p2.out.symm _ (by omega) (by omega)).mono ?_
    rintro e w5 ⟨rfl, rfl⟩
    go_wp2_with fail
    refine (begins_no r4 r3 p2.out _ (by omega) (by omega)).mono ?_
    rintro e w5 ⟨rfl, rfl⟩
    go_wp2_with fail
    refine (alive_any _).mono ?_
    rintro e w7 ⟨rfl, g7⟩
    go_wp2_with fail
    go_ret
    exact ⟨rfl, g1.trans (g2.trans (g3.trans (g4.trans g7)))⟩
  · subst h
    obtain rfl : r1 = r2 := by apply ByteArray.ext; apply Array.toList_inj.1; rw [e1.out, e2.out]
    obtain rfl : r3 = r4 := by apply ByteArray.ext; apply Array.toList_inj.1; rw [e3.out, e4.out]
    clear z2 z4
    go_wp2_with fail
    refine (alive_any _).mono ?_
    rintro e w7 ⟨rfl, g7⟩
    go_wp2_with fail
    go_ret
    exact ⟨rfl, g1.trans (g2.trans (g3.trans (g4.trans g7)))⟩
  · have d := up_diff a1.toNat a0.toNat (by omega) (by omega)
    have d1 : Hid (Diff r2.data.toList r1.data.toList) := by show Diff _ _; rw [e1.out, e2.out]; exact d
    have d2 : Hid (Diff r3.data.toList r4.data.toList) := by show Diff _ _; rw [e3.out, e4.out]; exact d.turned
    obtain ⟨l1, l2⟩ := less_str r2 r1 a3 a2 d1.out
    obtain ⟨l3, l4⟩ := less_str r3 r4 a2 a3 d2.out
    have p1 := Lib.hid d1.out.apart
    have p2 := Lib.hid d2.out.apart
    clear d l1 l4
    have hd : decide (a0 < a1) = false := by simp; omega
    go_wp2_with fail
    refine (begins_no r1 r2 p1.out.symm _ (by omega) (by omega)).mono ?_
    rintro e w5 ⟨rfl, rfl⟩
    go_wp2_with fail
    refine (begins_no r2 r1 p1.out _ (by omega) (by omega)).mono ?_
    rintro e w5 ⟨rfl, rfl⟩
    go_wp2_with fail
    refine (begins_no r3 r4 p2.out _ (by omega) (by omega)).mono ?_
    rintro e w5 ⟨rfl, rfl⟩
    go_wp2_with fail
    refine (begins_no r4 r3 p2.out.symm _ (by omega) (by omega)).mono ?_
    rintro e w5 ⟨rfl, rfl⟩
    go_wp2_with fail
    refine (alive_any _).mono ?_
    rintro e w7 ⟨rfl, g7⟩
    go_wp2_with fail
    go_ret
    exact ⟨rfl, g1.trans (g2.trans (g3.trans (g4.trans g7)))⟩
end Go.Proofs.Ytbjochfmjnjopaa
