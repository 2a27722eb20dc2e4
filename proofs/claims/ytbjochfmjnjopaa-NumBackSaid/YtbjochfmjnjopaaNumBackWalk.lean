/- The walk of NumBack. -/
import Derived.Test.YtbjochfmjnjopaaRefRead
import Derived.Test.YtbjochfmjnjopaaBackMath
import Derived.Deep.RegionWith
import Derived.Deep.RegionHeld3
import Derived.Deep.DeepCutAuto
namespace Go.Proofs.Ytbjochfmjnjopaa
open Go.RowKit Nm
set_option linter.unusedVariables false

theorem str_ext {a b : ByteArray} (h : a.data.toList = b.data.toList) : a = b := by
  apply ByteArray.ext
  apply Array.toList_inj.1
  exact h
theorem back_up (x : Nat) (r s : ByteArray) (h8 : nb x ≤ 8) (hr : r.data.toList = up x) :
    ((rx (r ++ s).data.toList : Nat) : Int) = (x : Nat) ∧ ((rn (r ++ s).data.toList : Nat) : Int) = (nb x : Int) + 1 ∧ ((cd (r ++ s).data.toList : Nat) : Int) = 0 := by
  have e : (r ++ s).data.toList = up x ++ s.data.toList := by rw [← hr]; simp
  obtain ⟨h1, h2, h3⟩ := read_up x s.data.toList h8
  rw [e, h1, h2, h3]
  exact ⟨rfl, by omega, rfl⟩
theorem back_down (x : Nat) (r s : ByteArray) (h8 : nb x ≤ 8) (hr : r.data.toList = turn 255 (up x)) :
    ((rx (turn 255 (r ++ s).data.toList) : Nat) : Int) = (x : Nat) ∧ ((rn (turn 255 (r ++ s).data.toList) : Nat) : Int) = (nb x : Int) + 1 ∧ ((cd (turn 255 (r ++ s).data.toList) : Nat) : Int) = 0 := by
  have e : turn 255 (r ++ s).data.toList = up x ++ turn 255 s.data.toList := by
    have e1 : (r ++ s).data.toList = r.data.toList ++ s.data.toList := by simp
    rw [e1, turn_append, hr, turn_turn]
  obtain ⟨h1, h2, h3⟩ := read_up x (turn 255 s.data.toList) h8
  rw [e, h1, h2, h3]
  exact ⟨rfl, by omega, rfl⟩
theorem front_read (x i : Nat) (r : ByteArray) (h8 : nb x ≤ 8) (hi : i < nb x + 1) (hr : r.data.toList = up x) (w : World) (hz : r.size ≤ 9) :
    Calls Try.prog 14 #[.string (r.extract 0 i)] w fun e w' => (∃ v : Int, e = .returned (.tuple #[.int .u64 v, .int .i64 0, .int .i64 10])) ∧ Kept w w' := by
  have e : (r.extract 0 i).data.toList = (up x).take i := by rw [← hr]; simp
  obtain ⟨h1, h2⟩ := read_cut x i h8 hi
  refine (up_read _ w ?_).mono ?_
  · unfold maxLen
    simp
    omega
  · rintro e' w' ⟨he, hg⟩
    unfold ReadOut at he
    rw [e, h1, h2] at he
    exact ⟨⟨_, he⟩, hg⟩

set_option maxHeartbeats 4000000 in
set_option maxRecDepth 100000 in
theorem numBack_walk (a0 : Int) (a1 : ByteArray) (w0 : (Lit.int .u64 a0).wf = true) (w1 : a1.size ≤ maxLen) (w : World) :
    Calls Try.prog 6 #[.int .u64 a0, .string a1] w fun e w' => e = .returned (.bool true) ∧ Kept w w' := by
  obtain ⟨h0, h1⟩ := u64_bd w0
  have HS := Lib.hid w1
  clear w0 w1
  rcases Nat.lt_or_ge 4096 a1.size with hs | hs
  · go_enter Try.func6, Try.ntmps6
    go_wp2_with fail
    refine (alive_any _).mono ?_
    rintro e w7 ⟨rfl, g7⟩
    go_wp2_with fail
    go_ret
    exact ⟨rfl, g7⟩
  obtain ⟨x, rfl⟩ := Int.eq_ofNat_of_zero_le h0
  obtain ⟨m, hm⟩ : ∃ m, nb x = m := ⟨_, rfl⟩
  have hm8 : m ≤ 8 := hm ▸ nb_le8 (by omega)
  have HM := Lib.hid hm
  clear hm
  go_enter Try.func6, Try.ntmps6
  go_wp2_with fail
  refine (up_v _ _ h0 h1).mono ?_
  rintro e w1 ⟨r1, rfl, e1, z1, g1⟩
  rw [Int.toNat_natCast, HM.out] at z1
  rw [Int.toNat_natCast] at e1
  go_wp2_with fail
  refine (down_v _ _ h0 h1).mono ?_
  rintro e w2 ⟨r2, rfl, e2, z2, g2⟩
  rw [Int.toNat_natCast, HM.out] at z2
  rw [Int.toNat_natCast] at e2
  go_wp2_with fail
  refine (up_read_c (r1 ++ a1) x ((m : Int) + 1) 0 _ (by rw [ByteArray.size_append]; unfold maxLen; omega) (by rw [← HM.out]; exact back_up x r1 a1 (by rw [HM.out]; exact hm8) e1.out)).mono ?_
  rintro e w3 ⟨rfl, g3⟩
  go_wp2_with fail
  refine (down_read_c (r2 ++ a1) x ((m : Int) + 1) 0 _ (by rw [ByteArray.size_append]; unfold maxLen; omega) (by rw [← HM.out]; exact back_down x r2 a1 (by rw [HM.out]; exact hm8) e2.out)).mono ?_
  rintro e w4 ⟨rfl, g4⟩
  go_wp2_with fail
  go_loopw [13, 14, 15, 16] (fun i _ _ _ wr => ∃ k : Nat, k ≤ m + 1 ∧ i = .int .i64 k ∧ Kept w4 wr) (fun i _ _ _ _ => m + 1 - (intOf i).toNat)
  case atStart => exact ⟨0, Nat.zero_le _, rfl, Kept.refl _⟩
  case round =>
    obtain ⟨k, hk, rfl, g5⟩ := hrel
    by_cases hlt : k < m + 1
    · go_wp2_with fail
      refine (front_read x k r1 (by rw [HM.out]; exact hm8) (by rw [HM.out]; exact hlt) e1.out _ (by omega)).mono ?_
      rintro e w6 ⟨⟨v, rfl⟩, g6⟩
      go_wp2_with fail
      exact ⟨⟨k + 1, by omega, by go_num, g5.trans g6⟩, by simp [intOf]; omega⟩
    · obtain rfl : k = m + 1 := by omega
      go_wp2_with fail
      refine (up_read a1 _ HS.out).mono ?_
      rintro e w6 ⟨he, g6⟩
      unfold ReadOut at he
      have H6 := Lib.hid (up_read_own a1.data.toList)
      obtain ⟨X, hX⟩ : ∃ X, rx a1.data.toList = X := ⟨_, rfl⟩
      obtain ⟨K, hK⟩ : ∃ K, rn a1.data.toList = K := ⟨_, rfl⟩
      obtain ⟨c, hc⟩ : ∃ c : Int, ((cd a1.data.toList : Nat) : Int) = c := ⟨_, rfl⟩
      rw [hX, hK, hc] at he
      rw [hX, hK] at H6
      have HC : Hid (((cd a1.data.toList : Nat) : Int) = c) := hc
      clear hX hK hc
      subst he
      go_upto_region 16 with fail
      go_cut [117] (fun b wx => b = .bool false ∧ Kept w6 wx)
      case first =>
        by_cases hc : c = 0
        · subst hc
          obtain ⟨b1, b2, b3⟩ := H6.out (by have := HC.out; omega)
          have hKs : K ≤ a1.size := by
            have hl : a1.data.toList.length = a1.size := by simp
            omega
          have hup : ∀ w, Calls Try.prog 8 #[.int .u64 (X : Int)] w fun e w' => e = .returned (.string (a1.extract 0 K)) ∧ Kept w w' := fun w =>
            up_c X (a1.extract 0 K) w (by omega) (by omega) (str_ext (by rw [Int.toNat_natCast, b1]; simp))
          have HUP := Lib.hid hup
          clear hup b1 b2 b3
          have hb1 : decide ((K : Int) < 0) = false := by simp
          have hb2 : decide (a1.size < K) = false := by simp; omega
          go_region_held3 (fun _ => True) (first | exact trivial) (first | (go_at_call 8; refine (HUP.out _).mono ?_; rintro e w' ⟨rfl, hg⟩))
          go_wp2_with fail
          go_meet
          exact ⟨rfl, (Kept.refl _).drew.trans hg⟩
        · have hcb : (c == 0) = false := beq_eq_false_iff_ne.2 hc
          go_quiet (fail)
          go_wp2_with fail
          go_meet
          exact ⟨rfl, (Kept.refl _).drewN _⟩
      case rest =>
        obtain ⟨rfl, g7⟩ := hcut
        go_wp2_with fail
        refine (down_read a1 _ HS.out).mono ?_
        rintro e w8 ⟨he, g8⟩
        unfold ReadOut at he
        have H8 := Lib.hid (up_read_own (turn 255 a1.data.toList))
        obtain ⟨X, hX⟩ : ∃ X, rx (turn 255 a1.data.toList) = X := ⟨_, rfl⟩
        obtain ⟨K, hK⟩ : ∃ K, rn (turn 255 a1.data.toList) = K := ⟨_, rfl⟩
        obtain ⟨c, hc⟩ : ∃ c : Int, ((cd (turn 255 a1.data.toList) : Nat) : Int) = c := ⟨_, rfl⟩
        rw [hX, hK, hc] at he
        rw [hX, hK] at H8
        have HC : Hid (((cd (turn 255 a1.data.toList) : Nat) : Int) = c) := hc
        clear hX hK hc
        subst he
        go_upto_region 19 with fail
        go_cut [143] (fun b wx => b = .bool false ∧ Kept w8 wx)
        case first =>
          by_cases hc : c = 0
          · subst hc
            obtain ⟨b1, b2, b3⟩ := H8.out (by have := HC.out; omega)
            have hKs : K ≤ a1.size := by
              have hl : (turn 255 a1.data.toList).length = a1.size := by rw [turn_length]; simp
              omega
            have hup : ∀ w, Calls Try.prog 10 #[.int .u64 (X : Int)] w fun e w' => e = .returned (.string (a1.extract 0 K)) ∧ Kept w w' := fun w =>
              down_c X (a1.extract 0 K) w (by omega) (by omega) (str_ext (by rw [Int.toNat_natCast, b1, turn_take, turn_turn]; simp))
            have HUP := Lib.hid hup
            clear hup b1 b2 b3
            have hb1 : decide ((K : Int) < 0) = false := by simp
            have hb2 : decide (a1.size < K) = false := by simp; omega
            go_region_held3 (fun _ => True) (first | exact trivial) (first | (go_at_call 10; refine (HUP.out _).mono ?_; rintro e w' ⟨rfl, hg⟩))
            go_wp2_with fail
            go_meet
            exact ⟨rfl, (Kept.refl _).drew.trans hg⟩
          · have hcb : (c == 0) = false := beq_eq_false_iff_ne.2 hc
            go_quiet (fail)
            go_wp2_with fail
            go_meet
            exact ⟨rfl, (Kept.refl _).drewN _⟩
        case rest =>
          obtain ⟨rfl, g9⟩ := hcut
          go_wp2_with fail
          refine (alive_any _).mono ?_
          rintro e w10 ⟨rfl, g10⟩
          go_wp2_with fail
          go_ret
          exact ⟨rfl, g1.trans (g2.trans (g3.trans (g4.trans (g5.trans (g6.trans (g7.trans (g8.trans (g9.trans g10))))))))⟩
end Go.Proofs.Ytbjochfmjnjopaa
