/- The walk of NumSizes. -/
import Derived.Test.YtbjochfmjnjopaaAlive
import Derived.OpenShut
namespace Go.Proofs.Ytbjochfmjnjopaa
open Go.RowKit Nm
set_option linter.unusedVariables false

theorem u64_bd {x : Int} (h : (Lit.int .u64 x).wf = true) : 0 ≤ x ∧ x ≤ 18446744073709551615 := by
  have := bounds_u64 h; omega
theorem mk_size (l : List UInt8) : (⟨l.toArray⟩ : ByteArray).size = l.length := by simp [ByteArray.size]
/-- Up, its bytes under a name. -/
theorem up_v (x : Int) (w : World) (h0 : 0 ≤ x) (h1 : x ≤ 18446744073709551615) :
    Calls Try.prog 8 #[.int .u64 x] w fun e w' => ∃ r : ByteArray, e = .returned (.string r) ∧ Hid (r.data.toList = up x.toNat) ∧ r.size = nb x.toNat + 1 ∧ Kept w w' := by
  refine (up_any x w h0 h1).mono ?_
  rintro e w' ⟨rfl, hg⟩
  exact ⟨_, rfl, rfl, by rw [mk_size, up_length], hg⟩
theorem down_v (x : Int) (w : World) (h0 : 0 ≤ x) (h1 : x ≤ 18446744073709551615) :
    Calls Try.prog 10 #[.int .u64 x] w fun e w' => ∃ r : ByteArray, e = .returned (.string r) ∧ Hid (r.data.toList = turn 255 (up x.toNat)) ∧ r.size = nb x.toNat + 1 ∧ Kept w w' := by
  refine (down_any x w h0 h1).mono ?_
  rintro e w' ⟨rfl, hg⟩
  exact ⟨_, rfl, rfl, by rw [mk_size, turn_length, up_length], hg⟩

set_option maxRecDepth 100000 in
theorem numSizes_walk (a0 : Int) (a1 : Int) (w0 : (Lit.int .u64 a0).wf = true) (w1 : (Lit.int .u64 a1).wf = true) (w : World) :
    Calls Try.prog 7 #[.int .u64 a0, .int .u64 a1] w fun e w' => e = .returned (.bool true) ∧ Kept w w' := by
  obtain ⟨h0, h1⟩ := u64_bd w0
  obtain ⟨k0, k1⟩ := u64_bd w1
  clear w0 w1
  obtain ⟨m, hm⟩ : ∃ m, nb a0.toNat = m := ⟨_, rfl⟩
  obtain ⟨n, hn⟩ : ∃ n, nb a1.toNat = n := ⟨_, rfl⟩
  have hm8 : m ≤ 8 := hm ▸ nb_le8 (by omega)
  have hn8 : n ≤ 8 := hn ▸ nb_le8 (by omega)
  have l1 : a0 ≤ a1 → m ≤ n := fun h => hm ▸ hn ▸ nb_mono (by omega)
  have l2 : a1 ≤ a0 → n ≤ m := fun h => hm ▸ hn ▸ nb_mono (by omega)
  rcases Int.lt_trichotomy a0 a1 with h | h | h
  · have l := l1 (by omega)
    clear l1 l2
    go_enter Try.func7, Try.ntmps7
    go_wp2_with fail
    refine (up_v _ _ (by assumption) (by assumption)).mono ?_
    rintro e w1 ⟨r1, rfl, e1, z1, g1⟩
    rw [hm] at z1
    go_wp2_with fail
    refine (up_v _ _ (by assumption) (by assumption)).mono ?_
    rintro e w2 ⟨r2, rfl, e2, z2, g2⟩
    rw [hn] at z2
    go_wp2_with fail
    refine (up_v _ _ (by assumption) (by assumption)).mono ?_
    rintro e w3 ⟨r3, rfl, e3, z3, g3⟩
    rw [hn] at z3
    go_wp2_with fail
    refine (up_v _ _ (by assumption) (by assumption)).mono ?_
    rintro e w4 ⟨r4, rfl, e4, z4, g4⟩
    rw [hm] at z4
    go_wp2_with fail
    refine (size_n _ _ hm _ (by assumption) (by assumption)).mono ?_
    rintro e w0 ⟨rfl, rfl⟩
    go_wp2_with fail
    refine (down_v _ _ (by assumption) (by assumption)).mono ?_
    rintro e w5 ⟨r5, rfl, e5, z5, g5⟩
    rw [hm] at z5
    go_wp2_with fail
    refine (size_n _ _ hm _ (by assumption) (by assumption)).mono ?_
    rintro e w0 ⟨rfl, rfl⟩
    go_wp2_with fail
    refine (up_v _ _ (by assumption) (by assumption)).mono ?_
    rintro e w6 ⟨r6, rfl, e6, z6, g6⟩
    rw [hm] at z6
    go_wp2_with fail
    refine (alive_any _).mono ?_
    rintro e w7 ⟨rfl, g7⟩
    go_wp2_with fail
    go_ret
    exact ⟨rfl, g1.trans (g2.trans (g3.trans (g4.trans (g5.trans (g6.trans g7)))))⟩
  · subst h
    obtain rfl : m = n := hm.symm.trans hn
    clear l1 l2 hn
    go_enter Try.func7, Try.ntmps7
    go_wp2_with fail
    refine (up_v _ _ (by assumption) (by assumption)).mono ?_
    rintro e w1 ⟨r1, rfl, e1, z1, g1⟩
    rw [hm] at z1
    go_wp2_with fail
    refine (up_v _ _ (by assumption) (by assumption)).mono ?_
    rintro e w2 ⟨r2, rfl, e2, z2, g2⟩
    rw [hm] at z2
    go_wp2_with fail
    refine (up_v _ _ (by assumption) (by assumption)).mono ?_
    rintro e w3 ⟨r3, rfl, e3, z3, g3⟩
    rw [hm] at z3
    go_wp2_with fail
    refine (up_v _ _ (by assumption) (by assumption)).mono ?_
    rintro e w4 ⟨r4, rfl, e4, z4, g4⟩
    rw [hm] at z4
    go_wp2_with fail
    refine (size_n _ _ hm _ (by assumption) (by assumption)).mono ?_
    rintro e w0 ⟨rfl, rfl⟩
    go_wp2_with fail
    refine (down_v _ _ (by assumption) (by assumption)).mono ?_
    rintro e w5 ⟨r5, rfl, e5, z5, g5⟩
    rw [hm] at z5
    go_wp2_with fail
    refine (size_n _ _ hm _ (by assumption) (by assumption)).mono ?_
    rintro e w0 ⟨rfl, rfl⟩
    go_wp2_with fail
    refine (up_v _ _ (by assumption) (by assumption)).mono ?_
    rintro e w6 ⟨r6, rfl, e6, z6, g6⟩
    rw [hm] at z6
    go_wp2_with fail
    refine (alive_any _).mono ?_
    rintro e w7 ⟨rfl, g7⟩
    go_wp2_with fail
    go_ret
    exact ⟨rfl, g1.trans (g2.trans (g3.trans (g4.trans (g5.trans (g6.trans g7)))))⟩
  · have l := l2 (by omega)
    clear l1 l2
    go_enter Try.func7, Try.ntmps7
    go_wp2_with fail
    refine (up_v _ _ (by assumption) (by assumption)).mono ?_
    rintro e w1 ⟨r1, rfl, e1, z1, g1⟩
    rw [hn] at z1
    go_wp2_with fail
    refine (up_v _ _ (by assumption) (by assumption)).mono ?_
    rintro e w2 ⟨r2, rfl, e2, z2, g2⟩
    rw [hm] at z2
    go_wp2_with fail
    refine (up_v _ _ (by assumption) (by assumption)).mono ?_
    rintro e w3 ⟨r3, rfl, e3, z3, g3⟩
    rw [hm] at z3
    go_wp2_with fail
    refine (up_v _ _ (by assumption) (by assumption)).mono ?_
    rintro e w4 ⟨r4, rfl, e4, z4, g4⟩
    rw [hm] at z4
    go_wp2_with fail
    refine (size_n _ _ hm _ (by assumption) (by assumption)).mono ?_
    rintro e w0 ⟨rfl, rfl⟩
    go_wp2_with fail
    refine (down_v _ _ (by assumption) (by assumption)).mono ?_
    rintro e w5 ⟨r5, rfl, e5, z5, g5⟩
    rw [hm] at z5
    go_wp2_with fail
    refine (size_n _ _ hm _ (by assumption) (by assumption)).mono ?_
    rintro e w0 ⟨rfl, rfl⟩
    go_wp2_with fail
    refine (up_v _ _ (by assumption) (by assumption)).mono ?_
    rintro e w6 ⟨r6, rfl, e6, z6, g6⟩
    rw [hm] at z6
    go_wp2_with fail
    refine (alive_any _).mono ?_
    rintro e w7 ⟨rfl, g7⟩
    go_wp2_with fail
    go_ret
    exact ⟨rfl, g1.trans (g2.trans (g3.trans (g4.trans (g5.trans (g6.trans g7)))))⟩
end Go.Proofs.Ytbjochfmjnjopaa
