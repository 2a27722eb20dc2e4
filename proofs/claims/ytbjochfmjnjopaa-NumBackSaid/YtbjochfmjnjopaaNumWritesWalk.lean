/- The walk of NumWrites. -/
import Derived.Test.YtbjochfmjnjopaaNumSizesWalk
namespace Go.Proofs.Ytbjochfmjnjopaa
open Go.RowKit Nm
set_option linter.unusedVariables false

theorem refup_as (x : Int) (r : ByteArray) (hr : r.data.toList = up x.toNat) (w : World) (h0 : 0 ≤ x) (h1 : x ≤ 18446744073709551615) :
    Calls Try.prog 9 #[.int .u64 x] w fun e w' => e = .returned (.string r) ∧ Kept w w' := by
  have e : (⟨(up x.toNat).toArray⟩ : ByteArray) = r := by
    apply ByteArray.ext
    apply Array.toList_inj.1
    rw [hr]
  exact e ▸ refup_any x w h0 h1
theorem refdown_as (x : Int) (r : ByteArray) (hr : r.data.toList = turn 255 (up x.toNat)) (w : World) (h0 : 0 ≤ x) (h1 : x ≤ 18446744073709551615) :
    Calls Try.prog 11 #[.int .u64 x] w fun e w' => e = .returned (.string r) ∧ Kept w w' := by
  have e : (⟨(turn 255 (up x.toNat)).toArray⟩ : ByteArray) = r := by
    apply ByteArray.ext
    apply Array.toList_inj.1
    rw [hr]
  exact e ▸ refdown_any x w h0 h1
set_option maxRecDepth 100000 in
theorem numWrites_walk (a0 : Int) (w0 : (Lit.int .u64 a0).wf = true) (w : World) :
    Calls Try.prog 3 #[.int .u64 a0] w fun e w' => e = .returned (.bool true) ∧ Kept w w' := by
  obtain ⟨h0, h1⟩ := u64_bd w0
  clear w0
  obtain ⟨m, hm⟩ : ∃ m, nb a0.toNat = m := ⟨_, rfl⟩
  have hm8 : m ≤ 8 := hm ▸ nb_le8 (by omega)
  go_enter Try.func3, Try.ntmps3
  go_wp2_with fail
  refine (up_v _ _ h0 h1).mono ?_
  rintro e w1 ⟨r1, rfl, e1, z1, g1⟩
  rw [hm] at z1
  go_wp2_with fail
  refine (refup_as _ r1 e1.out _ h0 h1).mono ?_
  rintro e w2 ⟨rfl, g2⟩
  go_wp2_with fail
  refine (down_v _ _ h0 h1).mono ?_
  rintro e w3 ⟨r2, rfl, e2, z2, g3⟩
  rw [hm] at z2
  go_wp2_with fail
  refine (refdown_as _ r2 e2.out _ h0 h1).mono ?_
  rintro e w4 ⟨rfl, g4⟩
  go_wp2_with fail
  refine (size_n _ _ hm _ h0 h1).mono ?_
  rintro e w5 ⟨rfl, rfl⟩
  go_wp2_with fail
  refine (refup_as _ r1 e1.out _ h0 h1).mono ?_
  rintro e w6 ⟨rfl, g6⟩
  go_wp2_with fail
  refine (alive_any _).mono ?_
  rintro e w7 ⟨rfl, g7⟩
  go_wp2_with fail
  go_ret
  exact ⟨rfl, g1.trans (g2.trans (g3.trans (g4.trans (g6.trans g7))))⟩
end Go.Proofs.Ytbjochfmjnjopaa
