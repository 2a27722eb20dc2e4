/- What the program's rack does. -/
import Derived.Test.YtnfehfmmpjbgdaaRackCode
namespace Go.Proofs.Ytnfehfmmpjbgdaa
open Go.RowKit
set_option linter.unusedVariables false
theorem zero_sec (w : World) : (zeroValue 82).run Try.prog w = .ok (.agg (secL zero64 false).toArray) w := by kernel_rfl
theorem sec_set : (secL zero64 false).toArray.setIfInBounds 64 (.bool true) = (secL zero64 true).toArray := by kernel_rfl
theorem info_sec : (Try.prog.info? 82).map (·.size) = some 65 := by kernel_rfl
set_option maxHeartbeats 1000000 in
set_option maxRecDepth 100000 in
theorem pLift_ok (g : Nat) (s : RSt)  (w : World) (hR : RackAt g s w) :
    Calls Try.prog 20 #[.pointer (some ⟨g + 1, 0, none⟩)] w fun r w' => r = .returned (.int .i64 0) ∧ RackAt g s.liftS w' ∧ Only g (g + 2 + s.n) w w' := by
  have hmf : ∀ (fn : Fn) (first cap : Array Value) (w : World), (Instr.makeFunc fn first cap).run Try.prog w = .ok (.func fn first cap) w := fun _ _ _ _ => rfl
  obtain ⟨n, hn⟩ : ∃ n, n = s.n := ⟨_, rfl⟩
  obtain ⟨p, hpe⟩ : ∃ p, p = some (⟨g + 1, 0, none⟩ : Addr) := ⟨_, rfl⟩
  have hp : (p = none ∧ n = 0) ∨ (p = some ⟨g + 1, 0, none⟩ ∧ n = s.n ∧ RackAt g s w) := .inr ⟨hpe, hn, hR⟩
  have h1 : noneE n = 0 := if_neg (by have := hR.wf.n1; omega)
  have he : noneE n = 0 := by
    rw [h1]
  have HRK := Lib.hid hR
  clear h1 hn hR
  rw [← hpe]
  have HPE := Lib.hid hpe
  clear hpe
  have HH : Hid (Has p n w) := by
    rcases hp with ⟨rfl, rfl⟩ | ⟨rfl, rfl, hR⟩
    · exact .inl ⟨rfl, rfl⟩
    · exact hR.has
  have HP : Hid (noneE n = 0 → p = some ⟨g + 1, 0, none⟩ ∧ RackAt g s w) := fun hz => by
    rcases hp with ⟨rfl, rfl⟩ | ⟨rfl, rfl, hR⟩
    · cases hz
    · exact ⟨rfl, hR⟩
  have HN : Hid (n ≤ 1000) := by
    show _ ≤ _
    rcases hp with ⟨rfl, rfl⟩ | ⟨rfl, rfl, hR⟩
    · omega
    · have := hR.wf.n2; omega
  clear hp
  go_enter Try.func20, Try.ntmps20
  go_wp2_with fail
  refine (none_any _ n _ HH.out).mono ?_
  rintro e w1 ⟨j0, caps0, rfl, hf, hk⟩
  have F0 := Lib.hid hf
  have K0 := Lib.hid hk
  clear hf hk
  go_wp2_with fail
  refine (first1 w1.heap.size (.func (.func j0) #[] caps0) (noneE n) _ (by rw [World.cell?_alloc_mark]; rfl) (F0.out.kept ((Kept.refl _).alloc _))).mono ?_
  rintro x w9 ⟨rfl, hk⟩
  have K9 : Hid (Kept w w9) := (K0.out.trans ((Kept.refl _).alloc _)).trans hk
  rw [he]
  clear hk
  have hR9 := HRK.out.kept K9.out
  have c1 := hR9.c1
  have c2 := hR9.c2
  have f1 := hR9.f1
  have f2 := hR9.f2
  have n1 := hR9.wf.n1
  have HA := Lib.hid hR9
  have hpe := HPE.out
  subst hpe
  clear hR9
  go_wp2_with fail
  go_ret
  exact ⟨rfl, (HA.out.cutTo false).left 0 (by decide), ((K9.out.only _ _).setCell _ _ (by simp <;> omega) (by simp <;> omega)).setCell _ _ (by simp <;> omega) (by simp <;> omega)⟩
set_option maxHeartbeats 1000000 in
set_option maxRecDepth 100000 in
theorem pCut_ok (g : Nat) (s : RSt) (k : Nat) (hk2 : k ≤ 9223372036854775807) (w : World) (hR : RackAt g s w) :
    Calls Try.prog 18 #[.pointer (some ⟨g + 1, 0, none⟩), .int .i64 (k : Nat)] w fun r w' => r = .returned (.int .i64 0) ∧ RackAt g (s.lim true k) w' ∧ Only g (g + 2 + s.n) w w' := by
  have hmf : ∀ (fn : Fn) (first cap : Array Value) (w : World), (Instr.makeFunc fn first cap).run Try.prog w = .ok (.func fn first cap) w := fun _ _ _ _ => rfl
  obtain ⟨n, hn⟩ : ∃ n, n = s.n := ⟨_, rfl⟩
  obtain ⟨p, hpe⟩ : ∃ p, p = some (⟨g + 1, 0, none⟩ : Addr) := ⟨_, rfl⟩
  have hp : (p = none ∧ n = 0) ∨ (p = some ⟨g + 1, 0, none⟩ ∧ n = s.n ∧ RackAt g s w) := .inr ⟨hpe, hn, hR⟩
  have h1 : noneE n = 0 := if_neg (by have := hR.wf.n1; omega)
  have he : or2 (noneE n) (RSt.cutE (k : Nat)) = 0 := by
    rw [h1, show RSt.cutE (k : Nat) = 0 from if_neg (by omega)]; rfl
  have HRK := Lib.hid hR
  clear h1 hn hR
  rw [← hpe]
  have HPE := Lib.hid hpe
  clear hpe
  have HH : Hid (Has p n w) := by
    rcases hp with ⟨rfl, rfl⟩ | ⟨rfl, rfl, hR⟩
    · exact .inl ⟨rfl, rfl⟩
    · exact hR.has
  have HP : Hid (noneE n = 0 → p = some ⟨g + 1, 0, none⟩ ∧ RackAt g s w) := fun hz => by
    rcases hp with ⟨rfl, rfl⟩ | ⟨rfl, rfl, hR⟩
    · cases hz
    · exact ⟨rfl, hR⟩
  have HN : Hid (n ≤ 1000) := by
    show _ ≤ _
    rcases hp with ⟨rfl, rfl⟩ | ⟨rfl, rfl, hR⟩
    · omega
    · have := hR.wf.n2; omega
  clear hp
  go_enter Try.func18, Try.ntmps18
  go_wp2_with fail
  refine (none_any _ n _ HH.out).mono ?_
  rintro e w1 ⟨j0, caps0, rfl, hf, hk⟩
  have F0 := Lib.hid hf
  have K0 := Lib.hid hk
  clear hf hk
  go_wp2_with fail
  refine (tooFew_any (k : Nat) _).mono ?_
  rintro e w2 ⟨j1, caps1, rfl, hf, hk⟩
  have F1 := Lib.hid hf
  have K1 : Hid (Kept w w2) := K0.out.trans hk
  have L1 := Lib.hid hk
  clear hf hk
  go_wp2_with fail
  refine (first2 w2.heap.size (.func (.func j0) #[] caps0) (.func (.func j1) #[] caps1) (noneE n) (RSt.cutE (k : Nat)) _ (by rw [World.cell?_alloc_mark]; rfl) (by rw [World.cell?_alloc_mark]; rfl) (F0.out.kept (((Kept.refl _).trans L1.out).alloc _)) (fun z0 => F1.out.kept ((Kept.refl _).alloc _))).mono ?_
  rintro x w9 ⟨rfl, hk⟩
  have K9 : Hid (Kept w w9) := (K1.out.trans ((Kept.refl _).alloc _)).trans hk
  rw [he]
  clear hk
  have hR9 := HRK.out.kept K9.out
  have c1 := hR9.c1
  have c2 := hR9.c2
  have f1 := hR9.f1
  have f2 := hR9.f2
  have n1 := hR9.wf.n1
  have HA := Lib.hid hR9
  have hpe := HPE.out
  subst hpe
  clear hR9
  go_wp2_with fail
  go_ret
  exact ⟨rfl, (HA.out.cutTo true).left k hk2, ((K9.out.only _ _).setCell _ _ (by simp <;> omega) (by simp <;> omega)).setCell _ _ (by simp <;> omega) (by simp <;> omega)⟩
set_option maxHeartbeats 1000000 in
set_option maxRecDepth 100000 in
theorem pSpoil_ok (g : Nat) (s : RSt) (d i : Nat) (hd : d < s.n) (hi : i < s.m) (w : World) (hR : RackAt g s w) :
    Calls Try.prog 22 #[.pointer (some ⟨g + 1, 0, none⟩), .int .i64 (d : Nat), .int .i64 (i : Nat)] w fun r w' => r = .returned (.int .i64 0) ∧ RackAt g (s.spoil d i) w' ∧ Only g (g + 2 + s.n) w w' := by
  have hd1 : -9223372036854775808 ≤ (d : Int) := by omega
  have hd2 : (d : Int) ≤ 9223372036854775807 := by have := hR.wf.n2; omega
  have hi1 : -9223372036854775808 ≤ (i : Int) := by omega
  have hi2 : (i : Int) ≤ 9223372036854775807 := by have := hR.wf.m2; omega
  have hmf : ∀ (fn : Fn) (first cap : Array Value) (w : World), (Instr.makeFunc fn first cap).run Try.prog w = .ok (.func fn first cap) w := fun _ _ _ _ => rfl
  obtain ⟨n, hn⟩ : ∃ n, n = s.n := ⟨_, rfl⟩
  obtain ⟨p, hpe⟩ : ∃ p, p = some (⟨g + 1, 0, none⟩ : Addr) := ⟨_, rfl⟩
  have hp : (p = none ∧ n = 0) ∨ (p = some ⟨g + 1, 0, none⟩ ∧ n = s.n ∧ RackAt g s w) := .inr ⟨hpe, hn, hR⟩
  have h1 : noneE n = 0 := if_neg (by have := hR.wf.n1; omega)
  have he : or2 (noneE n) (secE s d i) = 0 := by
    rw [h1, show secE s d i = 0 from if_pos (decide_eq_true ⟨by omega, by omega, by omega, by omega⟩)]; rfl
  have HRK := Lib.hid hR
  clear h1 hn hR
  rw [← hpe]
  have HPE := Lib.hid hpe
  clear hpe
  have HH : Hid (Has p n w) := by
    rcases hp with ⟨rfl, rfl⟩ | ⟨rfl, rfl, hR⟩
    · exact .inl ⟨rfl, rfl⟩
    · exact hR.has
  have HP : Hid (noneE n = 0 → p = some ⟨g + 1, 0, none⟩ ∧ RackAt g s w) := fun hz => by
    rcases hp with ⟨rfl, rfl⟩ | ⟨rfl, rfl, hR⟩
    · cases hz
    · exact ⟨rfl, hR⟩
  have HN : Hid (n ≤ 1000) := by
    show _ ≤ _
    rcases hp with ⟨rfl, rfl⟩ | ⟨rfl, rfl, hR⟩
    · omega
    · have := hR.wf.n2; omega
  clear hp
  go_enter Try.func22, Try.ntmps22
  go_wp2_with fail
  refine (none_any _ n _ HH.out).mono ?_
  rintro e w1 ⟨j0, caps0, rfl, hf, hk⟩
  have F0 := Lib.hid hf
  have K0 := Lib.hid hk
  clear hf hk
  go_wp2_with fail
  refine (noSector_any g s _ d i _ hd1 hd2 hi1 hi2).mono ?_
  rintro e w2 ⟨j1, caps1, rfl, hf, hk⟩
  have F1 := Lib.hid hf
  have K1 : Hid (Kept w w2) := K0.out.trans hk
  have L1 := Lib.hid hk
  clear hf hk
  go_wp2_with fail
  refine (first2 w2.heap.size (.func (.func j0) #[] caps0) (.func (.func j1) #[] caps1) (noneE n) (secE s d i) _ (by rw [World.cell?_alloc_mark]; rfl) (by rw [World.cell?_alloc_mark]; rfl) (F0.out.kept (((Kept.refl _).trans L1.out).alloc _)) (fun z0 => (F1.out (HP.out z0).1 ((HP.out z0).2.kept K0.out)).kept ((Kept.refl _).alloc _))).mono ?_
  rintro x w9 ⟨rfl, hk⟩
  have K9 : Hid (Kept w w9) := (K1.out.trans ((Kept.refl _).alloc _)).trans hk
  rw [he]
  clear hk
  have hR9 := HRK.out.kept K9.out
  have c0 := hR9.c0
  have c1 := hR9.ds d hd
  have HT := Lib.hid (hR9.st d i hd hi)
  have n2 := hR9.wf.n2
  have m2 := hR9.wf.m2
  have n1 := hR9.wf.n1
  have HA := Lib.hid hR9
  have hpe := HPE.out
  subst hpe
  clear hR9
  obtain ⟨Z, hZ⟩ : ∃ Z, Z = (secL zero64 false).toArray := ⟨_, rfl⟩
  obtain ⟨Y, hY⟩ : ∃ Y, Y = (secL zero64 true).toArray := ⟨_, rfl⟩
  have hz0 := zero_sec
  have hst := sec_set
  have hsz : Z.size = 65 := by rw [hZ]; kernel_rfl
  have HYS : Hid ((Try.prog.info? 82).map (·.size) = some Y.size) := by show _ = _; rw [hY]; exact info_sec
  have HC : Hid (Y.all (·.oneCell') = true) := by show _ = _; rw [hY]; exact all_oneCell_toArray (secL_one _ _)
  have HYL : Hid (Y.toList = secL zero64 true) := by show _ = _; rw [hY]
  have HT2 : Hid (w9.there (g + 2 + d) (i * 65) Y.size) := by show World.there _ _ _ _; rw [hY]; exact HT.out
  rw [← hZ] at hz0 hst
  rw [← hY] at hst
  clear hZ hY
  go_wp2_with (first | (with_reducible refine wpList_store_mid rfl 82 _ _ rfl (g + 2 + d) (i * 65) Y rfl rfl HT2.out HYS.out HC.out ?_))
  rw [HYL.out]
  go_wp2_with fail
  go_ret
  exact ⟨rfl, HA.out.put d i (s.T d i) true hd hi (HA.out.wf.len d i hd hi) zero64 rfl, Only.setCells _ (by omega) (by omega) _ _ (K9.out.only _ _)⟩
end Go.Proofs.Ytnfehfmmpjbgdaa
