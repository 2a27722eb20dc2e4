/- What the program's rack refuses. -/
import Derived.Test.YtnfehfmmpjbgdaaRackFault5
namespace Go.Proofs.Ytnfehfmmpjbgdaa
open Go.RowKit
set_option linter.unusedVariables false
theorem secE_there {s : RSt} {d i : Int} (h : secE s d i = 0) : s.there d i = true := by
  unfold secE at h
  split at h
  · assumption
  · cases h
set_option maxHeartbeats 1000000 in
set_option maxRecDepth 100000 in
theorem pRead_bad (g n : Nat) (s : RSt) (p : Option Addr) (d i : Int) (hd1 : -9223372036854775808 ≤ d) (hd2 : d ≤ 9223372036854775807) (hi1 : -9223372036854775808 ≤ i) (hi2 : i ≤ 9223372036854775807) (e : Nat) (w : World) (hp : (p = none ∧ n = 0) ∨ (p = some ⟨g + 1, 0, none⟩ ∧ n = s.n ∧ RackAt g s w)) (he : or2 (or2 (or2 (noneE n) (ifE s.down 71)) (secE s d i)) (ifE (s.bad d.toNat i.toNat) 72) = e) (hne : e ≠ 0) :
    Calls Try.prog 21 #[.pointer p, .int .i64 d, .int .i64 i] w fun r w' => r = .returned (.tuple #[.string ⟨#[]⟩, .int .i64 (e : Nat)]) ∧ Kept w w' := by
  have hmf : ∀ (fn : Fn) (first cap : Array Value) (w : World), (Instr.makeFunc fn first cap).run Try.prog w = .ok (.func fn first cap) w := fun _ _ _ _ => rfl
  have HH : Hid (Has p n w) := by
    rcases hp with ⟨rfl, rfl⟩ | ⟨rfl, rfl, hR⟩
    · exact .inl ⟨rfl, rfl⟩
    · exact hR.has
  have HP : Hid (noneE n = 0 → p = some ⟨g + 1, 0, none⟩ ∧ RackAt g s w) := fun hz => by
    rcases hp with ⟨rfl, rfl⟩ | ⟨rfl, rfl, hR⟩
    · cases hz
    · exact ⟨rfl, hR⟩
  have HN : Hid (n ≤ 1000) := by
    show _ ≤ _
    rcases hp with ⟨rfl, rfl⟩ | ⟨rfl, rfl, hR⟩
    · omega
    · have := hR.wf.n2; omega
  clear hp
  have hz := int_ne e hne
  clear hne
  go_enter Try.func21, Try.ntmps21
  go_wp2_with fail
  refine (none_any _ n _ HH.out).mono ?_
  rintro e w1 ⟨j0, caps0, rfl, hf, hk⟩
  have F0 := Lib.hid hf
  have K0 := Lib.hid hk
  clear hf hk
  go_wp2_with fail
  refine (still_any g s _ _).mono ?_
  rintro e w2 ⟨j1, caps1, rfl, hf, hk⟩
  have F1 := Lib.hid hf
  have K1 : Hid (Kept w w2) := K0.out.trans hk
  have L1 := Lib.hid hk
  clear hf hk
  go_wp2_with fail
  refine (noSector_any g s _ d i _ hd1 hd2 hi1 hi2).mono ?_
  rintro e w3 ⟨j2, caps2, rfl, hf, hk⟩
  have F2 := Lib.hid hf
  have K2 : Hid (Kept w w3) := K1.out.trans hk
  have L2 := Lib.hid hk
  clear hf hk
  go_wp2_with fail
  refine (spoilt_any g s _ d i _).mono ?_
  rintro e w4 ⟨j3, caps3, rfl, hf, hk⟩
  have F3 := Lib.hid hf
  have K3 : Hid (Kept w w4) := K2.out.trans hk
  have L3 := Lib.hid hk
  clear hf hk
  go_wp2_with fail
  refine (first4 w4.heap.size (.func (.func j0) #[] caps0) (.func (.func j1) #[] caps1) (.func (.func j2) #[] caps2) (.func (.func j3) #[] caps3) (noneE n) (ifE s.down 71) (secE s d i) (ifE (s.bad d.toNat i.toNat) 72) _ (by rw [World.cell?_alloc_mark]; rfl) (by rw [World.cell?_alloc_mark]; rfl) (by rw [World.cell?_alloc_mark]; rfl) (by rw [World.cell?_alloc_mark]; rfl) (F0.out.kept (((((Kept.refl _).trans L1.out).trans L2.out).trans L3.out).alloc _)) (fun z0 => (F1.out (HP.out z0).1 ((HP.out z0).2.kept K0.out)).kept ((((Kept.refl _).trans L2.out).trans L3.out).alloc _)) (fun z0 z1 => (F2.out (HP.out z0).1 ((HP.out z0).2.kept K1.out)).kept (((Kept.refl _).trans L3.out).alloc _)) (fun z0 z1 z2 => (F3.out (HP.out z0).1 ((HP.out z0).2.kept K2.out) (secE_there z2)).kept ((Kept.refl _).alloc _))).mono ?_
  rintro x w9 ⟨rfl, hk⟩
  have K9 : Hid (Kept w w9) := (K3.out.trans ((Kept.refl _).alloc _)).trans hk
  rw [he]
  clear hk
  go_wp2_with fail
  go_ret2
  exact ⟨rfl, K9.out⟩
set_option maxHeartbeats 1000000 in
set_option maxRecDepth 100000 in
theorem pWrite_bad (g n : Nat) (s : RSt) (p : Option Addr) (d i : Int) (hd1 : -9223372036854775808 ≤ d) (hd2 : d ≤ 9223372036854775807) (hi1 : -9223372036854775808 ≤ i) (hi2 : i ≤ 9223372036854775807) (t : ByteArray) (ht : t.size ≤ 9223372036854775807) (e : Nat) (w : World) (hp : (p = none ∧ n = 0) ∨ (p = some ⟨g + 1, 0, none⟩ ∧ n = s.n ∧ RackAt g s w)) (he : or2 (or2 (or2 (noneE n) (secE s d i)) (longE t)) (ifE s.down 71) = e) (hne : e ≠ 0) :
    Calls Try.prog 19 #[.pointer p, .int .i64 d, .int .i64 i, .string t] w fun r w' => r = .returned (.int .i64 (e : Nat)) ∧ Kept w w' := by
  have hmf : ∀ (fn : Fn) (first cap : Array Value) (w : World), (Instr.makeFunc fn first cap).run Try.prog w = .ok (.func fn first cap) w := fun _ _ _ _ => rfl
  have HH : Hid (Has p n w) := by
    rcases hp with ⟨rfl, rfl⟩ | ⟨rfl, rfl, hR⟩
    · exact .inl ⟨rfl, rfl⟩
    · exact hR.has
  have HP : Hid (noneE n = 0 → p = some ⟨g + 1, 0, none⟩ ∧ RackAt g s w) := fun hz => by
    rcases hp with ⟨rfl, rfl⟩ | ⟨rfl, rfl, hR⟩
    · cases hz
    · exact ⟨rfl, hR⟩
  have HN : Hid (n ≤ 1000) := by
    show _ ≤ _
    rcases hp with ⟨rfl, rfl⟩ | ⟨rfl, rfl, hR⟩
    · omega
    · have := hR.wf.n2; omega
  clear hp
  have hz := int_ne e hne
  clear hne
  go_enter Try.func19, Try.ntmps19
  go_wp2_with fail
  refine (none_any _ n _ HH.out).mono ?_
  rintro e w1 ⟨j0, caps0, rfl, hf, hk⟩
  have F0 := Lib.hid hf
  have K0 := Lib.hid hk
  clear hf hk
  go_wp2_with fail
  refine (noSector_any g s _ d i _ hd1 hd2 hi1 hi2).mono ?_
  rintro e w2 ⟨j1, caps1, rfl, hf, hk⟩
  have F1 := Lib.hid hf
  have K1 : Hid (Kept w w2) := K0.out.trans hk
  have L1 := Lib.hid hk
  clear hf hk
  go_wp2_with fail
  refine (tooLong_any t _ ht).mono ?_
  rintro e w3 ⟨j2, caps2, rfl, hf, hk⟩
  have F2 := Lib.hid hf
  have K2 : Hid (Kept w w3) := K1.out.trans hk
  have L2 := Lib.hid hk
  clear hf hk
  go_wp2_with fail
  refine (still_any g s _ _).mono ?_
  rintro e w4 ⟨j3, caps3, rfl, hf, hk⟩
  have F3 := Lib.hid hf
  have K3 : Hid (Kept w w4) := K2.out.trans hk
  have L3 := Lib.hid hk
  clear hf hk
  go_wp2_with fail
  refine (first4 w4.heap.size (.func (.func j0) #[] caps0) (.func (.func j1) #[] caps1) (.func (.func j2) #[] caps2) (.func (.func j3) #[] caps3) (noneE n) (secE s d i) (longE t) (ifE s.down 71) _ (by rw [World.cell?_alloc_mark]; rfl) (by rw [World.cell?_alloc_mark]; rfl) (by rw [World.cell?_alloc_mark]; rfl) (by rw [World.cell?_alloc_mark]; rfl) (F0.out.kept (((((Kept.refl _).trans L1.out).trans L2.out).trans L3.out).alloc _)) (fun z0 => (F1.out (HP.out z0).1 ((HP.out z0).2.kept K0.out)).kept ((((Kept.refl _).trans L2.out).trans L3.out).alloc _)) (fun z0 z1 => F2.out.kept (((Kept.refl _).trans L3.out).alloc _)) (fun z0 z1 z2 => (F3.out (HP.out z0).1 ((HP.out z0).2.kept K2.out)).kept ((Kept.refl _).alloc _))).mono ?_
  rintro x w9 ⟨rfl, hk⟩
  have K9 : Hid (Kept w w9) := (K3.out.trans ((Kept.refl _).alloc _)).trans hk
  rw [he]
  clear hk
  go_wp2_with fail
  go_ret
  exact ⟨rfl, K9.out⟩
set_option maxHeartbeats 1000000 in
set_option maxRecDepth 100000 in
theorem pCut_bad (g n : Nat) (s : RSt) (p : Option Addr) (k : Int) (hk1 : -9223372036854775808 ≤ k) (hk2 : k ≤ 9223372036854775807) (e : Nat) (w : World) (hp : (p = none ∧ n = 0) ∨ (p = some ⟨g + 1, 0, none⟩ ∧ n = s.n ∧ RackAt g s w)) (he : or2 (noneE n) (RSt.cutE k) = e) (hne : e ≠ 0) :
    Calls Try.prog 18 #[.pointer p, .int .i64 k] w fun r w' => r = .returned (.int .i64 (e : Nat)) ∧ Kept w w' := by
  have hmf : ∀ (fn : Fn) (first cap : Array Value) (w : World), (Instr.makeFunc fn first cap).run Try.prog w = .ok (.func fn first cap) w := fun _ _ _ _ => rfl
  have HH : Hid (Has p n w) := by
    rcases hp with ⟨rfl, rfl⟩ | ⟨rfl, rfl, hR⟩
    · exact .inl ⟨rfl, rfl⟩
    · exact hR.has
  have HP : Hid (noneE n = 0 → p = some ⟨g + 1, 0, none⟩ ∧ RackAt g s w) := fun hz => by
    rcases hp with ⟨rfl, rfl⟩ | ⟨rfl, rfl, hR⟩
    · cases hz
    · exact ⟨rfl, hR⟩
  have HN : Hid (n ≤ 1000) := by
    show _ ≤ _
    rcases hp with ⟨rfl, rfl⟩ | ⟨rfl, rfl, hR⟩
    · omega
    · have := hR.wf.n2; omega
  clear hp
  have hz := int_ne e hne
  clear hne
  go_enter Try.func18, Try.ntmps18
  go_wp2_with fail
  refine (none_any _ n _ HH.out).mono ?_
  rintro e w1 ⟨j0, caps0, rfl, hf, hk⟩
  have F0 := Lib.hid hf
  have K0 := Lib.hid hk
  clear hf hk
  go_wp2_with fail
  refine (tooFew_any k _).mono ?_
  rintro e w2 ⟨j1, caps1, rfl, hf, hk⟩
  have F1 := Lib.hid hf
  have K1 : Hid (Kept w w2) := K0.out.trans hk
  have L1 := Lib.hid hk
  clear hf hk
  go_wp2_with fail
  refine (first2 w2.heap.size (.func (.func j0) #[] caps0) (.func (.func j1) #[] caps1) (noneE n) (RSt.cutE k) _ (by rw [World.cell?_alloc_mark]; rfl) (by rw [World.cell?_alloc_mark]; rfl) (F0.out.kept (((Kept.refl _).trans L1.out).alloc _)) (fun z0 => F1.out.kept ((Kept.refl _).alloc _))).mono ?_
  rintro x w9 ⟨rfl, hk⟩
  have K9 : Hid (Kept w w9) := (K1.out.trans ((Kept.refl _).alloc _)).trans hk
  rw [he]
  clear hk
  go_wp2_with fail
  go_ret
  exact ⟨rfl, K9.out⟩
set_option maxHeartbeats 1000000 in
set_option maxRecDepth 100000 in
theorem pLift_bad (g n : Nat) (s : RSt) (p : Option Addr)  (e : Nat) (w : World) (hp : (p = none ∧ n = 0) ∨ (p = some ⟨g + 1, 0, none⟩ ∧ n = s.n ∧ RackAt g s w)) (he : noneE n = e) (hne : e ≠ 0) :
    Calls Try.prog 20 #[.pointer p] w fun r w' => r = .returned (.int .i64 (e : Nat)) ∧ Kept w w' := by
  have hmf : ∀ (fn : Fn) (first cap : Array Value) (w : World), (Instr.makeFunc fn first cap).run Try.prog w = .ok (.func fn first cap) w := fun _ _ _ _ => rfl
  have HH : Hid (Has p n w) := by
    rcases hp with ⟨rfl, rfl⟩ | ⟨rfl, rfl, hR⟩
    · exact .inl ⟨rfl, rfl⟩
    · exact hR.has
  have HP : Hid (noneE n = 0 → p = some ⟨g + 1, 0, none⟩ ∧ RackAt g s w) := fun hz => by
    rcases hp with ⟨rfl, rfl⟩ | ⟨rfl, rfl, hR⟩
    · cases hz
    · exact ⟨rfl, hR⟩
  have HN : Hid (n ≤ 1000) := by
    show _ ≤ _
    rcases hp with ⟨rfl, rfl⟩ | ⟨rfl, rfl, hR⟩
    · omega
    · have := hR.wf.n2; omega
  clear hp
  have hz := int_ne e hne
  clear hne
  go_enter Try.func20, Try.ntmps20
  go_wp2_with fail
  refine (none_any _ n _ HH.out).mono ?_
  rintro e w1 ⟨j0, caps0, rfl, hf, hk⟩
  have F0 := Lib.hid hf
  have K0 := Lib.hid hk
  clear hf hk
  go_wp2_with fail
  refine (first1 w1.heap.size (.func (.func j0) #[] caps0) (noneE n) _ (by rw [World.cell?_alloc_mark]; rfl) (F0.out.kept ((Kept.refl _).alloc _))).mono ?_
  rintro x w9 ⟨rfl, hk⟩
  have K9 : Hid (Kept w w9) := (K0.out.trans ((Kept.refl _).alloc _)).trans hk
  rw [he]
  clear hk
  go_wp2_with fail
  go_ret
  exact ⟨rfl, K9.out⟩
set_option maxHeartbeats 1000000 in
set_option maxRecDepth 100000 in
theorem pWipe_bad (g n : Nat) (s : RSt) (p : Option Addr) (d : Int) (hd1 : -9223372036854775808 ≤ d) (hd2 : d ≤ 9223372036854775807) (e : Nat) (w : World) (hp : (p = none ∧ n = 0) ∨ (p = some ⟨g + 1, 0, none⟩ ∧ n = s.n ∧ RackAt g s w)) (he : or2 (noneE n) (drvE n d) = e) (hne : e ≠ 0) :
    Calls Try.prog 23 #[.pointer p, .int .i64 d] w fun r w' => r = .returned (.int .i64 (e : Nat)) ∧ Kept w w' := by
  have hmf : ∀ (fn : Fn) (first cap : Array Value) (w : World), (Instr.makeFunc fn first cap).run Try.prog w = .ok (.func fn first cap) w := fun _ _ _ _ => rfl
  have HH : Hid (Has p n w) := by
    rcases hp with ⟨rfl, rfl⟩ | ⟨rfl, rfl, hR⟩
    · exact .inl ⟨rfl, rfl⟩
    · exact hR.has
  have HP : Hid (noneE n = 0 → p = some ⟨g + 1, 0, none⟩ ∧ RackAt g s w) := fun hz => by
    rcases hp with ⟨rfl, rfl⟩ | ⟨rfl, rfl, hR⟩
    · cases hz
    · exact ⟨rfl, hR⟩
  have HN : Hid (n ≤ 1000) := by
    show _ ≤ _
    rcases hp with ⟨rfl, rfl⟩ | ⟨rfl, rfl, hR⟩
    · omega
    · have := hR.wf.n2; omega
  clear hp
  have hz := int_ne e hne
  clear hne
  go_enter Try.func23, Try.ntmps23
  go_wp2_with fail
  refine (none_any _ n _ HH.out).mono ?_
  rintro e w1 ⟨j0, caps0, rfl, hf, hk⟩
  have F0 := Lib.hid hf
  have K0 := Lib.hid hk
  clear hf hk
  go_wp2_with fail
  refine (noDrive_any _ n d _ HN.out hd1 hd2 (HH.out.kept K0.out)).mono ?_
  rintro e w2 ⟨j1, caps1, rfl, hf, hk⟩
  have F1 := Lib.hid hf
  have K1 : Hid (Kept w w2) := K0.out.trans hk
  have L1 := Lib.hid hk
  clear hf hk
  go_wp2_with fail
  refine (first2 w2.heap.size (.func (.func j0) #[] caps0) (.func (.func j1) #[] caps1) (noneE n) (drvE n d) _ (by rw [World.cell?_alloc_mark]; rfl) (by rw [World.cell?_alloc_mark]; rfl) (F0.out.kept (((Kept.refl _).trans L1.out).alloc _)) (fun z0 => F1.out.kept ((Kept.refl _).alloc _))).mono ?_
  rintro x w9 ⟨rfl, hk⟩
  have K9 : Hid (Kept w w9) := (K1.out.trans ((Kept.refl _).alloc _)).trans hk
  rw [he]
  clear hk
  go_wp2_with fail
  go_ret
  exact ⟨rfl, K9.out⟩
set_option maxHeartbeats 1000000 in
set_option maxRecDepth 100000 in
theorem pSpoil_bad (g n : Nat) (s : RSt) (p : Option Addr) (d i : Int) (hd1 : -9223372036854775808 ≤ d) (hd2 : d ≤ 9223372036854775807) (hi1 : -9223372036854775808 ≤ i) (hi2 : i ≤ 9223372036854775807) (e : Nat) (w : World) (hp : (p = none ∧ n = 0) ∨ (p = some ⟨g + 1, 0, none⟩ ∧ n = s.n ∧ RackAt g s w)) (he : or2 (noneE n) (secE s d i) = e) (hne : e ≠ 0) :
    Calls Try.prog 22 #[.pointer p, .int .i64 d, .int .i64 i] w fun r w' => r = .returned (.int .i64 (e : Nat)) ∧ Kept w w' := by
  have hmf : ∀ (fn : Fn) (first cap : Array Value) (w : World), (Instr.makeFunc fn first cap).run Try.prog w = .ok (.func fn first cap) w := fun _ _ _ _ => rfl
  have HH : Hid (Has p n w) := by
    rcases hp with ⟨rfl, rfl⟩ | ⟨rfl, rfl, hR⟩
    · exact .inl ⟨rfl, rfl⟩
    · exact hR.has
  have HP : Hid (noneE n = 0 → p = some ⟨g + 1, 0, none⟩ ∧ RackAt g s w) := fun hz => by
    rcases hp with ⟨rfl, rfl⟩ | ⟨rfl, rfl, hR⟩
    · cases hz
    · exact ⟨rfl, hR⟩
  have HN : Hid (n ≤ 1000) := by
    show _ ≤ _
    rcases hp with ⟨rfl, rfl⟩ | ⟨rfl, rfl, hR⟩
    · omega
    · have := hR.wf.n2; omega
  clear hp
  have hz := int_ne e hne
  clear hne
  go_enter Try.func22, Try.ntmps22
  go_wp2_with fail
  refine (none_any _ n _ HH.out).mono ?_
  rintro e w1 ⟨j0, caps0, rfl, hf, hk⟩
  have F0 := Lib.hid hf
  have K0 := Lib.hid hk
  clear hf hk
  go_wp2_with fail
  refine (noSector_any g s _ d i _ hd1 hd2 hi1 hi2).mono ?_
  rintro e w2 ⟨j1, caps1, rfl, hf, hk⟩
  have F1 := Lib.hid hf
  have K1 : Hid (Kept w w2) := K0.out.trans hk
  have L1 := Lib.hid hk
  clear hf hk
  go_wp2_with fail
  refine (first2 w2.heap.size (.func (.func j0) #[] caps0) (.func (.func j1) #[] caps1) (noneE n) (secE s d i) _ (by rw [World.cell?_alloc_mark]; rfl) (by rw [World.cell?_alloc_mark]; rfl) (F0.out.kept (((Kept.refl _).trans L1.out).alloc _)) (fun z0 => (F1.out (HP.out z0).1 ((HP.out z0).2.kept K0.out)).kept ((Kept.refl _).alloc _))).mono ?_
  rintro x w9 ⟨rfl, hk⟩
  have K9 : Hid (Kept w w9) := (K1.out.trans ((Kept.refl _).alloc _)).trans hk
  rw [he]
  clear hk
  go_wp2_with fail
  go_ret
  exact ⟨rfl, K9.out⟩
end Go.Proofs.Ytnfehfmmpjbgdaa
