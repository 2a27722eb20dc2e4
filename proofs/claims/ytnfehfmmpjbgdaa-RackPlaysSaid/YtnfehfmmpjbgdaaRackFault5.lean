/- The closures that look at a sector. -/
import Derived.Test.YtnfehfmmpjbgdaaRackFault4
namespace Go.Proofs.Ytnfehfmmpjbgdaa
open Go.RowKit
set_option linter.unusedVariables false
set_option maxHeartbeats 1000000 in
set_option maxRecDepth 100000 in
theorem sector_fn (g r1 r2 r3 : Nat) (s : RSt) (d i : Int) (w : World) (hd1 : -9223372036854775808 ≤ d) (hd2 : d ≤ 9223372036854775807) (hi1 : -9223372036854775808 ≤ i) (hi2 : i ≤ 9223372036854775807)
    (h1 : w.cell? ⟨r1, 0, none⟩ = some (.pointer (some ⟨g + 1, 0, none⟩))) (h2 : w.cell? ⟨r2, 0, none⟩ = some (.int .i64 d)) (h3 : w.cell? ⟨r3, 0, none⟩ = some (.int .i64 i)) (hR : RackAt g s w) :
    Calls Try.prog 47 #[.pointer (some ⟨r1, 0, none⟩), .pointer (some ⟨r2, 0, none⟩), .pointer (some ⟨r3, 0, none⟩)] w fun r w' => r = .returned (.int .i64 (secE s d i : Nat)) ∧ Kept w w' := by
  have hmf : ∀ (fn : Fn) (first cap : Array Value) (w : World), (Instr.makeFunc fn first cap).run Try.prog w = .ok (.func fn first cap) w := fun _ _ _ _ => rfl
  have HR := Lib.hid hR
  have HN : Hid (s.n ≤ 1000) := by have := hR.wf.n2; show _ ≤ _; omega
  have H1 := Lib.hid h1
  have H3 := Lib.hid h3
  clear hR
  go_enter Try.func47, Try.ntmps47
  go_wp2_with fail
  refine (noDrive_any _ s.n d _ HN.out hd1 hd2 HR.out.has).mono ?_
  rintro e w1 ⟨j, caps, rfl, hf, hk⟩
  have HF := Lib.hid hf
  have HK := Lib.hid hk
  clear hf hk
  go_wp2_with fail
  refine (first2 w1.heap.size (.func (.func j) #[] caps) _ (drvE s.n d) (rowE s.m i) _ (by rw [World.cell?_alloc_mark]; rfl) (by rw [World.cell?_alloc_mark]; rfl) (HF.out.kept ((Kept.refl _).alloc _)) (fun _ => ⟨_, _, rfl, enters_of Try.func48 (by kernel_rfl) rfl, fun w' k' => ?_⟩)).mono ?_
  · have HKK := (HK.out.trans ((Kept.refl _).alloc _)).trans k'
    exact row_fn g r3 r1 s i w' hi1 hi2 (cell_kept H3.out HKK) (cell_kept H1.out HKK) (HR.out.kept HKK)
  · rintro e w2 ⟨rfl, hk2⟩
    have HK2 : Hid (Kept w w2) := (HK.out.trans ((Kept.refl _).alloc _)).trans hk2
    have HE := Lib.hid (or2_secE s d i)
    clear hk2
    go_wp2_with fail
    go_ret
    rw [HE.out]
    exact ⟨rfl, HK2.out⟩
set_option maxRecDepth 100000 in
theorem noSector_any (g : Nat) (s : RSt) (p : Option Addr) (d i : Int) (w : World) (hd1 : -9223372036854775808 ≤ d) (hd2 : d ≤ 9223372036854775807) (hi1 : -9223372036854775808 ≤ i) (hi2 : i ≤ 9223372036854775807) :
    Calls Try.prog 37 #[.pointer p, .int .i64 d, .int .i64 i] w fun r w' => ∃ j caps, r = .returned (.func (.func j) #[] caps) ∧ (p = some ⟨g + 1, 0, none⟩ → RackAt g s w → Fault (.func (.func j) #[] caps) (secE s d i) w') ∧ Kept w w' := by
  have hmf : ∀ (fn : Fn) (first cap : Array Value) (w : World), (Instr.makeFunc fn first cap).run Try.prog w = .ok (.func fn first cap) w := fun _ _ _ _ => rfl
  go_enter Try.func37, Try.ntmps37
  go_wp2_with fail
  go_ret
  refine ⟨_, _, rfl, fun hp hR => ⟨_, _, rfl, enters_of Try.func47 (by kernel_rfl) rfl, fun w' k' => ?_⟩, (((Kept.refl _).alloc _).alloc _).alloc _⟩
  subst hp
  exact sector_fn g w.heap.size (w.heap.size + 1) (w.heap.size + 2) s d i w' hd1 hd2 hi1 hi2 (cell_kept (cell_box _ _ _) (((((Kept.refl _).alloc _).alloc _)).trans k')) (cell_kept (cell_box2 _ _ _ _) (((Kept.refl _).alloc _).trans k')) (cell_kept (cell_box3 _ _ _ _ _) k') (hR.kept (((((Kept.refl _).alloc _).alloc _).alloc _).trans k'))
/-- The cell that tells whether a sector is spoilt. -/
theorem RackAt.flag {g : Nat} {s : RSt} {w : World} (h : RackAt g s w) {d i : Nat} (hd : d < s.n) (hi : i < s.m) : w.cell? ⟨g + 2 + d, i * 65 + 64, none⟩ = some (.bool (s.bad d i)) := by
  refine h.sr d i hd hi 64 _ ?_
  unfold secL
  rw [List.getElem?_append_right (by rw [List.length_map, h.wf.shown hd hi]; omega), List.length_map, h.wf.shown hd hi]
  rfl
set_option maxHeartbeats 1000000 in
set_option maxRecDepth 100000 in
theorem spoilt_fn (g r1 r2 r3 : Nat) (s : RSt) (d i : Nat) (hd : d < s.n) (hi : i < s.m) (w : World)
    (h1 : w.cell? ⟨r1, 0, none⟩ = some (.pointer (some ⟨g + 1, 0, none⟩))) (h2 : w.cell? ⟨r2, 0, none⟩ = some (.int .i64 (d : Nat))) (h3 : w.cell? ⟨r3, 0, none⟩ = some (.int .i64 (i : Nat))) (hR : RackAt g s w) :
    Calls Try.prog 51 #[.pointer (some ⟨r1, 0, none⟩), .pointer (some ⟨r2, 0, none⟩), .pointer (some ⟨r3, 0, none⟩)] w fun r w' => r = .returned (.int .i64 (ifE (s.bad d i) 72 : Nat)) ∧ Kept w w' := by
  have c0 := hR.c0
  have c1 := hR.ds d hd
  have c2 := hR.flag hd hi
  have n2 := hR.wf.n2
  have m2 := hR.wf.m2
  clear hR
  have hwh := fun w => when_if (s.bad d i) 72 w
  generalize s.bad d i = b at *
  go_enter Try.func51, Try.ntmps51
  go_wp2_with fail
  go_quiet (first | (go_at_call 42; exact Calls.quiet_of ((hwh _).mono fun _ _ h => ⟨h.1, 0, h.2⟩)))
  go_wp2_with fail
  go_ret
  exact ⟨rfl, (Kept.refl _).drewN _⟩
set_option maxRecDepth 100000 in
theorem spoilt_any (g : Nat) (s : RSt) (p : Option Addr) (d i : Int) (w : World) :
    Calls Try.prog 40 #[.pointer p, .int .i64 d, .int .i64 i] w fun r w' => ∃ j caps, r = .returned (.func (.func j) #[] caps) ∧ (p = some ⟨g + 1, 0, none⟩ → RackAt g s w → s.there d i = true → Fault (.func (.func j) #[] caps) (ifE (s.bad d.toNat i.toNat) 72) w') ∧ Kept w w' := by
  have hmf : ∀ (fn : Fn) (first cap : Array Value) (w : World), (Instr.makeFunc fn first cap).run Try.prog w = .ok (.func fn first cap) w := fun _ _ _ _ => rfl
  go_enter Try.func40, Try.ntmps40
  go_wp2_with fail
  go_ret
  refine ⟨_, _, rfl, fun hp hR ht => ⟨_, _, rfl, enters_of Try.func51 (by kernel_rfl) rfl, fun w' k' => ?_⟩, (((Kept.refl _).alloc _).alloc _).alloc _⟩
  subst hp
  obtain ⟨d, i, rfl, rfl, hd, hi⟩ := RSt.there_iff ht
  exact spoilt_fn g w.heap.size (w.heap.size + 1) (w.heap.size + 2) s d i hd hi w' (cell_kept (cell_box _ _ _) (((((Kept.refl _).alloc _).alloc _)).trans k')) (cell_kept (cell_box2 _ _ _ _) (((Kept.refl _).alloc _).trans k')) (cell_kept (cell_box3 _ _ _ _ _) k') (hR.kept (((((Kept.refl _).alloc _).alloc _).alloc _).trans k'))
end Go.Proofs.Ytnfehfmmpjbgdaa
