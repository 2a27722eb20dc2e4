/- Rows of one, two and four closures; how many sectors there are. -/
import Derived.Test.YtnfehfmmpjbgdaaRackFault2
namespace Go.Proofs.Ytnfehfmmpjbgdaa
open Go.RowKit
set_option linter.unusedVariables false
/-- The first of two faults. -/
def or2 (a b : Nat) : Nat := if a = 0 then b else a
theorem or2_zero {a b : Nat} (h : or2 a b = 0) : a = 0 ∧ b = 0 := by
  unfold or2 at h
  split at h
  · exact ⟨by assumption, h⟩
  · exact absurd h (by assumption)
theorem first1 (g : Nat) (v : Value) (e : Nat) (w : World) (h0 : w.cell? ⟨g, 0, none⟩ = some v) (f0 : Fault v e w) :
    Calls Try.prog 29 #[.slice (some ⟨g, 0, none⟩) 1 1] w fun r w' => r = .returned (.int .i64 (e : Nat)) ∧ Kept w w' := by
  have h := first_any g 1 (fun _ => v) (fun _ => e) w (by decide) (fun i hi => by
      obtain rfl : i = 0 := by omega
      exact h0) (fun i hi _ => f0)
  exact h
theorem first2 (g : Nat) (v0 v1 : Value) (e0 e1 : Nat) (w : World) (h0 : w.cell? ⟨g, 0, none⟩ = some v0) (h1 : w.cell? ⟨g, 1, none⟩ = some v1) (f0 : Fault v0 e0 w) (f1 : e0 = 0 → Fault v1 e1 w) :
    Calls Try.prog 29 #[.slice (some ⟨g, 0, none⟩) 2 2] w fun r w' => r = .returned (.int .i64 (or2 e0 e1 : Nat)) ∧ Kept w w' := by
  have h := first_any g 2 (fun i => if i = 0 then v0 else v1) (fun i => if i = 0 then e0 else e1) w (by decide)
    (fun i hi => by
      rcases (by omega : i = 0 ∨ i = 1) with rfl | rfl
      · exact h0
      · exact h1)
    (fun i hi h => by
      rcases (by omega : i = 0 ∨ i = 1) with rfl | rfl
      · exact f0
      · exact f1 h)
  exact h
theorem first4 (g : Nat) (v0 v1 v2 v3 : Value) (e0 e1 e2 e3 : Nat) (w : World) (h0 : w.cell? ⟨g, 0, none⟩ = some v0) (h1 : w.cell? ⟨g, 1, none⟩ = some v1) (h2 : w.cell? ⟨g, 2, none⟩ = some v2) (h3 : w.cell? ⟨g, 3, none⟩ = some v3)
    (f0 : Fault v0 e0 w) (f1 : e0 = 0 → Fault v1 e1 w) (f2 : e0 = 0 → e1 = 0 → Fault v2 e2 w) (f3 : e0 = 0 → e1 = 0 → e2 = 0 → Fault v3 e3 w) :
    Calls Try.prog 29 #[.slice (some ⟨g, 0, none⟩) 4 4] w fun r w' => r = .returned (.int .i64 (or2 (or2 (or2 e0 e1) e2) e3 : Nat)) ∧ Kept w w' := by
  have h := first_any g 4 (fun i => if i = 0 then v0 else if i = 1 then v1 else if i = 2 then v2 else v3) (fun i => if i = 0 then e0 else if i = 1 then e1 else if i = 2 then e2 else e3) w (by decide)
    (fun i hi => by
      rcases (by omega : i = 0 ∨ i = 1 ∨ i = 2 ∨ i = 3) with rfl | rfl | rfl | rfl
      · exact h0
      · exact h1
      · exact h2
      · exact h3)
    (fun i hi h => by
      rcases (by omega : i = 0 ∨ i = 1 ∨ i = 2 ∨ i = 3) with rfl | rfl | rfl | rfl
      · exact f0
      · exact f1 h
      · have h : or2 e0 e1 = 0 := h
        exact f2 (or2_zero h).1 (or2_zero h).2
      · have h : or2 (or2 e0 e1) e2 = 0 := h
        have h2 := or2_zero h
        exact f3 (or2_zero h2.1).1 (or2_zero h2.1).2 h2.2)
  exact h
set_option maxRecDepth 100000 in
theorem noDrive_any (p : Option Addr) (n : Nat) (d : Int) (w : World) (hn : n ≤ 1000) (hd1 : -9223372036854775808 ≤ d) (hd2 : d ≤ 9223372036854775807) (hp : Has p n w) :
    Calls Try.prog 30 #[.pointer p, .int .i64 d] w fun r w' => ∃ j caps, r = .returned (.func (.func j) #[] caps) ∧ Fault (.func (.func j) #[] caps) (drvE n d) w' ∧ Kept w w' := by
  have hmf : ∀ (fn : Fn) (first cap : Array Value) (w : World), (Instr.makeFunc fn first cap).run Try.prog w = .ok (.func fn first cap) w := fun _ _ _ _ => rfl
  have HP := Lib.hid hp
  clear hp
  go_enter Try.func30, Try.ntmps30
  go_wp2_with fail
  go_ret
  refine ⟨_, _, rfl, ⟨_, _, rfl, enters_of Try.func41 (by kernel_rfl) rfl, fun w' k => ?_⟩, ((Kept.refl _).alloc _).alloc _⟩
  refine noDrive_fn p n (w.heap.size + 1) w.heap.size d w' hn hd1 hd2 (cell_kept (cell_box2 _ _ _ _) k) (cell_kept (cell_box _ _ _) (((Kept.refl _).alloc _).trans k)) ((HP.out.kept (((Kept.refl _).alloc _).alloc _)).kept k)
theorem cell_one_new (w : World) (v : Value) (t : TypeId) : (w.alloc (.cells #[v] t)).cell? ⟨w.heap.size, 0, none⟩ = some v := cell_box w v t
set_option maxRecDepth 100000 in
theorem sectors_any (g : Nat) (s : RSt) (w : World) (h : RackAt g s w) :
    Calls Try.prog 17 #[.pointer (some ⟨g + 1, 0, none⟩)] w fun r w' => r = .returned (.int .i64 (s.m : Nat)) ∧ Kept w w' := by
  have hn1 := h.wf.n1
  have hm2 := h.wf.m2
  have H := Lib.hid h
  clear h
  go_enter Try.func17, Try.ntmps17
  go_wp2_with fail
  refine (none_any _ s.n _ H.out.has).mono ?_
  rintro e w1 ⟨j, caps, rfl, hf, hk⟩
  have HF := Lib.hid hf
  have HK := Lib.hid hk
  clear hf hk
  go_wp2_with fail
  refine (first1 w1.heap.size (.func (.func j) #[] caps) (noneE s.n) _ (cell_box _ _ _) (HF.out.kept ((Kept.refl _).alloc _))).mono ?_
  rintro e w2 ⟨rfl, hk2⟩
  have HK2 : Hid (Kept w w2) := (HK.out.trans ((Kept.refl _).alloc _)).trans hk2
  have HR := Lib.hid (H.out.kept HK2.out)
  have hz : noneE s.n = 0 := if_neg (by omega)
  rw [hz]
  have h0 := HR.out.c0
  have h1 := HR.out.ds 0 (by omega)
  clear hk2 hz
  go_wp2_with fail
  go_ret
  exact ⟨rfl, HK2.out⟩
set_option maxRecDepth 100000 in
theorem sectors_nil (w : World) :
    Calls Try.prog 17 #[.pointer none] w fun r w' => r = .returned (.int .i64 0) ∧ Kept w w' := by
  go_enter Try.func17, Try.ntmps17
  go_wp2_with fail
  refine (none_any _ 0 _ (.inl ⟨rfl, rfl⟩)).mono ?_
  rintro e w1 ⟨j, caps, rfl, hf, hk⟩
  have HF := Lib.hid hf
  have HK := Lib.hid hk
  clear hf hk
  go_wp2_with fail
  refine (first1 w1.heap.size (.func (.func j) #[] caps) 1 _ (cell_box _ _ _) (HF.out.kept ((Kept.refl _).alloc _))).mono ?_
  rintro e w2 ⟨rfl, hk2⟩
  have HK2 : Hid (Kept w w2) := (HK.out.trans ((Kept.refl _).alloc _)).trans hk2
  clear hk2
  go_wp2_with fail
  go_ret
  exact ⟨rfl, HK2.out⟩
end Go.Proofs.Ytnfehfmmpjbgdaa
