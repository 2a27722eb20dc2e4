/- One call, of both racks: it is answered alike. -/
import Derived.Test.YtnfehfmmpjbgdaaPair
namespace Go.Proofs.Ytnfehfmmpjbgdaa
open Go.RowKit RSt
set_option linter.unusedVariables false
def stepV (op d i : Int) (t : ByteArray) : Value := .agg #[.int .u8 op, .int .i64 d, .int .i64 i, .string t]
/-- What a call leaves. -/
def stepS (s : RSt) (op d i : Int) (t : ByteArray) : RSt :=
  if op % 6 = 0 then s.writeS d i t else if op % 6 = 1 then s else if op % 6 = 2 then s.cutS i else if op % 6 = 3 then s.liftS else if op % 6 = 4 then s.wipeS d else s.spoilS d i
set_option maxHeartbeats 4000000 in
set_option maxRecDepth 100000 in
theorem do_any (g N M : Nat) (L : DLay) (lo hi : Nat) (s : RSt) (op d i : Int) (t : ByteArray) (ho1 : 0 ≤ op) (ho2 : op ≤ 255) (hd1 : -9223372036854775808 ≤ d) (hd2 : d ≤ 9223372036854775807) (hi1 : -9223372036854775808 ≤ i) (hi2 : i ≤ 9223372036854775807) (ht : t.size ≤ 9223372036854775807)
    (w : World) (hhi : hi ≤ w.heap.size) (h : Pair g N M L lo hi w s s w) :
    Calls Try.prog 11 #[.pointer (some ⟨g + 1, 0, none⟩), .pointer (some ⟨L.x, 0, none⟩), stepV op d i t] w fun r w' => r = .returned (.bool true) ∧ Pair g N M L lo hi w (stepS s op d i t) (stepS s op d i t) w' := by
  obtain ⟨W1, hW1⟩ : ∃ W1, W1 = w.alloc (.cells #[.int .u8 op, .int .i64 d, .int .i64 i, .string t] 34) := ⟨_, rfl⟩
  have k1 : Kept w W1 := by rw [hW1]; exact (Kept.refl _).alloc _
  have hQ : Pair g N M L lo hi w s s W1 := h.kept k1
  have p0 : W1.cell? ⟨w.heap.size, 0, none⟩ = some (.int .u8 op) := by rw [hW1, World.cell?_alloc_mark]; rfl
  have p1 : W1.cell? ⟨w.heap.size, 1, none⟩ = some (.int .i64 d) := by rw [hW1, World.cell?_alloc_mark]; rfl
  have p2 : W1.cell? ⟨w.heap.size, 2, none⟩ = some (.int .i64 i) := by rw [hW1, World.cell?_alloc_mark]; rfl
  have p3 : W1.cell? ⟨w.heap.size, 3, none⟩ = some (.string t) := by rw [hW1, World.cell?_alloc_mark]; rfl
  have hlt1 : w.heap.size < W1.heap.size := by rw [hW1, size_alloc]; omega
  have HKEEP : Hid (∀ W, Only g hi W1 W → W.cell? ⟨w.heap.size, 1, none⟩ = some (.int .i64 d) ∧ W.cell? ⟨w.heap.size, 2, none⟩ = some (.int .i64 i) ∧ W.cell? ⟨w.heap.size, 3, none⟩ = some (.string t)) := fun W hW =>
    ⟨by rw [hW.cell (p := ⟨w.heap.size, 1, none⟩) hlt1 (.inr hhi)]; exact p1, by rw [hW.cell (p := ⟨w.heap.size, 2, none⟩) hlt1 (.inr hhi)]; exact p2, by rw [hW.cell (p := ⟨w.heap.size, 3, none⟩) hlt1 (.inr hhi)]; exact p3⟩
  have hQ1 : Pair g N M L lo hi W1 s s W1 := { hQ with o := Only.refl _ _ _ }
  have HQ := Lib.hid hQ1
  have HO1 : Hid (Only g hi w W1) := k1.only _ _
  have HFIN : Hid (∀ a W, Pair g N M L lo hi W1 a a W → Pair g N M L lo hi w a a W) := fun a W hh => { hh with o := HO1.out.trans hh.o }
  clear hQ hQ1 h
  have hz : op % 6 = 0 ∨ op % 6 = 1 ∨ op % 6 = 2 ∨ op % 6 = 3 ∨ op % 6 = 4 ∨ op % 6 = 5 := by omega
  unfold stepV
  rcases hz with hz | hz | hz | hz | hz | hz
  · have HST : Hid (stepS s op d i t = s.writeS d i t) := by show _ = _; unfold stepS; rw [if_pos hz]
    have HWP : Hid (∀ b W, Pair g N M L lo hi W1 s b W → Calls Try.prog 19 #[.pointer (some ⟨g + 1, 0, none⟩), .int .i64 d, .int .i64 i, .string t] W fun r w' => r = .returned (.int .i64 (s.writeE d i t : Nat)) ∧ Pair g N M L lo hi W1 (s.writeS d i t) b w') := fun b W hh => hh.writeP d i hd1 hd2 hi1 hi2 t ht
    have HWD : Hid (∀ a W, Pair g N M L lo hi W1 a s W → Calls Try.prog 25 #[.pointer (some ⟨L.x, 0, none⟩), .int .i64 d, .int .i64 i, .string t] W fun r w' => r = .returned (.int .i64 (s.writeE d i t : Nat)) ∧ Pair g N M L lo hi W1 a (s.writeS d i t) w') := fun a W hh => hh.writeD d i t ht
    go_enter Try.func11, Try.ntmps11
    go_upto_region 1 with fail
    rw [← hW1]
    clear hW1 k1
    go_wp2_with fail
    go_region_held3 (fun W => W.cell? ⟨w.heap.size, 1, none⟩ = some (.int .i64 d) ∧ W.cell? ⟨w.heap.size, 2, none⟩ = some (.int .i64 i) ∧ W.cell? ⟨w.heap.size, 3, none⟩ = some (.string t)) (first | exact ⟨p1, p2, p3⟩ | exact HKEEP.out _ qp.o | exact HKEEP.out _ qd.o | exact HKEEP.out _ (qp.drewN _).o | exact HKEEP.out _ (qd.drewN _).o) (first | (go_at_call 19; first | (refine (HWP.out _ _ (HQ.out.drewN _)).mono ?_; rintro e wp ⟨rfl, qp⟩) | (refine (HWP.out _ _ qd).mono ?_; rintro e wp ⟨rfl, qp⟩) | (refine (HWP.out _ _ (qd.drewN _)).mono ?_; rintro e wp ⟨rfl, qp⟩)) | (go_at_call 25; first | (refine (HWD.out _ _ (HQ.out.drewN _)).mono ?_; rintro e wd ⟨rfl, qd⟩) | (refine (HWD.out _ _ qp).mono ?_; rintro e wd ⟨rfl, qd⟩) | (refine (HWD.out _ _ (qp.drewN _)).mono ?_; rintro e wd ⟨rfl, qd⟩)))
    all_goals
      go_wp2_with fail
      go_ret
      rw [HST.out]
      first | exact ⟨rfl, HFIN.out _ _ qd⟩ | exact ⟨rfl, HFIN.out _ _ qp⟩
  · have HST : Hid (stepS s op d i t = s) := by show _ = _; unfold stepS; rw [if_neg (by omega), if_pos hz]
    go_enter Try.func11, Try.ntmps11
    go_upto_region 1 with fail
    rw [← hW1]
    clear hW1 k1
    go_wp2_with fail
    refine (HQ.out.readP d i hd1 hd2 hi1 hi2).mono ?_
    rintro e wp ⟨rfl, qp⟩
    have HQP := Lib.hid qp
    obtain ⟨q1, q2, q3⟩ := HKEEP.out _ qp.o
    clear qp
    go_wp2_with fail
    refine (HQP.out.readD d i).mono ?_
    rintro e wd ⟨rfl, qd⟩
    have HQD := Lib.hid qd
    clear qd
    generalize s.readT d i = Y at *
    go_wp2_with fail
    go_ret
    rw [HST.out]
    exact ⟨rfl, HFIN.out _ _ HQD.out⟩
  · have HST : Hid (stepS s op d i t = s.cutS i) := by show _ = _; unfold stepS; rw [if_neg (by omega), if_neg (by omega), if_pos hz]
    by_cases hneg : i < 0
    · have hb : decide (i < 0) = true := decide_eq_true hneg
      have hcall := HQ.out.cutP i hi1 hi2
      rw [show RSt.cutE i = 2 from if_pos hneg] at hcall
      have HCALL := Lib.hid hcall
      have HSS : Hid (s.cutS i = s) := if_pos hneg
      clear hcall hneg
      go_enter Try.func11, Try.ntmps11
      go_upto_region 1 with fail
      rw [← hW1]
      clear hW1 k1
      go_wp2_with fail
      refine HCALL.out.mono ?_
      rintro e wp ⟨rfl, qp⟩
      rw [HSS.out] at qp
      have HQP := Lib.hid qp
      clear qp
      go_wp2_with fail
      go_ret
      rw [HST.out, HSS.out]
      exact ⟨rfl, HFIN.out _ _ HQP.out⟩
    · have hb : decide (i < 0) = false := decide_eq_false hneg
      obtain ⟨k, rfl⟩ : ∃ k : Nat, i = k := ⟨i.toNat, by omega⟩
      have HSS : Hid (s.cutS (k : Nat) = s.lim true k) := by show _ = _; unfold RSt.cutS; rw [if_neg hneg, Int.toNat_natCast]
      have HCE : Hid (RSt.cutE (k : Nat) = 0) := if_neg hneg
      have HQ2 := Lib.hid (HQ.out.limD true k (by omega) (k : Nat) rfl)
      have fx := HQ.out.d.ox.free 3
      obtain ⟨vx, hvx⟩ : ∃ vx, W1.cell? ⟨L.x, 3, none⟩ = some vx := ⟨_, HQ.out.d.ox.cell 3 (by decide)⟩
      have HLX : Hid (L.x < hi) := HQ.out.d.rx.2
      have HX2 := HKEEP.out _ HQ2.out.o
      obtain ⟨q1, q2, q3⟩ := HX2
      go_enter Try.func11, Try.ntmps11
      go_upto_region 1 with fail
      rw [← hW1]
      clear hW1 k1 hneg
      go_upto_region 12 with fail
      generalize W1.setCell ⟨L.x, 3, none⟩ (.int .i64 (k : Nat)) = W2 at *
      have hcall := HQ2.out.cutP (k : Nat) hi1 hi2
      rw [HCE.out] at hcall
      have HCALL := Lib.hid hcall
      clear hcall
      go_wp2_with fail
      refine HCALL.out.mono ?_
      rintro e wp ⟨rfl, qp⟩
      rw [HSS.out] at qp
      have HQP := Lib.hid qp
      clear qp
      go_wp2_with fail
      go_ret
      rw [HST.out, HSS.out]
      exact ⟨rfl, HFIN.out _ _ HQP.out⟩
  · have HST : Hid (stepS s op d i t = s.liftS) := by show _ = _; unfold stepS; rw [if_neg (by omega), if_neg (by omega), if_neg (by omega), if_pos hz]
    have HQ2 : Hid (Pair g N M L lo hi W1 s s.liftS (W1.setCell ⟨L.x, 3, none⟩ (.int .i64 (-1)))) := HQ.out.limD false 0 (by decide) (-1) rfl
    have fx := HQ.out.d.ox.free 3
    obtain ⟨vx, hvx⟩ : ∃ vx, W1.cell? ⟨L.x, 3, none⟩ = some vx := ⟨_, HQ.out.d.ox.cell 3 (by decide)⟩
    go_enter Try.func11, Try.ntmps11
    go_upto_region 1 with fail
    rw [← hW1]
    clear hW1 k1
    go_upto_region 15 with fail
    generalize W1.setCell ⟨L.x, 3, none⟩ (.int .i64 (-1)) = W2 at *
    go_wp2_with fail
    refine HQ2.out.liftP.mono ?_
    rintro e wp ⟨rfl, qp⟩
    have HQP := Lib.hid qp
    clear qp
    go_wp2_with fail
    go_ret
    rw [HST.out]
    exact ⟨rfl, HFIN.out _ _ HQP.out⟩
  · have HST : Hid (stepS s op d i t = s.wipeS d) := by show _ = _; unfold stepS; rw [if_neg (by omega), if_neg (by omega), if_neg (by omega), if_neg (by omega), if_pos hz]
    have HWP : Hid (∀ b W, Pair g N M L lo hi W1 s b W → Calls Try.prog 23 #[.pointer (some ⟨g + 1, 0, none⟩), .int .i64 d] W fun r w' => r = .returned (.int .i64 (s.wipeE d : Nat)) ∧ Pair g N M L lo hi W1 (s.wipeS d) b w') := fun b W hh => hh.wipeP d hd1 hd2
    have HWD : Hid (∀ a W, Pair g N M L lo hi W1 a s W → Calls Try.prog 27 #[.pointer (some ⟨L.x, 0, none⟩), .int .i64 d] W fun r w' => r = .returned (.int .i64 (s.wipeE d : Nat)) ∧ Pair g N M L lo hi W1 a (s.wipeS d) w') := fun a W hh => hh.wipeD d
    go_enter Try.func11, Try.ntmps11
    go_upto_region 1 with fail
    rw [← hW1]
    clear hW1 k1
    go_wp2_with fail
    go_region_held3 (fun W => W.cell? ⟨w.heap.size, 1, none⟩ = some (.int .i64 d) ∧ W.cell? ⟨w.heap.size, 2, none⟩ = some (.int .i64 i) ∧ W.cell? ⟨w.heap.size, 3, none⟩ = some (.string t)) (first | exact ⟨p1, p2, p3⟩ | exact HKEEP.out _ qp.o | exact HKEEP.out _ qd.o | exact HKEEP.out _ (qp.drewN _).o | exact HKEEP.out _ (qd.drewN _).o) (first | (go_at_call 23; first | (refine (HWP.out _ _ (HQ.out.drewN _)).mono ?_; rintro e wp ⟨rfl, qp⟩) | (refine (HWP.out _ _ qd).mono ?_; rintro e wp ⟨rfl, qp⟩) | (refine (HWP.out _ _ (qd.drewN _)).mono ?_; rintro e wp ⟨rfl, qp⟩)) | (go_at_call 27; first | (refine (HWD.out _ _ (HQ.out.drewN _)).mono ?_; rintro e wd ⟨rfl, qd⟩) | (refine (HWD.out _ _ qp).mono ?_; rintro e wd ⟨rfl, qd⟩) | (refine (HWD.out _ _ (qp.drewN _)).mono ?_; rintro e wd ⟨rfl, qd⟩)))
    all_goals
      go_wp2_with fail
      go_ret
      rw [HST.out]
      first | exact ⟨rfl, HFIN.out _ _ qd⟩ | exact ⟨rfl, HFIN.out _ _ qp⟩
  · have HST : Hid (stepS s op d i t = s.spoilS d i) := by show _ = _; unfold stepS; rw [if_neg (by omega), if_neg (by omega), if_neg (by omega), if_neg (by omega), if_neg (by omega)]
    have HWP : Hid (∀ b W, Pair g N M L lo hi W1 s b W → Calls Try.prog 22 #[.pointer (some ⟨g + 1, 0, none⟩), .int .i64 d, .int .i64 i] W fun r w' => r = .returned (.int .i64 (s.spoilE d i : Nat)) ∧ Pair g N M L lo hi W1 (s.spoilS d i) b w') := fun b W hh => hh.spoilP d i hd1 hd2 hi1 hi2
    have HWD : Hid (∀ a W, Pair g N M L lo hi W1 a s W → Calls Try.prog 28 #[.pointer (some ⟨L.x, 0, none⟩), .int .i64 d, .int .i64 i] W fun r w' => r = .returned (.int .i64 (s.spoilE d i : Nat)) ∧ Pair g N M L lo hi W1 a (s.spoilS d i) w') := fun a W hh => hh.spoilD d i
    go_enter Try.func11, Try.ntmps11
    go_upto_region 1 with fail
    rw [← hW1]
    clear hW1 k1
    go_wp2_with fail
    go_region_held3 (fun W => W.cell? ⟨w.heap.size, 1, none⟩ = some (.int .i64 d) ∧ W.cell? ⟨w.heap.size, 2, none⟩ = some (.int .i64 i) ∧ W.cell? ⟨w.heap.size, 3, none⟩ = some (.string t)) (first | exact ⟨p1, p2, p3⟩ | exact HKEEP.out _ qp.o | exact HKEEP.out _ qd.o | exact HKEEP.out _ (qp.drewN _).o | exact HKEEP.out _ (qd.drewN _).o) (first | (go_at_call 22; first | (refine (HWP.out _ _ (HQ.out.drewN _)).mono ?_; rintro e wp ⟨rfl, qp⟩) | (refine (HWP.out _ _ qd).mono ?_; rintro e wp ⟨rfl, qp⟩) | (refine (HWP.out _ _ (qd.drewN _)).mono ?_; rintro e wp ⟨rfl, qp⟩)) | (go_at_call 28; first | (refine (HWD.out _ _ (HQ.out.drewN _)).mono ?_; rintro e wd ⟨rfl, qd⟩) | (refine (HWD.out _ _ qp).mono ?_; rintro e wd ⟨rfl, qd⟩) | (refine (HWD.out _ _ (qp.drewN _)).mono ?_; rintro e wd ⟨rfl, qd⟩)))
    all_goals
      go_wp2_with fail
      go_ret
      rw [HST.out]
      first | exact ⟨rfl, HFIN.out _ _ qd⟩ | exact ⟨rfl, HFIN.out _ _ qp⟩
end Go.Proofs.Ytnfehfmmpjbgdaa
