/- SlotV, SlotGatB, SlotSame, SlotSteps, SlotHeavy, SlotPMay, SlotPGeo, SlotPFit. -/
import Derived.Test.YtoekaabngjjefaaGreatPart31
import Derived.Test.YtoekaabngjjefaaGreatPart26
import Derived.Deep.QuietTactic
import Derived.BigQuiet
import Derived.StillTailTactics
import Derived.Test.YtoekaabngjjefaaGreatKept
import Derived.Test.YtoekaabngjjefaaGreatPart2
import Derived.Test.YtoekaabngjjefaaGreatPart28
import Derived.OwnWalk
import Derived.Deep.RegionLaw
import Derived.Deep.OwnRows
import Derived.Test.YtoekaabngjjefaaGreatPart27
import Derived.Test.YtoekaabngjjefaaGreatPart23
import Derived.Deep.Slices
import Derived.Deep.Strs
import Derived.ChangeArms
import Derived.OpenShut
/- What the document's own Vote tells. -/
namespace Go.Proofs.YtoekaabngjjefaaGreat
open Go.RowKit Sm Wr _root_.Go.Proofs.YtoekaabngjjefaaGreat.Nm
set_option linter.unusedVariables false
/-- A list of Bools: nil, or in a block of the call's own. -/
def HasV (B : Nat) (v : Value) (l : List Bool) (w : World) : Prop :=
  (v = .slice none 0 0 ∧ l = []) ∨ ∃ q, v = .slice (some ⟨q, 0, none⟩) l.length l.length ∧ B ≤ q ∧ Rowf w q 4 l.length fun j => .bool (l.getD j false)
theorem marks_new (W : World) (k : Nat) : Rowf (W.alloc (.cells (madeCells #[.bool false] k) 4)) W.heap.size 4 k fun _ => .bool false :=
  ⟨_, (Array.getElem?_push_size : (W.heap.push _)[W.heap.size]? = some _), fun j hj => made_one _ _ _ hj⟩
theorem still_of_quiet {P : Program} {o : Oper} {a : Act} {w : World} {K : Act → Prop} (h : o.quiet P a (fun W => W = w) K) : o.still P a w K := by
  obtain ⟨v, hv, hk⟩ := h
  have hq := hv w rfl
  unfold Oper.quietAt at hq
  unfold Oper.still
  generalize (execOp a.eval o).run P w = r at *
  unfold Oper.quietUpon at hq
  unfold Oper.stillUpon
  split at hq
  · obtain ⟨h1, h2⟩ := hq
    subst h2
    exact ⟨h1, hk⟩
  · obtain ⟨h1, h2⟩ := hq
    subst h2
    exact ⟨h1, hk⟩
  · exact ⟨hq.1, v, hq.2, hk⟩
  · exact hq.elim
/-- A walk of reads alone, by the tactics of go_quiet's own steps. -/
theorem wpStill_of_quiet {P : Program} {ops : Array Oper} {w : World} {Q : Act → Prop} : ∀ (l : List Oper) (a : Act), wpQuiet P ops (fun W => W = w) Q l a → wpStill P ops w Q l a
  | [], _, h => h
  | o :: rest, a, h => by
    unfold wpQuiet at h
    unfold wpStill
    split
    · rename_i hw
      rw [if_pos hw] at h
      exact Oper.still_mono (fun a ha => wpStill_of_quiet rest a ha) (still_of_quiet h)
    · rename_i hw
      rw [if_neg hw] at h
      exact wpStill_of_quiet rest _ h
/-- The best root behind k slots of a drive. -/
def bK (p a b : Rt) : Nat → Rt
  | 0 => p
  | 1 => bestR p a
  | _ => bestR (bestR p a) b
def sK (a b : Rt) : Nat → Bool
  | 0 => false
  | 1 => decide (0 < a.gen)
  | _ => decide (0 < a.gen) || decide (0 < b.gen)
set_option maxHeartbeats 4000000 in
set_option maxRecDepth 100000 in
theorem rVote_any (L : DLay) (lo hi : Nat) (s : RSt) (g : Geo) (w : World) (hg : g.Wf) (hhi : hi ≤ w.heap.size) (hD : DocAt L lo hi s w) :
    Calls Tryz.prog 33 #[.pointer (some ⟨L.x, 0, none⟩), g.val] w fun e w' => (∃ hv, e = .returned (.tuple #[(voteR s g).1.val, hv, .int .i64 ((voteR s g).2.2 : Nat)]) ∧ HasV w.heap.size hv (voteR s g).2.1 w') ∧ Kept w w' := by
  have HFI := Lib.hid (fun W h => gFits_any L lo hi s g W h)
  have HSL := Lib.hid (fun (d : Nat) W hd h => rSlots_any L lo hi s d W hd h)
  have G0 := Lib.hid (GeoAt.laid w 23 g)
  have X0 := Lib.hid (fun W => RtAt.new W 38)
  have HW1 : Hid (∀ W : World, Kept W (W.alloc (.cells #[.int .i64 g.n, .int .i64 g.p, .int .i64 g.m, .int .i64 g.t] 23))) := fun W => (Kept.refl _).alloc _
  have HW2 : Hid (∀ W : World, Kept W (W.alloc (.cells #[.int .u64 0, .int .u64 0, .int .i64 0, .int .u64 0, .int .i64 0] 38))) := fun W => (Kept.refl _).alloc _
  have HHI : Hid (hi ≤ w.heap.size) := hhi
  have HX0 : Hid (RtAt ((w.alloc (.cells #[.int .i64 g.n, .int .i64 g.p, .int .i64 g.m, .int .i64 g.t] 23)).alloc (.cells #[.int .u64 0, .int .u64 0, .int .i64 0, .int .u64 0, .int .i64 0] 38)) (w.heap.size + 1) Rt.none) := by
    have := X0.out (w.alloc (.cells #[.int .i64 g.n, .int .i64 g.p, .int .i64 g.m, .int .i64 g.t] 23))
    rw [size_alloc] at this
    exact this
  replace hD := Lib.hid hD
  have HV : Hid (voteR s g = if g.fits s = false then (Rt.none, [], 2) else if s.down = true then (Rt.none, [], 71) else if g.p < ((vTo s s.n).2 : Nat) then (Rt.none, [], 90) else ((vTo s s.n).1, (List.range s.n).map (fun d => hasR (vTo s s.n).1 (slotsR s d)), 0)) := rfl
  have hgp1 := hg.p1
  have hgp2 := hg.p2
  unfold Geo.val at *
  generalize voteR s g = vr at *
  clear hhi hg
  go_enter Tryz.func33, Tryz.ntmps33
  go_wp2_with fail
  refine (HFI.out _ (hD.out.kept ((HW1.out w).trans (HW2.out _)))).mono ?_
  rintro e u1 ⟨rfl, hk⟩
  have K1 : Hid (Kept w u1) := ((HW1.out w).trans (HW2.out _)).trans hk
  have G1 := Lib.hid ((G0.out.kept (HW2.out _)).kept hk)
  have X1 := Lib.hid (HX0.out.kept hk)
  clear hk HFI G0 HX0 HW1
  cases hf : g.fits s with
  | false =>
    have hvr : vr = (Rt.none, [], 2) := by rw [HV.out, hf, if_pos rfl]
    clear HV hf
    have HP := Lib.hid (X1.out.put Rt.none)
    have HKP := Lib.hid (putRt_kept K1.out (w.heap.size + 1) Rt.none (by omega))
    obtain ⟨p0, p1, p2, p3, p4, f0, f1, f2, f3, f4⟩ := X1.out
    unfold putRt at HP HKP
    dsimp only [Rt.none] at HP HKP p0 p1 p2 p3 p4
    go_wp2_with fail
    rw [hvr]
    exact bodyPost_ret (v := .tuple #[Rt.none.val, .slice none 0 0, .int .i64 2]) (by have q0 := HP.out.c0; have q1 := HP.out.c1; have q2 := HP.out.c2; have q3 := HP.out.c3; have q4 := HP.out.c4; (try simp at q0 q1 q2 q3 q4); simp [results, Tryz.results33, go_sem, Rt.val, Rt.none, q0, q1, q2, q3, q4]) rfl ⟨⟨_, rfl, .inl ⟨rfl, rfl⟩⟩, HKP.out⟩
  | true =>
    have hgn : (s.n : Int) = g.n := by
      unfold Geo.fits at hf
      simp only [Bool.and_eq_true, decide_eq_true_eq] at hf
      exact hf.1.2
    rw [hf, if_neg (by decide)] at HV
    have hn12 : s.n ≤ 12 := hD.out.wf.n2
    have hn1 : 1 ≤ s.n := hD.out.wf.n1
    have B0 := Lib.hid (X0.out u1)
    have K2 : Hid (Kept w (u1.alloc (.cells #[.int .u64 0, .int .u64 0, .int .i64 0, .int .u64 0, .int .i64 0] 38))) := K1.out.trans (HW2.out u1)
    have G2 := Lib.hid (G1.out.kept (HW2.out u1))
    have X2 := Lib.hid (X1.out.kept (HW2.out u1))
    have HB : Hid (w.heap.size + 1 < u1.heap.size) := X1.out.lt
    clear hf K1 G1 X1 X0 HW2
    go_wp2_with fail
    generalize u1.alloc (.cells #[.int .u64 0, .int .u64 0, .int .i64 0, .int .u64 0, .int .i64 0] 38) = u2 at *
    generalize u1.heap.size = b7 at *
    go_loopw [8, 9] (fun n i wr => ∃ d : Nat, d ≤ s.n ∧ i = .int .i64 d ∧ n = .int .i64 ((vTo s d).2 : Nat) ∧ Hid (Kept w wr ∧ GeoAt wr w.heap.size g ∧ RtAt wr (w.heap.size + 1) Rt.none ∧ RtAt wr b7 (vTo s d).1 ∧ (0 < d → s.down = false))) (fun _ i _ => s.n - (intOf i).toNat)
    case atStart => exact ⟨0, Nat.zero_le _, rfl, rfl, K2.out, G2.out, X2.out, B0.out, fun h => absurd h (by omega)⟩
    case round =>
      obtain ⟨d, hd, rfl, rfl, HI⟩ := hrel
      have g0 := HI.out.2.1.c0
      have hb7 := HB.out
      by_cases hlt : d < s.n
      · have b1 : decide ((d : Int) < g.n) = true := decide_eq_true (by omega)
        have hnn := vTo_le s d
        have hst : vTo s (d + 1) = vStep (vTo s d) (slotsR s d) := rfl
        have HST := Lib.hid hst
        have HLT := Lib.hid hlt
        have HK := Lib.hid HI.out.1
        have HG := Lib.hid HI.out.2.1
        have HX := Lib.hid HI.out.2.2.1
        have HQ := Lib.hid HI.out.2.2.2.1
        have HCALL := Lib.hid (HSL.out d wr hlt (hD.out.kept HI.out.1))
        clear HI hst
        generalize vTo s d = vp at *
        obtain ⟨pb, pn⟩ := vp
        dsimp only at HQ HST hnn
        go_wp2_with fail
        refine HCALL.out.mono ?_
        rintro e v1 ⟨⟨v, b, c, rfl, hso⟩, hk⟩
        have HK1 : Hid (Kept w v1) := HK.out.trans hk
        have HG1 := Lib.hid (HG.out.kept hk)
        have HX1 := Lib.hid (HX.out.kept hk)
        have HQ1 := Lib.hid (HQ.out.kept hk)
        have HQL : Hid (b7 < wr.heap.size) := HQ.out.lt
        clear hk HK HG HX HQ g0 HCALL
        rcases hso with ⟨h1, rfl, rfl⟩ | ⟨h1, rfl, h2, rfl⟩ | ⟨h1, rfl, rfl, q, cap, h2, rfl, hq, hi0, hi1⟩
        · have hvr : vr = (Rt.none, [], 71) := by rw [HV.out, if_pos h1]
          clear HV h1
          have HP := Lib.hid (HX1.out.put Rt.none)
          have HKP := Lib.hid (putRt_kept HK1.out (w.heap.size + 1) Rt.none (by omega))
          obtain ⟨p0, p1, p2, p3, p4, f0, f1, f2, f3, f4⟩ := HX1.out
          unfold putRt at HP HKP
          dsimp only [Rt.none] at HP HKP p0 p1 p2 p3 p4
          go_wp2_with fail
          rw [hvr]
          exact bodyPost_ret (v := .tuple #[Rt.none.val, .slice none 0 0, .int .i64 71]) (by have q0 := HP.out.c0; have q1 := HP.out.c1; have q2 := HP.out.c2; have q3 := HP.out.c3; have q4 := HP.out.c4; (try simp at q0 q1 q2 q3 q4); simp [results, Tryz.results33, go_sem, Rt.val, Rt.none, q0, q1, q2, q3, q4]) rfl ⟨⟨_, rfl, .inl ⟨rfl, rfl⟩⟩, HKP.out⟩
        · have HDN : Hid (s.down = false) := h1
          have HS2 : Hid (vTo s (d + 1) = (pb, pn + 1)) := by show _ = _; rw [HST.out, h2]; rfl
          clear h1 h2 HST
          go_wp2_with fail
          go_loopw [13, 14] (fun sm i wr2 => sm = .bool false ∧ i = .int .i64 0 ∧ wr2 = v1) (fun _ _ _ => 0)
          case atStart => exact ⟨rfl, rfl, rfl⟩
          case round =>
            obtain ⟨rfl, rfl, rfl⟩ := hrel
            have hdl := HLT.out
            go_wp2_with fail
            refine ⟨⟨d + 1, by omega, by go_num, by rw [HS2.out]; go_num, HK1.out, HG1.out, HX1.out, by rw [HS2.out]; exact HQ1.out, fun _ => HDN.out⟩, by simp [intOf]; omega⟩
        · have HDN : Hid (s.down = false) := h1
          have HS2 : Hid (vTo s (d + 1) = (bestR (bestR pb (rk s d 0)) (rk s d 1), if (rk s d 0).gen = 0 ∧ (rk s d 1).gen = 0 then pn + 1 else pn)) := by show _ = _; rw [HST.out, h2]; rfl
          have HA1 := Lib.hid hi0
          have HB1 := Lib.hid hi1
          have hqb : q ≠ b7 := by have := HQL.out; omega
          clear h1 h2 HST hi0 hi1
          generalize rk s d 0 = ra at *
          generalize rk s d 1 = rb at *
          go_wp2_with fail
          go_loopw [13, 14] (fun sm i wr2 => ∃ k : Nat, k ≤ 2 ∧ i = .int .i64 k ∧ sm = .bool (sK ra rb k) ∧ Hid (Kept w wr2 ∧ GeoAt wr2 w.heap.size g ∧ RtAt wr2 (w.heap.size + 1) Rt.none ∧ RtAt wr2 b7 (bK pb ra rb k) ∧ RtIn wr2 q 0 ra ∧ RtIn wr2 q 5 rb)) (fun _ i _ => 2 - (intOf i).toNat)
          case atStart => exact ⟨0, by omega, rfl, rfl, HK1.out, HG1.out, HX1.out, HQ1.out, HA1.out, HB1.out⟩
          case round =>
            obtain ⟨k, hk2, rfl, rfl, HJ⟩ := hrel
            have HK2 := Lib.hid HJ.out.1
            have HG2 := Lib.hid HJ.out.2.1
            have HX2 := Lib.hid HJ.out.2.2.1
            have HQ2 := Lib.hid HJ.out.2.2.2.1
            have HA2 := Lib.hid HJ.out.2.2.2.2.1
            have HB2 := Lib.hid HJ.out.2.2.2.2.2
            clear HJ HK1 HG1 HX1 HQ1 HA1 HB1
            rcases (show k = 0 ∨ k = 1 ∨ k = 2 by omega) with rfl | rfl | rfl
            · have HQ2 : Hid (RtAt _ b7 pb) := HQ2.out
              have y0 := HA2.out.c0
              have z0 := HQ2.out.c0
              rw [show ((0 : Nat) : Int) = 0 from rfl, show sK ra rb 0 = false from rfl]
              by_cases hc : (pb).gen < ra.gen
              · have e4 : decide (((pb).gen : Int) < (ra.gen : Int)) = true := decide_eq_true (by omega)
                have hbest : bestR (pb) ra = ra := by unfold bestR; exact if_pos hc
                have HBEST := Lib.hid hbest
                clear hbest
                go_wp2_with fail
                go_quiet (fail)
                have HK3 : Hid (Kept w (wr.drewN nq)) := HK2.out.trans ((Kept.refl _).drewN nq)
                have HG3 := Lib.hid (HG2.out.kept ((Kept.refl _).drewN nq))
                have HX3 := Lib.hid (HX2.out.kept ((Kept.refl _).drewN nq))
                have HQ3 := Lib.hid (HQ2.out.kept ((Kept.refl _).drewN nq))
                have HA3 := Lib.hid (HA2.out.kept ((Kept.refl _).drewN nq))
                have HB3 := Lib.hid (HB2.out.kept ((Kept.refl _).drewN nq))
                clear y0 z0 HK2 HG2 HX2 HQ2 HA2 HB2
                generalize wr.drewN nq = wq at *
                have HP := Lib.hid (HQ3.out.put ra)
                have HKP := Lib.hid (putRt_kept HK3.out b7 ra (by omega))
                have HGP := Lib.hid (HG3.out.frame ((putRt_but wq b7 ra).block _ HG3.out.lt (by omega)))
                have HXP := Lib.hid (HX3.out.but (putRt_but wq b7 ra) (by omega))
                have HAP := Lib.hid (HA3.out.but (putRt_but wq b7 ra) hqb)
                have HBP := Lib.hid (HB3.out.but (putRt_but wq b7 ra) hqb)
                unfold putRt at HP HKP HGP HXP HAP HBP
                obtain ⟨y0, y1, y2, y3, y4⟩ := HA3.out
                obtain ⟨p0, p1, p2, p3, p4, f0, f1, f2, f3, f4⟩ := HQ3.out
                (try simp only [Nat.reduceAdd] at y1 y2 y3 y4)
                go_wp2_with fail
                refine ⟨⟨1, by omega, by go_num, rfl, HKP.out, HGP.out, HXP.out, ?_, HAP.out, HBP.out⟩, by simp [intOf]⟩
                show RtAt _ b7 (bestR (pb) ra)
                rw [HBEST.out]
                exact HP.out
              · have e4 : decide (((pb).gen : Int) < (ra.gen : Int)) = false := decide_eq_false (by omega)
                have hbest : bestR (pb) ra = pb := by unfold bestR; exact if_neg hc
                have HBEST := Lib.hid hbest
                clear hbest
                go_wp2_with fail
                go_quiet (fail)
                go_wp2_with fail
                refine ⟨⟨1, by omega, by go_num, rfl, HK2.out.trans ((Kept.refl _).drewN nq), HG2.out.kept ((Kept.refl _).drewN nq), HX2.out.kept ((Kept.refl _).drewN nq), ?_, HA2.out.kept ((Kept.refl _).drewN nq), HB2.out.kept ((Kept.refl _).drewN nq)⟩, by simp [intOf]⟩
                show RtAt _ b7 (bestR (pb) ra)
                rw [HBEST.out]
                exact HQ2.out.kept ((Kept.refl _).drewN nq)
            · have HQ2 : Hid (RtAt _ b7 (bestR pb ra)) := HQ2.out
              have HBK : Hid (∀ W, RtAt W b7 (bestR (bestR pb ra) rb) → RtAt W b7 (bK pb ra rb 2)) := fun W h => h
              have y0 := HB2.out.c0
              have z0 := HQ2.out.c0
              generalize bestR pb ra = p1 at *
              rw [show ((1 : Nat) : Int) = 1 from rfl]
              by_cases hsa : 0 < ra.gen
              · rw [show sK ra rb 1 = true from decide_eq_true hsa]
                have HS3 : Hid (sK ra rb 2 = true) := by show (decide (0 < ra.gen) || decide (0 < rb.gen)) = true; rw [decide_eq_true hsa]; rfl
                by_cases hc : (p1).gen < rb.gen
                · have e4 : decide (((p1).gen : Int) < (rb.gen : Int)) = true := decide_eq_true (by omega)
                  have hbest : bestR (p1) rb = rb := by unfold bestR; exact if_pos hc
                  have HBEST := Lib.hid hbest
                  clear hbest
                  go_wp2_with fail
                  go_quiet (fail)
                  have HK3 : Hid (Kept w (wr.drewN nq)) := HK2.out.trans ((Kept.refl _).drewN nq)
                  have HG3 := Lib.hid (HG2.out.kept ((Kept.refl _).drewN nq))
                  have HX3 := Lib.hid (HX2.out.kept ((Kept.refl _).drewN nq))
                  have HQ3 := Lib.hid (HQ2.out.kept ((Kept.refl _).drewN nq))
                  have HA3 := Lib.hid (HA2.out.kept ((Kept.refl _).drewN nq))
                  have HB3 := Lib.hid (HB2.out.kept ((Kept.refl _).drewN nq))
                  clear y0 z0 HK2 HG2 HX2 HQ2 HA2 HB2
                  generalize wr.drewN nq = wq at *
                  have HP := Lib.hid (HQ3.out.put rb)
                  have HKP := Lib.hid (putRt_kept HK3.out b7 rb (by omega))
                  have HGP := Lib.hid (HG3.out.frame ((putRt_but wq b7 rb).block _ HG3.out.lt (by omega)))
                  have HXP := Lib.hid (HX3.out.but (putRt_but wq b7 rb) (by omega))
                  have HAP := Lib.hid (HA3.out.but (putRt_but wq b7 rb) hqb)
                  have HBP := Lib.hid (HB3.out.but (putRt_but wq b7 rb) hqb)
                  unfold putRt at HP HKP HGP HXP HAP HBP
                  obtain ⟨y0, y1, y2, y3, y4⟩ := HB3.out
                  obtain ⟨p0, p1, p2, p3, p4, f0, f1, f2, f3, f4⟩ := HQ3.out
                  (try simp only [Nat.reduceAdd] at y1 y2 y3 y4)
                  go_wp2_with fail
                  refine ⟨⟨2, by omega, by go_num, by rw [HS3.out], HKP.out, HGP.out, HXP.out, ?_, HAP.out, HBP.out⟩, by simp [intOf]⟩
                  refine HBK.out _ ?_
                  rw [HBEST.out]
                  exact HP.out
                · have e4 : decide (((p1).gen : Int) < (rb.gen : Int)) = false := decide_eq_false (by omega)
                  have hbest : bestR (p1) rb = p1 := by unfold bestR; exact if_neg hc
                  have HBEST := Lib.hid hbest
                  clear hbest
                  go_wp2_with fail
                  go_quiet (fail)
                  go_wp2_with fail
                  refine ⟨⟨2, by omega, by go_num, by rw [HS3.out], HK2.out.trans ((Kept.refl _).drewN nq), HG2.out.kept ((Kept.refl _).drewN nq), HX2.out.kept ((Kept.refl _).drewN nq), ?_, HA2.out.kept ((Kept.refl _).drewN nq), HB2.out.kept ((Kept.refl _).drewN nq)⟩, by simp [intOf]⟩
                  refine HBK.out _ ?_
                  rw [HBEST.out]
                  exact HQ2.out.kept ((Kept.refl _).drewN nq)
              · rw [show sK ra rb 1 = false from decide_eq_false hsa]
                have HS3 : Hid (sK ra rb 2 = decide (0 < rb.gen)) := by show (decide (0 < ra.gen) || decide (0 < rb.gen)) = _; rw [decide_eq_false hsa]; rfl
                by_cases hc : (p1).gen < rb.gen
                · have e4 : decide (((p1).gen : Int) < (rb.gen : Int)) = true := decide_eq_true (by omega)
                  have hbest : bestR (p1) rb = rb := by unfold bestR; exact if_pos hc
                  have HBEST := Lib.hid hbest
                  clear hbest
                  go_wp2_with fail
                  go_quiet (fail)
                  have HK3 : Hid (Kept w (wr.drewN nq)) := HK2.out.trans ((Kept.refl _).drewN nq)
                  have HG3 := Lib.hid (HG2.out.kept ((Kept.refl _).drewN nq))
                  have HX3 := Lib.hid (HX2.out.kept ((Kept.refl _).drewN nq))
                  have HQ3 := Lib.hid (HQ2.out.kept ((Kept.refl _).drewN nq))
                  have HA3 := Lib.hid (HA2.out.kept ((Kept.refl _).drewN nq))
                  have HB3 := Lib.hid (HB2.out.kept ((Kept.refl _).drewN nq))
                  clear y0 z0 HK2 HG2 HX2 HQ2 HA2 HB2
                  generalize wr.drewN nq = wq at *
                  have HP := Lib.hid (HQ3.out.put rb)
                  have HKP := Lib.hid (putRt_kept HK3.out b7 rb (by omega))
                  have HGP := Lib.hid (HG3.out.frame ((putRt_but wq b7 rb).block _ HG3.out.lt (by omega)))
                  have HXP := Lib.hid (HX3.out.but (putRt_but wq b7 rb) (by omega))
                  have HAP := Lib.hid (HA3.out.but (putRt_but wq b7 rb) hqb)
                  have HBP := Lib.hid (HB3.out.but (putRt_but wq b7 rb) hqb)
                  unfold putRt at HP HKP HGP HXP HAP HBP
                  obtain ⟨y0, y1, y2, y3, y4⟩ := HB3.out
                  obtain ⟨p0, p1, p2, p3, p4, f0, f1, f2, f3, f4⟩ := HQ3.out
                  (try simp only [Nat.reduceAdd] at y1 y2 y3 y4)
                  go_wp2_with fail
                  refine ⟨⟨2, by omega, by go_num, by rw [HS3.out], HKP.out, HGP.out, HXP.out, ?_, HAP.out, HBP.out⟩, by simp [intOf]⟩
                  refine HBK.out _ ?_
                  rw [HBEST.out]
                  exact HP.out
                · have e4 : decide (((p1).gen : Int) < (rb.gen : Int)) = false := decide_eq_false (by omega)
                  have hbest : bestR (p1) rb = p1 := by unfold bestR; exact if_neg hc
                  have HBEST := Lib.hid hbest
                  clear hbest
                  go_wp2_with fail
                  go_quiet (fail)
                  go_wp2_with fail
                  refine ⟨⟨2, by omega, by go_num, by rw [HS3.out], HK2.out.trans ((Kept.refl _).drewN nq), HG2.out.kept ((Kept.refl _).drewN nq), HX2.out.kept ((Kept.refl _).drewN nq), ?_, HA2.out.kept ((Kept.refl _).drewN nq), HB2.out.kept ((Kept.refl _).drewN nq)⟩, by simp [intOf]⟩
                  refine HBK.out _ ?_
                  rw [HBEST.out]
                  exact HQ2.out.kept ((Kept.refl _).drewN nq)
            · have HQ2 : Hid (RtAt _ b7 (bestR (bestR pb ra) rb)) := HQ2.out
              have hdl := HLT.out
              rw [show ((2 : Nat) : Int) = 2 from rfl]
              by_cases hz : ra.gen = 0 ∧ rb.gen = 0
              · rw [show sK ra rb 2 = false from by show (decide (0 < ra.gen) || decide (0 < rb.gen)) = false; rw [hz.1, hz.2]; rfl]
                rw [if_pos hz] at HS2
                clear hz
                go_wp2_with fail
                refine ⟨⟨d + 1, by omega, by go_num, by rw [HS2.out]; go_num, HK2.out, HG2.out, HX2.out, by rw [HS2.out]; exact HQ2.out, fun _ => HDN.out⟩, by simp [intOf]; omega⟩
              · rw [show sK ra rb 2 = true from by
                  show (decide (0 < ra.gen) || decide (0 < rb.gen)) = true
                  rw [Bool.or_eq_true, decide_eq_true_eq, decide_eq_true_eq]; omega]
                rw [if_neg hz] at HS2
                clear hz
                go_wp2_with fail
                refine ⟨⟨d + 1, by omega, by go_num, by rw [HS2.out], HK2.out, HG2.out, HX2.out, by rw [HS2.out]; exact HQ2.out, fun _ => HDN.out⟩, by simp [intOf]; omega⟩
      · have b1 : decide ((d : Int) < g.n) = false := decide_eq_false (by omega)
        obtain rfl : d = s.n := by omega
        have HDN : Hid (s.down = false) := HI.out.2.2.2.2 (by omega)
        rw [HDN.out, if_neg (by decide)] at HV
        have HK := Lib.hid HI.out.1
        have HG := Lib.hid HI.out.2.1
        have HX := Lib.hid HI.out.2.2.1
        have HQ := Lib.hid HI.out.2.2.2.1
        have g1 := HG.out.c1
        clear HI
        generalize vTo s s.n = vp at *
        obtain ⟨best, nn⟩ := vp
        dsimp only at HQ HV
        by_cases hp : g.p < (nn : Int)
        · have e1 : decide (g.p < (nn : Int)) = true := decide_eq_true hp
          have hvr : vr = (Rt.none, [], 90) := by rw [HV.out, if_pos hp]
          clear HV hp
          have HP := Lib.hid (HX.out.put Rt.none)
          have HKP := Lib.hid (putRt_kept HK.out (w.heap.size + 1) Rt.none (by omega))
          obtain ⟨p0, p1, p2, p3, p4, f0, f1, f2, f3, f4⟩ := HX.out
          unfold putRt at HP HKP
          dsimp only [Rt.none] at HP HKP p0 p1 p2 p3 p4
          go_wp2_with fail
          rw [hvr]
          exact bodyPost_ret (v := .tuple #[Rt.none.val, .slice none 0 0, .int .i64 90]) (by have q0 := HP.out.c0; have q1 := HP.out.c1; have q2 := HP.out.c2; have q3 := HP.out.c3; have q4 := HP.out.c4; (try simp at q0 q1 q2 q3 q4); simp [results, Tryz.results33, go_sem, Rt.val, Rt.none, q0, q1, q2, q3, q4]) rfl ⟨⟨_, rfl, .inl ⟨rfl, rfl⟩⟩, HKP.out⟩
        · have e1 : decide (g.p < (nn : Int)) = false := decide_eq_false hp
          rw [if_neg hp] at HV
          clear hp
          have hmk := make_bools s.n (by omega) wr
          rw [hgn] at hmk
          have KM : Hid (Kept wr (wr.alloc (.cells (madeCells #[.bool false] s.n) 4))) := (Kept.refl _).alloc _
          have hrow : Rowf (wr.alloc (.cells (madeCells #[.bool false] s.n) 4)) wr.heap.size 4 s.n fun _ => .bool false := marks_new wr s.n
          have HROW := Lib.hid hrow
          have HQL : Hid (b7 < wr.heap.size) := HQ.out.lt
          clear hrow
          go_wp2_with fail
          have HK3 : Hid (Kept w (wr.alloc (.cells (madeCells #[.bool false] s.n) 4))) := HK.out.trans KM.out
          have HG3 := Lib.hid (HG.out.kept KM.out)
          have HX3 := Lib.hid (HX.out.kept KM.out)
          have HQ3 := Lib.hid (HQ.out.kept KM.out)
          have HWB : Hid (w.heap.size ≤ wr.heap.size) := HK.out.size
          clear hmk HK HG HX HQ KM g0 g1
          generalize wr.alloc (.cells (madeCells #[.bool false] s.n) 4) = W0 at *
          generalize wr.heap.size = b15 at *
          rw [hgn]
          go_loopw [16] (fun i wr => ∃ d : Nat, d ≤ s.n ∧ i = .int .i64 d ∧ Hid (Kept w wr ∧ GeoAt wr w.heap.size g ∧ RtAt wr (w.heap.size + 1) Rt.none ∧ RtAt wr b7 best ∧ Rowf wr b15 4 s.n fun j => .bool (if j < d then hasR best (slotsR s j) else false))) (fun i _ => s.n - (intOf i).toNat)
          case atStart => exact ⟨0, Nat.zero_le _, rfl, HK3.out, HG3.out, HX3.out, HQ3.out, HROW.out.congr (fun j _ => by rw [if_neg (by omega)])⟩
          case round =>
            obtain ⟨d, hd, rfl, HI⟩ := hrel
            have g0 := HI.out.2.1.c0
            have hb7 := HB.out
            have hb15 := HQL.out
            clear HK3 HG3 HX3 HQ3 HROW
            by_cases hlt : d < s.n
            · have b1 : decide ((d : Int) < g.n) = true := decide_eq_true (by omega)
              have HLT := Lib.hid hlt
              have HCALL := Lib.hid (HSL.out d wr hlt (hD.out.kept HI.out.1))
              have HK := Lib.hid HI.out.1
              have HG := Lib.hid HI.out.2.1
              have HX := Lib.hid HI.out.2.2.1
              have HQ := Lib.hid HI.out.2.2.2.1
              have HR := Lib.hid HI.out.2.2.2.2
              clear HI
              go_wp2_with fail
              refine HCALL.out.mono ?_
              rintro e v1 ⟨⟨v, b, c, rfl, hso⟩, hk⟩
              have HK1 : Hid (Kept w v1) := HK.out.trans hk
              have HG1 := Lib.hid (HG.out.kept hk)
              have HX1 := Lib.hid (HX.out.kept hk)
              have HQ1 := Lib.hid (HQ.out.kept hk)
              have HR1 := Lib.hid (HR.out.frame (hk.block _ HR.out.lt))
              have HWL : Hid (b15 < wr.heap.size) := HR.out.lt
              clear hk HK HG HX HQ g0 HCALL HR
              rcases hso with ⟨h1, rfl, rfl⟩ | ⟨h1, rfl, h2, rfl⟩ | ⟨h1, rfl, rfl, q, cap, h2, rfl, hq, hi0, hi1⟩
              · rw [HDN.out] at h1; cases h1
              · have HHR : Hid (hasR best (slotsR s d) = false) := by show _ = _; rw [h2]; rfl
                clear h1 h2
                go_wp2_with fail
                obtain ⟨wd, hwd⟩ : ∃ wd, v1.drew = wd := ⟨_, rfl⟩
                have HK2 : Hid (Kept w wd) := by show Kept _ _; rw [← hwd]; exact HK1.out.drew
                have hkd : Kept v1 wd := by rw [← hwd]; exact (Kept.refl _).drew
                have HG2 := Lib.hid (HG1.out.kept hkd)
                have HX2 := Lib.hid (HX1.out.kept hkd)
                have HQ2 := Lib.hid (HQ1.out.kept hkd)
                have HR2 := Lib.hid (HR1.out.frame (hkd.block _ HR1.out.lt))
                have hcd := HR2.out.cell d hlt
                have hfd := HR2.out.free d
                rw [if_neg (show ¬ d < d from Nat.lt_irrefl d)] at hcd
                refine wp_region_still_tail 15 (by kernel_rfl) (by kernel_rfl) ?_
                simp only [List.take_succ_cons, List.take_zero, List.drop_succ_cons, List.drop_zero]
                change wpStill _ _ v1.drew (fun a' => wpList _ _ _ _ a' v1.drew) _ _
                rw [hwd]
                clear hwd
                refine wpStill_of_quiet _ _ ?_
                repeat (go_big_quiet_step (fail))
                refine wpQuiet_nil ?_
                have HF : Hid (Kept w (wd.setCell ⟨b15, d, none⟩ (.bool false)) ∧ GeoAt (wd.setCell ⟨b15, d, none⟩ (.bool false)) w.heap.size g ∧ RtAt (wd.setCell ⟨b15, d, none⟩ (.bool false)) (w.heap.size + 1) Rt.none ∧ RtAt (wd.setCell ⟨b15, d, none⟩ (.bool false)) b7 best ∧ Rowf (wd.setCell ⟨b15, d, none⟩ (.bool false)) b15 4 s.n fun j => .bool (if j < d + 1 then hasR best (slotsR s j) else false)) :=
                  ⟨HK2.out.setCell (p := ⟨b15, d, none⟩) HWB.out _, HG2.out.frame ((But.ofSetR wd b15 d _).block _ HG2.out.lt (by omega)), HX2.out.but (But.ofSetR wd b15 d _) (by omega), HQ2.out.but (But.ofSetR wd b15 d _) (by omega),
                   (HR2.out.set d _).congr fun j hj => by
                     by_cases e : j = d
                     · subst e; rw [if_pos (by omega), if_pos rfl, HHR.out]
                     · by_cases l : j < d
                       · rw [if_pos (by omega), if_neg e, if_pos l]
                       · rw [if_neg (by omega), if_neg e, if_neg l]⟩
                clear HK2 HG2 HX2 HQ2 HR2 hkd
                have hdl := HLT.out
                go_wp2_with fail
                exact ⟨⟨d + 1, by omega, by go_num, HF.out⟩, by simp [intOf]; omega⟩
              · have HHR0 : Hid (hasR best (slotsR s d) = (if best.gen % 2 = 0 then rk s d 0 else rk s d 1).same best) := by show _ = _; rw [h2]; rfl
                have HA1 := Lib.hid hi0
                have HB1 := Lib.hid hi1
                clear h1 h2 hi0 hi1
                generalize rk s d 0 = ra at *
                generalize rk s d 1 = rb at *
                by_cases hm : best.gen % 2 = 0
                · have hm1 : (best.gen : Int) % 2 = 0 := by omega
                  have hm2 : (best.gen : Int).tmod 2 = 0 := by rw [Int.tmod_eq_emod_of_nonneg (by omega)]; exact hm1
                  rw [if_pos hm] at HHR0
                  go_wp2_with fail
                  obtain ⟨wd, hwd⟩ : ∃ wd, v1.drew = wd := ⟨_, rfl⟩
                  have HK2 : Hid (Kept w wd) := by show Kept _ _; rw [← hwd]; exact HK1.out.drew
                  have hkd : Kept v1 wd := by rw [← hwd]; exact (Kept.refl _).drew
                  have HG2 := Lib.hid (HG1.out.kept hkd)
                  have HX2 := Lib.hid (HX1.out.kept hkd)
                  have HQ2 := Lib.hid (HQ1.out.kept hkd)
                  have HR2 := Lib.hid (HR1.out.frame (hkd.block _ HR1.out.lt))
                  have hcd := HR2.out.cell d hlt
                  have hfd := HR2.out.free d
                  rw [if_neg (show ¬ d < d from Nat.lt_irrefl d)] at hcd
                  have HA2 := Lib.hid (HA1.out.kept hkd)
                  obtain ⟨y0, y1, y2, y3, y4⟩ := HA2.out
                  obtain ⟨p0, p1, p2, p3, p4, _, _, _, _, _⟩ := HQ2.out
                  (try simp only [Nat.reduceAdd] at y1 y2 y3 y4)
                  by_cases heq : ra = best
                  · have HHR : Hid (hasR best (slotsR s d) = true) := by show _ = _; rw [HHR0.out]; exact (Rt.same_iff _ _).2 heq
                    rw [heq] at y0 y1 y2 y3 y4
                    clear heq HHR0 HA2
                    refine wp_region_still_tail 15 (by kernel_rfl) (by kernel_rfl) ?_
                    simp only [List.take_succ_cons, List.take_zero, List.drop_succ_cons, List.drop_zero]
                    change wpStill _ _ v1.drew (fun a' => wpList _ _ _ _ a' v1.drew) _ _
                    rw [hwd]
                    clear hwd
                    refine wpStill_of_quiet _ _ ?_
                    repeat (go_big_quiet_step (fail))
                    refine wpQuiet_nil ?_
                    have HF : Hid (Kept w (wd.setCell ⟨b15, d, none⟩ (.bool true)) ∧ GeoAt (wd.setCell ⟨b15, d, none⟩ (.bool true)) w.heap.size g ∧ RtAt (wd.setCell ⟨b15, d, none⟩ (.bool true)) (w.heap.size + 1) Rt.none ∧ RtAt (wd.setCell ⟨b15, d, none⟩ (.bool true)) b7 best ∧ Rowf (wd.setCell ⟨b15, d, none⟩ (.bool true)) b15 4 s.n fun j => .bool (if j < d + 1 then hasR best (slotsR s j) else false)) :=
                      ⟨HK2.out.setCell (p := ⟨b15, d, none⟩) HWB.out _, HG2.out.frame ((But.ofSetR wd b15 d _).block _ HG2.out.lt (by omega)), HX2.out.but (But.ofSetR wd b15 d _) (by omega), HQ2.out.but (But.ofSetR wd b15 d _) (by omega),
                       (HR2.out.set d _).congr fun j hj => by
                         by_cases e : j = d
                         · subst e; rw [if_pos (by omega), if_pos rfl, HHR.out]
                         · by_cases l : j < d
                           · rw [if_pos (by omega), if_neg e, if_pos l]
                           · rw [if_neg (by omega), if_neg e, if_neg l]⟩
                    clear HK2 HG2 HX2 HQ2 HR2 hkd
                    have hdl := HLT.out
                    go_wp2_with fail
                    exact ⟨⟨d + 1, by omega, by go_num, HF.out⟩, by simp [intOf]; omega⟩
                  · have HHR : Hid (hasR best (slotsR s d) = false) := by
                      show _ = _
                      rw [HHR0.out]
                      cases hh : ra.same best
                      · rfl
                      · exact absurd ((Rt.same_iff _ _).1 hh) heq
                    have hne : ¬ (ra.gen = best.gen ∧ ra.nxt = best.nxt ∧ ra.row = best.row ∧ ra.st = best.st ∧ ra.len = best.len) := fun ⟨a0, a1, a2, a3, a4⟩ => heq (Rt.eq_of a0 a1 a2 a3 a4)
                    clear heq HHR0 HA2
                    refine wp_region_still_tail 15 (by kernel_rfl) (by kernel_rfl) ?_
                    simp only [List.take_succ_cons, List.take_zero, List.drop_succ_cons, List.drop_zero]
                    change wpStill _ _ v1.drew (fun a' => wpList _ _ _ _ a' v1.drew) _ _
                    rw [hwd]
                    clear hwd
                    refine wpStill_of_quiet _ _ ?_
                    repeat (go_big_quiet_step (fail))
                    go_big_quiet_want
                    go_big_quiet_op
                    refine ⟨.bool false, ?_, ?_⟩
                    · by_cases e0 : (ra.gen : Int) = (best.gen : Int)
                      · rw [if_pos e0]
                        by_cases e1 : (ra.nxt : Int) = (best.nxt : Int)
                        · rw [if_pos e1]
                          by_cases e2 : ra.row = best.row
                          · rw [if_pos e2]
                            by_cases e3 : (ra.st : Int) = (best.st : Int)
                            · rw [if_pos e3]
                              by_cases e4 : ra.len = best.len
                              · exact absurd ⟨by omega, by omega, e2, by omega, e4⟩ hne
                              · rw [if_neg e4]; exact ⟨rfl, rfl⟩
                            · rw [if_neg e3]; exact ⟨rfl, rfl⟩
                          · rw [if_neg e2]; exact ⟨rfl, rfl⟩
                        · rw [if_neg e1]; exact ⟨rfl, rfl⟩
                      · rw [if_neg e0]; exact ⟨rfl, rfl⟩
                    go_big_quiet_on
                    repeat (go_big_quiet_step (fail))
                    refine wpQuiet_nil ?_
                    have HF : Hid (Kept w (wd.setCell ⟨b15, d, none⟩ (.bool false)) ∧ GeoAt (wd.setCell ⟨b15, d, none⟩ (.bool false)) w.heap.size g ∧ RtAt (wd.setCell ⟨b15, d, none⟩ (.bool false)) (w.heap.size + 1) Rt.none ∧ RtAt (wd.setCell ⟨b15, d, none⟩ (.bool false)) b7 best ∧ Rowf (wd.setCell ⟨b15, d, none⟩ (.bool false)) b15 4 s.n fun j => .bool (if j < d + 1 then hasR best (slotsR s j) else false)) :=
                      ⟨HK2.out.setCell (p := ⟨b15, d, none⟩) HWB.out _, HG2.out.frame ((But.ofSetR wd b15 d _).block _ HG2.out.lt (by omega)), HX2.out.but (But.ofSetR wd b15 d _) (by omega), HQ2.out.but (But.ofSetR wd b15 d _) (by omega),
                       (HR2.out.set d _).congr fun j hj => by
                         by_cases e : j = d
                         · subst e; rw [if_pos (by omega), if_pos rfl, HHR.out]
                         · by_cases l : j < d
                           · rw [if_pos (by omega), if_neg e, if_pos l]
                           · rw [if_neg (by omega), if_neg e, if_neg l]⟩
                    clear HK2 HG2 HX2 HQ2 HR2 hkd
                    have hdl := HLT.out
                    go_wp2_with fail
                    exact ⟨⟨d + 1, by omega, by go_num, HF.out⟩, by simp [intOf]; omega⟩
                · have hm1 : (best.gen : Int) % 2 = 1 := by omega
                  have hm2 : (best.gen : Int).tmod 2 = 1 := by rw [Int.tmod_eq_emod_of_nonneg (by omega)]; exact hm1
                  rw [if_neg hm] at HHR0
                  go_wp2_with fail
                  obtain ⟨wd, hwd⟩ : ∃ wd, v1.drew = wd := ⟨_, rfl⟩
                  have HK2 : Hid (Kept w wd) := by show Kept _ _; rw [← hwd]; exact HK1.out.drew
                  have hkd : Kept v1 wd := by rw [← hwd]; exact (Kept.refl _).drew
                  have HG2 := Lib.hid (HG1.out.kept hkd)
                  have HX2 := Lib.hid (HX1.out.kept hkd)
                  have HQ2 := Lib.hid (HQ1.out.kept hkd)
                  have HR2 := Lib.hid (HR1.out.frame (hkd.block _ HR1.out.lt))
                  have hcd := HR2.out.cell d hlt
                  have hfd := HR2.out.free d
                  rw [if_neg (show ¬ d < d from Nat.lt_irrefl d)] at hcd
                  have HA2 := Lib.hid (HB1.out.kept hkd)
                  obtain ⟨y0, y1, y2, y3, y4⟩ := HA2.out
                  obtain ⟨p0, p1, p2, p3, p4, _, _, _, _, _⟩ := HQ2.out
                  (try simp only [Nat.reduceAdd] at y1 y2 y3 y4)
                  by_cases heq : rb = best
                  · have HHR : Hid (hasR best (slotsR s d) = true) := by show _ = _; rw [HHR0.out]; exact (Rt.same_iff _ _).2 heq
                    rw [heq] at y0 y1 y2 y3 y4
                    clear heq HHR0 HA2
                    refine wp_region_still_tail 15 (by kernel_rfl) (by kernel_rfl) ?_
                    simp only [List.take_succ_cons, List.take_zero, List.drop_succ_cons, List.drop_zero]
                    change wpStill _ _ v1.drew (fun a' => wpList _ _ _ _ a' v1.drew) _ _
                    rw [hwd]
                    clear hwd
                    refine wpStill_of_quiet _ _ ?_
                    repeat (go_big_quiet_step (fail))
                    refine wpQuiet_nil ?_
                    have HF : Hid (Kept w (wd.setCell ⟨b15, d, none⟩ (.bool true)) ∧ GeoAt (wd.setCell ⟨b15, d, none⟩ (.bool true)) w.heap.size g ∧ RtAt (wd.setCell ⟨b15, d, none⟩ (.bool true)) (w.heap.size + 1) Rt.none ∧ RtAt (wd.setCell ⟨b15, d, none⟩ (.bool true)) b7 best ∧ Rowf (wd.setCell ⟨b15, d, none⟩ (.bool true)) b15 4 s.n fun j => .bool (if j < d + 1 then hasR best (slotsR s j) else false)) :=
                      ⟨HK2.out.setCell (p := ⟨b15, d, none⟩) HWB.out _, HG2.out.frame ((But.ofSetR wd b15 d _).block _ HG2.out.lt (by omega)), HX2.out.but (But.ofSetR wd b15 d _) (by omega), HQ2.out.but (But.ofSetR wd b15 d _) (by omega),
                       (HR2.out.set d _).congr fun j hj => by
                         by_cases e : j = d
                         · subst e; rw [if_pos (by omega), if_pos rfl, HHR.out]
                         · by_cases l : j < d
                           · rw [if_pos (by omega), if_neg e, if_pos l]
                           · rw [if_neg (by omega), if_neg e, if_neg l]⟩
                    clear HK2 HG2 HX2 HQ2 HR2 hkd
                    have hdl := HLT.out
                    go_wp2_with fail
                    exact ⟨⟨d + 1, by omega, by go_num, HF.out⟩, by simp [intOf]; omega⟩
                  · have HHR : Hid (hasR best (slotsR s d) = false) := by
                      show _ = _
                      rw [HHR0.out]
                      cases hh : rb.same best
                      · rfl
                      · exact absurd ((Rt.same_iff _ _).1 hh) heq
                    have hne : ¬ (rb.gen = best.gen ∧ rb.nxt = best.nxt ∧ rb.row = best.row ∧ rb.st = best.st ∧ rb.len = best.len) := fun ⟨a0, a1, a2, a3, a4⟩ => heq (Rt.eq_of a0 a1 a2 a3 a4)
                    clear heq HHR0 HA2
                    refine wp_region_still_tail 15 (by kernel_rfl) (by kernel_rfl) ?_
                    simp only [List.take_succ_cons, List.take_zero, List.drop_succ_cons, List.drop_zero]
                    change wpStill _ _ v1.drew (fun a' => wpList _ _ _ _ a' v1.drew) _ _
                    rw [hwd]
                    clear hwd
                    refine wpStill_of_quiet _ _ ?_
                    repeat (go_big_quiet_step (fail))
                    go_big_quiet_want
                    go_big_quiet_op
                    refine ⟨.bool false, ?_, ?_⟩
                    · by_cases e0 : (rb.gen : Int) = (best.gen : Int)
                      · rw [if_pos e0]
                        by_cases e1 : (rb.nxt : Int) = (best.nxt : Int)
                        · rw [if_pos e1]
                          by_cases e2 : rb.row = best.row
                          · rw [if_pos e2]
                            by_cases e3 : (rb.st : Int) = (best.st : Int)
                            · rw [if_pos e3]
                              by_cases e4 : rb.len = best.len
                              · exact absurd ⟨by omega, by omega, e2, by omega, e4⟩ hne
                              · rw [if_neg e4]; exact ⟨rfl, rfl⟩
                            · rw [if_neg e3]; exact ⟨rfl, rfl⟩
                          · rw [if_neg e2]; exact ⟨rfl, rfl⟩
                        · rw [if_neg e1]; exact ⟨rfl, rfl⟩
                      · rw [if_neg e0]; exact ⟨rfl, rfl⟩
                    go_big_quiet_on
                    repeat (go_big_quiet_step (fail))
                    refine wpQuiet_nil ?_
                    have HF : Hid (Kept w (wd.setCell ⟨b15, d, none⟩ (.bool false)) ∧ GeoAt (wd.setCell ⟨b15, d, none⟩ (.bool false)) w.heap.size g ∧ RtAt (wd.setCell ⟨b15, d, none⟩ (.bool false)) (w.heap.size + 1) Rt.none ∧ RtAt (wd.setCell ⟨b15, d, none⟩ (.bool false)) b7 best ∧ Rowf (wd.setCell ⟨b15, d, none⟩ (.bool false)) b15 4 s.n fun j => .bool (if j < d + 1 then hasR best (slotsR s j) else false)) :=
                      ⟨HK2.out.setCell (p := ⟨b15, d, none⟩) HWB.out _, HG2.out.frame ((But.ofSetR wd b15 d _).block _ HG2.out.lt (by omega)), HX2.out.but (But.ofSetR wd b15 d _) (by omega), HQ2.out.but (But.ofSetR wd b15 d _) (by omega),
                       (HR2.out.set d _).congr fun j hj => by
                         by_cases e : j = d
                         · subst e; rw [if_pos (by omega), if_pos rfl, HHR.out]
                         · by_cases l : j < d
                           · rw [if_pos (by omega), if_neg e, if_pos l]
                           · rw [if_neg (by omega), if_neg e, if_neg l]⟩
                    clear HK2 HG2 HX2 HQ2 HR2 hkd
                    have hdl := HLT.out
                    go_wp2_with fail
                    exact ⟨⟨d + 1, by omega, by go_num, HF.out⟩, by simp [intOf]; omega⟩
            · have b1 : decide ((d : Int) < g.n) = false := decide_eq_false (by omega)
              obtain rfl : d = s.n := by omega
              have hvr : vr = (best, (List.range s.n).map (fun d => hasR best (slotsR s d)), 0) := HV.out
              have HK := Lib.hid HI.out.1
              have HX := Lib.hid HI.out.2.2.1
              have HQ := Lib.hid HI.out.2.2.2.1
              have HR := Lib.hid HI.out.2.2.2.2
              have HWL : b15 ≠ w.heap.size + 1 := by omega
              clear HI HV
              have HP := Lib.hid (HX.out.put best)
              have HKP := Lib.hid (putRt_kept HK.out (w.heap.size + 1) best (by omega))
              have HRF : Hid (HasV w.heap.size (.slice (some ⟨b15, 0, none⟩) s.n s.n) ((List.range s.n).map (fun d => hasR best (slotsR s d))) (putRt wr (w.heap.size + 1) best)) := by
                refine .inr ⟨b15, by rw [List.length_map, List.length_range], HWB.out, ?_⟩
                have h := HR.out.frame ((putRt_but wr (w.heap.size + 1) best).block _ HR.out.lt HWL)
                rw [List.length_map, List.length_range]
                refine h.congr fun j hj => ?_
                rw [if_pos hj, List.getD_eq_getElem?_getD, List.getElem?_map, List.getElem?_range hj]
                rfl
              obtain ⟨p0, p1, p2, p3, p4, f0, f1, f2, f3, f4⟩ := HX.out
              obtain ⟨y0, y1, y2, y3, y4, _, _, _, _, _⟩ := HQ.out
              unfold putRt at HP HKP HRF
              dsimp only [Rt.none] at p0 p1 p2 p3 p4
              go_wp2_with fail
              rw [hvr]
              exact bodyPost_ret (v := .tuple #[best.val, .slice (some ⟨b15, 0, none⟩) s.n s.n, .int .i64 0]) (by have q0 := HP.out.c0; have q1 := HP.out.c1; have q2 := HP.out.c2; have q3 := HP.out.c3; have q4 := HP.out.c4; (try simp at q0 q1 q2 q3 q4); simp [results, Tryz.results33, go_sem, Rt.val, q0, q1, q2, q3, q4]) rfl ⟨⟨_, rfl, HRF.out⟩, HKP.out⟩
end Go.Proofs.YtoekaabngjjefaaGreat

/- A slice of Bools that the call itself has gathered, by append. -/
namespace Go.Proofs.YtoekaabngjjefaaGreat
open Go.RowKit
set_option linter.unusedVariables false
/-- A list of Bools, nil or somewhere. -/
def Bls (v : Value) (l : List Bool) (w : World) : Prop := ∃ a c, v = .slice a l.length c ∧ (0 < l.length → ∃ q, a = some ⟨q, 0, none⟩ ∧ ∀ j, j < l.length → w.cell? ⟨q, j, none⟩ = some (.bool (l.getD j false)))
theorem Bls.kept {v : Value} {l : List Bool} {w w' : World} (h : Bls v l w) (k : Kept w w') : Bls v l w' := by
  obtain ⟨a, c, rfl, h⟩ := h
  refine ⟨a, c, rfl, fun h0 => ?_⟩
  obtain ⟨q, rfl, hc⟩ := h h0
  exact ⟨q, rfl, fun j hj => by rw [Below.cell k (p := ⟨q, j, none⟩) (block_lt_of_cell (hc j hj))]; exact hc j hj⟩
theorem Bls.nil (w : World) : Bls (.slice none 0 0) [] w := ⟨none, 0, rfl, fun h => absurd h (by decide)⟩
def GatB (B : Nat) (v : Value) (rs : List Bool) (w : World) : Prop := w.ownsRow B 4 1 v rs.length (rs.map Value.bool)
theorem GatB.nil (B : Nat) (w : World) : GatB B (.slice none 0 0) [] w := World.ownsRow_nil _ _ _ _
theorem GatB.kept {B : Nat} {v : Value} {rs : List Bool} {w w' : World} (h : GatB B v rs w) (k : Kept w w') : GatB B v rs w' := by
  obtain ⟨h1, h2⟩ := h
  refine ⟨h1, ?_⟩
  rcases h2 with h2 | ⟨g, cap, cur, h2, h3, h4, h5⟩
  · exact .inl h2
  · exact .inr ⟨g, cap, cur, h2, h3, by rw [k.block g (Array.getElem?_eq_some_iff.1 h4).1]; exact h4, h5⟩
theorem GatB.but {B b : Nat} {v : Value} {rs : List Bool} {w w' : World} (h : GatB B v rs w) (k : But b w w') (hb : b < B) : GatB B v rs w' := by
  obtain ⟨h1, h2⟩ := h
  refine ⟨h1, ?_⟩
  rcases h2 with h2 | ⟨g, cap, cur, h2, h3, h4, h5⟩
  · exact .inl h2
  · exact .inr ⟨g, cap, cur, h2, h3, by rw [k.block g (Array.getElem?_eq_some_iff.1 h4).1 (by omega)]; exact h4, h5⟩
theorem GatB.only {B lo hi : Nat} {v : Value} {rs : List Bool} {w w' : World} (h : GatB B v rs w) (k : Only lo hi w w') (hb : hi ≤ B) : GatB B v rs w' := by
  obtain ⟨h1, h2⟩ := h
  refine ⟨h1, ?_⟩
  rcases h2 with h2 | ⟨g, cap, cur, h2, h3, h4, h5⟩
  · exact .inl h2
  · exact .inr ⟨g, cap, cur, h2, h3, by rw [k.block g (Array.getElem?_eq_some_iff.1 h4).1 (.inr (by omega))]; exact h4, h5⟩
theorem GatB.lower {B B' : Nat} {v : Value} {rs : List Bool} {w : World} (h : GatB B v rs w) (hb : B' ≤ B) : GatB B' v rs w := by
  obtain ⟨h1, h2⟩ := h
  refine ⟨h1, ?_⟩
  rcases h2 with h2 | ⟨g, cap, cur, h2, h3, h4, h5⟩
  · exact .inl h2
  · exact .inr ⟨g, cap, cur, h2, by omega, h4, h5⟩
theorem GatB.bls {B : Nat} {v : Value} {rs : List Bool} {w : World} (h : GatB B v rs w) : Bls v rs w := by
  obtain ⟨h1, h2⟩ := h
  rcases h2 with ⟨rfl, h2⟩ | ⟨g, cap, cur, rfl, h3, h4, h5, h6, h7, h8⟩
  · have : rs = [] := List.length_eq_zero_iff.1 h2
    subst this
    exact Bls.nil w
  · refine ⟨_, cap, rfl, fun _ => ⟨g, rfl, fun j hj => ?_⟩⟩
    rw [cell_of_row _ _ j _ _ _ h4]
    have e : (cur.toList.take (rs.length * 1))[j]? = (rs.map Value.bool)[j]? := by rw [h8]
    rw [List.getElem?_take_of_lt (by omega)] at e
    rw [← Array.getElem?_toList, e, List.getElem?_map, List.getElem?_eq_getElem hj, List.getD_eq_getElem?_getD, List.getElem?_eq_getElem hj]
    rfl
theorem info_boolB : (Tryz.prog.info? 4).map (fun i => (i.zero, i.size, i.bytes)) = some (some (.bool false), 1, 1) := by kernel_rfl
theorem cell_boolB (W : World) (g : Nat) (r : Bool) (h : W.cell? ⟨g, 0, none⟩ = some (.bool r)) : ∀ j u, [Value.bool r][j]? = some u → W.cell? ((⟨g, 0, none⟩ : Addr).add j) = some u := by
  intro j u hj
  match j, hj with
  | 0, hj =>
    simp at hj
    subst hj
    rw [add_at]
    exact h
/-- An append of one Bool, at a step of a region that draws its order. -/
theorem step_gatb {ops : Array Oper} {o : Oper} {a : Act} {K : Act → World → Prop} {Q : Exit → Act → World → Prop} {E : Prop} {W : World} (hgd : o.guard = none) (s x : Operand)
    (ho : o.op = .call { callee := .builtin .append, args := #[s, x], argTypes := #[51, 51] })
    (w0 : World) (v : Value) (rs : List Bool) (hs : a.eval s = v) (hG : GatB w0.heap.size v rs W) (hK : Kept w0 W) (r : Bool) (g : Nat) (hx : a.eval x = .slice (some ⟨g, 0, none⟩) 1 1) (hc : W.cell? ⟨g, 0, none⟩ = some (.bool r)) (hl : rs.length ≤ 1000000000)
    (h : ∀ v' w', GatB w0.heap.size v' (rs ++ [r]) w' → Kept w0 w' → W.heap.size ≤ w'.heap.size → (∀ b, b < W.heap.size → v.ownBlock ≠ some b → w'.heap[b]? = W.heap[b]?) → K (a.put o.dst v') w') : if Region.wanted o (yielded ops a.tmps) = true then Oper.wp Tryz.prog o a W K Q else E := by
  have hw : Region.wanted o (yielded ops a.tmps) = true := by simp [Region.wanted, hgd]
  rw [if_pos hw]
  obtain ⟨i0, hi, hzz⟩ := Option.map_eq_some_iff.1 info_boolB
  simp only [Prod.mk.injEq] at hzz
  refine wp_append_own W s x 51 ho w0.heap.size 4 i0 (.bool false) 1 1 Tryz.underlying51 hi hzz.1 hzz.2.1 hzz.2.2 rfl (by decide) v rs.length (rs.map Value.bool) hs hG ⟨g, 0, none⟩ 1 1 [.bool r] hx rfl (cell_boolB W g r hc) (fun u hu => by simp at hu; subst hu; rfl) (by unfold maxLen; omega) (by omega) hK.size ?_
  intro v' w' h2 h3 _
  refine h v' w' ?_ (Below.grown hK h3 hK.size (fun k hk => (World.ownsRow.lt hG k hk).1)) h3.size (fun b hb hn => h3.block b hb (fun e => hn e.symm))
  unfold GatB
  rw [List.map_append, List.length_append]
  exact h2
end Go.Proofs.YtoekaabngjjefaaGreat

/- Are two lists of Bools the same? (the law's own) -/
namespace Go.Proofs.YtoekaabngjjefaaGreat
open Go.RowKit Sm Wr _root_.Go.Proofs.YtoekaabngjjefaaGreat.Nm
set_option linter.unusedVariables false
theorem HasV.bls {B : Nat} {v : Value} {l : List Bool} {w : World} (h : HasV B v l w) : Bls v l w := by
  rcases h with ⟨rfl, rfl⟩ | ⟨q, rfl, _, h⟩
  · exact ⟨none, 0, rfl, fun h => absurd h (by decide)⟩
  · exact ⟨_, _, rfl, fun _ => ⟨q, rfl, fun j hj => h.cell j hj⟩⟩
theorem list_same {l r : List Bool} (hn : l.length = r.length) : l = r ↔ ∀ j, j < l.length → l.getD j false = r.getD j false := by
  constructor
  · rintro rfl j _; rfl
  · intro h
    apply List.ext_getElem hn
    intro j h1 h2
    have := h j h1
    rw [List.getD_eq_getElem?_getD, List.getD_eq_getElem?_getD, List.getElem?_eq_getElem h1, List.getElem?_eq_getElem h2] at this
    exact this
set_option maxHeartbeats 1000000 in
set_option maxRecDepth 100000 in
theorem same_any (va vb : Value) (la lb : List Bool) (w : World) (ha : Bls va la w) (hb : Bls vb lb w) (hl : la.length ≤ 1000) (hr : lb.length ≤ 1000) :
    Calls Tryz.prog 34 #[va, vb] w fun e w' => e = .returned (.bool (decide (la = lb))) ∧ Kept w w' := by
  obtain ⟨a, ca, rfl, ha⟩ := ha
  obtain ⟨b, cb, rfl, hb⟩ := hb
  by_cases hn : la.length = lb.length
  · have e1 : ((la.length : Int) != (lb.length : Int)) = false := by rw [hn]; simp
    have HT : Hid ((∀ j, j < la.length → la.getD j false = lb.getD j false) → decide (la = lb) = true) := fun h => decide_eq_true ((list_same hn).2 h)
    have HZ : Hid (∀ j, ¬ la.getD j false = lb.getD j false → decide (la = lb) = false) := fun j h => decide_eq_false (fun c => h (by rw [c]))
    generalize decide (la = lb) = r at *
    have HN := Lib.hid hn
    have HA := Lib.hid ha
    have HB := Lib.hid hb
    clear ha hb hn
    generalize hla : la.length = n at *
    generalize hlb : lb.length = m at *
    obtain rfl : n = m := HN.out
    have HLA := Lib.hid hla
    clear hla hlb
    go_enter Tryz.func34, Tryz.ntmps34
    go_wp2_with fail
    go_loopw [5] (fun i wr => ∃ k : Nat, k ≤ n ∧ i = .int .i64 k ∧ Hid (Kept w wr ∧ ∀ j, j < k → la.getD j false = lb.getD j false)) (fun i _ => n - (intOf i).toNat)
    case atStart => exact ⟨0, Nat.zero_le _, rfl, Kept.refl _, fun j h => absurd h (by omega)⟩
    case round =>
      obtain ⟨k, hk, rfl, HI⟩ := hrel
      by_cases hlt : k < n
      · have b1 : decide ((k : Int) < (n : Int)) = true := decide_eq_true (by omega)
        obtain ⟨qa, rfl, hca⟩ := HA.out (by omega)
        obtain ⟨qb, rfl, hcb⟩ := HB.out (by omega)
        have ca := hca k hlt
        have cb := hcb k hlt
        have ca := cell_kept ca HI.out.1
        have cb := cell_kept cb HI.out.1
        clear hca hcb
        by_cases he : la.getD k false = lb.getD k false
        · rw [he] at ca
          have HF : Hid (∀ W, Kept w W → Kept w W ∧ ∀ j, j < k + 1 → la.getD j false = lb.getD j false) := fun W h => ⟨h, fun j hj => by
            rcases Nat.lt_or_ge j k with h2 | h2
            · exact HI.out.2 j h2
            · rw [show j = k by omega]; exact he⟩
          have HK := Lib.hid HI.out.1
          clear HI he
          generalize lb.getD k false = x at *
          go_wp2_with fail
          go_quiet (fail)
          go_wp2_with fail
          exact ⟨⟨k + 1, by omega, by go_num, HF.out _ (HK.out.trans ((Kept.refl _).drewN _))⟩, by simp [intOf]; omega⟩
        · have hd : r = false := HZ.out k he
          subst hd
          have HK := Lib.hid HI.out.1
          clear HI
          generalize la.getD k false = x at *
          generalize lb.getD k false = y at *
          have hx : (x != y) = true := by simpa using he
          cases x <;> cases y <;> first | exact absurd rfl he | skip
          all_goals
            clear he hx
            go_wp2_with fail
            go_quiet (fail)
            go_wp2_with fail
            go_ret
            exact ⟨rfl, HK.out.trans ((Kept.refl _).drewN _)⟩
      · have b1 : decide ((k : Int) < (n : Int)) = false := decide_eq_false (by omega)
        obtain rfl : k = n := by omega
        have hd : r = true := HT.out HI.out.2
        subst hd
        go_wp2_with fail
        go_ret
        exact ⟨rfl, HI.out.1⟩
  · have e1 : ((la.length : Int) != (lb.length : Int)) = true := by rw [bne_iff_ne]; omega
    have hd : decide (la = lb) = false := decide_eq_false (fun c => hn (by rw [c]))
    rw [hd]
    clear ha hb hd hn
    go_enter Tryz.func34, Tryz.ntmps34
    go_wp2_with fail
    go_ret
    exact ⟨rfl, Kept.refl _⟩
end Go.Proofs.YtoekaabngjjefaaGreat

/- A slice of steps of roots that came in, opened; whether there are too many, or a text is too long. -/
namespace Go.Proofs.YtoekaabngjjefaaGreat
open Go.RowKit Go.Deep Sm Wr _root_.Go.Proofs.YtoekaabngjjefaaGreat.Nm
set_option linter.unusedVariables false
/-- One step: what to do, the root, the rack's call. -/
structure RStp where
  op : Int
  x : Rt
  r : Stp
structure RStpAt (w : World) (b o i : Nat) (z : RStp) : Prop where
  c0 : w.cell? ⟨b, o + i * 10, none⟩ = some (.int .u8 z.op)
  c1 : w.cell? ⟨b, o + i * 10 + 1, none⟩ = some (.int .u64 (z.x.gen : Nat))
  c2 : w.cell? ⟨b, o + i * 10 + 2, none⟩ = some (.int .u64 (z.x.nxt : Nat))
  c3 : w.cell? ⟨b, o + i * 10 + 3, none⟩ = some (.int .i64 z.x.row)
  c4 : w.cell? ⟨b, o + i * 10 + 4, none⟩ = some (.int .u64 (z.x.st : Nat))
  c5 : w.cell? ⟨b, o + i * 10 + 5, none⟩ = some (.int .i64 z.x.len)
  c6 : w.cell? ⟨b, o + i * 10 + 6, none⟩ = some (.int .u8 z.r.op)
  c7 : w.cell? ⟨b, o + i * 10 + 7, none⟩ = some (.int .i64 z.r.d)
  c8 : w.cell? ⟨b, o + i * 10 + 8, none⟩ = some (.int .i64 z.r.s)
  c9 : w.cell? ⟨b, o + i * 10 + 9, none⟩ = some (.string z.r.t)
  bo : 0 ≤ z.op ∧ z.op ≤ 255
  wf : z.x.Wf
  ro : 0 ≤ z.r.op ∧ z.r.op ≤ 255
  rd : -9223372036854775808 ≤ z.r.d ∧ z.r.d ≤ 9223372036854775807
  rs : -9223372036854775808 ≤ z.r.s ∧ z.r.s ≤ 9223372036854775807
  rt : z.r.t.size ≤ maxLen
theorem RStpAt.kept {w w' : World} {b o i : Nat} {z : RStp} (h : RStpAt w b o i z) (k : Kept w w') : RStpAt w' b o i z :=
  { h with c0 := cell_kept h.c0 k, c1 := cell_kept h.c1 k, c2 := cell_kept h.c2 k, c3 := cell_kept h.c3 k, c4 := cell_kept h.c4 k, c5 := cell_kept h.c5 k, c6 := cell_kept h.c6 k, c7 := cell_kept h.c7 k, c8 := cell_kept h.c8 k, c9 := cell_kept h.c9 k }
def IsRSteps (w : World) (a : Option Addr) (len cap : Nat) (zs : List RStp) : Prop :=
  (a = none ∧ len = 0 ∧ cap = 0 ∧ zs = []) ∨
  ∃ p, a = some p ∧ len ≤ cap ∧ cap ≤ maxLen ∧ zs.length = len ∧ ∀ (i : Nat) (h : i < zs.length), p.spot = none ∧ RStpAt w p.block p.off i zs[i]
def RStps (w : World) (a : Option Addr) (zs : List RStp) : Prop :=
  zs = [] ∨ ∃ b o, a = some ⟨b, o, none⟩ ∧ ∀ (i : Nat) (h : i < zs.length), RStpAt w b o i zs[i]
theorem IsRSteps.stps {w : World} {a : Option Addr} {len cap : Nat} {zs : List RStp} (h : IsRSteps w a len cap zs) : RStps w a zs ∧ zs.length = len ∧ len ≤ maxLen := by
  rcases h with ⟨rfl, rfl, rfl, rfl⟩ | ⟨p, rfl, hl, hm, hz, hq⟩
  · exact ⟨.inl rfl, rfl, by decide⟩
  · refine ⟨?_, hz, by omega⟩
    rcases Nat.eq_zero_or_pos zs.length with h0 | h0
    · exact .inl (List.length_eq_zero_iff.1 h0)
    · obtain ⟨b, o, spot⟩ := p
      have := (hq 0 h0).1
      dsimp only at this
      subst this
      exact .inr ⟨b, o, rfl, fun i hi => (hq i hi).2⟩
theorem subR (cs : List Value) (o m j : Nat) (hj : j < m) : ((cs.drop o).take m)[j]? = cs[o + j]? := by
  rw [List.getElem?_take, if_pos hj, List.getElem?_drop]
theorem trod3 {P : Program} {H : Type} {enc : TypeId × Value → H} {w : World} {base : Nat} {spare : Nat → Bool} {held : Bool} {t : TypeId} {f0 f1 f2 : Field} {fuel : Nat} {cs : List Value} {x : DataW H × List MemPlace} (ht : P.underlying t = some (.struct #[f0, f1, f2])) (h : DataW.trod enc P w base spare held fuel t cs = some x) :
    ∃ y0 y1 y2 n, cs.length = P.cellsOf t ∧ DataW.trod enc P w base spare held n f0.type ((cs.drop f0.offset).take (P.cellsOf f0.type)) = some y0 ∧ DataW.trod enc P w base spare held n f1.type ((cs.drop f1.offset).take (P.cellsOf f1.type)) = some y1 ∧
      DataW.trod enc P w base spare held n f2.type ((cs.drop f2.offset).take (P.cellsOf f2.type)) = some y2 := by
  obtain ⟨xs, n, _, rfl, hl, hlen, hf⟩ := DataW.trod_struct ht h
  match xs, hlen with
  | [y0, y1, y2], _ => exact ⟨y0, y1, y2, n, hl, by simpa using hf 0 f0 rfl, by simpa using hf 1 f1 rfl, by simpa using hf 2 f2 rfl⟩
set_option maxRecDepth 100000 in
set_option maxHeartbeats 1000000 in
theorem open_rsteps {H : Type} {enc : TypeId × Value → H} {w : World} {base : Nat} {spare : Nat → Bool} {held : Bool} {fuel : Nat} {a : Option Addr} {len cap : Nat} {x : DataW H × List MemPlace}
    (h : DataW.trod enc Tryz.prog w base spare held fuel 24 [.slice a len cap] = some x) : ∃ zs, IsRSteps w a len cap zs := by
  have hC : Tryz.prog.cellsOf 42 = 10 := by kernel_rfl
  have c8 : Tryz.prog.cellsOf 5 = 1 := by kernel_rfl
  have ci : Tryz.prog.cellsOf 3 = 1 := by kernel_rfl
  have cu : Tryz.prog.cellsOf 34 = 1 := by kernel_rfl
  have cst : Tryz.prog.cellsOf 9 = 1 := by kernel_rfl
  have c5 : Tryz.prog.cellsOf 38 = 5 := by kernel_rfl
  have c3 : Tryz.prog.cellsOf 36 = 3 := by kernel_rfl
  have c7 : Tryz.prog.cellsOf 40 = 4 := by kernel_rfl
  rcases open_slice Tryz.underlying24 h with ⟨hcs, _⟩ | ⟨p, l, c, m, n, D, Pl, hcs, hb, hl, hm, hmm, _, hi⟩
  · simp at hcs
    obtain ⟨rfl, rfl, rfl⟩ := hcs
    exact ⟨[], .inl ⟨rfl, rfl, rfl, rfl⟩⟩
  · simp at hcs
    obtain ⟨rfl, rfl, rfl⟩ := hcs
    have hlm : len ≤ m := by rw [hmm]; split <;> omega
    have hz : ∀ i, i < len → ∃ z : RStp, p.spot = none ∧ RStpAt w p.block p.off i z := by
      intro i hil
      have hspot : p.spot = none := by
        obtain ⟨cs', hc, _⟩ := hi 0 (by omega)
        rw [hC] at hc
        obtain ⟨_, hcl, hat⟩ := World.cells?_some hc
        have d0 := hat 0 (by omega)
        rw [add_add, List.getElem?_eq_getElem (by omega)] at d0
        have := World.cell?_spot d0
        simpa [Addr.add] using this
      obtain ⟨cs', hc, ht'⟩ := hi i (by omega)
      rw [hC] at hc
      obtain ⟨_, hcl, hat⟩ := World.cells?_some hc
      obtain ⟨xs, n', _, _, _, hlen, hf⟩ := DataW.trod_struct Tryz.underlying42 ht'
      match xs, hlen with
      | [y0, y1, y2], _ =>
        have g0 : DataW.trod enc Tryz.prog w base spare held n' 5 ((cs'.drop 0).take (Tryz.prog.cellsOf 5)) = some y0 := by simpa using hf 0 _ rfl
        have g1 : DataW.trod enc Tryz.prog w base spare held n' 38 ((cs'.drop 1).take (Tryz.prog.cellsOf 38)) = some y1 := by simpa using hf 1 _ rfl
        have g2 : DataW.trod enc Tryz.prog w base spare held n' 40 ((cs'.drop 6).take (Tryz.prog.cellsOf 40)) = some y2 := by simpa using hf 2 _ rfl
        rw [c5] at g1
        rw [c7] at g2
        obtain ⟨z0, e0, v0⟩ := one_cell 0 Tryz.underlying5 c8 g0
        obtain ⟨a0, a1, a2, n1, _, k0, k1, k2⟩ := trod3 Tryz.underlying38 g1
        have k2 : DataW.trod enc Tryz.prog w base spare held n1 36 (((cs'.drop 1).take 5).drop 2 |>.take (Tryz.prog.cellsOf 36)) = some a2 := k2
        rw [c3] at k2
        obtain ⟨m0, m1, m2, n3, _, l0, l1, l2⟩ := trod3 Tryz.underlying36 k2
        obtain ⟨q0, q1, q2, q3, n2, _, j0, j1, j2, j3⟩ := trod4 Tryz.underlying40 g2
        obtain ⟨z1, e1, v1⟩ := one_cell 0 Tryz.underlying34 cu k0
        obtain ⟨z2, e2, v2⟩ := one_cell 1 Tryz.underlying34 cu k1
        obtain ⟨z3, e3, v3⟩ := one_cell 0 Tryz.underlying3 ci l0
        obtain ⟨z4, e4, v4⟩ := one_cell 1 Tryz.underlying34 cu l1
        obtain ⟨z5, e5, v5⟩ := one_cell 2 Tryz.underlying3 ci l2
        obtain ⟨z6, e6, v6⟩ := one_cell 0 Tryz.underlying5 c8 j0
        obtain ⟨z7, e7, v7⟩ := one_cell 1 Tryz.underlying3 ci j1
        obtain ⟨z8, e8, v8⟩ := one_cell 2 Tryz.underlying3 ci j2
        obtain ⟨z9, e9, v9⟩ := one_text 3 Tryz.underlying9 cst j3
        rw [subR _ _ _ _ (by decide), subR _ _ _ _ (by decide)] at e3 e4 e5
        rw [subR _ _ _ _ (by decide)] at e1 e2 e6 e7 e8 e9
        have d0 := (hat 0 (by omega)).trans e0
        have d1 := (hat 1 (by omega)).trans e1
        have d2 := (hat 2 (by omega)).trans e2
        have d3 := (hat 3 (by omega)).trans e3
        have d4 := (hat 4 (by omega)).trans e4
        have d5 := (hat 5 (by omega)).trans e5
        have d6 := (hat 6 (by omega)).trans e6
        have d7 := (hat 7 (by omega)).trans e7
        have d8 := (hat 8 (by omega)).trans e8
        have d9 := (hat 9 (by omega)).trans e9
        obtain ⟨b, o, spot⟩ := p
        dsimp only at hspot
        subst hspot
        rw [add_add, Go.WideShapes.add_plain] at d0 d1 d2 d3 d4 d5 d6 d7 d8 d9
        have b1 := bounds_u64 v1
        have b2 := bounds_u64 v2
        have b4 := bounds_u64 v4
        obtain ⟨z1n, rfl⟩ : ∃ s : Nat, z1 = s := ⟨z1.toNat, by omega⟩
        obtain ⟨z2n, rfl⟩ : ∃ s : Nat, z2 = s := ⟨z2.toNat, by omega⟩
        obtain ⟨z4n, rfl⟩ : ∃ s : Nat, z4 = s := ⟨z4.toNat, by omega⟩
        have b3 := wf_i64 v3
        have b5 := wf_i64 v5
        have b0 := bounds_u8 v0
        have b6 := bounds_u8 v6
        exact ⟨⟨z0, ⟨z1n, z2n, z3, z4n, z5⟩, ⟨z6, z7, z8, z9⟩⟩, rfl, d0, d1, d2, d3, d4, d5, d6, d7, d8, d9, by show _ ∧ _; omega, ⟨by show z1n < _; omega, by show z2n < _; omega, b3.1, b3.2, by show z4n < _; omega, b5.1, b5.2⟩, by show _ ∧ _; omega, wf_i64 v7, wf_i64 v8, v9⟩
    obtain ⟨zs, hzl, hzq⟩ := list_of (fun i z => p.spot = none ∧ RStpAt w p.block p.off i z) len hz
    exact ⟨zs, .inr ⟨p, rfl, hl, hm, hzl, hzq⟩⟩
end Go.Proofs.YtoekaabngjjefaaGreat

/- Whether there are too many steps of roots, or a text is too long. -/
namespace Go.Proofs.YtoekaabngjjefaaGreat
open Go.RowKit Sm Wr _root_.Go.Proofs.YtoekaabngjjefaaGreat.Nm
set_option linter.unusedVariables false
theorem RStps.kept {w w' : World} {a : Option Addr} {zs : List RStp} (h : RStps w a zs) (k : Kept w w') : RStps w' a zs := by
  rcases h with h | ⟨b, o, rfl, h⟩
  · exact .inl h
  · exact .inr ⟨b, o, rfl, fun i hi => (h i hi).kept k⟩
def rBig (z : RStp) : Bool := decide (1024 < z.r.t.size)
def rheavyB (zs : List RStp) : Bool := decide (200 < zs.length) || zs.any rBig
theorem rheavy_not {zs : List RStp} (h : rheavyB zs = false) : zs.length ≤ 200 ∧ ∀ (i : Nat) (hi : i < zs.length), zs[i].r.t.size ≤ 1024 := by
  unfold rheavyB at h
  rw [Bool.or_eq_false_iff] at h
  refine ⟨by have := of_decide_eq_false h.1; omega, fun i hi => ?_⟩
  have h2 := List.any_eq_false.1 h.2 zs[i] (List.getElem_mem hi)
  have h3 : rBig zs[i] = false := by simpa using h2
  have h4 := of_decide_eq_false h3
  omega
set_option maxHeartbeats 1000000 in
set_option maxRecDepth 100000 in
theorem rheavy_any (a : Option Addr) (len cap : Nat) (zs : List RStp) (hl : zs.length = len) (hm : len ≤ maxLen) (w : World) (hS : RStps w a zs) :
    Calls Tryz.prog 4 #[.slice a len cap] w fun e w' => e = .returned (.bool (rheavyB zs)) ∧ Kept w w' := by
  subst hl
  have hm2 : zs.length ≤ 9223372036854775807 := by unfold maxLen at hm; exact hm
  clear hm
  by_cases h200 : 200 < zs.length
  · have HB : Hid (rheavyB zs = true) := by show _ = _; unfold rheavyB; rw [decide_eq_true h200]; rfl
    have hb : decide ((200 : Int) < (zs.length : Nat)) = true := decide_eq_true (by omega)
    clear hS
    generalize zs.length = n at *
    go_enter Tryz.func4, Tryz.ntmps4
    go_wp2_with fail
    go_ret
    rw [HB.out]
    exact ⟨rfl, Kept.refl _⟩
  · have hb : decide ((200 : Int) < (zs.length : Nat)) = false := decide_eq_false (by omega)
    have HS := Lib.hid hS
    clear hS
    obtain ⟨n, hn⟩ : ∃ n, n = zs.length := ⟨_, rfl⟩
    rw [← hn] at hb h200 hm2
    rw [← hn]
    have HN := Lib.hid hn
    clear hn
    go_enter Tryz.func4, Tryz.ntmps4
    go_wp2_with fail
    go_loopw [3] (fun i wr => ∃ k : Nat, k ≤ n ∧ i = .int .i64 k ∧ wr = w ∧ Hid (∀ (j : Nat) (hj : j < zs.length), j < k → rBig zs[j] = false)) (fun i _ => n - (intOf i).toNat)
    case atStart => exact ⟨0, Nat.zero_le _, rfl, rfl, fun j hj h => absurd h (by omega)⟩
    case round =>
      obtain ⟨k, hk, rfl, rfl, HA⟩ := hrel
      by_cases hlt : k < n
      · have hkz : k < zs.length := by rw [← HN.out]; exact hlt
        rcases HS.out with h0 | ⟨b, o, rfl, hq⟩
        · rw [h0] at hkz; cases hkz
        · have c9 := (hq k hkz).c9
          have hsz' := (hq k hkz).rt
          have HSZ : Hid (rBig zs[k] = false → ∀ (j : Nat) (hj : j < zs.length), j < k + 1 → rBig zs[j] = false) := fun h j hj hjk => by
            by_cases e : j = k
            · subst e; exact h
            · exact HA.out j hj (by omega)
          have HBT : Hid (rBig zs[k] = true → rheavyB zs = true) := fun h => by
            unfold rheavyB
            rw [List.any_eq_true.2 ⟨zs[k], List.getElem_mem hkz, h⟩]
            simp
          have HBD : Hid (rBig zs[k] = decide (1024 < zs[k].r.t.size)) := rfl
          have hsz3 : zs[k].r.t.size ≤ 9223372036854775807 := by unfold maxLen at hsz'; exact hsz'
          generalize rBig zs[k] = B at *
          generalize zs[k].r.t = u at *
          have c9b : wr.cell? ⟨b, o + k * 10 + 6 + 3, none⟩ = some (.string u) := c9
          clear hq hsz'
          by_cases h3 : 1024 < u.size
          · have hb3 : decide ((1024 : Int) < (u.size : Nat)) = true := decide_eq_true (by omega)
            have HR := Lib.hid (HBT.out (by rw [HBD.out, decide_eq_true h3]))
            clear h3
            go_wp2_with fail
            go_ret
            rw [HR.out]
            exact ⟨rfl, Kept.refl _⟩
          · have hb3 : decide ((1024 : Int) < (u.size : Nat)) = false := decide_eq_false (by omega)
            have HR := Lib.hid (HSZ.out (by rw [HBD.out, decide_eq_false h3]))
            clear h3
            go_wp2_with fail
            exact ⟨⟨k + 1, by omega, by go_num, trivial, HR⟩, by simp [intOf]; omega⟩
      · have HR : Hid (rheavyB zs = false) := by
          show _ = _
          unfold rheavyB
          rw [Bool.or_eq_false_iff]
          refine ⟨decide_eq_false (by rw [← HN.out]; omega), List.any_eq_false.2 fun z hz => ?_⟩
          obtain ⟨j, hj, rfl⟩ := List.getElem_of_mem hz
          have := HA.out j hj (by have := HN.out; omega)
          simp [this]
        go_wp2_with fail
        go_ret
        rw [HR.out]
        exact ⟨rfl, Kept.refl _⟩
end Go.Proofs.YtoekaabngjjefaaGreat

/- The program's: which roots may be, which geos may be. -/
namespace Go.Proofs.YtoekaabngjjefaaGreat
open Go.RowKit Sm Wr _root_.Go.Proofs.YtoekaabngjjefaaGreat.Nm
set_option linter.unusedVariables false
def genB (n : Nat) : Bool := decide (1 ≤ n ∧ n ≤ 281474976710656)
theorem mayGen_any (n : Nat) (w : World) :
    Calls Tryz.prog 73 #[.int .u64 (n : Nat)] w fun e w' => e = .returned (.bool (genB n)) ∧ Kept w w' := by
  have HM : Hid (genB n = true ↔ 1 ≤ n ∧ n ≤ 281474976710656) := by show _; unfold genB; exact decide_eq_true_iff
  have fin : ∀ r : Bool, (r = true ↔ genB n = true) → Ending.returned (.bool r) = Ending.returned (.bool (genB n)) := fun r h => by rw [Bool.eq_iff_iff.2 h]
  have HF := Lib.hid fin
  clear fin
  generalize genB n = mb at *
  go_enter Tryz.func73, Tryz.ntmps73
  go_wp2_with fail
  all_goals
    go_ret
    refine ⟨HF.out _ ?_, Kept.refl _⟩
    rw [HM.out]
    clear HF HM
    simp only [decide_eq_true_eq, Bool.false_eq_true, false_iff]
    omega
def headB (a : Int) (b : Nat) (c : Int) : Bool := decide (0 ≤ a ∧ a ≤ 4096 ∧ (1 ≤ b ∧ b ≤ 281474976710656) ∧ 1 ≤ c ∧ c ≤ 5376)
set_option maxRecDepth 100000 in
theorem mayHead_any (a : Int) (b : Nat) (c : Int) (w : World) :
    Calls Tryz.prog 74 #[.agg #[.int .i64 a, .int .u64 (b : Nat), .int .i64 c]] w fun e w' => e = .returned (.bool (headB a b c)) ∧ Kept w w' := by
  have HM : Hid (headB a b c = true ↔ 0 ≤ a ∧ a ≤ 4096 ∧ (1 ≤ b ∧ b ≤ 281474976710656) ∧ 1 ≤ c ∧ c ≤ 5376) := by show _; unfold headB; exact decide_eq_true_iff
  have fin : ∀ r : Bool, (r = true ↔ headB a b c = true) → Ending.returned (.bool r) = Ending.returned (.bool (headB a b c)) := fun r h => by rw [Bool.eq_iff_iff.2 h]
  have HF := Lib.hid fin
  have HG := Lib.hid (fun W => mayGen_any b W)
  have HGB : Hid (genB b = true ↔ 1 ≤ b ∧ b ≤ 281474976710656) := by show _; unfold genB; exact decide_eq_true_iff
  clear fin
  generalize headB a b c = mb at *
  generalize genB b = gb at *
  have X0 : Hid ((w.alloc (.cells #[.int .i64 a, .int .u64 (b : Nat), .int .i64 c] 36)).cell? ⟨w.heap.size, 2, none⟩ = some (.int .i64 c)) := newR_cell w _ _ 2 _ rfl
  by_cases h1 : 0 ≤ a ∧ a ≤ 4096
  · obtain ⟨h1, h2⟩ := h1
    go_enter Tryz.func74, Tryz.ntmps74
    go_wp2_with fail
    refine (HG.out _).mono ?_
    rintro e w1 ⟨rfl, hk⟩
    have K1 : Hid (Kept w w1) := ((Kept.refl _).alloc _).trans hk
    have x2 := cellR_kept X0.out hk
    clear hk HG X0
    cases gb with
    | false =>
      go_wp2_with fail
      go_ret
      refine ⟨HF.out _ ?_, K1.out⟩
      rw [HM.out, ← HGB.out]
      simp
    | true =>
      go_wp2_with fail
      all_goals
        go_ret
        refine ⟨HF.out _ ?_, K1.out⟩
        have h3 := HGB.out.1 trivial
        rw [HM.out]
        clear HF HM HGB
        simp only [decide_eq_true_eq, Bool.false_eq_true, false_iff]
        omega
  · go_enter Tryz.func74, Tryz.ntmps74
    have hf : ∀ r, (r = true ↔ False) → Ending.returned (.bool r) = Ending.returned (.bool mb) := fun r hr => HF.out r (by rw [HM.out, hr]; exact ⟨False.elim, fun h => h1 ⟨h.1, h.2.1⟩⟩)
    have HFF := Lib.hid hf
    clear hf HG HGB HM HF
    rcases Int.lt_or_le a 0 with h2 | h2
    · go_wp2_with fail
      go_ret
      exact ⟨HFF.out _ (by decide), (Kept.refl _).alloc _⟩
    · have h3 : 4096 < a := by omega
      go_wp2_with fail
      go_ret
      exact ⟨HFF.out _ (by decide), (Kept.refl _).alloc _⟩
set_option maxRecDepth 100000 in
theorem pMay_any (x : Rt) (w : World) :
    Calls Tryz.prog 50 #[x.val] w fun e w' => e = .returned (.bool x.may) ∧ Kept w w' := by
  have fin : ∀ r : Bool, (r = true ↔ x.may = true) → Ending.returned (.bool r) = Ending.returned (.bool x.may) := fun r h => by rw [Bool.eq_iff_iff.2 h]
  have HF := Lib.hid fin
  have HM := Lib.hid x.may_bool
  have HG0 := Lib.hid (fun W => mayGen_any x.gen W)
  have HG1 := Lib.hid (fun W => mayGen_any x.nxt W)
  have HH := Lib.hid (fun W => mayHead_any x.row x.st x.len W)
  have B0 : Hid (genB x.gen = true ↔ 1 ≤ x.gen ∧ x.gen ≤ 281474976710656) := by show _; unfold genB; exact decide_eq_true_iff
  have B1 : Hid (genB x.nxt = true ↔ 1 ≤ x.nxt ∧ x.nxt ≤ 281474976710656) := by show _; unfold genB; exact decide_eq_true_iff
  have BH : Hid (headB x.row x.st x.len = true ↔ 0 ≤ x.row ∧ x.row ≤ 4096 ∧ (1 ≤ x.st ∧ x.st ≤ 281474976710656) ∧ 1 ≤ x.len ∧ x.len ≤ 5376) := by show _; unfold headB; exact decide_eq_true_iff
  have X0 := Lib.hid (RtAt.laid w 38 x)
  clear fin
  obtain ⟨a, b, c, d, l⟩ := x
  unfold Rt.val
  dsimp only at *
  generalize Rt.may ⟨a, b, c, d, l⟩ = mb at *
  generalize genB a = ga at *
  generalize genB b = gb at *
  generalize headB c d l = gh at *
  go_enter Tryz.func50, Tryz.ntmps50
  go_wp2_with fail
  refine (HG0.out _).mono ?_
  rintro e w1 ⟨rfl, hk⟩
  have K1 : Hid (Kept w w1) := ((Kept.refl _).alloc _).trans hk
  have X1 := Lib.hid (X0.out.kept hk)
  clear hk HG0 X0
  cases ga with
  | false =>
    go_wp2_with fail
    go_ret
    refine ⟨HF.out _ ?_, K1.out⟩
    rw [HM.out]
    have := B0.out
    clear HF HM
    simp at this ⊢
    omega
  | true =>
    have x1 := X1.out.c1
    dsimp only at x1
    go_wp2_with fail
    refine (HG1.out _).mono ?_
    rintro e w2 ⟨rfl, hk⟩
    have K2 : Hid (Kept w w2) := K1.out.trans hk
    have X2 := Lib.hid (X1.out.kept hk)
    clear hk HG1 X1 K1 x1
    cases gb with
    | false =>
      go_wp2_with fail
      go_ret
      refine ⟨HF.out _ ?_, K2.out⟩
      rw [HM.out]
      have := B1.out
      clear HF HM
      simp at this ⊢
      omega
    | true =>
      have x2 := X2.out.c2
      have x3 := X2.out.c3
      have x4 := X2.out.c4
      dsimp only at x2 x3 x4
      have h0 := B0.out.1 trivial
      have h1 := B1.out.1 rfl
      have HFIN : Hid (∀ r : Bool, (r = true ↔ (c = 0 ∧ d = 0 ∧ l = 0) ∨ gh = true) → Ending.returned (.bool r) = Ending.returned (.bool mb)) := fun r hr => HF.out r (by rw [HM.out, hr, BH.out]; omega)
      clear HF HM BH B0 B1 X2 h0 h1
      go_wp2_with fail
      all_goals first
        | (go_ret; exact ⟨HFIN.out _ (by simp [*]), K2.out⟩)
        | (subst_vars
           refine (HH.out _).mono ?_
           rintro e w3 ⟨rfl, hk⟩
           go_wp2_with fail
           go_ret
           exact ⟨HFIN.out _ (by simp [*]), K2.out.trans hk⟩)
end Go.Proofs.YtoekaabngjjefaaGreat

/- The program's: which geos may be; does a rack fit. -/
namespace Go.Proofs.YtoekaabngjjefaaGreat
open Go.RowKit Sm Wr _root_.Go.Proofs.YtoekaabngjjefaaGreat.Nm
set_option linter.unusedVariables false
theorem slotOf_any (x : Rt) (w : World) :
    Calls Tryz.prog 26 #[x.val] w fun e w' => e = .returned (.int .i64 (x.me : Nat)) ∧ Kept w w' := by
  have X0 := Lib.hid (RtAt.laid w 38 x)
  have ht1 : (x.gen : Int).tmod 2 = (x.me : Nat) := by unfold Rt.me; rw [Int.tmod_eq_emod_of_nonneg (by omega)]; omega
  have ht2 : IntKind.u64.wrap (x.me : Int) = (x.me : Int) := IntWalk.u64_in _ (by have := x.me_lt; omega)
  have ht3 : IntKind.i64.wrap (x.me : Int) = (x.me : Int) := IntWalk.i64_in _ (by have := x.me_lt; omega)
  unfold Rt.val
  go_enter Tryz.func26, Tryz.ntmps26
  go_wp2_with fail
  go_ret
  exact ⟨rfl, (Kept.refl _).alloc _⟩
theorem ahead_any (g : Geo) (w : World) (h1 : 2 ≤ g.t) (h2 : g.t ≤ 512) :
    Calls Tryz.prog 82 #[g.val] w fun e w' => e = .returned (.int .i64 (2 + 2 * g.t)) ∧ Kept w w' := by
  obtain ⟨a, b, c, d⟩ := g
  dsimp only at h1 h2 ⊢
  unfold Geo.val
  dsimp only
  go_enter Tryz.func82, Tryz.ntmps82
  go_wp2_with fail
  go_ret
  exact ⟨rfl, (Kept.refl _).alloc _⟩
theorem wp_quietG {P : Program} {C : World → Prop} {id : Nat} {Q : Exit → Act → World → Prop} {a : Act} {w : World} {l : List Oper} (hm : P.follows .mixedOrders = true) (hB : Region.lexB .any l.toArray = true) (hC : C w.drew)
    (h : wpQuiet P l.toArray C (fun a' => ∀ w', C w' → Q .normal a' w') l a) : (Code.region id l.toArray true).wp P Q a w :=
  wp_region_quiet (C := C) hm hB hC (by simpa using h)
set_option maxHeartbeats 2000000 in
set_option maxRecDepth 100000 in
theorem pGeo_any (g : Geo) (w : World) :
    Calls Tryz.prog 54 #[g.val] w fun e w' => e = .returned (.bool g.may) ∧ Kept w w' := by
  have fin : ∀ r : Bool, (r = true ↔ g.may = true) → Ending.returned (.bool r) = Ending.returned (.bool g.may) := fun r h => by rw [Bool.eq_iff_iff.2 h]
  have HM := Lib.hid g.may_iff
  have HF := Lib.hid fin
  have HA := Lib.hid (fun W h1 h2 => ahead_any g W h1 h2)
  have HG := Lib.hid (fun W k => (GeoAt.laid w 23 g).kept (w' := W) k)
  clear fin
  obtain ⟨a, b, c, d⟩ := g
  have HCL : Hid (∀ W, Kept (w.alloc (.cells #[.int .i64 a, .int .i64 b, .int .i64 c, .int .i64 d] 23)) W → W.cell? ⟨w.heap.size, 0, none⟩ = some (.int .i64 a) ∧ W.cell? ⟨w.heap.size, 1, none⟩ = some (.int .i64 b) ∧ W.cell? ⟨w.heap.size, 2, none⟩ = some (.int .i64 c) ∧ W.cell? ⟨w.heap.size, 3, none⟩ = some (.int .i64 d)) := fun W k => ⟨(HG.out W k).c0, (HG.out W k).c1, (HG.out W k).c2, (HG.out W k).c3⟩
  clear HG
  unfold Geo.val at *
  dsimp only at *
  generalize Geo.may ⟨a, b, c, d⟩ = mb at *
  have HK0 : Hid (Kept w (w.alloc (.cells #[.int .i64 a, .int .i64 b, .int .i64 c, .int .i64 d] 23))) := (Kept.refl _).alloc _
  by_cases h : 1 ≤ a ∧ a ≤ 12 ∧ 0 ≤ b ∧ b < a ∧ 2 ≤ d ∧ d ≤ 512
  · obtain ⟨h1, h2, h3, h4, h5, h6⟩ := h
    have HA2 := Lib.hid (fun W => HA.out W h5 h6)
    have b1 : decide (1 ≤ a) = true := decide_eq_true h1
    have b2 : decide (a ≤ 12) = true := decide_eq_true h2
    have b3 : decide (0 ≤ b) = true := decide_eq_true h3
    have b4 : decide (b < a) = true := decide_eq_true h4
    have b5 : decide (2 ≤ d) = true := decide_eq_true h5
    have b6 : decide (d ≤ 512) = true := decide_eq_true h6
    clear HA
    go_enter Tryz.func54, Tryz.ntmps54
    go_wp2_with fail
    generalize w.alloc (.cells #[.int .i64 a, .int .i64 b, .int .i64 c, .int .i64 d] 23) = w1 at *
    refine wp_quietG (C := fun W => Kept w1 W) (by kernel_rfl) (by kernel_rfl) ((Kept.refl w1).drew) ?_
    have hw : IntKind.i64.wrap (2 + 2 * d + 8) = 2 + 2 * d + 8 := IntWalk.i64_in _ (by omega)
    by_cases h7 : 2 + 2 * d + 8 ≤ c
    · have b7 : decide (2 + 2 * d + 8 ≤ c) = true := decide_eq_true h7
      repeat (first
        | go_big_quiet_skip
        | (go_big_quiet_want
           refine ⟨_, fun W hW => by
             obtain ⟨c0, c1, c2, c3⟩ := HCL.out W hW
             unfold Oper.quietAt
             go_simp
             first
               | exact rfl
               | exact (HA2.out W).mono fun e w' h => ⟨h.1, hW.trans h.2⟩, ?_⟩
           go_simp
           go_big_quiet_on))
      refine wpQuiet_nil ?_
      intro W hW
      have HKW : Hid (Kept w W) := HK0.out.trans hW
      clear hW
      go_wp2_with fail
      go_ret
      refine ⟨HF.out _ ?_, HKW.out⟩
      rw [HM.out]
      clear HF HM
      simp only [decide_eq_true_eq, h1, h2, h3, h4, h5, h6, true_and]
      omega
    · have b7 : decide (2 + 2 * d + 8 ≤ c) = false := decide_eq_false h7
      repeat (first
        | go_big_quiet_skip
        | (go_big_quiet_want
           refine ⟨_, fun W hW => by
             obtain ⟨c0, c1, c2, c3⟩ := HCL.out W hW
             unfold Oper.quietAt
             go_simp
             first
               | exact rfl
               | exact (HA2.out W).mono fun e w' h => ⟨h.1, hW.trans h.2⟩, ?_⟩
           go_simp
           go_big_quiet_on))
      refine wpQuiet_nil ?_
      intro W hW
      have HKW : Hid (Kept w W) := HK0.out.trans hW
      clear hW
      go_wp2_with fail
      go_ret
      refine ⟨HF.out _ ?_, HKW.out⟩
      rw [HM.out]
      clear HF HM
      simp only [Bool.false_eq_true, h1, h2, h3, h4, h5, h6, true_and, false_iff]
      omega
  · have hf : ∀ r, r = false → Ending.returned (.bool r) = Ending.returned (.bool mb) := fun r hr => HF.out r (by rw [HM.out, hr]; exact ⟨fun h => Bool.noConfusion h, fun hh => absurd ⟨hh.1, hh.2.1, hh.2.2.1, hh.2.2.2.1, hh.2.2.2.2.1, hh.2.2.2.2.2.1⟩ h⟩)
    have HFF := Lib.hid hf
    have key : decide (1 ≤ a) = false ∨ (decide (1 ≤ a) = true ∧ decide (a ≤ 12) = false) ∨ (decide (1 ≤ a) = true ∧ decide (a ≤ 12) = true ∧ decide (0 ≤ b) = false) ∨ (decide (1 ≤ a) = true ∧ decide (a ≤ 12) = true ∧ decide (0 ≤ b) = true ∧ decide (b < a) = false) ∨ (decide (1 ≤ a) = true ∧ decide (a ≤ 12) = true ∧ decide (0 ≤ b) = true ∧ decide (b < a) = true ∧ decide (2 ≤ d) = false) ∨ (decide (1 ≤ a) = true ∧ decide (a ≤ 12) = true ∧ decide (0 ≤ b) = true ∧ decide (b < a) = true ∧ decide (2 ≤ d) = true ∧ decide (d ≤ 512) = false) := by
      simp only [decide_eq_true_eq, decide_eq_false_iff_not]
      omega
    clear hf HM HF h HA
    go_enter Tryz.func54, Tryz.ntmps54
    go_wp2_with fail
    generalize w.alloc (.cells #[.int .i64 a, .int .i64 b, .int .i64 c, .int .i64 d] 23) = w1 at *
    refine wp_quietG (C := fun W => Kept w1 W) (by kernel_rfl) (by kernel_rfl) ((Kept.refl w1).drew) ?_
    rcases key with b1 | ⟨b1, b2⟩ | ⟨b1, b2, b3⟩ | ⟨b1, b2, b3, b4⟩ | ⟨b1, b2, b3, b4, b5⟩ | ⟨b1, b2, b3, b4, b5, b6⟩
    all_goals
      repeat (first
        | go_big_quiet_skip
        | (go_big_quiet_want
           refine ⟨_, fun W hW => by
             obtain ⟨c0, c1, c2, c3⟩ := HCL.out W hW
             unfold Oper.quietAt
             go_simp
             exact rfl, ?_⟩
           go_simp
           go_big_quiet_on))
      refine wpQuiet_nil ?_
      intro W hW
      have HKW : Hid (Kept w W) := HK0.out.trans hW
      clear hW
      go_wp2_with fail
      go_ret
      exact ⟨HFF.out _ rfl, HKW.out⟩
end Go.Proofs.YtoekaabngjjefaaGreat

/- The program's: does a rack fit a geo. -/
namespace Go.Proofs.YtoekaabngjjefaaGreat
open Go.RowKit Sm Wr _root_.Go.Proofs.YtoekaabngjjefaaGreat.Nm
set_option linter.unusedVariables false
def fitE (s : RSt) (g : Geo) : Nat := if g.fits s = true then 0 else 2
set_option maxHeartbeats 2000000 in
set_option maxRecDepth 100000 in
theorem fits_any (G : Nat) (s : RSt) (g : Geo) (w : World) (hR : RackAt G s w) :
    Calls Tryz.prog 23 #[.pointer (some ⟨G + 1, 0, none⟩), g.val] w fun e w' => e = .returned (.int .i64 (fitE s g : Nat)) ∧ Kept w w' := by
  have HM := Lib.hid (fun W => pGeo_any g W)
  have HE : Hid (fitE s g = if (g.may && decide ((s.n : Int) = g.n) && decide ((s.m : Int) = g.m)) = true then 0 else 2) := rfl
  have hn1 : 1 ≤ s.n := hR.wf.n1
  have HD := Lib.hid (fun W k => drives_any (some ⟨G + 1, 0, none⟩) s.n W (hR.kept (w' := W) k).has)
  have HS := Lib.hid (fun W k => sectors_any G s W (hR.kept (w' := W) k))
  have HG := Lib.hid (fun W k => (GeoAt.laid w 23 g).kept (w' := W) k)
  have hK0 := Lib.hid ((Kept.refl w).alloc (.cells #[.int .i64 g.n, .int .i64 g.p, .int .i64 g.m, .int .i64 g.t] 23))
  clear hR
  obtain ⟨a, b, c, d⟩ := g
  have HCL : Hid (∀ W, Kept (w.alloc (.cells #[.int .i64 a, .int .i64 b, .int .i64 c, .int .i64 d] 23)) W → W.cell? ⟨w.heap.size, 0, none⟩ = some (.int .i64 a) ∧ W.cell? ⟨w.heap.size, 1, none⟩ = some (.int .i64 b) ∧ W.cell? ⟨w.heap.size, 2, none⟩ = some (.int .i64 c) ∧ W.cell? ⟨w.heap.size, 3, none⟩ = some (.int .i64 d)) := fun W k => ⟨(HG.out W k).c0, (HG.out W k).c1, (HG.out W k).c2, (HG.out W k).c3⟩
  clear HG
  unfold Geo.val at *
  dsimp only at *
  generalize fitE s ⟨a, b, c, d⟩ = fb at *
  generalize Geo.may ⟨a, b, c, d⟩ = mb at *
  have hnz : ((s.n : Int) == 0) = false := by rw [beq_eq_false_iff_ne]; omega
  go_enter Tryz.func23, Tryz.ntmps23
  go_wp2_with fail
  refine (HD.out _ hK0.out).mono ?_
  rintro e w1 ⟨rfl, rfl⟩
  go_wp2_with fail
  generalize w.alloc (.cells #[.int .i64 a, .int .i64 b, .int .i64 c, .int .i64 d] 23) = w1 at *
  refine wp_quietG (C := fun W => Kept w1 W) (by kernel_rfl) (by kernel_rfl) ((Kept.refl w1).drew) ?_
  have key : (mb = false ∧ fb = 2) ∨ (mb = true ∧ ((s.n : Int) != a) = true ∧ fb = 2) ∨ (mb = true ∧ ((s.n : Int) != a) = false ∧ ((s.m : Int) != c) = true ∧ fb = 2) ∨ (mb = true ∧ ((s.n : Int) != a) = false ∧ ((s.m : Int) != c) = false ∧ fb = 0) := by
    rw [HE.out]
    cases mb
    · exact .inl ⟨rfl, rfl⟩
    · by_cases h1 : (s.n : Int) = a
      · by_cases h2 : (s.m : Int) = c
        · exact .inr (.inr (.inr ⟨rfl, by simp [h1], by simp [h2], by simp [h1, h2]⟩))
        · exact .inr (.inr (.inl ⟨rfl, by simp [h1], by simp [h2], by simp [h2]⟩))
      · exact .inr (.inl ⟨rfl, by simp [h1], by simp [h1]⟩)
  rcases key with ⟨rfl, rfl⟩ | ⟨rfl, e1, rfl⟩ | ⟨rfl, e1, e2, rfl⟩ | ⟨rfl, e1, e2, rfl⟩
  all_goals
    clear HE
    repeat (first
      | go_big_quiet_skip
      | (go_big_quiet_want
         refine ⟨_, fun W hW => by
           obtain ⟨c0, c1, c2, c3⟩ := HCL.out W hW
           unfold Oper.quietAt
           go_simp
           first
             | exact rfl
             | exact (HM.out W).mono fun e w' h => ⟨h.1, hW.trans h.2⟩
             | exact (HD.out W (hK0.out.trans hW)).mono fun e w' h => ⟨h.1, by rw [h.2]; exact hW⟩
             | exact (HS.out W (hK0.out.trans hW)).mono fun e w' h => ⟨h.1, hW.trans h.2⟩, ?_⟩
         go_simp
         go_big_quiet_on))
    refine wpQuiet_nil ?_
    intro W hW
    have HKW : Hid (Kept w W) := hK0.out.trans hW
    clear hW
    go_wp2_with fail
    go_ret
    exact ⟨rfl, HKW.out⟩
theorem fits_nil (g : Geo) (w : World) :
    Calls Tryz.prog 23 #[.pointer none, g.val] w fun e w' => e = .returned (.int .i64 1) ∧ Kept w w' := by
  have HD := Lib.hid (fun W => drives_any none 0 W (.inl ⟨rfl, rfl⟩))
  obtain ⟨a, b, c, d⟩ := g
  unfold Geo.val
  dsimp only
  go_enter Tryz.func23, Tryz.ntmps23
  go_wp2_with fail
  refine (HD.out _).mono ?_
  rintro e w1 ⟨rfl, rfl⟩
  go_wp2_with fail
  go_ret
  exact ⟨rfl, (Kept.refl _).alloc _⟩
end Go.Proofs.YtoekaabngjjefaaGreat

