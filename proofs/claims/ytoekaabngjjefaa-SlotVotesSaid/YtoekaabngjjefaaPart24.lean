/- SlotPVote, SlotPNil, SlotHold, SlotMixed, SlotAliveM, SlotAlive. -/
import Derived.Test.YtoekaabngjjefaaPart23
import Derived.Test.YtoekaabngjjefaaPart22
import Derived.Deep.RegionHeldLaw
import Derived.Test.YtoekaabngjjefaaPart19
import Derived.Test.YtoekaabngjjefaaPart20
/- The program's Vote. -/
namespace Go.Proofs.Ytoekaabngjjefaa
open Go.RowKit Sm Wr _root_.Go.Proofs.Ytoekaabngjjefaa.Nm
set_option linter.unusedVariables false
theorem hasR_sl (s : RSt) (x : Rt) (d : Nat) (h0 : 0 < x.gen) : hasR x (slotsR s d) = (if x.gen % 2 = 0 then (slR s d).1 else (slR s d).2).same x := by
  unfold slR
  cases slotsR s d with
  | none =>
    show false = _
    symm
    rw [Bool.eq_false_iff]
    intro h
    have h2 := (Rt.same_iff _ _).1 h
    split at h2
    · rw [← h2] at h0; exact absurd h0 (by decide)
    · rw [← h2] at h0; exact absurd h0 (by decide)
  | some ab => rfl
set_option maxHeartbeats 6000000 in
set_option maxRecDepth 100000 in
theorem pVote_any (G : Nat) (s : RSt) (g : Geo) (w : World) (hR : RackAt G s w) :
    Calls Try.prog 19 #[.pointer (some ⟨G + 1, 0, none⟩), g.val] w fun e w' => (∃ hv, e = .returned (.tuple #[(voteR s g).1.val, hv, .int .i64 ((voteR s g).2.2 : Nat)]) ∧ GatB w.heap.size hv (voteR s g).2.1 w') ∧ Kept w w' := by
  have HFI := Lib.hid (fun W h => fits_any G s g W h)
  have HFE : Hid (fitE s g = if g.fits s = true then 0 else 2) := rfl
  have hn1 : 1 ≤ s.n := hR.wf.n1
  have hn12 : s.n ≤ 12 := hR.wf.n2
  have HRO := Lib.hid (fun W h => rootsOf_any G s s.n hn1 hn12 W h)
  have G0 := Lib.hid ((GeoAt.laid w 41 g).kept ((Kept.refl _).alloc (.cells #[.int .u64 0, .int .u64 0, .int .i64 0, .int .u64 0, .int .i64 0] 26)))
  have HX0 : Hid (RtAt ((w.alloc (.cells #[.int .i64 g.n, .int .i64 g.p, .int .i64 g.m, .int .i64 g.t] 41)).alloc (.cells #[.int .u64 0, .int .u64 0, .int .i64 0, .int .u64 0, .int .i64 0] 26)) (w.heap.size + 1) Rt.none) := by
    have := RtAt.new (w.alloc (.cells #[.int .i64 g.n, .int .i64 g.p, .int .i64 g.m, .int .i64 g.t] 41)) 26
    rw [size_alloc] at this
    exact this
  have K0 : Hid (Kept w ((w.alloc (.cells #[.int .i64 g.n, .int .i64 g.p, .int .i64 g.m, .int .i64 g.t] 41)).alloc (.cells #[.int .u64 0, .int .u64 0, .int .i64 0, .int .u64 0, .int .i64 0] 26))) := ((Kept.refl _).alloc _).alloc _
  have HV : Hid (voteR s g = if g.fits s = false then (Rt.none, [], 2) else if s.down = true then (Rt.none, [], 71) else if g.p < ((vTo s s.n).2 : Nat) then (Rt.none, [], 90) else ((vTo s s.n).1, (List.range s.n).map (fun d => hasR (vTo s s.n).1 (slotsR s d)), 0)) := rfl
  replace hR := Lib.hid hR
  unfold Geo.val at *
  generalize voteR s g = vr at *
  generalize fitE s g = fe at *
  go_enter Try.func19, Try.ntmps19
  go_upto_region 1 with fail
  generalize (w.alloc (.cells #[.int .i64 g.n, .int .i64 g.p, .int .i64 g.m, .int .i64 g.t] 41)).alloc (.cells #[.int .u64 0, .int .u64 0, .int .i64 0, .int .u64 0, .int .i64 0] 26) = w0 at *
  have g0 := G0.out.c0
  have g1 := G0.out.c1
  have g2 := G0.out.c2
  have g3 := G0.out.c3
  go_wp2_with fail
  refine (HFI.out _ (hR.out.kept K0.out)).mono ?_
  rintro e u1 ⟨rfl, hk⟩
  have K1 : Hid (Kept w u1) := K0.out.trans hk
  have G1 := Lib.hid (G0.out.kept hk)
  have X1 := Lib.hid (HX0.out.kept hk)
  clear hk HFI G0 HX0 K0 g0 g1 g2 g3
  cases hf : g.fits s with
  | false =>
    have hvr : vr = (Rt.none, [], 2) := by rw [HV.out, hf, if_pos rfl]
    have hfe : fe = 2 := by rw [HFE.out, hf]; rfl
    subst hfe
    subst hvr
    clear HV hf HFE
    have HP := Lib.hid (X1.out.put Rt.none)
    have HKP := Lib.hid (putRt_kept K1.out (w.heap.size + 1) Rt.none (by omega))
    obtain ⟨p0, p1, p2, p3, p4, f0, f1, f2, f3, f4⟩ := X1.out
    unfold putRt at HP HKP
    dsimp only [Rt.none] at HP HKP p0 p1 p2 p3 p4
    go_wp2_with fail
    exact bodyPost_ret (v := .tuple #[Rt.none.val, .slice none 0 0, .int .i64 2]) (by have q0 := HP.out.c0; have q1 := HP.out.c1; have q2 := HP.out.c2; have q3 := HP.out.c3; have q4 := HP.out.c4; (try simp at q0 q1 q2 q3 q4); simp [results, Try.results19, go_sem, Rt.val, Rt.none, q0, q1, q2, q3, q4]) rfl ⟨⟨_, rfl, GatB.nil _ _⟩, HKP.out⟩
  | true =>
    have hfe : fe = 0 := by rw [HFE.out, hf]; rfl
    subst hfe
    obtain ⟨hgn, hgp⟩ : (s.n : Int) = g.n ∧ g.p < (s.n : Int) := by
      unfold Geo.fits at hf
      simp only [Bool.and_eq_true, decide_eq_true_eq] at hf
      have := ((Geo.may_iff g).1 hf.1.1).2.2.2.1
      exact ⟨hf.1.2, by omega⟩
    rw [hf, if_neg (by decide)] at HV
    have g0 := G1.out.c0
    have HGN := Lib.hid hgn
    rw [hgn] at HRO
    clear hf HFE hgn
    go_wp2_with fail
    refine (HRO.out _ (hR.out.kept K1.out)).mono ?_
    rintro e u2 ⟨⟨v, rfl, hdn1, hdn0⟩, hk⟩
    have K2 : Hid (Kept w u2) := K1.out.trans hk
    have G2 := Lib.hid (G1.out.kept hk)
    have X2 := Lib.hid (X1.out.kept hk)
    have hu1 : w.heap.size + 1 < u1.heap.size := X1.out.lt
    clear hk HRO G1 X1 K1 g0
    cases hdn : s.down with
    | true =>
      have hvr : vr = (Rt.none, [], 71) := by rw [HV.out, hdn, if_pos rfl]
      have hv := hdn1 hdn
      subst hvr
      subst hv
      clear HV hdn1 hdn0 hdn
      have HP := Lib.hid (X2.out.put Rt.none)
      have HKP := Lib.hid (putRt_kept K2.out (w.heap.size + 1) Rt.none (by omega))
      obtain ⟨p0, p1, p2, p3, p4, f0, f1, f2, f3, f4⟩ := X2.out
      unfold putRt at HP HKP
      dsimp only [Rt.none] at HP HKP p0 p1 p2 p3 p4
      go_wp2_with fail
      exact bodyPost_ret (v := .tuple #[Rt.none.val, .slice none 0 0, .int .i64 71]) (by have q0 := HP.out.c0; have q1 := HP.out.c1; have q2 := HP.out.c2; have q3 := HP.out.c3; have q4 := HP.out.c4; (try simp at q0 q1 q2 q3 q4); simp [results, Try.results19, go_sem, Rt.val, Rt.none, q0, q1, q2, q3, q4]) rfl ⟨⟨_, rfl, GatB.nil _ _⟩, HKP.out⟩
    | false =>
      obtain ⟨q, rfl, hqB, hRT⟩ := hdn0 hdn
      rw [hdn, if_neg (by decide)] at HV
      have HNE := Lib.hid (fun W (h : RtsAt W q s.n (slR s)) => newest_any q s.n (slR s) hn12 W h hn1)
      rw [nTo_vTo] at HNE
      have HVG := Lib.hid (vTo_gen s s.n)
      have A2 := Lib.hid hRT
      clear hdn1 hdn0 hdn hRT
      go_wp2_with fail
      refine (HNE.out _ A2.out).mono ?_
      rintro e u3 ⟨rfl, hk⟩
      have K3 : Hid (Kept w u3) := K2.out.trans hk
      have G3 := Lib.hid (G2.out.kept hk)
      have X3 := Lib.hid (X2.out.kept hk)
      have A3 := Lib.hid (A2.out.kept hk)
      clear hk HNE G2 X2 K2 A2
      generalize (vTo s s.n).2 = c at *
      generalize (vTo s s.n).1 = x at *
      have HP := Lib.hid (X3.out.put x)
      have HKP := Lib.hid (putRt_kept K3.out (w.heap.size + 1) x (by omega))
      have A4 := Lib.hid (A3.out.but (putRt_but u3 (w.heap.size + 1) x) (by omega))
      have G4 : Hid (GeoAt (putRt u3 (w.heap.size + 1) x) w.heap.size g) := G3.out.frame ((putRt_but u3 (w.heap.size + 1) x).block w.heap.size G3.out.lt (by omega))
      obtain ⟨p0, p1, p2, p3, p4, f0, f1, f2, f3, f4⟩ := X3.out
      dsimp only [Rt.none] at p0 p1 p2 p3 p4
      unfold putRt at HP HKP A4 G4
      clear X3 K3 A3 G3
      unfold Rt.val
      go_upto_region 8 with fail
      clear p0 p1 p2 p3 p4 f0 f1 f2 f3 f4
      generalize ((((u3.setCell ⟨w.heap.size + 1, 0, none⟩ (.int .u64 (x.gen : Nat))).setCell ⟨w.heap.size + 1, 1, none⟩ (.int .u64 (x.nxt : Nat))).setCell ⟨w.heap.size + 1, 2, none⟩ (.int .i64 x.row)).setCell ⟨w.heap.size + 1, 3, none⟩ (.int .u64 (x.st : Nat))).setCell ⟨w.heap.size + 1, 4, none⟩ (.int .i64 x.len) = wL at *
      have g1 := G4.out.c1
      by_cases hlost : g.p < (c : Int)
      · have b1 : decide (g.p < (c : Int)) = true := decide_eq_true hlost
        have hvr : vr = (Rt.none, [], 90) := by rw [HV.out, if_pos hlost]
        subst hvr
        have HP2 := Lib.hid (HP.out.put Rt.none)
        have HKP2 := Lib.hid (putRt_kept HKP.out (w.heap.size + 1) Rt.none (by omega))
        obtain ⟨p0, p1, p2, p3, p4, f0, f1, f2, f3, f4⟩ := HP.out
        unfold putRt at HP2 HKP2
        dsimp only [Rt.none] at HP2 HKP2
        clear HP HKP HV A4 G4
        have HP := HP2
        have HKP := HKP2
        clear HP2 HKP2
        go_wp2_with fail
        exact bodyPost_ret (v := .tuple #[Rt.none.val, .slice none 0 0, .int .i64 90]) (by have q0 := HP.out.c0; have q1 := HP.out.c1; have q2 := HP.out.c2; have q3 := HP.out.c3; have q4 := HP.out.c4; (try simp at q0 q1 q2 q3 q4); simp [results, Try.results19, go_sem, Rt.val, Rt.none, q0, q1, q2, q3, q4]) rfl ⟨⟨_, rfl, GatB.nil _ _⟩, HKP.out⟩
      · have b1 : decide (g.p < (c : Int)) = false := decide_eq_false hlost
        have hvr : vr = (x, (List.range s.n).map (fun d => hasR x (slotsR s d)), 0) := by rw [HV.out, if_neg hlost]
        have hxg : 0 < x.gen := by
          rcases HVG.out with h | h
          · omega
          · exact h
        have HHS := Lib.hid (fun d => hasR_sl s x d hxg)
        subst hvr
        clear HV HVG hlost
        generalize hhf : (fun d => hasR x (slotsR s d)) = hf at *
        go_upto_region 11 with fail
        clear G4 g1 b1
        have hBL : w.heap.size + 1 < wL.heap.size := HP.out.lt
        have HWL : Hid (w.heap.size ≤ wL.heap.size) := by show _ ≤ _; omega
        go_loopg [5, 42] s.n (fun gh v5 i wr => ∃ d : Nat, d + gh = s.n ∧ i = .int .i64 d ∧ Hid (Kept wL wr ∧ GatB wL.heap.size v5 ((List.range d).map hf) wr))
        case atStart => exact ⟨0, by omega, rfl, Kept.refl _, GatB.nil _ _⟩
        case round =>
          obtain ⟨d, hd, rfl, HI⟩ := hrel
          cases gk with
          | succ gh =>
            have b1 : decide ((d : Int) < (s.n : Int)) = true := decide_eq_true (by omega)
            have b0 : decide (d < s.n) = true := decide_eq_true (by omega)
            have hdn : (d : Int) < (s.n : Int) := by omega
            obtain ⟨a, ha⟩ : ∃ a, a = (slR s d).1 := ⟨_, rfl⟩
            obtain ⟨b, hb⟩ : ∃ b, b = (slR s d).2 := ⟨_, rfl⟩
            have HHF : Hid (hf d = (if x.gen % 2 = 0 then a else b).same x) := by show _ = _; rw [ha, hb, ← HHS.out d, ← hhf]
            have A5 := A4.out.kept HI.out.1
            obtain ⟨q0, q1, q2, q3, q4⟩ := A5.lo d (by omega)
            obtain ⟨q5, q6, q7, q8, q9⟩ := A5.hi d (by omega)
            rw [← ha] at q0 q1 q2 q3 q4
            rw [← hb] at q5 q6 q7 q8 q9
            have KL := Lib.hid HI.out.1
            have GB := Lib.hid HI.out.2
            clear HI ha hb A5
            have kx : Kept wr (wr.alloc (.cells #[.int .u64 (a.gen : Nat), .int .u64 (a.nxt : Nat), .int .i64 a.row, .int .u64 (a.st : Nat), .int .i64 a.len, .int .u64 (b.gen : Nat), .int .u64 (b.nxt : Nat), .int .i64 b.row, .int .u64 (b.st : Nat), .int .i64 b.len] 94)) := (Kept.refl _).alloc _
            have hten : ∀ j v, (#[.int .u64 (a.gen : Nat), .int .u64 (a.nxt : Nat), .int .i64 a.row, .int .u64 (a.st : Nat), .int .i64 a.len, .int .u64 (b.gen : Nat), .int .u64 (b.nxt : Nat), .int .i64 b.row, .int .u64 (b.st : Nat), .int .i64 b.len] : Array Value)[j]? = some v → (wr.alloc (.cells #[.int .u64 (a.gen : Nat), .int .u64 (a.nxt : Nat), .int .i64 a.row, .int .u64 (a.st : Nat), .int .i64 a.len, .int .u64 (b.gen : Nat), .int .u64 (b.nxt : Nat), .int .i64 b.row, .int .u64 (b.st : Nat), .int .i64 b.len] 94)).cell? ⟨wr.heap.size, j, none⟩ = some v := fun j v hv => by rw [World.cell?_alloc_mark]; exact hv
            have ra : Hid (RtIn (wr.alloc (.cells #[.int .u64 (a.gen : Nat), .int .u64 (a.nxt : Nat), .int .i64 a.row, .int .u64 (a.st : Nat), .int .i64 a.len, .int .u64 (b.gen : Nat), .int .u64 (b.nxt : Nat), .int .i64 b.row, .int .u64 (b.st : Nat), .int .i64 b.len] 94)) wr.heap.size 0 a) := ⟨hten 0 _ rfl, hten 1 _ rfl, hten 2 _ rfl, hten 3 _ rfl, hten 4 _ rfl⟩
            have rb : Hid (RtIn (wr.alloc (.cells #[.int .u64 (a.gen : Nat), .int .u64 (a.nxt : Nat), .int .i64 a.row, .int .u64 (a.st : Nat), .int .i64 a.len, .int .u64 (b.gen : Nat), .int .u64 (b.nxt : Nat), .int .i64 b.row, .int .u64 (b.st : Nat), .int .i64 b.len] 94)) wr.heap.size 5 b) := ⟨hten 5 _ rfl, hten 6 _ rfl, hten 7 _ rfl, hten 8 _ rfl, hten 9 _ rfl⟩
            have KL2 : Hid (Kept wL (wr.alloc (.cells #[.int .u64 (a.gen : Nat), .int .u64 (a.nxt : Nat), .int .i64 a.row, .int .u64 (a.st : Nat), .int .i64 a.len, .int .u64 (b.gen : Nat), .int .u64 (b.nxt : Nat), .int .i64 b.row, .int .u64 (b.st : Nat), .int .i64 b.len] 94))) := KL.out.trans kx
            have GB2 := Lib.hid (GB.out.kept kx)
            have HOWN : Hid (∀ k, Value.ownBlock u5 = some k → wL.heap.size ≤ k ∧ k < wr.heap.size) := World.ownsRow.lt GB.out
            have HPZ : Hid (wr.heap.size < (wr.alloc (.cells #[.int .u64 (a.gen : Nat), .int .u64 (a.nxt : Nat), .int .i64 a.row, .int .u64 (a.st : Nat), .int .i64 a.len, .int .u64 (b.gen : Nat), .int .u64 (b.nxt : Nat), .int .i64 b.row, .int .u64 (b.st : Nat), .int .i64 b.len] 94)).heap.size ∧ w.heap.size + 1 < wr.heap.size) := ⟨by rw [size_alloc]; omega, Nat.lt_of_lt_of_le hBL KL.out.size⟩
            have HLEN : Hid (((List.range d).map hf).length ≤ 1000000000) := by show _ ≤ _; simp; omega
            clear kx hten GB KL
            go_upto_region 13 with fail
            generalize wr.alloc (.cells #[.int .u64 (a.gen : Nat), .int .u64 (a.nxt : Nat), .int .i64 a.row, .int .u64 (a.st : Nat), .int .i64 a.len, .int .u64 (b.gen : Nat), .int .u64 (b.nxt : Nat), .int .i64 b.row, .int .u64 (b.st : Nat), .int .i64 b.len] 94) = W0 at *
            generalize wr.heap.size = P at *
            clear q0 q1 q2 q3 q4 q5 q6 q7 q8 q9
            rcases (show x.me = 0 ∨ x.me = 1 by have := x.me_lt; omega) with hme | hme
            · have HSO : Hid (∀ W, Calls Try.prog 35 #[.agg #[.int .u64 (x.gen : Nat), .int .u64 (x.nxt : Nat), .int .i64 x.row, .int .u64 (x.st : Nat), .int .i64 x.len]] W fun e w' => e = .returned (.int .i64 0) ∧ Kept W w') := fun W => by
                have := slotOf_any x W
                rw [hme] at this
                exact this
              have HHY : Hid (hf d = a.same x) := by show _ = _; rw [HHF.out]; unfold Rt.me at hme; rw [hme]; rfl
              clear HHF hme rb
              cases hsm : a.same x with
              | true =>
                have hxy : x = a := ((Rt.same_iff _ _).1 hsm).symm
                have HHV : Hid (hf d = true) := by show _ = _; rw [HHY.out, hsm]
                subst hxy
                clear HHY hsm
                have HKEEP : Hid (∀ W', Kept W0 W' → W'.cell? ⟨P, 0, none⟩ = some (.int .u64 (x.gen : Nat)) ∧ W'.cell? ⟨P, 1, none⟩ = some (.int .u64 (x.nxt : Nat)) ∧ W'.cell? ⟨P, 2, none⟩ = some (.int .i64 x.row) ∧ W'.cell? ⟨P, 3, none⟩ = some (.int .u64 (x.st : Nat)) ∧ W'.cell? ⟨P, 4, none⟩ = some (.int .i64 x.len) ∧ W'.cell? ⟨w.heap.size + 1, 0, none⟩ = some (.int .u64 (x.gen : Nat)) ∧ W'.cell? ⟨w.heap.size + 1, 1, none⟩ = some (.int .u64 (x.nxt : Nat)) ∧ W'.cell? ⟨w.heap.size + 1, 2, none⟩ = some (.int .i64 x.row) ∧ W'.cell? ⟨w.heap.size + 1, 3, none⟩ = some (.int .u64 (x.st : Nat)) ∧ W'.cell? ⟨w.heap.size + 1, 4, none⟩ = some (.int .i64 x.len)) := fun W' k => ⟨(ra.out.kept k).c0, (ra.out.kept k).c1, (ra.out.kept k).c2, (ra.out.kept k).c3, (ra.out.kept k).c4, (HP.out.kept (KL2.out.trans k)).c0, (HP.out.kept (KL2.out.trans k)).c1, (HP.out.kept (KL2.out.trans k)).c2, (HP.out.kept (KL2.out.trans k)).c3, (HP.out.kept (KL2.out.trans k)).c4⟩
                have HKEEP2 : Hid (∀ W W9 : World, Kept W0 W → (∀ b, b < W.heap.size → Value.ownBlock u5 ≠ some b → W9.heap[b]? = W.heap[b]?) → W9.cell? ⟨P, 0, none⟩ = some (.int .u64 (x.gen : Nat)) ∧ W9.cell? ⟨P, 1, none⟩ = some (.int .u64 (x.nxt : Nat)) ∧ W9.cell? ⟨P, 2, none⟩ = some (.int .i64 x.row) ∧ W9.cell? ⟨P, 3, none⟩ = some (.int .u64 (x.st : Nat)) ∧ W9.cell? ⟨P, 4, none⟩ = some (.int .i64 x.len) ∧ W9.cell? ⟨w.heap.size + 1, 0, none⟩ = some (.int .u64 (x.gen : Nat)) ∧ W9.cell? ⟨w.heap.size + 1, 1, none⟩ = some (.int .u64 (x.nxt : Nat)) ∧ W9.cell? ⟨w.heap.size + 1, 2, none⟩ = some (.int .i64 x.row) ∧ W9.cell? ⟨w.heap.size + 1, 3, none⟩ = some (.int .u64 (x.st : Nat)) ∧ W9.cell? ⟨w.heap.size + 1, 4, none⟩ = some (.int .i64 x.len)) := fun W W9 k hb => by
                  have hsz := k.size
                  have hpz := HPZ.out
                  have e1 := hb P (by omega) (fun h => by have := (HOWN.out _ h).2; omega)
                  have e2 := hb (w.heap.size + 1) (by omega) (fun h => by have := (HOWN.out _ h).1; omega)
                  have r1 := (ra.out.kept k).frame e1
                  have r2 := (HP.out.kept (KL2.out.trans k)).frame e2
                  exact ⟨r1.c0, r1.c1, r1.c2, r1.c3, r1.c4, r2.c0, r2.c1, r2.c2, r2.c3, r2.c4⟩
                have HKD : Hid (Kept W0 W0.drew) := (Kept.refl _).drew
                go_region_held_law (fun W' => W'.cell? ⟨P, 0, none⟩ = some (.int .u64 (x.gen : Nat)) ∧ W'.cell? ⟨P, 1, none⟩ = some (.int .u64 (x.nxt : Nat)) ∧ W'.cell? ⟨P, 2, none⟩ = some (.int .i64 x.row) ∧ W'.cell? ⟨P, 3, none⟩ = some (.int .u64 (x.st : Nat)) ∧ W'.cell? ⟨P, 4, none⟩ = some (.int .i64 x.len) ∧ W'.cell? ⟨w.heap.size + 1, 0, none⟩ = some (.int .u64 (x.gen : Nat)) ∧ W'.cell? ⟨w.heap.size + 1, 1, none⟩ = some (.int .u64 (x.nxt : Nat)) ∧ W'.cell? ⟨w.heap.size + 1, 2, none⟩ = some (.int .i64 x.row) ∧ W'.cell? ⟨w.heap.size + 1, 3, none⟩ = some (.int .u64 (x.st : Nat)) ∧ W'.cell? ⟨w.heap.size + 1, 4, none⟩ = some (.int .i64 x.len))
                  (first
                    | exact HKEEP.out _ (Kept.refl _)
                    | exact HKEEP.out _ HKD.out
                    | exact HKEEP.out _ (HKD.out.trans hkA)
                    | exact HKEEP.out _ ((HKD.out.trans hkA).alloc _)
                    | exact HKEEP2.out _ _ ((HKD.out.trans hkA).alloc _) hb9)
                  (first
                    | (go_at_call 35; refine (HSO.out _).mono ?_; rintro e wA ⟨rfl, hkA⟩)
                    | (refine step_gatb rfl (.tmp 46) (.tmp 53) rfl wL u5 ((List.range d).map hf) (by rfl) (GB2.out.kept ((HKD.out.trans hkA).alloc _)) (KL2.out.trans ((HKD.out.trans hkA).alloc _)) _ wA.heap.size (by rfl) (newR_cell _ _ _ 0 _ rfl) HLEN.out ?_; intro v9 w9 hG9 hK9 hs9 hb9))
                have HF9 : Hid (Kept wL w9 ∧ GatB wL.heap.size v9 ((List.range (d + 1)).map hf) w9) := ⟨hK9, by rw [List.range_succ, List.map_append, List.map_cons, List.map_nil, HHV.out]; exact hG9⟩
                clear hG9 hK9 hs9 hb9 hkA HKEEP HKEEP2
                go_wp2_with fail
                go_roundg gh
                case measure => omega
                case rel => exact ⟨d + 1, by omega, by go_num, HF9.out⟩
              | false =>
                have hxy : ¬ (a.gen = x.gen ∧ a.nxt = x.nxt ∧ a.row = x.row ∧ a.st = x.st ∧ a.len = x.len) := fun h => by
                  have h2 := (Rt.same_iff a x).2 (Rt.eq_of h.1 h.2.1 h.2.2.1 h.2.2.2.1 h.2.2.2.2)
                  rw [hsm] at h2
                  cases h2
                have HXY := Lib.hid hxy
                have HHV : Hid (hf d = false) := by show _ = _; rw [HHY.out, hsm]
                have key : (((a.gen : Int) = (x.gen : Int)) = False) ∨ (((a.gen : Int) = (x.gen : Int)) = True ∧ ((a.nxt : Int) = (x.nxt : Int)) = False) ∨ (((a.gen : Int) = (x.gen : Int)) = True ∧ ((a.nxt : Int) = (x.nxt : Int)) = True ∧ (a.row = x.row) = False) ∨ (((a.gen : Int) = (x.gen : Int)) = True ∧ ((a.nxt : Int) = (x.nxt : Int)) = True ∧ (a.row = x.row) = True ∧ ((a.st : Int) = (x.st : Int)) = False) ∨ (((a.gen : Int) = (x.gen : Int)) = True ∧ ((a.nxt : Int) = (x.nxt : Int)) = True ∧ (a.row = x.row) = True ∧ ((a.st : Int) = (x.st : Int)) = True ∧ (a.len = x.len) = False) := by
                  simp only [eq_iff_iff, iff_true, iff_false]
                  omega
                clear HHY hsm hxy HXY
                rcases key with d0 | ⟨d0, d1⟩ | ⟨d0, d1, d2⟩ | ⟨d0, d1, d2, d3⟩ | ⟨d0, d1, d2, d3, d4⟩
                all_goals
                  have HKEEP : Hid (∀ W', Kept W0 W' → W'.cell? ⟨P, 0, none⟩ = some (.int .u64 (a.gen : Nat)) ∧ W'.cell? ⟨P, 1, none⟩ = some (.int .u64 (a.nxt : Nat)) ∧ W'.cell? ⟨P, 2, none⟩ = some (.int .i64 a.row) ∧ W'.cell? ⟨P, 3, none⟩ = some (.int .u64 (a.st : Nat)) ∧ W'.cell? ⟨P, 4, none⟩ = some (.int .i64 a.len) ∧ W'.cell? ⟨w.heap.size + 1, 0, none⟩ = some (.int .u64 (x.gen : Nat)) ∧ W'.cell? ⟨w.heap.size + 1, 1, none⟩ = some (.int .u64 (x.nxt : Nat)) ∧ W'.cell? ⟨w.heap.size + 1, 2, none⟩ = some (.int .i64 x.row) ∧ W'.cell? ⟨w.heap.size + 1, 3, none⟩ = some (.int .u64 (x.st : Nat)) ∧ W'.cell? ⟨w.heap.size + 1, 4, none⟩ = some (.int .i64 x.len)) := fun W' k => ⟨(ra.out.kept k).c0, (ra.out.kept k).c1, (ra.out.kept k).c2, (ra.out.kept k).c3, (ra.out.kept k).c4, (HP.out.kept (KL2.out.trans k)).c0, (HP.out.kept (KL2.out.trans k)).c1, (HP.out.kept (KL2.out.trans k)).c2, (HP.out.kept (KL2.out.trans k)).c3, (HP.out.kept (KL2.out.trans k)).c4⟩
                  have HKEEP2 : Hid (∀ W W9 : World, Kept W0 W → (∀ b, b < W.heap.size → Value.ownBlock u5 ≠ some b → W9.heap[b]? = W.heap[b]?) → W9.cell? ⟨P, 0, none⟩ = some (.int .u64 (a.gen : Nat)) ∧ W9.cell? ⟨P, 1, none⟩ = some (.int .u64 (a.nxt : Nat)) ∧ W9.cell? ⟨P, 2, none⟩ = some (.int .i64 a.row) ∧ W9.cell? ⟨P, 3, none⟩ = some (.int .u64 (a.st : Nat)) ∧ W9.cell? ⟨P, 4, none⟩ = some (.int .i64 a.len) ∧ W9.cell? ⟨w.heap.size + 1, 0, none⟩ = some (.int .u64 (x.gen : Nat)) ∧ W9.cell? ⟨w.heap.size + 1, 1, none⟩ = some (.int .u64 (x.nxt : Nat)) ∧ W9.cell? ⟨w.heap.size + 1, 2, none⟩ = some (.int .i64 x.row) ∧ W9.cell? ⟨w.heap.size + 1, 3, none⟩ = some (.int .u64 (x.st : Nat)) ∧ W9.cell? ⟨w.heap.size + 1, 4, none⟩ = some (.int .i64 x.len)) := fun W W9 k hb => by
                    have hsz := k.size
                    have hpz := HPZ.out
                    have e1 := hb P (by omega) (fun h => by have := (HOWN.out _ h).2; omega)
                    have e2 := hb (w.heap.size + 1) (by omega) (fun h => by have := (HOWN.out _ h).1; omega)
                    have r1 := (ra.out.kept k).frame e1
                    have r2 := (HP.out.kept (KL2.out.trans k)).frame e2
                    exact ⟨r1.c0, r1.c1, r1.c2, r1.c3, r1.c4, r2.c0, r2.c1, r2.c2, r2.c3, r2.c4⟩
                  have HKD : Hid (Kept W0 W0.drew) := (Kept.refl _).drew
                  go_region_held_law (fun W' => W'.cell? ⟨P, 0, none⟩ = some (.int .u64 (a.gen : Nat)) ∧ W'.cell? ⟨P, 1, none⟩ = some (.int .u64 (a.nxt : Nat)) ∧ W'.cell? ⟨P, 2, none⟩ = some (.int .i64 a.row) ∧ W'.cell? ⟨P, 3, none⟩ = some (.int .u64 (a.st : Nat)) ∧ W'.cell? ⟨P, 4, none⟩ = some (.int .i64 a.len) ∧ W'.cell? ⟨w.heap.size + 1, 0, none⟩ = some (.int .u64 (x.gen : Nat)) ∧ W'.cell? ⟨w.heap.size + 1, 1, none⟩ = some (.int .u64 (x.nxt : Nat)) ∧ W'.cell? ⟨w.heap.size + 1, 2, none⟩ = some (.int .i64 x.row) ∧ W'.cell? ⟨w.heap.size + 1, 3, none⟩ = some (.int .u64 (x.st : Nat)) ∧ W'.cell? ⟨w.heap.size + 1, 4, none⟩ = some (.int .i64 x.len))
                    (first
                      | exact HKEEP.out _ (Kept.refl _)
                      | exact HKEEP.out _ HKD.out
                      | exact HKEEP.out _ (HKD.out.trans hkA)
                      | exact HKEEP.out _ ((HKD.out.trans hkA).alloc _)
                      | exact HKEEP2.out _ _ ((HKD.out.trans hkA).alloc _) hb9)
                    (first
                      | (go_at_call 35; refine (HSO.out _).mono ?_; rintro e wA ⟨rfl, hkA⟩)
                      | (refine step_gatb rfl (.tmp 46) (.tmp 53) rfl wL u5 ((List.range d).map hf) (by rfl) (GB2.out.kept ((HKD.out.trans hkA).alloc _)) (KL2.out.trans ((HKD.out.trans hkA).alloc _)) _ wA.heap.size (by rfl) (newR_cell _ _ _ 0 _ rfl) HLEN.out ?_; intro v9 w9 hG9 hK9 hs9 hb9))
                  have HF9 : Hid (Kept wL w9 ∧ GatB wL.heap.size v9 ((List.range (d + 1)).map hf) w9) := ⟨hK9, by rw [List.range_succ, List.map_append, List.map_cons, List.map_nil, HHV.out]; exact hG9⟩
                  clear hG9 hK9 hs9 hb9 hkA HKEEP HKEEP2
                  go_wp2_with fail
                  go_roundg gh
                  case measure => omega
                  case rel => exact ⟨d + 1, by omega, by go_num, HF9.out⟩
            · have HSO : Hid (∀ W, Calls Try.prog 35 #[.agg #[.int .u64 (x.gen : Nat), .int .u64 (x.nxt : Nat), .int .i64 x.row, .int .u64 (x.st : Nat), .int .i64 x.len]] W fun e w' => e = .returned (.int .i64 1) ∧ Kept W w') := fun W => by
                have := slotOf_any x W
                rw [hme] at this
                exact this
              have HHY : Hid (hf d = b.same x) := by show _ = _; rw [HHF.out]; unfold Rt.me at hme; rw [hme]; rfl
              clear HHF hme ra
              cases hsm : b.same x with
              | true =>
                have hxy : x = b := ((Rt.same_iff _ _).1 hsm).symm
                have HHV : Hid (hf d = true) := by show _ = _; rw [HHY.out, hsm]
                subst hxy
                clear HHY hsm
                have HKEEP : Hid (∀ W', Kept W0 W' → W'.cell? ⟨P, 5, none⟩ = some (.int .u64 (x.gen : Nat)) ∧ W'.cell? ⟨P, 6, none⟩ = some (.int .u64 (x.nxt : Nat)) ∧ W'.cell? ⟨P, 7, none⟩ = some (.int .i64 x.row) ∧ W'.cell? ⟨P, 8, none⟩ = some (.int .u64 (x.st : Nat)) ∧ W'.cell? ⟨P, 9, none⟩ = some (.int .i64 x.len) ∧ W'.cell? ⟨w.heap.size + 1, 0, none⟩ = some (.int .u64 (x.gen : Nat)) ∧ W'.cell? ⟨w.heap.size + 1, 1, none⟩ = some (.int .u64 (x.nxt : Nat)) ∧ W'.cell? ⟨w.heap.size + 1, 2, none⟩ = some (.int .i64 x.row) ∧ W'.cell? ⟨w.heap.size + 1, 3, none⟩ = some (.int .u64 (x.st : Nat)) ∧ W'.cell? ⟨w.heap.size + 1, 4, none⟩ = some (.int .i64 x.len)) := fun W' k => ⟨(rb.out.kept k).c0, (rb.out.kept k).c1, (rb.out.kept k).c2, (rb.out.kept k).c3, (rb.out.kept k).c4, (HP.out.kept (KL2.out.trans k)).c0, (HP.out.kept (KL2.out.trans k)).c1, (HP.out.kept (KL2.out.trans k)).c2, (HP.out.kept (KL2.out.trans k)).c3, (HP.out.kept (KL2.out.trans k)).c4⟩
                have HKEEP2 : Hid (∀ W W9 : World, Kept W0 W → (∀ b, b < W.heap.size → Value.ownBlock u5 ≠ some b → W9.heap[b]? = W.heap[b]?) → W9.cell? ⟨P, 5, none⟩ = some (.int .u64 (x.gen : Nat)) ∧ W9.cell? ⟨P, 6, none⟩ = some (.int .u64 (x.nxt : Nat)) ∧ W9.cell? ⟨P, 7, none⟩ = some (.int .i64 x.row) ∧ W9.cell? ⟨P, 8, none⟩ = some (.int .u64 (x.st : Nat)) ∧ W9.cell? ⟨P, 9, none⟩ = some (.int .i64 x.len) ∧ W9.cell? ⟨w.heap.size + 1, 0, none⟩ = some (.int .u64 (x.gen : Nat)) ∧ W9.cell? ⟨w.heap.size + 1, 1, none⟩ = some (.int .u64 (x.nxt : Nat)) ∧ W9.cell? ⟨w.heap.size + 1, 2, none⟩ = some (.int .i64 x.row) ∧ W9.cell? ⟨w.heap.size + 1, 3, none⟩ = some (.int .u64 (x.st : Nat)) ∧ W9.cell? ⟨w.heap.size + 1, 4, none⟩ = some (.int .i64 x.len)) := fun W W9 k hb => by
                  have hsz := k.size
                  have hpz := HPZ.out
                  have e1 := hb P (by omega) (fun h => by have := (HOWN.out _ h).2; omega)
                  have e2 := hb (w.heap.size + 1) (by omega) (fun h => by have := (HOWN.out _ h).1; omega)
                  have r1 := (rb.out.kept k).frame e1
                  have r2 := (HP.out.kept (KL2.out.trans k)).frame e2
                  exact ⟨r1.c0, r1.c1, r1.c2, r1.c3, r1.c4, r2.c0, r2.c1, r2.c2, r2.c3, r2.c4⟩
                have HKD : Hid (Kept W0 W0.drew) := (Kept.refl _).drew
                go_region_held_law (fun W' => W'.cell? ⟨P, 5, none⟩ = some (.int .u64 (x.gen : Nat)) ∧ W'.cell? ⟨P, 6, none⟩ = some (.int .u64 (x.nxt : Nat)) ∧ W'.cell? ⟨P, 7, none⟩ = some (.int .i64 x.row) ∧ W'.cell? ⟨P, 8, none⟩ = some (.int .u64 (x.st : Nat)) ∧ W'.cell? ⟨P, 9, none⟩ = some (.int .i64 x.len) ∧ W'.cell? ⟨w.heap.size + 1, 0, none⟩ = some (.int .u64 (x.gen : Nat)) ∧ W'.cell? ⟨w.heap.size + 1, 1, none⟩ = some (.int .u64 (x.nxt : Nat)) ∧ W'.cell? ⟨w.heap.size + 1, 2, none⟩ = some (.int .i64 x.row) ∧ W'.cell? ⟨w.heap.size + 1, 3, none⟩ = some (.int .u64 (x.st : Nat)) ∧ W'.cell? ⟨w.heap.size + 1, 4, none⟩ = some (.int .i64 x.len))
                  (first
                    | exact HKEEP.out _ (Kept.refl _)
                    | exact HKEEP.out _ HKD.out
                    | exact HKEEP.out _ (HKD.out.trans hkA)
                    | exact HKEEP.out _ ((HKD.out.trans hkA).alloc _)
                    | exact HKEEP2.out _ _ ((HKD.out.trans hkA).alloc _) hb9)
                  (first
                    | (go_at_call 35; refine (HSO.out _).mono ?_; rintro e wA ⟨rfl, hkA⟩)
                    | (refine step_gatb rfl (.tmp 46) (.tmp 53) rfl wL u5 ((List.range d).map hf) (by rfl) (GB2.out.kept ((HKD.out.trans hkA).alloc _)) (KL2.out.trans ((HKD.out.trans hkA).alloc _)) _ wA.heap.size (by rfl) (newR_cell _ _ _ 0 _ rfl) HLEN.out ?_; intro v9 w9 hG9 hK9 hs9 hb9))
                have HF9 : Hid (Kept wL w9 ∧ GatB wL.heap.size v9 ((List.range (d + 1)).map hf) w9) := ⟨hK9, by rw [List.range_succ, List.map_append, List.map_cons, List.map_nil, HHV.out]; exact hG9⟩
                clear hG9 hK9 hs9 hb9 hkA HKEEP HKEEP2
                go_wp2_with fail
                go_roundg gh
                case measure => omega
                case rel => exact ⟨d + 1, by omega, by go_num, HF9.out⟩
              | false =>
                have hxy : ¬ (b.gen = x.gen ∧ b.nxt = x.nxt ∧ b.row = x.row ∧ b.st = x.st ∧ b.len = x.len) := fun h => by
                  have h2 := (Rt.same_iff b x).2 (Rt.eq_of h.1 h.2.1 h.2.2.1 h.2.2.2.1 h.2.2.2.2)
                  rw [hsm] at h2
                  cases h2
                have HXY := Lib.hid hxy
                have HHV : Hid (hf d = false) := by show _ = _; rw [HHY.out, hsm]
                have key : (((b.gen : Int) = (x.gen : Int)) = False) ∨ (((b.gen : Int) = (x.gen : Int)) = True ∧ ((b.nxt : Int) = (x.nxt : Int)) = False) ∨ (((b.gen : Int) = (x.gen : Int)) = True ∧ ((b.nxt : Int) = (x.nxt : Int)) = True ∧ (b.row = x.row) = False) ∨ (((b.gen : Int) = (x.gen : Int)) = True ∧ ((b.nxt : Int) = (x.nxt : Int)) = True ∧ (b.row = x.row) = True ∧ ((b.st : Int) = (x.st : Int)) = False) ∨ (((b.gen : Int) = (x.gen : Int)) = True ∧ ((b.nxt : Int) = (x.nxt : Int)) = True ∧ (b.row = x.row) = True ∧ ((b.st : Int) = (x.st : Int)) = True ∧ (b.len = x.len) = False) := by
                  simp only [eq_iff_iff, iff_true, iff_false]
                  omega
                clear HHY hsm hxy HXY
                rcases key with d0 | ⟨d0, d1⟩ | ⟨d0, d1, d2⟩ | ⟨d0, d1, d2, d3⟩ | ⟨d0, d1, d2, d3, d4⟩
                all_goals
                  have HKEEP : Hid (∀ W', Kept W0 W' → W'.cell? ⟨P, 5, none⟩ = some (.int .u64 (b.gen : Nat)) ∧ W'.cell? ⟨P, 6, none⟩ = some (.int .u64 (b.nxt : Nat)) ∧ W'.cell? ⟨P, 7, none⟩ = some (.int .i64 b.row) ∧ W'.cell? ⟨P, 8, none⟩ = some (.int .u64 (b.st : Nat)) ∧ W'.cell? ⟨P, 9, none⟩ = some (.int .i64 b.len) ∧ W'.cell? ⟨w.heap.size + 1, 0, none⟩ = some (.int .u64 (x.gen : Nat)) ∧ W'.cell? ⟨w.heap.size + 1, 1, none⟩ = some (.int .u64 (x.nxt : Nat)) ∧ W'.cell? ⟨w.heap.size + 1, 2, none⟩ = some (.int .i64 x.row) ∧ W'.cell? ⟨w.heap.size + 1, 3, none⟩ = some (.int .u64 (x.st : Nat)) ∧ W'.cell? ⟨w.heap.size + 1, 4, none⟩ = some (.int .i64 x.len)) := fun W' k => ⟨(rb.out.kept k).c0, (rb.out.kept k).c1, (rb.out.kept k).c2, (rb.out.kept k).c3, (rb.out.kept k).c4, (HP.out.kept (KL2.out.trans k)).c0, (HP.out.kept (KL2.out.trans k)).c1, (HP.out.kept (KL2.out.trans k)).c2, (HP.out.kept (KL2.out.trans k)).c3, (HP.out.kept (KL2.out.trans k)).c4⟩
                  have HKEEP2 : Hid (∀ W W9 : World, Kept W0 W → (∀ b, b < W.heap.size → Value.ownBlock u5 ≠ some b → W9.heap[b]? = W.heap[b]?) → W9.cell? ⟨P, 5, none⟩ = some (.int .u64 (b.gen : Nat)) ∧ W9.cell? ⟨P, 6, none⟩ = some (.int .u64 (b.nxt : Nat)) ∧ W9.cell? ⟨P, 7, none⟩ = some (.int .i64 b.row) ∧ W9.cell? ⟨P, 8, none⟩ = some (.int .u64 (b.st : Nat)) ∧ W9.cell? ⟨P, 9, none⟩ = some (.int .i64 b.len) ∧ W9.cell? ⟨w.heap.size + 1, 0, none⟩ = some (.int .u64 (x.gen : Nat)) ∧ W9.cell? ⟨w.heap.size + 1, 1, none⟩ = some (.int .u64 (x.nxt : Nat)) ∧ W9.cell? ⟨w.heap.size + 1, 2, none⟩ = some (.int .i64 x.row) ∧ W9.cell? ⟨w.heap.size + 1, 3, none⟩ = some (.int .u64 (x.st : Nat)) ∧ W9.cell? ⟨w.heap.size + 1, 4, none⟩ = some (.int .i64 x.len)) := fun W W9 k hb => by
                    have hsz := k.size
                    have hpz := HPZ.out
                    have e1 := hb P (by omega) (fun h => by have := (HOWN.out _ h).2; omega)
                    have e2 := hb (w.heap.size + 1) (by omega) (fun h => by have := (HOWN.out _ h).1; omega)
                    have r1 := (rb.out.kept k).frame e1
                    have r2 := (HP.out.kept (KL2.out.trans k)).frame e2
                    exact ⟨r1.c0, r1.c1, r1.c2, r1.c3, r1.c4, r2.c0, r2.c1, r2.c2, r2.c3, r2.c4⟩
                  have HKD : Hid (Kept W0 W0.drew) := (Kept.refl _).drew
                  go_region_held_law (fun W' => W'.cell? ⟨P, 5, none⟩ = some (.int .u64 (b.gen : Nat)) ∧ W'.cell? ⟨P, 6, none⟩ = some (.int .u64 (b.nxt : Nat)) ∧ W'.cell? ⟨P, 7, none⟩ = some (.int .i64 b.row) ∧ W'.cell? ⟨P, 8, none⟩ = some (.int .u64 (b.st : Nat)) ∧ W'.cell? ⟨P, 9, none⟩ = some (.int .i64 b.len) ∧ W'.cell? ⟨w.heap.size + 1, 0, none⟩ = some (.int .u64 (x.gen : Nat)) ∧ W'.cell? ⟨w.heap.size + 1, 1, none⟩ = some (.int .u64 (x.nxt : Nat)) ∧ W'.cell? ⟨w.heap.size + 1, 2, none⟩ = some (.int .i64 x.row) ∧ W'.cell? ⟨w.heap.size + 1, 3, none⟩ = some (.int .u64 (x.st : Nat)) ∧ W'.cell? ⟨w.heap.size + 1, 4, none⟩ = some (.int .i64 x.len))
                    (first
                      | exact HKEEP.out _ (Kept.refl _)
                      | exact HKEEP.out _ HKD.out
                      | exact HKEEP.out _ (HKD.out.trans hkA)
                      | exact HKEEP.out _ ((HKD.out.trans hkA).alloc _)
                      | exact HKEEP2.out _ _ ((HKD.out.trans hkA).alloc _) hb9)
                    (first
                      | (go_at_call 35; refine (HSO.out _).mono ?_; rintro e wA ⟨rfl, hkA⟩)
                      | (refine step_gatb rfl (.tmp 46) (.tmp 53) rfl wL u5 ((List.range d).map hf) (by rfl) (GB2.out.kept ((HKD.out.trans hkA).alloc _)) (KL2.out.trans ((HKD.out.trans hkA).alloc _)) _ wA.heap.size (by rfl) (newR_cell _ _ _ 0 _ rfl) HLEN.out ?_; intro v9 w9 hG9 hK9 hs9 hb9))
                  have HF9 : Hid (Kept wL w9 ∧ GatB wL.heap.size v9 ((List.range (d + 1)).map hf) w9) := ⟨hK9, by rw [List.range_succ, List.map_append, List.map_cons, List.map_nil, HHV.out]; exact hG9⟩
                  clear hG9 hK9 hs9 hb9 hkA HKEEP HKEEP2
                  go_wp2_with fail
                  go_roundg gh
                  case measure => omega
                  case rel => exact ⟨d + 1, by omega, by go_num, HF9.out⟩
          | zero =>
            have b1 : decide ((d : Int) < (s.n : Int)) = false := decide_eq_false (by omega)
            obtain rfl : d = s.n := by omega
            have KW : Hid (Kept w wr) := HKP.out.trans HI.out.1
            have XW := Lib.hid (HP.out.kept HI.out.1)
            have GB := Lib.hid HI.out.2
            clear HP HKP A4 HI
            have HP := Lib.hid (XW.out.put x)
            have HKP := Lib.hid (putRt_kept KW.out (w.heap.size + 1) x (by omega))
            have HGP : Hid (GatB wL.heap.size u5 ((List.range s.n).map hf) (putRt wr (w.heap.size + 1) x)) := GB.out.but (putRt_but wr (w.heap.size + 1) x) (by omega)
            obtain ⟨p0, p1, p2, p3, p4, f0, f1, f2, f3, f4⟩ := XW.out
            unfold putRt at HP HKP HGP
            clear XW KW GB
            go_wp2_with fail
            exact bodyPost_ret (v := .tuple #[x.val, u5, .int .i64 0]) (by have q0 := HP.out.c0; have q1 := HP.out.c1; have q2 := HP.out.c2; have q3 := HP.out.c3; have q4 := HP.out.c4; (try simp at q0 q1 q2 q3 q4); simp [results, Try.results19, go_sem, Rt.val, q0, q1, q2, q3, q4]) rfl ⟨⟨_, rfl, HGP.out.lower HWL.out⟩, HKP.out⟩
end Go.Proofs.Ytoekaabngjjefaa

/- The program's Write and Vote of no rack. -/
namespace Go.Proofs.Ytoekaabngjjefaa
open Go.RowKit Sm Wr _root_.Go.Proofs.Ytoekaabngjjefaa.Nm
set_option linter.unusedVariables false
theorem pWriteR_nil (q : Geo) (x : Rt) (w : World) :
    Calls Try.prog 14 #[.pointer none, q.val, x.val] w fun r w' => r = .returned (.int .i64 1) ∧ Kept w w' := by
  have HFI := Lib.hid (fun W => fits_nil q W)
  have G0 := Lib.hid ((GeoAt.laid w 41 q).kept ((Kept.refl _).alloc (.cells #[.int .u64 (x.gen : Nat), .int .u64 (x.nxt : Nat), .int .i64 x.row, .int .u64 (x.st : Nat), .int .i64 x.len] 26)))
  have K0 : Hid (Kept w ((w.alloc (.cells #[.int .i64 q.n, .int .i64 q.p, .int .i64 q.m, .int .i64 q.t] 41)).alloc (.cells #[.int .u64 (x.gen : Nat), .int .u64 (x.nxt : Nat), .int .i64 x.row, .int .u64 (x.st : Nat), .int .i64 x.len] 26))) := ((Kept.refl _).alloc _).alloc _
  unfold Geo.val Rt.val at *
  go_enter Try.func14, Try.ntmps14
  go_upto_region 1 with fail
  generalize (w.alloc (.cells #[.int .i64 q.n, .int .i64 q.p, .int .i64 q.m, .int .i64 q.t] 41)).alloc (.cells #[.int .u64 (x.gen : Nat), .int .u64 (x.nxt : Nat), .int .i64 x.row, .int .u64 (x.st : Nat), .int .i64 x.len] 26) = w0 at *
  have g0 := G0.out.c0
  have g1 := G0.out.c1
  have g2 := G0.out.c2
  have g3 := G0.out.c3
  go_wp2_with fail
  refine (HFI.out _).mono ?_
  rintro e u1 ⟨rfl, hk⟩
  have K1 : Hid (Kept w u1) := K0.out.trans hk
  clear hk HFI G0 K0 g0 g1 g2 g3
  go_wp2_with fail
  go_ret
  exact ⟨rfl, K1.out⟩
theorem pVote_nil (g : Geo) (w : World) :
    Calls Try.prog 19 #[.pointer none, g.val] w fun e w' => e = .returned (.tuple #[Rt.none.val, .slice none 0 0, .int .i64 1]) ∧ Kept w w' := by
  have HFI := Lib.hid (fun W => fits_nil g W)
  have G0 := Lib.hid ((GeoAt.laid w 41 g).kept ((Kept.refl _).alloc (.cells #[.int .u64 0, .int .u64 0, .int .i64 0, .int .u64 0, .int .i64 0] 26)))
  have HX0 : Hid (RtAt ((w.alloc (.cells #[.int .i64 g.n, .int .i64 g.p, .int .i64 g.m, .int .i64 g.t] 41)).alloc (.cells #[.int .u64 0, .int .u64 0, .int .i64 0, .int .u64 0, .int .i64 0] 26)) (w.heap.size + 1) Rt.none) := by
    have := RtAt.new (w.alloc (.cells #[.int .i64 g.n, .int .i64 g.p, .int .i64 g.m, .int .i64 g.t] 41)) 26
    rw [size_alloc] at this
    exact this
  have K0 : Hid (Kept w ((w.alloc (.cells #[.int .i64 g.n, .int .i64 g.p, .int .i64 g.m, .int .i64 g.t] 41)).alloc (.cells #[.int .u64 0, .int .u64 0, .int .i64 0, .int .u64 0, .int .i64 0] 26))) := ((Kept.refl _).alloc _).alloc _
  unfold Geo.val at *
  go_enter Try.func19, Try.ntmps19
  go_upto_region 1 with fail
  generalize (w.alloc (.cells #[.int .i64 g.n, .int .i64 g.p, .int .i64 g.m, .int .i64 g.t] 41)).alloc (.cells #[.int .u64 0, .int .u64 0, .int .i64 0, .int .u64 0, .int .i64 0] 26) = w0 at *
  have g0 := G0.out.c0
  have g1 := G0.out.c1
  have g2 := G0.out.c2
  have g3 := G0.out.c3
  go_wp2_with fail
  refine (HFI.out _).mono ?_
  rintro e u1 ⟨rfl, hk⟩
  have K1 : Hid (Kept w u1) := K0.out.trans hk
  have X1 := Lib.hid (HX0.out.kept hk)
  clear hk HFI G0 K0 HX0 g0 g1 g2 g3
  have HP := Lib.hid (X1.out.put Rt.none)
  have HKP := Lib.hid (putRt_kept K1.out (w.heap.size + 1) Rt.none (by omega))
  obtain ⟨p0, p1, p2, p3, p4, f0, f1, f2, f3, f4⟩ := X1.out
  unfold putRt at HP HKP
  dsimp only [Rt.none] at HP HKP p0 p1 p2 p3 p4
  go_wp2_with fail
  exact bodyPost_ret (v := .tuple #[Rt.none.val, .slice none 0 0, .int .i64 1]) (by have q0 := HP.out.c0; have q1 := HP.out.c1; have q2 := HP.out.c2; have q3 := HP.out.c3; have q4 := HP.out.c4; (try simp at q0 q1 q2 q3 q4); simp [results, Try.results19, go_sem, Rt.val, Rt.none, q0, q1, q2, q3, q4]) rfl ⟨rfl, HKP.out⟩
theorem three_any (w : World) :
    Calls Try.prog 20 #[] w fun e w' => e = .returned (.agg #[.int .i64 3, .int .i64 1, .int .i64 24, .int .i64 2]) ∧ Kept w w' := by
  have K0 : Hid (Kept w (w.alloc (.cells #[.int .i64 3, .int .i64 1, .int .i64 24, .int .i64 2] 41))) := (Kept.refl _).alloc _
  have hc : ∀ j v, (#[Value.int .i64 3, .int .i64 1, .int .i64 24, .int .i64 2] : Array Value)[j]? = some v → (w.alloc (.cells #[.int .i64 3, .int .i64 1, .int .i64 24, .int .i64 2] 41)).cell? ⟨w.heap.size, j, none⟩ = some v := fun j v hv => by rw [World.cell?_alloc_mark]; exact hv
  have c0 := hc 0 _ rfl
  have c1 := hc 1 _ rfl
  have c2 := hc 2 _ rfl
  have c3 := hc 3 _ rfl
  clear hc
  go_enter Try.func20, Try.ntmps20
  go_wp2_with fail
  exact bodyPost_ret (v := .agg #[.int .i64 3, .int .i64 1, .int .i64 24, .int .i64 2]) (by simp [results, Try.results20, go_sem, c0, c1, c2, c3]) rfl ⟨rfl, K0.out⟩
end Go.Proofs.Ytoekaabngjjefaa

/- A root on all drives: what is told, what the next one meets. -/
namespace Go.Proofs.Ytoekaabngjjefaa
open Go.RowKit Sm Wr _root_.Go.Proofs.Ytoekaabngjjefaa.Nm
set_option linter.unusedVariables false
/-- The newest of those that are shown is told. -/
theorem vTo_is (s : RSt) (n : Nat) (r : Rt) (h0 : 0 < r.gen) (hr : Seen s n r) (hm : ∀ q, Seen s n q → q = r ∨ q.gen < r.gen) : (vTo s n).1 = r := by
  obtain ⟨h1, h2⟩ := vTo_best s n
  have h3 := h2 r hr
  rcases h1 with h1 | h1
  · rw [h1] at h3
    have : Rt.none.gen = 0 := rfl
    omega
  · rcases hm _ h1 with h | h
    · exact h
    · omega
/-- What a drive shows, where the rack lasts and no slot is spoilt. -/
theorem slotsR_fine (s : RSt) (d : Nat) (hd : d < s.n) (hm : 2 ≤ s.m) (hdn : s.down = false) (h0 : s.bad d 0 = false) (h1 : s.bad d 1 = false) : slotsR s d = some (rtAt (s.T d 0) 0, rtAt (s.T d 1) 1) := by
  have e : ∀ i : Nat, i < 2 → s.bad d i = false → s.readE d i = 0 ∧ s.readT d i = ⟨(s.T d i).toArray⟩ := fun i hi hb => by
    have e0 : s.readE d i = 0 := by
      unfold RSt.readE
      rw [hdn, if_neg (by decide), there_lt s hd (by omega), if_neg (by decide), Int.toNat_natCast, Int.toNat_natCast, hb, if_neg (by decide)]
    refine ⟨e0, ?_⟩
    unfold RSt.readT
    rw [if_pos e0, Int.toNat_natCast, Int.toNat_natCast]
  obtain ⟨a1, a2⟩ := e 0 (by omega) h0
  obtain ⟨b1, b2⟩ := e 1 (by omega) h1
  unfold slotsR
  rw [if_pos ⟨a1, b1⟩, show s.readT d 0 = _ from a2, show s.readT d 1 = _ from b2]
theorem slotsR_bad (s : RSt) (d : Nat) (hd : d < s.n) (hm : 2 ≤ s.m) (i : Nat) (hi : i < 2) (hb : s.bad d i = true) (hdn : s.down = false) : slotsR s d = .none := by
  have e0 : s.readE d i ≠ 0 := by
    unfold RSt.readE
    rw [hdn, if_neg (by decide), there_lt s hd (by omega), if_neg (by decide), Int.toNat_natCast, Int.toNat_natCast, hb, if_pos rfl]
    decide
  unfold slotsR
  rw [if_neg]
  rintro ⟨a, b⟩
  rcases (show i = 0 ∨ i = 1 by omega) with rfl | rfl
  · exact e0 a
  · exact e0 b
theorem rtAt_raw {x : Rt} (h : x.may = true) : rtAt x.raw x.me = x := by
  unfold rtAt
  rw [decR_raw h]
  exact if_pos rfl
theorem rtAt_off {x : Rt} (h : x.may = true) : rtAt x.raw x.oth = Rt.none := by
  unfold rtAt
  rw [decR_raw h]
  exact if_neg (fun c => me_oth x c.symm)
theorem rtAt_zero (k : Nat) : rtAt zero64 k = Rt.none := by unfold rtAt; rw [decR_zero]
/-- Root x stands on drive d, an older one (or none) in the other slot. -/
structure Holds (s : RSt) (x : Rt) (d : Nat) : Prop where
  b0 : s.bad d 0 = false
  b1 : s.bad d 1 = false
  me : s.T d x.me = x.raw
  oth : (rtAt (s.T d x.oth) x.oth).gen < x.gen
theorem me_oth_01 (x : Rt) : (x.me = 0 ∧ x.oth = 1) ∨ (x.me = 1 ∧ x.oth = 0) := by unfold Rt.me Rt.oth; omega
/-- What such a drive shows. -/
theorem Holds.seen {s : RSt} {x : Rt} {d : Nat} (h : Holds s x d) (hx : x.may = true) (hd : d < s.n) (hm : 2 ≤ s.m) (hdn : s.down = false) :
    ∃ a b, slotsR s d = some (a, b) ∧ (if x.gen % 2 = 0 then a else b) = x ∧ (a = x ∨ a.gen < x.gen) ∧ (b = x ∨ b.gen < x.gen) ∧ (x = a ∨ x = b) := by
  refine ⟨_, _, slotsR_fine s d hd hm hdn h.b0 h.b1, ?_⟩
  have hme := h.me
  have hot := h.oth
  rcases me_oth_01 x with ⟨e1, e2⟩ | ⟨e1, e2⟩
  · have hr := rtAt_raw hx
    rw [e1] at hme hr
    rw [e2] at hot
    rw [hme, hr]
    have : x.gen % 2 = 0 := e1
    exact ⟨if_pos this, .inl rfl, .inr hot, .inl rfl⟩
  · have hr := rtAt_raw hx
    rw [e1] at hme hr
    rw [e2] at hot
    rw [hme, hr]
    have : ¬ x.gen % 2 = 0 := by unfold Rt.me at e1; omega
    exact ⟨if_neg this, .inr hot, .inl rfl, .inr rfl⟩
/-- It meets no newer root where the next one is written. -/
theorem Holds.next {s : RSt} {x y : Rt} {d : Nat} (h : Holds s x d) (hx : x.may = true) (hy : x.gen ≤ y.gen) (hp : y.oth = x.me) (hd : d < s.n) (hm : 2 ≤ s.m) (hdn : s.down = false) : newer s y d = false := by
  unfold newer
  have e : (s.readT d y.oth).data.toList = x.raw ∨ s.readE d y.oth ≠ 0 := by
    by_cases he : s.readE d y.oth = 0
    · left
      unfold RSt.readT
      rw [if_pos he, Int.toNat_natCast, Int.toNat_natCast, hp, h.me]
    · exact .inr he
  rcases e with e | e
  · rw [e]
    unfold newR
    rw [decR_raw hx]
    have : decide (y.gen < x.gen) = false := decide_eq_false (by omega)
    simp [this]
  · rw [decide_eq_false e]; rfl
/-- And the same root again. -/
theorem Holds.again {s : RSt} {x : Rt} {d : Nat} (h : Holds s x d) (hd : d < s.n) (hm : 2 ≤ s.m) (hdn : s.down = false) : newer s x d = false := by
  unfold newer
  by_cases he : s.readE d x.oth = 0
  · have e : (s.readT d x.oth).data.toList = s.T d x.oth := by
      unfold RSt.readT
      rw [if_pos he, Int.toNat_natCast, Int.toNat_natCast]
    have ho := h.oth
    rw [e]
    unfold newR
    unfold rtAt at ho
    cases hc : decR (s.T d x.oth) with
    | none => simp
    | some y =>
      rw [hc] at ho
      dsimp only at ho
      by_cases hp : y.gen % 2 = x.oth
      · rw [if_pos hp] at ho
        have : decide (x.gen < y.gen) = false := decide_eq_false (by omega)
        simp [this]
      · simp [hp]
  · rw [decide_eq_false he]; rfl
/-- All drives have it: it is told, all have it. -/
theorem vote_all (s : RSt) (x : Rt) (hx : x.may = true) (hn : 1 ≤ s.n) (hm : 2 ≤ s.m) (hdn : s.down = false) (h : ∀ d, d < s.n → Holds s x d) :
    vTo s s.n = (x, 0) ∧ ∀ d, d < s.n → hasR x (slotsR s d) = true := by
  have hg := (Rt.may_iff hx).1
  have h1 : (vTo s s.n).1 = x := by
    apply vTo_is s s.n x (by omega)
    · obtain ⟨a, b, e, _, _, _, h5⟩ := (h 0 (by omega)).seen hx (by omega) hm hdn
      exact ⟨0, a, b, by omega, e, h5⟩
    · rintro q ⟨d, a, b, hd, e, hq⟩
      obtain ⟨a', b', e', _, h3, h4, _⟩ := (h d hd).seen hx hd hm hdn
      rw [e'] at e
      injection e with e
      injection e with e1 e2
      subst e1 e2
      rcases hq with rfl | rfl
      · exact h3
      · exact h4
  have h2 : (vTo s s.n).2 = 0 := by
    rw [vTo_none, List.length_eq_zero_iff, List.filter_eq_nil_iff]
    intro d hd
    obtain ⟨a, b, e, _, _, _, h5⟩ := (h d (List.mem_range.1 hd)).seen hx (List.mem_range.1 hd) hm hdn
    unfold noR
    rw [e]
    dsimp only
    rw [decide_eq_true_eq]
    rintro ⟨a0, b0⟩
    rcases h5 with rfl | rfl <;> omega
  refine ⟨Prod.ext h1 h2, fun d hd => ?_⟩
  obtain ⟨a, b, e, h3, _⟩ := (h d hd).seen hx hd hm hdn
  rw [e]
  show Rt.same (if x.gen % 2 = 0 then a else b) x = true
  rw [h3]
  exact (Rt.same_iff _ _).2 rfl
/-- Behind a whole Write all drives have it. -/
theorem run_holds (s : RSt) (x : Rt) (hb : ∀ d, d < s.n → s.bad d 0 = false ∧ s.bad d 1 = false) (ho : ∀ d, d < s.n → (rtAt (s.T d x.oth) x.oth).gen < x.gen) (k : Nat) (hk : k ≤ s.n) : ∀ d, d < k → Holds (wrK s x k) x d := by
  intro d hd
  have hd' : d < s.n := by omega
  obtain ⟨b0, b1⟩ := hb d hd'
  refine ⟨?_, ?_, ?_, ?_⟩
  · show (if d < k ∧ 0 = x.me then false else s.bad d 0) = false
    rw [b0]; split <;> rfl
  · show (if d < k ∧ 1 = x.me then false else s.bad d 1) = false
    rw [b1]; split <;> rfl
  · show (if d < k ∧ x.me = x.me then x.raw else s.T d x.me) = x.raw
    rw [if_pos ⟨hd, rfl⟩]
  · show (rtAt (if d < k ∧ x.oth = x.me then x.raw else s.T d x.oth) x.oth).gen < x.gen
    rw [if_neg (fun c => me_oth x c.2)]
    exact ho d hd'
end Go.Proofs.Ytoekaabngjjefaa

/- Some drives are lost, some have the root, some have an older one: what is told. -/
namespace Go.Proofs.Ytoekaabngjjefaa
open Go.RowKit Sm Wr _root_.Go.Proofs.Ytoekaabngjjefaa.Nm
set_option linter.unusedVariables false
/-- A drive that shows no root: a slot of it is spoilt, or both slots have none. -/
def Gone (s : RSt) (d : Nat) : Prop := slotsR s d = .none ∨ ∃ a b, slotsR s d = some (a, b) ∧ a.gen = 0 ∧ b.gen = 0
theorem Gone.noR {s : RSt} {d : Nat} (h : Gone s d) : noR s d = true := by
  unfold _root_.Go.Proofs.Ytoekaabngjjefaa.noR
  rcases h with h | ⟨a, b, h, h1, h2⟩
  · rw [h]
  · rw [h]; exact decide_eq_true ⟨h1, h2⟩
theorem Gone.has {s : RSt} {d : Nat} {t : Rt} (h : Gone s d) (h0 : 0 < t.gen) : hasR t (slotsR s d) = false := by
  rcases h with h | ⟨a, b, h, h1, h2⟩
  · rw [h]; rfl
  · rw [h]
    cases hc : hasR t (some (a, b)) with
    | false => rfl
    | true =>
      have := (Rt.same_iff _ _).1 hc
      dsimp only at this
      split at this
      · rw [← this, h1] at h0; omega
      · rw [← this, h2] at h0; omega
/-- A drive that has the root, or an older one. -/
def HasOld (s : RSt) (t : Rt) (d : Nat) : Prop := Holds s t d ∨ ∃ x : Rt, x.may = true ∧ x.gen < t.gen ∧ Holds s x d
theorem HasOld.shows {s : RSt} {t : Rt} {d : Nat} (h : HasOld s t d) (ht : t.may = true) (hd : d < s.n) (hm : 2 ≤ s.m) (hdn : s.down = false) :
    ∃ a b, slotsR s d = some (a, b) ∧ (a = t ∨ a.gen < t.gen) ∧ (b = t ∨ b.gen < t.gen) ∧ noR s d = false ∧ (hasR t (some (a, b)) = true ↔ Holds s t d) := by
  have g0 := (Rt.may_iff ht).1
  rcases h with h | ⟨x, hx, hl, h⟩
  · obtain ⟨a, b, e, h1, h2, h3, h4⟩ := h.seen ht hd hm hdn
    refine ⟨a, b, e, h2, h3, ?_, fun _ => h, fun _ => ?_⟩
    · unfold noR
      rw [e]
      refine decide_eq_false ?_
      rintro ⟨a0, b0⟩
      dsimp only at a0 b0
      rcases h4 with rfl | rfl <;> omega
    · show Rt.same (if t.gen % 2 = 0 then a else b) t = true
      rw [h1]; exact (Rt.same_iff _ _).2 rfl
  · have gx := (Rt.may_iff hx).1
    obtain ⟨a, b, e, h1, h2, h3, h4⟩ := h.seen hx hd hm hdn
    have la : a.gen < t.gen := by rcases h2 with rfl | h2 <;> omega
    have lb : b.gen < t.gen := by rcases h3 with rfl | h3 <;> omega
    refine ⟨a, b, e, .inr la, .inr lb, ?_, fun hc => ?_, fun hc => ?_⟩
    · unfold noR
      rw [e]
      refine decide_eq_false ?_
      rintro ⟨a0, b0⟩
      dsimp only at a0 b0
      rcases h4 with rfl | rfl <;> omega
    · exfalso
      have := (Rt.same_iff _ _).1 hc
      dsimp only at this
      split at this
      · rw [this] at la; omega
      · rw [this] at lb; omega
    · exfalso
      obtain ⟨a', b', e', k1, _⟩ := hc.seen ht hd hm hdn
      rw [e] at e'
      injection e' with e'
      injection e' with e1 e2
      subst e1 e2
      split at k1
      · rw [k1] at la; omega
      · rw [k1] at lb; omega
/-- What is told, and which drives have it. -/
theorem vote_mixed (s : RSt) (t : Rt) (ht : t.may = true) (hm : 2 ≤ s.m) (hdn : s.down = false) (lost : Nat → Bool)
    (hl : ∀ d, d < s.n → lost d = true → Gone s d) (hh : ∀ d, d < s.n → lost d = false → HasOld s t d) (hex : ∃ d, d < s.n ∧ lost d = false ∧ Holds s t d) :
    vTo s s.n = (t, ((List.range s.n).filter lost).length) ∧ ∀ d, d < s.n → (hasR t (slotsR s d) = true ↔ lost d = false ∧ Holds s t d) := by
  have g0 := (Rt.may_iff ht).1
  have h1 : (vTo s s.n).1 = t := by
    apply vTo_is s s.n t (by omega)
    · obtain ⟨d, hd, _, h⟩ := hex
      obtain ⟨a, b, e, _, _, _, h5⟩ := h.seen ht hd hm hdn
      exact ⟨d, a, b, hd, e, h5⟩
    · rintro q ⟨d, a, b, hd, e, hq⟩
      cases hc : lost d with
      | true =>
        rcases hl d hd hc with h | ⟨a', b', h, z1, z2⟩
        · rw [h] at e; cases e
        · rw [h] at e
          injection e with e
          injection e with e1 e2
          subst e1 e2
          right
          rcases hq with rfl | rfl <;> omega
      | false =>
        obtain ⟨a', b', h, z1, z2, _⟩ := (hh d hd hc).shows ht hd hm hdn
        rw [h] at e
        injection e with e
        injection e with e1 e2
        subst e1 e2
        rcases hq with rfl | rfl
        · exact z1
        · exact z2
  have h2 : (vTo s s.n).2 = ((List.range s.n).filter lost).length := by
    rw [vTo_none]
    congr 1
    apply List.filter_congr
    intro d hd
    have hd := List.mem_range.1 hd
    cases hc : lost d with
    | true => exact (hl d hd hc).noR
    | false =>
      obtain ⟨a', b', h, _, _, z, _⟩ := (hh d hd hc).shows ht hd hm hdn
      exact z
  refine ⟨Prod.ext h1 h2, fun d hd => ?_⟩
  cases hc : lost d with
  | true =>
    rw [(hl d hd hc).has (by omega)]
    simp
  | false =>
    obtain ⟨a', b', h, _, _, _, z⟩ := (hh d hd hc).shows ht hd hm hdn
    rw [h]
    exact ⟨fun k => ⟨rfl, z.1 k⟩, fun k => z.2 k.2⟩
end Go.Proofs.Ytoekaabngjjefaa

/- What the document fixes: some racks, plain. -/
namespace Go.Proofs.Ytoekaabngjjefaa
open Go.RowKit Sm Wr _root_.Go.Proofs.Ytoekaabngjjefaa.Nm
set_option linter.unusedVariables false
theorem voteR_is {s : RSt} {g : Geo} {t : Rt} {c : Nat} (hf : g.fits s = true) (hdn : s.down = false) (hv : vTo s s.n = (t, c)) (hp : ¬ g.p < (c : Nat)) :
    voteR s g = (t, (List.range s.n).map (fun d => hasR t (slotsR s d)), 0) := by
  unfold voteR
  rw [hf, hdn, hv, if_neg (by decide), if_neg (by decide), if_neg hp]
theorem voteR_lost {s : RSt} {g : Geo} {t : Rt} {c : Nat} (hf : g.fits s = true) (hdn : s.down = false) (hv : vTo s s.n = (t, c)) (hp : g.p < (c : Nat)) : voteR s g = (Rt.none, [], 90) := by
  unfold voteR
  rw [hf, hdn, hv, if_neg (by decide), if_neg (by decide), if_pos hp]
theorem docW_is {s : RSt} {g : Geo} {x : Rt} (hf : g.fits s = true) (hx : x.may = true) : docW s g x = wrTo s x s.n := by
  unfold docW
  rw [if_pos ⟨hf, hx⟩]
/-- Where all are gone nothing is told. -/
theorem vote_gone (s : RSt) (h : ∀ d, d < s.n → Gone s d) : (vTo s s.n).2 = s.n := by
  rw [vTo_none, List.filter_eq_self.2, List.length_range]
  intro d hd
  exact (h d (List.mem_range.1 hd)).noR
theorem Holds.congr {s s' : RSt} {x : Rt} {d : Nat} (h : Holds s x d) (hT : ∀ i, s'.T d i = s.T d i) (hb : ∀ i, s'.bad d i = s.bad d i) : Holds s' x d :=
  ⟨by rw [hb]; exact h.b0, by rw [hb]; exact h.b1, by rw [hT]; exact h.me, by rw [hT]; exact h.oth⟩
theorem gone_zero (s : RSt) (d : Nat) (hd : d < s.n) (hm : 2 ≤ s.m) (hdn : s.down = false) (h0 : s.T d 0 = zero64) (h1 : s.T d 1 = zero64) (b0 : s.bad d 0 = false) (b1 : s.bad d 1 = false) : Gone s d := by
  right
  refine ⟨_, _, slotsR_fine s d hd hm hdn b0 b1, ?_, ?_⟩
  · rw [h0, rtAt_zero]; rfl
  · rw [h1, rtAt_zero]; rfl
/-- Where no drive has a root, nothing newer stands. -/
theorem newer_zero (s : RSt) (x : Rt) (d : Nat) (h : s.readE d x.oth = 0 → s.T d x.oth = zero64) : newer s x d = false := by
  unfold newer
  by_cases he : s.readE d x.oth = 0
  · rw [decide_eq_true he, Bool.true_and]
    have ht : (s.readT d x.oth).data.toList = zero64 := by
      unfold RSt.readT
      rw [if_pos he]
      show s.T (d : Int).toNat ((x.oth : Nat) : Int).toNat = zero64
      rw [Int.toNat_natCast, Int.toNat_natCast]
      exact h he
    rw [ht]
    unfold newR
    rw [decR_zero]
  · rw [decide_eq_false he]; rfl
def geo3 : Geo := ⟨3, 1, 24, 2⟩
def one5 : Rt := ⟨1, 5, 0, 0, 0⟩
def two9 : Rt := ⟨2, 9, 1, 5, 30⟩
theorem one5_may : one5.may = true := by decide
theorem two9_may : two9.may = true := by decide
def stA : RSt := rack0 3 24
def stB : RSt := wrK stA one5 3
def stC : RSt := wrK (stB.lim true 1) two9 1
def stD : RSt := stC.lim false 0
theorem holdsB : ∀ d, d < 3 → Holds stB one5 d := run_holds stA one5 (fun d hd => ⟨rfl, rfl⟩) (fun d hd => by show (rtAt zero64 one5.oth).gen < 1; rw [rtAt_zero]; decide) 3 (Nat.le_refl _)
theorem aliveW1 : docW stA geo3 one5 = (0, stB) := by
  rw [docW_is (by decide) one5_may]
  exact wrTo_run stA one5 one5_may (by decide) (fun d hd => newer_zero _ _ _ (fun _ => rfl)) 3 (by decide) (fun h => by cases h)
theorem aliveV0 : voteR stA geo3 = (Rt.none, [], 90) := by
  have h := vote_gone stA (fun d hd => gone_zero stA d hd (by decide) rfl rfl rfl rfl rfl)
  exact voteR_lost (t := (vTo stA stA.n).1) (c := 3) (by decide) rfl (Prod.ext rfl h) (by decide)
theorem aliveW2 : docW (stB.lim true 1) geo3 two9 = (71, stC) := by
  rw [docW_is (by decide) two9_may]
  refine wrTo_cut (stB.lim true 1) two9 two9_may (by decide) (fun d hd => ?_) rfl (by decide)
  exact ((holdsB d hd).congr (s' := stB.lim true 1) (fun _ => rfl) (fun _ => rfl)).next one5_may (by decide) rfl hd (by decide) rfl
theorem holdsD0 : Holds stD two9 0 := by
  have hb := (holdsB 0 (by decide))
  refine ⟨rfl, rfl, rfl, ?_⟩
  show (rtAt one5.raw one5.me).gen < 2
  rw [rtAt_raw one5_may]
  decide
theorem holdsD (d : Nat) (hd : d < 3) (h0 : 0 < d) : Holds stD one5 d := by
  refine (holdsB d hd).congr (fun i => ?_) (fun i => ?_)
  · show (if d < 1 ∧ i = two9.me then two9.raw else stB.T d i) = _
    rw [if_neg (by omega)]
  · show (if d < 1 ∧ i = two9.me then false else stB.bad d i) = _
    rw [if_neg (by omega)]
theorem has_off {s : RSt} {d : Nat} {t : Rt} (b : Bool) (h : hasR t (slotsR s d) = true ↔ b = true) : hasR t (slotsR s d) = b := by
  rw [Bool.eq_iff_iff]; exact h
theorem aliveV1 : voteR stD geo3 = (two9, [true, false, false], 0) := by
  have h := vote_mixed stD two9 two9_may (by decide) rfl (fun _ => false) (fun d hd h => by cases h) (fun d hd _ => by
    rcases Nat.eq_zero_or_pos d with rfl | h0
    · exact .inl holdsD0
    · exact .inr ⟨one5, one5_may, by decide, holdsD d hd h0⟩) ⟨0, by decide, rfl, holdsD0⟩
  have hno : ∀ d, d < 3 → 0 < d → hasR two9 (slotsR stD d) = false := fun d hd h0 => by
    rw [Bool.eq_false_iff]
    intro hh
    have := ((h.2 d hd).1 hh).2.oth
    have e : stD.T d two9.oth = one5.raw := (holdsD d hd h0).me
    have hme := ((h.2 d hd).1 hh).2.me
    have e2 : stD.T d two9.me = zero64 := by
      show (if d < 1 ∧ two9.me = two9.me then two9.raw else (if d < 3 ∧ two9.me = one5.me then one5.raw else zero64)) = _
      rw [if_neg (by omega), if_neg (by intro h; exact absurd h.2 (by decide))]
    rw [e2] at hme
    have := decR_raw two9_may
    rw [← hme, decR_zero] at this
    cases this
  rw [voteR_is (t := two9) (c := 0) (by decide) rfl h.1 (by decide)]
  show (two9, [hasR two9 (slotsR stD 0), hasR two9 (slotsR stD 1), hasR two9 (slotsR stD 2)], 0) = _
  rw [(h.2 0 (by decide)).2 ⟨rfl, holdsD0⟩, hno 1 (by decide) (by decide), hno 2 (by decide) (by decide)]
def stE : RSt := stD.wipe 0
theorem goneE : Gone stE 0 := gone_zero stE 0 (by decide) (by decide) rfl rfl rfl rfl rfl
theorem holdsE (d : Nat) (hd : d < 3) (h0 : 0 < d) : Holds stE one5 d := (holdsD d hd h0).congr (fun i => if_neg (by omega)) (fun i => if_neg (by omega))
theorem aliveV2 : voteR stE geo3 = (one5, [false, true, true], 0) := by
  have h := vote_mixed stE one5 one5_may (by decide) rfl (fun d => decide (d = 0)) (fun d hd h => by obtain rfl := of_decide_eq_true h; exact goneE) (fun d hd h => .inl (holdsE d hd (by have := of_decide_eq_false h; omega))) ⟨1, by decide, rfl, holdsE 1 (by decide) (by decide)⟩
  rw [voteR_is (t := one5) (c := 1) (by decide) rfl h.1 (by decide)]
  show (one5, [hasR one5 (slotsR stE 0), hasR one5 (slotsR stE 1), hasR one5 (slotsR stE 2)], 0) = _
  rw [goneE.has (by decide), (h.2 1 (by decide)).2 ⟨rfl, holdsE 1 (by decide) (by decide)⟩, (h.2 2 (by decide)).2 ⟨rfl, holdsE 2 (by decide) (by decide)⟩]
def stF : RSt := stE.wipe 1
theorem aliveV3 : voteR stF geo3 = (Rt.none, [], 90) := by
  have h2 : Holds stF one5 2 := (holdsE 2 (by decide) (by decide)).congr (fun i => by show (if 2 = 1 then zero64 else stE.T 2 i) = _; rw [if_neg (by decide)]) (fun i => by show (if 2 = 1 then false else stE.bad 2 i) = _; rw [if_neg (by decide)])
  have h := vote_mixed stF one5 one5_may (by decide) rfl (fun d => decide (d ≠ 2)) (fun d hd h => by
    have := of_decide_eq_true h
    rcases (show d = 0 ∨ d = 1 by have : d < 3 := hd; omega) with rfl | rfl
    · exact gone_zero stF 0 (by decide) (by decide) rfl rfl rfl rfl rfl
    · exact gone_zero stF 1 (by decide) (by decide) rfl rfl rfl rfl rfl) (fun d hd h => .inl (by
    have := of_decide_eq_false h
    obtain rfl : d = 2 := by omega
    exact h2)) ⟨2, by decide, rfl, h2⟩
  exact voteR_lost (t := one5) (c := 2) (by decide) rfl h.1 (by decide)
end Go.Proofs.Ytoekaabngjjefaa

/- The law's own alive. -/
namespace Go.Proofs.Ytoekaabngjjefaa
open Go.RowKit Sm Wr _root_.Go.Proofs.Ytoekaabngjjefaa.Nm
set_option linter.unusedVariables false
theorem GeoAt.onlyLo {w w' : World} {b lo hi : Nat} {g : Geo} (h : GeoAt w b g) (k : Only lo hi w w') (hb : b < lo) : GeoAt w' b g := h.frame (k.block b h.lt (.inl hb))
set_option maxHeartbeats 4000000 in
set_option maxRecDepth 100000 in
theorem alive_any (w : World) :
    Calls Try.prog 8 #[] w fun e w' => e = .returned (.bool true) ∧ Kept w w' := by
  have HTH := Lib.hid (fun W => three_any W)
  have HNEW : Hid (∀ W, Calls Try.prog 13 #[.int .i64 3, .int .i64 24] W fun r w' => r = .returned (.tuple #[.pointer (some ⟨W.heap.size + 1, 0, none⟩), .int .i64 0]) ∧ Kept W w' ∧ RackAt W.heap.size stA w' ∧ w'.heap.size = W.heap.size + 2 + 3) := fun W => pNew_ok 3 24 (by decide) (by decide) (by decide) (by decide) W
  go_enter Try.func8, Try.ntmps8
  go_wp2_with fail
  refine (HTH.out _).mono ?_
  rintro e u1 ⟨rfl, hk⟩
  go_upto_region 2 with fail
  have K := Lib.hid (hk.alloc (.cells #[.int .i64 3, .int .i64 1, .int .i64 24, .int .i64 2] 41))
  have GG := Lib.hid (GeoAt.laid u1 41 geo3)
  have hBg : u1.heap.size < (u1.alloc (.cells #[.int .i64 3, .int .i64 1, .int .i64 24, .int .i64 2] 41)).heap.size := by rw [size_alloc]; omega
  have HBW : Hid (w.heap.size ≤ u1.heap.size) := hk.size
  replace GG : Hid (GeoAt (u1.alloc (.cells #[.int .i64 3, .int .i64 1, .int .i64 24, .int .i64 2] 41)) u1.heap.size geo3) := GG.out
  clear hk HTH
  generalize u1.alloc (.cells #[.int .i64 3, .int .i64 1, .int .i64 24, .int .i64 2] 41) = u2 at *
  generalize u1.heap.size = B0 at *
  go_wp2_with fail
  refine (HNEW.out _).mono ?_
  rintro e u3 ⟨rfl, hk, hR, hsz⟩
  replace K := Lib.hid (K.out.trans hk)
  replace GG := Lib.hid (GG.out.kept hk)
  have RR := Lib.hid hR
  generalize u2.heap.size = g at *
  have HSZ : Hid (g + 5 ≤ u3.heap.size) := by show _ ≤ _; omega
  clear hk hR hsz HNEW
  have HV := Lib.hid (fun W (h : RackAt g stA W) => pVote_any g stA geo3 W h)
  rw [aliveV0] at HV
  unfold Rt.val Geo.val geo3 at HV
  dsimp only [one5, two9, Rt.none] at HV
  have g0 := GG.out.c0
  have g1 := GG.out.c1
  have g2 := GG.out.c2
  have g3 := GG.out.c3
  dsimp only [geo3] at g0 g1 g2 g3
  go_wp2_with fail
  refine (HV.out _ RR.out).mono ?_
  rintro e u4 ⟨⟨hvH5, rfl, hGB⟩, hk⟩
  have H5L : Hid (g + 5 ≤ u3.heap.size) := HSZ.out
  replace K := Lib.hid (K.out.trans hk)
  replace GG := Lib.hid (GG.out.kept hk)
  replace HSZ : Hid (g + 5 ≤ u4.heap.size) := Nat.le_trans HSZ.out hk.size
  replace RR := Lib.hid (RR.out.kept hk)
  have H5 := Lib.hid hGB
  clear hk hGB HV g0 g1 g2 g3
  go_upto_region 6 with fail
  have hk : Kept u4 (u4.alloc (.cells #[.int .u64 0, .int .u64 0, .int .i64 0, .int .u64 0, .int .i64 0] 26)) := (Kept.refl _).alloc _
  have X4n : Hid (RtAt (u4.alloc (.cells #[.int .u64 0, .int .u64 0, .int .i64 0, .int .u64 0, .int .i64 0] 26)) u4.heap.size Rt.none) := RtAt.laid u4 26 Rt.none
  have X4b : Hid (g + 5 ≤ u4.heap.size) := HSZ.out
  replace K := Lib.hid (K.out.trans hk)
  replace GG := Lib.hid (GG.out.kept hk)
  replace HSZ : Hid (g + 5 ≤ (u4.alloc (.cells #[.int .u64 0, .int .u64 0, .int .i64 0, .int .u64 0, .int .i64 0] 26)).heap.size) := Nat.le_trans HSZ.out hk.size
  replace H5 := Lib.hid (H5.out.kept hk)
  replace RR := Lib.hid (RR.out.kept hk)
  clear hk
  have X4 := X4n
  clear X4n
  generalize u4.alloc (.cells #[.int .u64 0, .int .u64 0, .int .i64 0, .int .u64 0, .int .i64 0] 26) = u5 at *
  generalize u4.heap.size = X4B at *
  go_upto_region 7 with fail
  have hk : Kept u5 (u5.alloc (.cells #[.int .u64 1, .int .u64 5, .int .i64 0, .int .u64 0, .int .i64 0] 26)) := (Kept.refl _).alloc _
  have X7n : Hid (RtAt (u5.alloc (.cells #[.int .u64 1, .int .u64 5, .int .i64 0, .int .u64 0, .int .i64 0] 26)) u5.heap.size one5) := RtAt.laid u5 26 one5
  have X7b : Hid (g + 5 ≤ u5.heap.size) := HSZ.out
  replace K := Lib.hid (K.out.trans hk)
  replace GG := Lib.hid (GG.out.kept hk)
  replace HSZ : Hid (g + 5 ≤ (u5.alloc (.cells #[.int .u64 1, .int .u64 5, .int .i64 0, .int .u64 0, .int .i64 0] 26)).heap.size) := Nat.le_trans HSZ.out hk.size
  replace X4 := Lib.hid (X4.out.kept hk)
  replace H5 := Lib.hid (H5.out.kept hk)
  replace RR := Lib.hid (RR.out.kept hk)
  clear hk
  have X7 := X7n
  clear X7n
  generalize u5.alloc (.cells #[.int .u64 1, .int .u64 5, .int .i64 0, .int .u64 0, .int .i64 0] 26) = u6 at *
  generalize u5.heap.size = X7B at *
  go_upto_region 8 with fail
  have hk : Kept u6 (u6.alloc (.cells #[.int .u64 2, .int .u64 9, .int .i64 1, .int .u64 5, .int .i64 30] 26)) := (Kept.refl _).alloc _
  have X8n : Hid (RtAt (u6.alloc (.cells #[.int .u64 2, .int .u64 9, .int .i64 1, .int .u64 5, .int .i64 30] 26)) u6.heap.size two9) := RtAt.laid u6 26 two9
  have X8b : Hid (g + 5 ≤ u6.heap.size) := HSZ.out
  replace K := Lib.hid (K.out.trans hk)
  replace GG := Lib.hid (GG.out.kept hk)
  replace HSZ : Hid (g + 5 ≤ (u6.alloc (.cells #[.int .u64 2, .int .u64 9, .int .i64 1, .int .u64 5, .int .i64 30] 26)).heap.size) := Nat.le_trans HSZ.out hk.size
  replace X4 := Lib.hid (X4.out.kept hk)
  replace X7 := Lib.hid (X7.out.kept hk)
  replace H5 := Lib.hid (H5.out.kept hk)
  replace RR := Lib.hid (RR.out.kept hk)
  clear hk
  have X8 := X8n
  clear X8n
  generalize u6.alloc (.cells #[.int .u64 2, .int .u64 9, .int .i64 1, .int .u64 5, .int .i64 30] 26) = u7 at *
  generalize u6.heap.size = X8B at *
  have HV := Lib.hid (fun W (h : RackAt g stA W) => pWriteR_any g stA geo3 one5 W h)
  rw [aliveW1] at HV
  unfold Rt.val Geo.val geo3 at HV
  dsimp only [one5, two9, Rt.none] at HV
  replace HV : Hid (∀ W, RackAt g stA W → Calls Try.prog 14 _ W fun r w' => r = .returned (.int .i64 0) ∧ RackAt g stB w' ∧ Only g (g + 2 + 3) W w') := HV.out
  have g0 := GG.out.c0
  have g1 := GG.out.c1
  have g2 := GG.out.c2
  have g3 := GG.out.c3
  dsimp only [geo3] at g0 g1 g2 g3
  have X7c0 := X7.out.c0
  have X7c1 := X7.out.c1
  have X7c2 := X7.out.c2
  have X7c3 := X7.out.c3
  have X7c4 := X7.out.c4
  dsimp only [one5, two9, Rt.none] at X7c0 X7c1 X7c2 X7c3 X7c4
  go_wp2_with fail
  refine (HV.out _ RR.out).mono ?_
  rintro e u8 ⟨rfl, hR, hO⟩
  replace K := Lib.hid (Only.kept K.out (by have := HBW.out; omega) hO)
  replace GG := Lib.hid (GG.out.onlyLo hO hBg)
  replace HSZ : Hid (g + 5 ≤ u8.heap.size) := Nat.le_trans HSZ.out hO.size
  replace X4 := Lib.hid (X4.out.only hO X4b.out)
  replace X7 := Lib.hid (X7.out.only hO X7b.out)
  replace X8 := Lib.hid (X8.out.only hO X8b.out)
  replace H5 := Lib.hid (H5.out.only hO H5L.out)
  replace RR := Lib.hid hR
  clear hR hO HV
  clear g0 g1 g2 g3 X7c0 X7c1 X7c2 X7c3 X7c4
  have HV : Hid (∀ W, RackAt g stB W → Calls Try.prog 15 #[.pointer (some ⟨g + 1, 0, none⟩), .int .i64 1] W fun r w' => r = .returned (.int .i64 0) ∧ RackAt g (stB.lim true 1) w' ∧ Only g (g + 2 + 3) W w') := fun W h => cut_any g stB 1 (by decide) (by decide) W h
  have g0 := GG.out.c0
  have g1 := GG.out.c1
  have g2 := GG.out.c2
  have g3 := GG.out.c3
  dsimp only [geo3] at g0 g1 g2 g3
  go_wp2_with fail
  refine (HV.out _ RR.out).mono ?_
  rintro e u9 ⟨rfl, hR, hO⟩
  replace K := Lib.hid (Only.kept K.out (by have := HBW.out; omega) hO)
  replace GG := Lib.hid (GG.out.onlyLo hO hBg)
  replace HSZ : Hid (g + 5 ≤ u9.heap.size) := Nat.le_trans HSZ.out hO.size
  replace X4 := Lib.hid (X4.out.only hO X4b.out)
  replace X7 := Lib.hid (X7.out.only hO X7b.out)
  replace X8 := Lib.hid (X8.out.only hO X8b.out)
  replace H5 := Lib.hid (H5.out.only hO H5L.out)
  replace RR := Lib.hid hR
  clear hR hO HV
  clear g0 g1 g2 g3
  have HV := Lib.hid (fun W (h : RackAt g (stB.lim true 1) W) => pWriteR_any g (stB.lim true 1) geo3 two9 W h)
  rw [aliveW2] at HV
  unfold Rt.val Geo.val geo3 at HV
  dsimp only [one5, two9, Rt.none] at HV
  replace HV : Hid (∀ W, RackAt g (stB.lim true 1) W → Calls Try.prog 14 _ W fun r w' => r = .returned (.int .i64 71) ∧ RackAt g stC w' ∧ Only g (g + 2 + 3) W w') := HV.out
  have g0 := GG.out.c0
  have g1 := GG.out.c1
  have g2 := GG.out.c2
  have g3 := GG.out.c3
  dsimp only [geo3] at g0 g1 g2 g3
  have X8c0 := X8.out.c0
  have X8c1 := X8.out.c1
  have X8c2 := X8.out.c2
  have X8c3 := X8.out.c3
  have X8c4 := X8.out.c4
  dsimp only [one5, two9, Rt.none] at X8c0 X8c1 X8c2 X8c3 X8c4
  go_wp2_with fail
  refine (HV.out _ RR.out).mono ?_
  rintro e u10 ⟨rfl, hR, hO⟩
  replace K := Lib.hid (Only.kept K.out (by have := HBW.out; omega) hO)
  replace GG := Lib.hid (GG.out.onlyLo hO hBg)
  replace HSZ : Hid (g + 5 ≤ u10.heap.size) := Nat.le_trans HSZ.out hO.size
  replace X4 := Lib.hid (X4.out.only hO X4b.out)
  replace X7 := Lib.hid (X7.out.only hO X7b.out)
  replace X8 := Lib.hid (X8.out.only hO X8b.out)
  replace H5 := Lib.hid (H5.out.only hO H5L.out)
  replace RR := Lib.hid hR
  clear hR hO HV
  clear g0 g1 g2 g3 X8c0 X8c1 X8c2 X8c3 X8c4
  have HV : Hid (∀ W, RackAt g stC W → Calls Try.prog 16 #[.pointer (some ⟨g + 1, 0, none⟩)] W fun r w' => r = .returned (.int .i64 0) ∧ RackAt g stD w' ∧ Only g (g + 2 + 3) W w') := fun W h => lift_any g stC W h
  have g0 := GG.out.c0
  have g1 := GG.out.c1
  have g2 := GG.out.c2
  have g3 := GG.out.c3
  dsimp only [geo3] at g0 g1 g2 g3
  go_wp2_with fail
  refine (HV.out _ RR.out).mono ?_
  rintro e u11 ⟨rfl, hR, hO⟩
  replace K := Lib.hid (Only.kept K.out (by have := HBW.out; omega) hO)
  replace GG := Lib.hid (GG.out.onlyLo hO hBg)
  replace HSZ : Hid (g + 5 ≤ u11.heap.size) := Nat.le_trans HSZ.out hO.size
  replace X4 := Lib.hid (X4.out.only hO X4b.out)
  replace X7 := Lib.hid (X7.out.only hO X7b.out)
  replace X8 := Lib.hid (X8.out.only hO X8b.out)
  replace H5 := Lib.hid (H5.out.only hO H5L.out)
  replace RR := Lib.hid hR
  clear hR hO HV
  clear g0 g1 g2 g3
  have HV := Lib.hid (fun W (h : RackAt g stD W) => pVote_any g stD geo3 W h)
  rw [aliveV1] at HV
  unfold Rt.val Geo.val geo3 at HV
  dsimp only [one5, two9, Rt.none] at HV
  have g0 := GG.out.c0
  have g1 := GG.out.c1
  have g2 := GG.out.c2
  have g3 := GG.out.c3
  dsimp only [geo3] at g0 g1 g2 g3
  go_wp2_with fail
  refine (HV.out _ RR.out).mono ?_
  rintro e u12 ⟨⟨hvH12, rfl, hGB⟩, hk⟩
  have H12L : Hid (g + 5 ≤ u11.heap.size) := HSZ.out
  replace K := Lib.hid (K.out.trans hk)
  replace GG := Lib.hid (GG.out.kept hk)
  replace HSZ : Hid (g + 5 ≤ u12.heap.size) := Nat.le_trans HSZ.out hk.size
  replace X4 := Lib.hid (X4.out.kept hk)
  replace X7 := Lib.hid (X7.out.kept hk)
  replace X8 := Lib.hid (X8.out.kept hk)
  replace H5 := Lib.hid (H5.out.kept hk)
  replace RR := Lib.hid (RR.out.kept hk)
  have H12 := Lib.hid hGB
  clear hk hGB HV g0 g1 g2 g3
  go_upto_region 13 with fail
  have hk : Kept u12 (u12.alloc (.cells #[.int .u64 2, .int .u64 9, .int .i64 1, .int .u64 5, .int .i64 30] 26)) := (Kept.refl _).alloc _
  have X11n : Hid (RtAt (u12.alloc (.cells #[.int .u64 2, .int .u64 9, .int .i64 1, .int .u64 5, .int .i64 30] 26)) u12.heap.size two9) := RtAt.laid u12 26 two9
  have X11b : Hid (g + 5 ≤ u12.heap.size) := HSZ.out
  replace K := Lib.hid (K.out.trans hk)
  replace GG := Lib.hid (GG.out.kept hk)
  replace HSZ : Hid (g + 5 ≤ (u12.alloc (.cells #[.int .u64 2, .int .u64 9, .int .i64 1, .int .u64 5, .int .i64 30] 26)).heap.size) := Nat.le_trans HSZ.out hk.size
  replace X4 := Lib.hid (X4.out.kept hk)
  replace X7 := Lib.hid (X7.out.kept hk)
  replace X8 := Lib.hid (X8.out.kept hk)
  replace H5 := Lib.hid (H5.out.kept hk)
  replace H12 := Lib.hid (H12.out.kept hk)
  replace RR := Lib.hid (RR.out.kept hk)
  clear hk
  have X11 := X11n
  clear X11n
  generalize u12.alloc (.cells #[.int .u64 2, .int .u64 9, .int .i64 1, .int .u64 5, .int .i64 30] 26) = u13 at *
  generalize u12.heap.size = X11B at *
  have HV : Hid (∀ W, RackAt g stD W → Calls Try.prog 17 #[.pointer (some ⟨g + 1, 0, none⟩), .int .i64 0] W fun r w' => r = .returned (.int .i64 0) ∧ RackAt g stE w' ∧ Only g (g + 2 + 3) W w') := fun W h => wipe_any g stD 0 (by decide) (by decide) W h
  have g0 := GG.out.c0
  have g1 := GG.out.c1
  have g2 := GG.out.c2
  have g3 := GG.out.c3
  dsimp only [geo3] at g0 g1 g2 g3
  go_wp2_with fail
  refine (HV.out _ RR.out).mono ?_
  rintro e u14 ⟨rfl, hR, hO⟩
  replace K := Lib.hid (Only.kept K.out (by have := HBW.out; omega) hO)
  replace GG := Lib.hid (GG.out.onlyLo hO hBg)
  replace HSZ : Hid (g + 5 ≤ u14.heap.size) := Nat.le_trans HSZ.out hO.size
  replace X4 := Lib.hid (X4.out.only hO X4b.out)
  replace X7 := Lib.hid (X7.out.only hO X7b.out)
  replace X8 := Lib.hid (X8.out.only hO X8b.out)
  replace X11 := Lib.hid (X11.out.only hO X11b.out)
  replace H5 := Lib.hid (H5.out.only hO H5L.out)
  replace H12 := Lib.hid (H12.out.only hO H12L.out)
  replace RR := Lib.hid hR
  clear hR hO HV
  clear g0 g1 g2 g3
  have HV := Lib.hid (fun W (h : RackAt g stE W) => pVote_any g stE geo3 W h)
  rw [aliveV2] at HV
  unfold Rt.val Geo.val geo3 at HV
  dsimp only [one5, two9, Rt.none] at HV
  have g0 := GG.out.c0
  have g1 := GG.out.c1
  have g2 := GG.out.c2
  have g3 := GG.out.c3
  dsimp only [geo3] at g0 g1 g2 g3
  go_wp2_with fail
  refine (HV.out _ RR.out).mono ?_
  rintro e u15 ⟨⟨hvH15, rfl, hGB⟩, hk⟩
  have H15L : Hid (g + 5 ≤ u14.heap.size) := HSZ.out
  replace K := Lib.hid (K.out.trans hk)
  replace GG := Lib.hid (GG.out.kept hk)
  replace HSZ : Hid (g + 5 ≤ u15.heap.size) := Nat.le_trans HSZ.out hk.size
  replace X4 := Lib.hid (X4.out.kept hk)
  replace X7 := Lib.hid (X7.out.kept hk)
  replace X8 := Lib.hid (X8.out.kept hk)
  replace X11 := Lib.hid (X11.out.kept hk)
  replace H5 := Lib.hid (H5.out.kept hk)
  replace H12 := Lib.hid (H12.out.kept hk)
  replace RR := Lib.hid (RR.out.kept hk)
  have H15 := Lib.hid hGB
  clear hk hGB HV g0 g1 g2 g3
  go_upto_region 15 with fail
  have hk : Kept u15 (u15.alloc (.cells #[.int .u64 1, .int .u64 5, .int .i64 0, .int .u64 0, .int .i64 0] 26)) := (Kept.refl _).alloc _
  have X14n : Hid (RtAt (u15.alloc (.cells #[.int .u64 1, .int .u64 5, .int .i64 0, .int .u64 0, .int .i64 0] 26)) u15.heap.size one5) := RtAt.laid u15 26 one5
  have X14b : Hid (g + 5 ≤ u15.heap.size) := HSZ.out
  replace K := Lib.hid (K.out.trans hk)
  replace GG := Lib.hid (GG.out.kept hk)
  replace HSZ : Hid (g + 5 ≤ (u15.alloc (.cells #[.int .u64 1, .int .u64 5, .int .i64 0, .int .u64 0, .int .i64 0] 26)).heap.size) := Nat.le_trans HSZ.out hk.size
  replace X4 := Lib.hid (X4.out.kept hk)
  replace X7 := Lib.hid (X7.out.kept hk)
  replace X8 := Lib.hid (X8.out.kept hk)
  replace X11 := Lib.hid (X11.out.kept hk)
  replace H5 := Lib.hid (H5.out.kept hk)
  replace H12 := Lib.hid (H12.out.kept hk)
  replace H15 := Lib.hid (H15.out.kept hk)
  replace RR := Lib.hid (RR.out.kept hk)
  clear hk
  have X14 := X14n
  clear X14n
  generalize u15.alloc (.cells #[.int .u64 1, .int .u64 5, .int .i64 0, .int .u64 0, .int .i64 0] 26) = u16 at *
  generalize u15.heap.size = X14B at *
  have HV : Hid (∀ W, RackAt g stE W → Calls Try.prog 17 #[.pointer (some ⟨g + 1, 0, none⟩), .int .i64 1] W fun r w' => r = .returned (.int .i64 0) ∧ RackAt g stF w' ∧ Only g (g + 2 + 3) W w') := fun W h => wipe_any g stE 1 (by decide) (by decide) W h
  have g0 := GG.out.c0
  have g1 := GG.out.c1
  have g2 := GG.out.c2
  have g3 := GG.out.c3
  dsimp only [geo3] at g0 g1 g2 g3
  go_wp2_with fail
  refine (HV.out _ RR.out).mono ?_
  rintro e u17 ⟨rfl, hR, hO⟩
  replace K := Lib.hid (Only.kept K.out (by have := HBW.out; omega) hO)
  replace GG := Lib.hid (GG.out.onlyLo hO hBg)
  replace HSZ : Hid (g + 5 ≤ u17.heap.size) := Nat.le_trans HSZ.out hO.size
  replace X4 := Lib.hid (X4.out.only hO X4b.out)
  replace X7 := Lib.hid (X7.out.only hO X7b.out)
  replace X8 := Lib.hid (X8.out.only hO X8b.out)
  replace X11 := Lib.hid (X11.out.only hO X11b.out)
  replace X14 := Lib.hid (X14.out.only hO X14b.out)
  replace H5 := Lib.hid (H5.out.only hO H5L.out)
  replace H12 := Lib.hid (H12.out.only hO H12L.out)
  replace H15 := Lib.hid (H15.out.only hO H15L.out)
  replace RR := Lib.hid hR
  clear hR hO HV
  clear g0 g1 g2 g3
  have HV := Lib.hid (fun W (h : RackAt g stF W) => pVote_any g stF geo3 W h)
  rw [aliveV3] at HV
  unfold Rt.val Geo.val geo3 at HV
  dsimp only [one5, two9, Rt.none] at HV
  have g0 := GG.out.c0
  have g1 := GG.out.c1
  have g2 := GG.out.c2
  have g3 := GG.out.c3
  dsimp only [geo3] at g0 g1 g2 g3
  go_wp2_with fail
  refine (HV.out _ RR.out).mono ?_
  rintro e u18 ⟨⟨hvH18, rfl, hGB⟩, hk⟩
  have H18L : Hid (g + 5 ≤ u17.heap.size) := HSZ.out
  replace K := Lib.hid (K.out.trans hk)
  replace GG := Lib.hid (GG.out.kept hk)
  replace HSZ : Hid (g + 5 ≤ u18.heap.size) := Nat.le_trans HSZ.out hk.size
  replace X4 := Lib.hid (X4.out.kept hk)
  replace X7 := Lib.hid (X7.out.kept hk)
  replace X8 := Lib.hid (X8.out.kept hk)
  replace X11 := Lib.hid (X11.out.kept hk)
  replace X14 := Lib.hid (X14.out.kept hk)
  replace H5 := Lib.hid (H5.out.kept hk)
  replace H12 := Lib.hid (H12.out.kept hk)
  replace H15 := Lib.hid (H15.out.kept hk)
  replace RR := Lib.hid (RR.out.kept hk)
  have H18 := Lib.hid hGB
  clear hk hGB HV g0 g1 g2 g3
  go_upto_region 17 with fail
  have hk : Kept u18 (u18.alloc (.cells #[.int .u64 0, .int .u64 0, .int .i64 0, .int .u64 0, .int .i64 0] 26)) := (Kept.refl _).alloc _
  have X17n : Hid (RtAt (u18.alloc (.cells #[.int .u64 0, .int .u64 0, .int .i64 0, .int .u64 0, .int .i64 0] 26)) u18.heap.size Rt.none) := RtAt.laid u18 26 Rt.none
  have X17b : Hid (g + 5 ≤ u18.heap.size) := HSZ.out
  replace K := Lib.hid (K.out.trans hk)
  replace GG := Lib.hid (GG.out.kept hk)
  replace HSZ : Hid (g + 5 ≤ (u18.alloc (.cells #[.int .u64 0, .int .u64 0, .int .i64 0, .int .u64 0, .int .i64 0] 26)).heap.size) := Nat.le_trans HSZ.out hk.size
  replace X4 := Lib.hid (X4.out.kept hk)
  replace X7 := Lib.hid (X7.out.kept hk)
  replace X8 := Lib.hid (X8.out.kept hk)
  replace X11 := Lib.hid (X11.out.kept hk)
  replace X14 := Lib.hid (X14.out.kept hk)
  replace H5 := Lib.hid (H5.out.kept hk)
  replace H12 := Lib.hid (H12.out.kept hk)
  replace H15 := Lib.hid (H15.out.kept hk)
  replace H18 := Lib.hid (H18.out.kept hk)
  replace RR := Lib.hid (RR.out.kept hk)
  clear hk
  have X17 := X17n
  clear X17n
  generalize u18.alloc (.cells #[.int .u64 0, .int .u64 0, .int .i64 0, .int .u64 0, .int .i64 0] 26) = u19 at *
  generalize u18.heap.size = X17B at *
  clear RR HBW
  have HEN := Lib.hid (fun W => pEncode_any two9 W)
  have HEV : pencV two9 = .tuple #[.string two9.txt, .int .i64 0] := if_pos two9_may
  rw [HEV] at HEN
  have HDE := Lib.hid (fun W => pDecode_any two9.txt W (by rw [Rt.txt_size two9_may]; decide))
  rw [Rt.txt_list, decR_raw two9_may] at HDE
  have HTZ := Rt.txt_size two9_may
  clear HEV
  generalize two9.txt = tx at *
  unfold decV at HDE
  unfold Rt.val at HEN HDE
  dsimp only [two9] at HEN HDE
  go_upto_region 17 with fail
  have X8c0 := X8.out.c0
  have X8c1 := X8.out.c1
  have X8c2 := X8.out.c2
  have X8c3 := X8.out.c3
  have X8c4 := X8.out.c4
  dsimp only [one5, two9, Rt.none] at X8c0 X8c1 X8c2 X8c3 X8c4
  go_wp2_with fail
  refine (HEN.out _).mono ?_
  rintro e u20 ⟨rfl, hk⟩
  replace K := Lib.hid (K.out.trans hk)
  replace GG := Lib.hid (GG.out.kept hk)
  replace HSZ : Hid (g + 5 ≤ u20.heap.size) := Nat.le_trans HSZ.out hk.size
  replace X4 := Lib.hid (X4.out.kept hk)
  replace X7 := Lib.hid (X7.out.kept hk)
  replace X8 := Lib.hid (X8.out.kept hk)
  replace X11 := Lib.hid (X11.out.kept hk)
  replace X14 := Lib.hid (X14.out.kept hk)
  replace X17 := Lib.hid (X17.out.kept hk)
  replace H5 := Lib.hid (H5.out.kept hk)
  replace H12 := Lib.hid (H12.out.kept hk)
  replace H15 := Lib.hid (H15.out.kept hk)
  replace H18 := Lib.hid (H18.out.kept hk)
  clear hk HEN X8c0 X8c1 X8c2 X8c3 X8c4
  go_wp2_with fail
  refine (HDE.out _).mono ?_
  rintro e u21 ⟨rfl, hk⟩
  replace K := Lib.hid (K.out.trans hk)
  replace GG := Lib.hid (GG.out.kept hk)
  replace HSZ : Hid (g + 5 ≤ u21.heap.size) := Nat.le_trans HSZ.out hk.size
  replace X4 := Lib.hid (X4.out.kept hk)
  replace X7 := Lib.hid (X7.out.kept hk)
  replace X8 := Lib.hid (X8.out.kept hk)
  replace X11 := Lib.hid (X11.out.kept hk)
  replace X14 := Lib.hid (X14.out.kept hk)
  replace X17 := Lib.hid (X17.out.kept hk)
  replace H5 := Lib.hid (H5.out.kept hk)
  replace H12 := Lib.hid (H12.out.kept hk)
  replace H15 := Lib.hid (H15.out.kept hk)
  replace H18 := Lib.hid (H18.out.kept hk)
  clear hk HDE
  have KN := Lib.hid ((K.out).alloc (.cells #[.int .u64 2, .int .u64 9, .int .i64 1, .int .u64 5, .int .i64 30] 26))
  have hkn : Kept u21 (u21.alloc (.cells #[.int .u64 2, .int .u64 9, .int .i64 1, .int .u64 5, .int .i64 30] 26)) := (Kept.refl _).alloc _
  have ZN : Hid (RtAt (u21.alloc (.cells #[.int .u64 2, .int .u64 9, .int .i64 1, .int .u64 5, .int .i64 30] 26)) u21.heap.size two9) := RtAt.laid u21 26 two9
  replace X7 := Lib.hid (X7.out.kept hkn)
  replace X8 := Lib.hid (X8.out.kept hkn)
  replace X11 := Lib.hid (X11.out.kept hkn)
  replace X14 := Lib.hid (X14.out.kept hkn)
  obtain ⟨a12, c12, h12, k12⟩ := (H12.out.kept hkn).bls
  obtain ⟨q12, e12, f12⟩ := k12 (by decide)
  have v0 := f12 0 (by decide)
  have v1 := f12 1 (by decide)
  obtain ⟨a15, c15, h15, k15⟩ := (H15.out.kept hkn).bls
  obtain ⟨q15, e15, f15⟩ := k15 (by decide)
  have y0 := f15 0 (by decide)
  have y2 := f15 2 (by decide)
  subst e12 e15 h12 h15
  simp only [List.getD_cons_zero, List.getD_cons_succ, List.length_cons, List.length_nil] at v0 v1 y0 y2 ⊢
  have X7c0 := X7.out.c0
  have X7c1 := X7.out.c1
  have X7c2 := X7.out.c2
  have X7c3 := X7.out.c3
  have X7c4 := X7.out.c4
  dsimp only [one5, two9, Rt.none] at X7c0 X7c1 X7c2 X7c3 X7c4
  have X8c0 := X8.out.c0
  have X8c1 := X8.out.c1
  have X8c2 := X8.out.c2
  have X8c3 := X8.out.c3
  have X8c4 := X8.out.c4
  dsimp only [one5, two9, Rt.none] at X8c0 X8c1 X8c2 X8c3 X8c4
  have X11c0 := X11.out.c0
  have X11c1 := X11.out.c1
  have X11c2 := X11.out.c2
  have X11c3 := X11.out.c3
  have X11c4 := X11.out.c4
  dsimp only [one5, two9, Rt.none] at X11c0 X11c1 X11c2 X11c3 X11c4
  have X14c0 := X14.out.c0
  have X14c1 := X14.out.c1
  have X14c2 := X14.out.c2
  have X14c3 := X14.out.c3
  have X14c4 := X14.out.c4
  dsimp only [one5, two9, Rt.none] at X14c0 X14c1 X14c2 X14c3 X14c4
  have Zc0 := ZN.out.c0
  have Zc1 := ZN.out.c1
  have Zc2 := ZN.out.c2
  have Zc3 := ZN.out.c3
  have Zc4 := ZN.out.c4
  dsimp only [two9] at Zc0 Zc1 Zc2 Zc3 Zc4
  clear k12 k15 f12 f15 hkn
  go_wp2_with fail
  trace_state
  go_ret
  exact ⟨rfl, KN.out⟩
end Go.Proofs.Ytoekaabngjjefaa

