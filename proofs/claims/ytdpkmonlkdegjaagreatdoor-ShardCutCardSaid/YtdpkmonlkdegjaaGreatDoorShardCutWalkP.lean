/- ShardCut's walk. -/
import Derived.Test.YtdpkmonlkdegjaaGreatDoorPart32
import Derived.Test.YtdpkmonlkdegjaaGreatDoorPart33
namespace Go.Proofs.YtdpkmonlkdegjaaGreatDoor
open Go.RowKit Sm Wr _root_.Go.Proofs.YtdpkmonlkdegjaaGreatDoor.Nm
set_option linter.unusedVariables false
set_option maxHeartbeats 4000000 in
set_option maxRecDepth 100000 in
theorem shardCut_walk (x : Shd) (a1 : Int) (w : World) (w0 : x.Wf ∧ x.t.size ≤ maxLen) (w1 : (Lit.int .u8 a1).wf = true) :
    Calls Tryz.prog 4 #[x.val, .int .u8 a1] w fun e w' => e = .returned (.bool true) ∧ Kept w w' := by
  obtain ⟨k1, k2⟩ := bounds_u8 w1
  obtain ⟨hx, hs⟩ := w0
  clear w1
  have hs2 : x.t.size ≤ 9223372036854775807 := by unfold maxLen at hs; exact hs
  obtain ⟨q, rfl⟩ : ∃ q : Nat, a1 = q := ⟨a1.toNat, by omega⟩
  have hK : (q : Int).tmod 10 = ((q % 10 : Nat) : Int) := rfl
  obtain ⟨K, hKe⟩ : ∃ K, K = q % 10 := ⟨_, rfl⟩
  have hK9 : K < 10 := by omega
  rw [← hKe] at hK
  clear hKe
  by_cases hb : (1024 : Int) < (x.t.size : Int)
  · have h10 : decide ((1024 : Int) < (x.t.size : Int)) = true := decide_eq_true hb
    obtain ⟨st, ix, tt, t⟩ := x
    unfold Shd.val at *
    dsimp only at *
    clear hx hs hb hs2
    have K0 : Hid (Kept w (w.alloc (.cells #[.int .u64 (st : Nat), .int .i64 ix, .int .i64 tt, .string t] 34))) := (Kept.refl _).alloc _
    go_enter Tryz.func4, Tryz.ntmps4
    go_wp2_with fail
    refine (shAlive_any _).mono ?_
    rintro e u6 ⟨rfl, hk⟩
    have K6 : Hid (Kept w u6) := K0.out.trans hk
    clear hk K0
    go_wp2_with fail
    go_ret
    exact ⟨rfl, K6.out⟩
  · have h10 : decide ((1024 : Int) < (x.t.size : Int)) = false := decide_eq_false hb
    have HCUT : Hid (x.may = false ∨ (x.may = true ∧ nsec x.t.size + 1 ≤ K) ∨ (x.may = true ∧ K ≤ nsec x.t.size)) := by
      cases hm : x.may with
      | false => exact .inl rfl
      | true =>
        rcases Nat.lt_or_ge (nsec x.t.size) K with h | h
        · exact .inr (.inl ⟨rfl, h⟩)
        · exact .inr (.inr ⟨rfl, h⟩)
    have hsz : x.t.size ≤ 1024 := by omega
    obtain ⟨S1, hS1⟩ : ∃ S1, S1 = (rack0 1 8).lim true K := ⟨_, rfl⟩
    have O1 : One S1 := by rw [hS1]; exact ⟨one0.wf.lim _ _ (by omega), rfl, rfl⟩
    have HCU : Hid ((rack0 1 8).cutS (K : Int) = S1) := by
      show _ = _
      unfold RSt.cutS
      rw [if_neg (by omega), hS1, Int.toNat_natCast]
    obtain ⟨S2, hS2⟩ : ∃ S2, S2 = (shW S1 0 0 x).2 := ⟨_, rfl⟩
    obtain ⟨f, hf⟩ : ∃ f, f = (shW S1 0 0 x).1 := ⟨_, rfl⟩
    obtain ⟨ge, y, hr⟩ : ∃ ge y, shR S2.liftS 0 0 = (ge, y) := ⟨_, _, rfl⟩
    obtain ⟨C, hC⟩ : ∃ C, C = S2.liftS.writes 0 := ⟨_, rfl⟩
    have HTELL : Hid ((f = 2 ∧ ge = 80 ∧ C = 0) ∨ (f = 0 ∧ ge = 0 ∧ y = x ∧ nsec x.t.size + 1 ≤ K ∧ C = nsec x.t.size + 1 ∧ x.may = true) ∨ (f = 71 ∧ ge = 80 ∧ K ≤ nsec x.t.size ∧ C = K ∧ x.may = true)) := by
      have hc1 : S1.cut = true := by rw [hS1]; rfl
      have hl1 : S1.left = K := by rw [hS1]; rfl
      have hT1 : ∀ i, S1.T 0 i = zero64 := fun i => by rw [hS1]; rfl
      have hb1 : ∀ i, S1.bad 0 i = false := fun i => by rw [hS1]; rfl
      have hn1 : S1.cnt 0 = 0 := by rw [hS1]; rfl
      have hwr : ∀ s : RSt, One s → s.liftS.writes 0 = s.cnt 0 := fun s o => by
        unfold RSt.writes RSt.drive
        rw [if_pos (decide_eq_true ⟨by omega, by show (0 : Int) < (s.n : Nat); rw [o.n]; decide⟩)]
        rfl
      have hli : ∀ s : RSt, One s → One s.liftS := fun s o => ⟨o.wf.lim _ _ (by omega), o.n, o.m⟩
      rcases HCUT.out with hm | ⟨hm, hk⟩ | ⟨hm, hk⟩
      · left
        have e : shW S1 0 0 x = (2, S1) := by unfold shW; rw [hm, if_pos rfl]
        rw [e] at hS2 hf
        dsimp only at hS2 hf
        subst hS2
        have e2 := shR_blank S2.liftS (hli _ O1) rfl (hT1 0) (hb1 0)
        rw [e2] at hr
        rw [hwr _ O1, hn1] at hC
        exact ⟨hf, (Prod.mk.inj hr).1.symm, hC⟩
      · right; left
        obtain ⟨e1, hst⟩ := shW_ok S1 O1 x hm (fun _ => by omega)
        rw [← hf] at e1
        rw [← hS2] at hst
        have hh : Holds S2.liftS x := ⟨hli _ hst.is.one, hst.is.T0, hst.is.b0, hst.is.T, hst.is.bad⟩
        have e2 := shR_holds S2.liftS x hm hh rfl
        rw [e2] at hr
        rw [hwr _ hst.is.one, hst.cnt, hn1] at hC
        have hN := nsec_le x.t.size (Shd.may_iff hm).2.2.2.2.2.2
        exact ⟨e1, (Prod.mk.inj hr).1.symm, (Prod.mk.inj hr).2.symm, hk, by omega, hm⟩
      · right; right
        obtain ⟨e1, hst⟩ := shW_cut S1 O1 x hm hc1 (by omega)
        rw [← hf] at e1
        rw [← hS2] at hst
        have hN := nsec_le x.t.size (Shd.may_iff hm).2.2.2.2.2.2
        have e2 := shR_blank S2.liftS (hli _ hst.one) rfl (by show S2.T 0 0 = _; rw [hst.T, if_neg (by omega)]; exact hT1 0) (by show S2.bad 0 0 = _; rw [hst.bad, if_neg (by omega)]; exact hb1 0)
        rw [e2] at hr
        rw [hwr _ hst.one, hst.cnt, hn1, hl1] at hC
        exact ⟨e1, (Prod.mk.inj hr).1.symm, hk, by omega, hm⟩
    obtain ⟨g, hg⟩ : ∃ g, g = w.heap.size + 1 := ⟨_, rfl⟩
    have HNW := Lib.hid (fun W => pNew_ok 1 8 (by decide) (by decide) (by decide) (by decide) W)
    have HCT : Hid (∀ W, RackAt g (rack0 1 8) W → Calls Tryz.prog 19 #[.pointer (some ⟨g + 1, 0, none⟩), .int .i64 (K : Nat)] W fun r w' => r = .returned (.int .i64 0) ∧ RackAt g S1 w' ∧ Only g (g + 3) W w') := fun W h => by
      have := cut_any g (rack0 1 8) (K : Int) (by omega) (by omega) W h
      rw [HCU.out, show RSt.cutE (K : Int) = 0 from if_neg (by omega)] at this
      exact this
    have HWR : Hid (∀ W, RackAt g S1 W → Calls Tryz.prog 10 #[.pointer (some ⟨g + 1, 0, none⟩), .int .i64 0, .int .i64 0, x.val] W fun r w' => r = .returned (.int .i64 (f : Nat)) ∧ RackAt g S2 w' ∧ Only g (g + 3) W w') := fun W h => by
      have := shWrite_any g S1 0 0 (by decide) (by decide) (by decide) (by decide) x hx hs2 W h
      rw [← hS2, ← hf, O1.n] at this
      exact this
    have HLI : Hid (∀ W, RackAt g S2 W → Calls Tryz.prog 20 #[.pointer (some ⟨g + 1, 0, none⟩)] W fun r w' => r = .returned (.int .i64 0) ∧ RackAt g S2.liftS w' ∧ Only g (g + 3) W w') := fun W h => by
      have hn : S2.n = 1 := by
        rw [hS2]; unfold shW
        split
        · exact O1.n
        · split
          · rw [(RSt.wrS_n _ _ _ _).1, (wTo_n _ _ _ _ _).1]; exact O1.n
          · rw [(wTo_n _ _ _ _ _).1]; exact O1.n
      have := lift_any g S2 W h
      rw [hn] at this
      exact this
    have HRD : Hid (∀ W, RackAt g S2.liftS W → Calls Tryz.prog 12 #[.pointer (some ⟨g + 1, 0, none⟩), .int .i64 0, .int .i64 0] W fun r w' => r = .returned (.tuple #[.agg #[.int .u64 (y.st : Nat), .int .i64 y.ix, .int .i64 y.tt, .string y.t], .int .i64 (ge : Nat)]) ∧ Kept W w') := fun W h => by
      have := shRead_any g S2.liftS 0 0 (by decide) (by decide) (by decide) (by decide) W h
      rw [hr] at this
      exact this
    have HWS : Hid (∀ W, RackAt g S2.liftS W → Calls Tryz.prog 21 #[.pointer (some ⟨g + 1, 0, none⟩), .int .i64 0] W fun r w' => r = .returned (.int .u64 (C : Nat)) ∧ Kept W w') := fun W h => by
      have := writes_any g S2.liftS 0 (by decide) (by decide) W h
      rw [← hC] at this
      exact this
    have hNs : (x.t.size + 63) / 64 = nsec x.t.size := rfl
    clear hS1 O1 HCU hS2 hf hr hC HCUT hx hs hb
    obtain ⟨st, ix, tt, t⟩ := x
    obtain ⟨yst, yix, ytt, yt⟩ := y
    unfold Shd.val at *
    dsimp only at *
    have K0 : Hid (Kept w (w.alloc (.cells #[.int .u64 (st : Nat), .int .i64 ix, .int .i64 tt, .string t] 34))) := (Kept.refl _).alloc _
    have X0 := Lib.hid (ShAt.laid w 34 ⟨st, ix, tt, t⟩)
    have HG0 : Hid (g = (w.alloc (.cells #[.int .u64 (st : Nat), .int .i64 ix, .int .i64 tt, .string t] 34)).heap.size) := by show _ = _; rw [hg]; simp
    have HG1 : Hid (w.heap.size < g) := by show _ < _; omega
    clear hg
    generalize S2.liftS = S3 at *
    have hb0 := X0.out.c0
    clear hb0
    generalize hn : nsec t.size = N at *
    clear hn
    go_enter Tryz.func4, Tryz.ntmps4
    go_wp2_with fail
    refine (HNW.out _).mono ?_
    rintro e u1 ⟨rfl, hk, hR, hsz1⟩
    rw [← HG0.out] at hR hsz1
    rw [← HG0.out]
    have R1 : Hid (RackAt g (rack0 1 8) u1) := hR
    have K1 : Hid (Kept w u1) := K0.out.trans hk
    have X1 := Lib.hid (X0.out.kept hk)
    clear hk hR hsz1 X0 K0 HNW HG0
    go_wp2_with fail
    refine (HCT.out _ R1.out).mono ?_
    rintro e u2 ⟨rfl, hR, hO⟩
    have R2 : Hid (RackAt g S1 u2) := hR
    have X2 := Lib.hid (X1.out.frame (hO.block _ X1.out.lt (.inl HG1.out)))
    have K2 : Hid (Kept w u2) := Only.kept K1.out (Nat.le_of_lt HG1.out) hO
    clear hR hO R1 X1 K1 HCT
    have x0 := X2.out.c0
    have x1 := X2.out.c1
    have x2 := X2.out.c2
    have x3 := X2.out.c3
    (try dsimp only at x0 x1 x2 x3)
    go_wp2_with fail
    refine (HWR.out _ R2.out).mono ?_
    rintro e u3 ⟨rfl, hR, hO⟩
    have R3 : Hid (RackAt g S2 u3) := hR
    have X3 := Lib.hid (X2.out.frame (hO.block _ X2.out.lt (.inl HG1.out)))
    have K3 : Hid (Kept w u3) := Only.kept K2.out (Nat.le_of_lt HG1.out) hO
    clear hR hO R2 X2 K2 HWR x0 x1 x2 x3
    go_wp2_with fail
    refine (HLI.out _ R3.out).mono ?_
    rintro e u4 ⟨rfl, hR, hO⟩
    have R4 : Hid (RackAt g S3 u4) := hR
    have X4 := Lib.hid (X3.out.frame (hO.block _ X3.out.lt (.inl HG1.out)))
    have K4 : Hid (Kept w u4) := Only.kept K3.out (Nat.le_of_lt HG1.out) hO
    clear hR hO R3 X3 K3 HLI
    go_wp2_with fail
    refine (HRD.out _ R4.out).mono ?_
    rintro e u5 ⟨rfl, hk⟩
    have R5 : Hid (RackAt g S3 u5) := R4.out.kept hk
    have X5 := Lib.hid (X4.out.kept hk)
    have K5 : Hid (Kept w u5) := K4.out.trans hk
    clear hk R4 X4 K4 HRD
    go_upto_region 11 with fail
    have R6 := Lib.hid (R5.out.kept ((Kept.refl u5).alloc (.cells #[.int .u64 (yst : Nat), .int .i64 yix, .int .i64 ytt, .string yt] 34)))
    have X6 := Lib.hid (X5.out.kept ((Kept.refl u5).alloc (.cells #[.int .u64 (yst : Nat), .int .i64 yix, .int .i64 ytt, .string yt] 34)))
    have K6 : Hid (Kept w (u5.alloc (.cells #[.int .u64 (yst : Nat), .int .i64 yix, .int .i64 ytt, .string yt] 34))) := K5.out.alloc _
    have Y6 := Lib.hid (ShAt.laid u5 34 ⟨yst, yix, ytt, yt⟩)
    clear R5 X5 K5
    generalize u5.alloc (.cells #[.int .u64 (yst : Nat), .int .i64 yix, .int .i64 ytt, .string yt] 34) = u6 at *
    generalize u5.heap.size = c at *
    have x3 := X6.out.c3
    (try dsimp only at x3)
    go_upto_region 12 with fail
    clear x3
    have hN16 : N ≤ 16 := by omega
    rw [show ((t.size : Int) + 64 - 1) / 64 + 1 = ((N + 1 : Nat) : Int) from by omega]
    rcases HTELL.out with ⟨rfl, rfl, rfl⟩ | ⟨rfl, rfl, hy, hle, rfl, -⟩ | ⟨rfl, rfl, hle, rfl, -⟩
    · clear HTELL
      go_wp2_with fail
      refine (HWS.out _ R6.out).mono ?_
      rintro e u7 ⟨rfl, hk⟩
      have K7 : Hid (Kept w u7) := K6.out.trans hk
      clear hk K6
      go_wp2_with fail
      refine (shAlive_any _).mono ?_
      rintro e u8 ⟨rfl, hk⟩
      have K8 : Hid (Kept w u8) := K7.out.trans hk
      clear hk K7
      go_wp2_with fail
      go_ret
      exact ⟨rfl, K8.out⟩
    · clear HTELL
      obtain ⟨rfl, rfl, rfl, rfl⟩ : yst = st ∧ yix = ix ∧ ytt = tt ∧ yt = t := by injection hy with a b c d; exact ⟨a, b, c, d⟩
      clear hy
      have e1 : decide (((N + 1 : Nat) : Int) ≤ (K : Int)) = true := decide_eq_true (by omega)
      have e2 : decide (N + 1 ≤ K) = true := decide_eq_true hle
      have e3 : decide ((N : Int) + 1 ≤ (K : Int)) = true := decide_eq_true (by omega)
      have x0 := X6.out.c0
      have x1 := X6.out.c1
      have x2 := X6.out.c2
      have x3 := X6.out.c3
      have y0 := Y6.out.c0
      have y1 := Y6.out.c1
      have y2 := Y6.out.c2
      have y3 := Y6.out.c3
      (try dsimp only at x0 x1 x2 x3 y0 y1 y2 y3)
      generalize N + 1 = M at *
      go_wp2_with fail
      refine (HWS.out _ R6.out).mono ?_
      rintro e u7 ⟨rfl, hk⟩
      have K7 : Hid (Kept w u7) := K6.out.trans hk
      clear hk K6
      go_wp2_with fail
      refine (shAlive_any _).mono ?_
      rintro e u8 ⟨rfl, hk⟩
      have K8 : Hid (Kept w u8) := K7.out.trans hk
      clear hk K7
      go_wp2_with fail
      go_ret
      exact ⟨rfl, K8.out⟩
    · clear HTELL
      have e1 : decide (((N + 1 : Nat) : Int) ≤ (C : Int)) = false := decide_eq_false (by omega)
      have e2 : decide (N + 1 ≤ C) = false := decide_eq_false (by omega)
      generalize N + 1 = M at *
      go_wp2_with fail
      refine (HWS.out _ R6.out).mono ?_
      rintro e u7 ⟨rfl, hk⟩
      have K7 : Hid (Kept w u7) := K6.out.trans hk
      clear hk K6
      go_wp2_with fail
      refine (shAlive_any _).mono ?_
      rintro e u8 ⟨rfl, hk⟩
      have K8 : Hid (Kept w u8) := K7.out.trans hk
      clear hk K7
      go_wp2_with fail
      go_ret
      exact ⟨rfl, K8.out⟩
end Go.Proofs.YtdpkmonlkdegjaaGreatDoor
