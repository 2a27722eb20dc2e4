/- SlotPlays' walk. -/
import Derived.Test.YtoekaabngjjefaaGreatPart37
import Derived.Test.YtoekaabngjjefaaGreatPart32
import Derived.Test.YtoekaabngjjefaaGreatPart26
namespace Go.Proofs.YtoekaabngjjefaaGreat
open Go.RowKit Sm Wr _root_.Go.Proofs.YtoekaabngjjefaaGreat.Nm
set_option linter.unusedVariables false
set_option maxHeartbeats 4000000 in
set_option maxRecDepth 100000 in
theorem slotPlays_walk (q : Geo) (a : Option Addr) (len cap : Nat) (zs : List RStp) (w : World) (w0 : q.Wf) (w1 : IsRSteps w a len cap zs) :
    Calls Tryz.prog 3 #[q.val, .slice a len cap] w fun e w' => e = .returned (.bool true) ∧ Kept w w' := by
  obtain ⟨hS, hzl, hml⟩ := w1.stps
  have hml2 : len ≤ 9223372036854775807 := by unfold maxLen at hml; exact hml
  have K := Lib.hid ((Kept.refl w).alloc (.cells #[.int .i64 q.n, .int .i64 q.p, .int .i64 q.m, .int .i64 q.t] 23))
  have GG := Lib.hid (GeoAt.laid w 23 q)
  have hR : ∀ W, Kept w W → RStps W a zs := fun W k => by
    rcases hS with h0 | ⟨b, o, rfl, h⟩
    · exact .inl h0
    · exact .inr ⟨b, o, rfl, fun i hi => (h i hi).kept k⟩
  have HST := Lib.hid (fun W (k : Kept (w.alloc (.cells #[.int .i64 q.n, .int .i64 q.p, .int .i64 q.m, .int .i64 q.t] 23)) W) => hR W (K.out.trans k))
  have HHV := Lib.hid (fun W k => rheavy_any a len cap zs hzl hml W (hR W k))
  have HAL := Lib.hid (fun W => alive_any W)
  have HZL := Lib.hid hzl
  have hn1 := w0.n1
  have hn2 := w0.n2
  have hm1 := w0.m1
  have hm2 := w0.m2
  have HWF := Lib.hid w0
  clear hS hzl hml hR w1 w0
  cases hh : rheavyB zs with
  | true =>
    rw [hh] at HHV
    unfold Geo.val
    go_enter Tryz.func3, Tryz.ntmps3
    go_upto_region 1 with fail
    clear HST
    generalize w.alloc (.cells #[.int .i64 q.n, .int .i64 q.p, .int .i64 q.m, .int .i64 q.t] 23) = u0 at *
    go_wp2_with fail
    refine (HHV.out _ K.out).mono ?_
    rintro e u1 ⟨rfl, hk⟩
    replace K := Lib.hid (K.out.trans hk)
    clear hk
    go_wp2_with fail
    refine (HAL.out _).mono ?_
    rintro e u2 ⟨rfl, hk⟩
    replace K := Lib.hid (K.out.trans hk)
    clear hk
    go_wp2_with fail
    go_ret
    exact ⟨rfl, K.out⟩
  | false =>
    rw [hh] at HHV
    have HNH := Lib.hid hh
    clear hh
    by_cases hbig : 64 < q.m
    · have b1 : decide (64 < q.m) = true := decide_eq_true hbig
      unfold Geo.val
      go_enter Tryz.func3, Tryz.ntmps3
      go_upto_region 1 with fail
      clear HST
      generalize w.alloc (.cells #[.int .i64 q.n, .int .i64 q.p, .int .i64 q.m, .int .i64 q.t] 23) = u0 at *
      go_wp2_with fail
      refine (HHV.out _ K.out).mono ?_
      rintro e u1 ⟨rfl, hk⟩
      replace K := Lib.hid (K.out.trans hk)
      replace GG := Lib.hid (GG.out.kept hk)
      have g2 := GG.out.c2
      clear hk
      go_wp2_with fail
      refine (HAL.out _).mono ?_
      rintro e u2 ⟨rfl, hk⟩
      replace K := Lib.hid (K.out.trans hk)
      clear hk
      go_wp2_with fail
      go_ret
      exact ⟨rfl, K.out⟩
    · have b1 : decide (64 < q.m) = false := decide_eq_false hbig
      obtain ⟨n, hn⟩ : ∃ n : Nat, (n : Int) = min (max q.n 1) 12 := ⟨(min (max q.n 1) 12).toNat, by omega⟩
      obtain ⟨m, hm⟩ : ∃ m : Nat, (m : Int) = min (max q.m 1) 64 := ⟨(min (max q.m 1) 64).toNat, by omega⟩
      have kn1 : 1 ≤ n := by omega
      have kn2 : n ≤ 12 := by omega
      have km1 : 1 ≤ m := by omega
      have km2 : m ≤ 4096 := by omega
      have HN := Lib.hid hn
      have HM := Lib.hid hm
      clear hn hm
      have HPN := Lib.hid (fun W => pNew_ok n m kn1 kn2 km1 km2 W)
      have HDN := Lib.hid (fun W => dNew_ok n m kn1 kn2 km1 km2 W)
      unfold Geo.val
      go_enter Tryz.func3, Tryz.ntmps3
      go_upto_region 1 with fail
      generalize w.alloc (.cells #[.int .i64 q.n, .int .i64 q.p, .int .i64 q.m, .int .i64 q.t] 23) = u0 at *
      go_wp2_with fail
      refine (HHV.out _ K.out).mono ?_
      rintro e u1 ⟨rfl, hk⟩
      have K1 : Hid (Kept u0 u1) := hk
      have g0 := (GG.out.kept hk).c0
      have g2 := (GG.out.kept hk).c2
      clear hk HHV
      go_wp2_with fail
      rw [← HN.out, ← HM.out]
      refine (HPN.out _).mono ?_
      rintro e wb ⟨rfl, hk, hR, hsz⟩
      obtain ⟨g, hg⟩ : ∃ g, g = u1.heap.size := ⟨_, rfl⟩
      rw [← hg] at hR hsz
      rw [← hg]
      have HG : Hid (u0.heap.size ≤ g) := by show _ ≤ _; rw [hg]; exact K1.out.size
      have KB : Hid (Kept u0 wb) := K1.out.trans hk
      have RB := Lib.hid hR
      have HSZ := Lib.hid hsz
      clear hk hR hg hsz g0 g2
      have g0 := (GG.out.kept KB.out).c0
      have g2 := (GG.out.kept KB.out).c2
      go_wp2_with fail
      rw [← HN.out, ← HM.out]
      refine (HDN.out _).mono ?_
      rintro e wc ⟨rfl, hk, L, hL, hD⟩
      rw [← hL]
      have KC : Hid (Kept u0 wc) := KB.out.trans hk
      have HP : Hid (Pair g n m L wb.heap.size wc.heap.size wc (rack0 n m) (rack0 n m) wc) := ⟨RB.out.kept hk, hD, Only.refl _ _ _, rfl, rfl, rfl, rfl, Nat.le_of_eq HSZ.out.symm, hk.size⟩
      clear hk hL hD g0 g2 KB RB HSZ K1 HPN HDN
      go_upto_region 8 with fail
      go_loopw [9] (fun i wr => ∃ k : Nat, k ≤ len ∧ i = .int .i64 k ∧ Hid (∃ s : RSt, Pair g n m L wb.heap.size wc.heap.size wc s s wr)) (fun i _ => len - (intOf i).toNat)
      case atStart => exact ⟨0, Nat.zero_le _, rfl, ⟨_, HP.out⟩⟩
      case round =>
        obtain ⟨k, hk, rfl, HE⟩ := hrel
        by_cases hlt : k < len
        · obtain ⟨s, hP⟩ := HE.out
          have HPS := Lib.hid hP
          have HLT := Lib.hid hlt
          have hkz : k < zs.length := by rw [HZL.out]; exact hlt
          obtain ⟨b, o, ha, z, HQ⟩ : ∃ b o, a = some ⟨b, o, none⟩ ∧ ∃ z, Hid (∀ W, Kept u0 W → RStpAt W b o k z) := by
            rcases HST.out u0 (Kept.refl _) with h0 | ⟨b, o, rfl, hq⟩
            · rw [h0] at hkz; cases hkz
            · exact ⟨b, o, rfl, zs[k], fun W kw => (hq k hkz).kept kw⟩
          subst ha
          have KWR : Hid (Kept u0 wr) := Only.kept KC.out HG.out hP.o
          obtain ⟨c0, _, _, _, _, _, _, _, _, _, bo, wf, ro, rd, rs, rt⟩ := HQ.out wr KWR.out
          obtain ⟨bo1, bo2⟩ := bo
          have HIW : Hid (wc.heap.size ≤ wr.heap.size) := hP.o.size
          clear HE hP HP hkz
          have hzc : z.op % 6 = 0 ∨ z.op % 6 = 1 ∨ z.op % 6 = 2 ∨ z.op % 6 = 3 ∨ z.op % 6 = 4 ∨ z.op % 6 = 5 := by omega
          have HFIN : Hid (∀ s' w', Pair g n m L wb.heap.size wc.heap.size wc s' s' w' → ∃ s : RSt, Pair g n m L wb.heap.size wc.heap.size wc s s w') := fun s' w' h => ⟨s', h⟩
          rcases hzc with hz | hz | hz | hz | hz | hz
          case inl =>
            have HKEEP : Hid (∀ W', Kept u0 W' → W'.cell? ⟨w.heap.size, 0, none⟩ = some (.int .i64 q.n) ∧ W'.cell? ⟨w.heap.size, 1, none⟩ = some (.int .i64 q.p) ∧ W'.cell? ⟨w.heap.size, 2, none⟩ = some (.int .i64 q.m) ∧ W'.cell? ⟨w.heap.size, 3, none⟩ = some (.int .i64 q.t) ∧ W'.cell? ⟨b, o + k * 10 + 1, none⟩ = some (.int .u64 (z.x.gen : Nat)) ∧ W'.cell? ⟨b, o + k * 10 + 2, none⟩ = some (.int .u64 (z.x.nxt : Nat)) ∧ W'.cell? ⟨b, o + k * 10 + 3, none⟩ = some (.int .i64 z.x.row) ∧ W'.cell? ⟨b, o + k * 10 + 4, none⟩ = some (.int .u64 (z.x.st : Nat)) ∧ W'.cell? ⟨b, o + k * 10 + 5, none⟩ = some (.int .i64 z.x.len)) := fun W' kw => ⟨(GG.out.kept kw).c0, (GG.out.kept kw).c1, (GG.out.kept kw).c2, (GG.out.kept kw).c3, (HQ.out W' kw).c1, (HQ.out W' kw).c2, (HQ.out W' kw).c3, (HQ.out W' kw).c4, (HQ.out W' kw).c5⟩
            have HWX := Lib.hid wf
            have HW1 : Hid (∀ W, Pair g n m L wb.heap.size wc.heap.size wc s s W → Calls Tryz.prog 8 #[.pointer (some ⟨g + 1, 0, none⟩), q.val, z.x.val] W fun r w' => r = .returned (.int .i64 ((docW s q z.x).1 : Nat)) ∧ Pair g n m L wb.heap.size wc.heap.size wc (docW s q z.x).2 s w') := fun W h => h.slotWP q z.x
            have HW2 : Hid (∀ W, Pair g n m L wb.heap.size wc.heap.size wc (docW s q z.x).2 s W → Calls Tryz.prog 9 #[.pointer (some ⟨L.x, 0, none⟩), q.val, z.x.val] W fun r w' => r = .returned (.int .i64 ((docW s q z.x).1 : Nat)) ∧ Pair g n m L wb.heap.size wc.heap.size wc (docW s q z.x).2 (docW s q z.x).2 w') := fun W h => h.slotWD q z.x HWX.out h.o.size
            unfold Geo.val Rt.val at HW1 HW2
            clear ro rd rs rt wf
            have hlt2 := HLT.out
            go_upto_region 15 with fail
            have HPD : Hid (Pair g n m L wb.heap.size wc.heap.size wc s s wr.drew) := HPS.out.kept ((Kept.refl _).drew)
            generalize (docW s q z.x).1 = E at *
            generalize (docW s q z.x).2 = S2 at *
            go_region_held3 (fun W' => W'.cell? ⟨w.heap.size, 0, none⟩ = some (.int .i64 q.n) ∧ W'.cell? ⟨w.heap.size, 1, none⟩ = some (.int .i64 q.p) ∧ W'.cell? ⟨w.heap.size, 2, none⟩ = some (.int .i64 q.m) ∧ W'.cell? ⟨w.heap.size, 3, none⟩ = some (.int .i64 q.t) ∧ W'.cell? ⟨b, o + k * 10 + 1, none⟩ = some (.int .u64 (z.x.gen : Nat)) ∧ W'.cell? ⟨b, o + k * 10 + 2, none⟩ = some (.int .u64 (z.x.nxt : Nat)) ∧ W'.cell? ⟨b, o + k * 10 + 3, none⟩ = some (.int .i64 z.x.row) ∧ W'.cell? ⟨b, o + k * 10 + 4, none⟩ = some (.int .u64 (z.x.st : Nat)) ∧ W'.cell? ⟨b, o + k * 10 + 5, none⟩ = some (.int .i64 z.x.len)) (first | exact HKEEP.out _ KWR.out | exact HKEEP.out _ (KWR.out.drew) | exact HKEEP.out _ (Only.kept KC.out HG.out pA.o) | exact HKEEP.out _ (Only.kept KC.out HG.out pB.o))
              (first
                | (go_at_call 8; refine (HW1.out _ HPD.out).mono ?_; rintro e wA ⟨rfl, pA⟩)
                | (go_at_call 9; refine (HW2.out _ pA).mono ?_; rintro e wB ⟨rfl, pB⟩))
            have HE2 : Hid (∃ s : RSt, Pair g n m L wb.heap.size wc.heap.size wc s s wB) := HFIN.out _ _ pB
            clear pA pB HKEEP HW1 HW2
            go_wp2_with fail
            exact ⟨⟨k + 1, by omega, by go_num, HE2⟩, by simp [intOf]; omega⟩
          case inr.inl =>
            have HKEEP : Hid (∀ W', Kept u0 W' → W'.cell? ⟨w.heap.size, 0, none⟩ = some (.int .i64 q.n) ∧ W'.cell? ⟨w.heap.size, 1, none⟩ = some (.int .i64 q.p) ∧ W'.cell? ⟨w.heap.size, 2, none⟩ = some (.int .i64 q.m) ∧ W'.cell? ⟨w.heap.size, 3, none⟩ = some (.int .i64 q.t) ∧ W'.cell? ⟨b, o + k * 10 + 1, none⟩ = some (.int .u64 (z.x.gen : Nat)) ∧ W'.cell? ⟨b, o + k * 10 + 2, none⟩ = some (.int .u64 (z.x.nxt : Nat)) ∧ W'.cell? ⟨b, o + k * 10 + 3, none⟩ = some (.int .i64 z.x.row) ∧ W'.cell? ⟨b, o + k * 10 + 4, none⟩ = some (.int .u64 (z.x.st : Nat)) ∧ W'.cell? ⟨b, o + k * 10 + 5, none⟩ = some (.int .i64 z.x.len)) := fun W' kw => ⟨(GG.out.kept kw).c0, (GG.out.kept kw).c1, (GG.out.kept kw).c2, (GG.out.kept kw).c3, (HQ.out W' kw).c1, (HQ.out W' kw).c2, (HQ.out W' kw).c3, (HQ.out W' kw).c4, (HQ.out W' kw).c5⟩
            have HWX := Lib.hid wf
            have HW1 : Hid (∀ W, Pair g n m L wb.heap.size wc.heap.size wc s s W → Calls Tryz.prog 8 #[.pointer (some ⟨g + 1, 0, none⟩), q.val, z.x.val] W fun r w' => r = .returned (.int .i64 ((docW s q z.x).1 : Nat)) ∧ Pair g n m L wb.heap.size wc.heap.size wc (docW s q z.x).2 s w') := fun W h => h.slotWP q z.x
            have HW2 : Hid (∀ W, Pair g n m L wb.heap.size wc.heap.size wc (docW s q z.x).2 s W → Calls Tryz.prog 9 #[.pointer (some ⟨L.x, 0, none⟩), q.val, z.x.val] W fun r w' => r = .returned (.int .i64 ((docW s q z.x).1 : Nat)) ∧ Pair g n m L wb.heap.size wc.heap.size wc (docW s q z.x).2 (docW s q z.x).2 w') := fun W h => h.slotWD q z.x HWX.out h.o.size
            unfold Geo.val Rt.val at HW1 HW2
            clear ro rd rs rt wf
            have hlt2 := HLT.out
            go_upto_region 15 with fail
            have HPD : Hid (Pair g n m L wb.heap.size wc.heap.size wc s s wr.drew) := HPS.out.kept ((Kept.refl _).drew)
            generalize (docW s q z.x).1 = E at *
            generalize (docW s q z.x).2 = S2 at *
            go_region_held3 (fun W' => W'.cell? ⟨w.heap.size, 0, none⟩ = some (.int .i64 q.n) ∧ W'.cell? ⟨w.heap.size, 1, none⟩ = some (.int .i64 q.p) ∧ W'.cell? ⟨w.heap.size, 2, none⟩ = some (.int .i64 q.m) ∧ W'.cell? ⟨w.heap.size, 3, none⟩ = some (.int .i64 q.t) ∧ W'.cell? ⟨b, o + k * 10 + 1, none⟩ = some (.int .u64 (z.x.gen : Nat)) ∧ W'.cell? ⟨b, o + k * 10 + 2, none⟩ = some (.int .u64 (z.x.nxt : Nat)) ∧ W'.cell? ⟨b, o + k * 10 + 3, none⟩ = some (.int .i64 z.x.row) ∧ W'.cell? ⟨b, o + k * 10 + 4, none⟩ = some (.int .u64 (z.x.st : Nat)) ∧ W'.cell? ⟨b, o + k * 10 + 5, none⟩ = some (.int .i64 z.x.len)) (first | exact HKEEP.out _ KWR.out | exact HKEEP.out _ (KWR.out.drew) | exact HKEEP.out _ (Only.kept KC.out HG.out pA.o) | exact HKEEP.out _ (Only.kept KC.out HG.out pB.o))
              (first
                | (go_at_call 8; refine (HW1.out _ HPD.out).mono ?_; rintro e wA ⟨rfl, pA⟩)
                | (go_at_call 9; refine (HW2.out _ pA).mono ?_; rintro e wB ⟨rfl, pB⟩))
            have HE2 : Hid (∃ s : RSt, Pair g n m L wb.heap.size wc.heap.size wc s s wB) := HFIN.out _ _ pB
            clear pA pB HKEEP HW1 HW2
            go_wp2_with fail
            exact ⟨⟨k + 1, by omega, by go_num, HE2⟩, by simp [intOf]; omega⟩
          case inr.inr.inl =>
            have HCALL := Lib.hid (votes_any g n m L wb.heap.size wc.heap.size wc s q HWF.out wr HIW.out HPS.out)
            have GW := GG.out.kept KWR.out
            have g0 := GW.c0
            have g1 := GW.c1
            have g2 := GW.c2
            have g3 := GW.c3
            unfold Geo.val at HCALL
            clear ro rd rs rt wf GW
            go_wp2_with fail
            refine HCALL.out.mono ?_
            rintro e wd ⟨rfl, hk2⟩
            have HE2 : Hid (∃ s : RSt, Pair g n m L wb.heap.size wc.heap.size wc s s wd) := HFIN.out _ _ (HPS.out.kept hk2)
            have hlt2 := HLT.out
            clear hk2
            go_wp2_with fail
            exact ⟨⟨k + 1, by omega, by go_num, HE2⟩, by simp [intOf]; omega⟩
          case inr.inr.inr.inl =>
            have HCALL := Lib.hid (votes_any g n m L wb.heap.size wc.heap.size wc s q HWF.out wr HIW.out HPS.out)
            have GW := GG.out.kept KWR.out
            have g0 := GW.c0
            have g1 := GW.c1
            have g2 := GW.c2
            have g3 := GW.c3
            unfold Geo.val at HCALL
            clear ro rd rs rt wf GW
            go_wp2_with fail
            refine HCALL.out.mono ?_
            rintro e wd ⟨rfl, hk2⟩
            have HE2 : Hid (∃ s : RSt, Pair g n m L wb.heap.size wc.heap.size wc s s wd) := HFIN.out _ _ (HPS.out.kept hk2)
            have hlt2 := HLT.out
            clear hk2
            go_wp2_with fail
            exact ⟨⟨k + 1, by omega, by go_num, HE2⟩, by simp [intOf]; omega⟩
          case inr.inr.inr.inr.inl =>
            have hcall := do_any g n m L wb.heap.size wc.heap.size s z.r.op z.r.d z.r.s z.r.t ro.1 ro.2 rd.1 rd.2 rs.1 rs.2 rt wr HIW.out { HPS.out with o := Only.refl _ _ _ }
            unfold stepV at hcall
            have HCALL := Lib.hid hcall
            obtain ⟨_, _, _, _, _, _, c6, c7, c8, c9, _, _, _, _, _, _⟩ := HQ.out wr KWR.out
            clear hcall ro rd rs rt wf
            go_wp2_with fail
            refine HCALL.out.mono ?_
            rintro e wd ⟨rfl, hp2⟩
            have HE2 : Hid (∃ s : RSt, Pair g n m L wb.heap.size wc.heap.size wc s s wd) := HFIN.out _ _ { hp2 with o := HPS.out.o.trans hp2.o }
            have hlt2 := HLT.out
            clear hp2
            go_wp2_with fail
            exact ⟨⟨k + 1, by omega, by go_num, HE2⟩, by simp [intOf]; omega⟩
          case inr.inr.inr.inr.inr =>
            have hcall := do_any g n m L wb.heap.size wc.heap.size s z.r.op z.r.d z.r.s z.r.t ro.1 ro.2 rd.1 rd.2 rs.1 rs.2 rt wr HIW.out { HPS.out with o := Only.refl _ _ _ }
            unfold stepV at hcall
            have HCALL := Lib.hid hcall
            obtain ⟨_, _, _, _, _, _, c6, c7, c8, c9, _, _, _, _, _, _⟩ := HQ.out wr KWR.out
            clear hcall ro rd rs rt wf
            go_wp2_with fail
            refine HCALL.out.mono ?_
            rintro e wd ⟨rfl, hp2⟩
            have HE2 : Hid (∃ s : RSt, Pair g n m L wb.heap.size wc.heap.size wc s s wd) := HFIN.out _ _ { hp2 with o := HPS.out.o.trans hp2.o }
            have hlt2 := HLT.out
            clear hp2
            go_wp2_with fail
            exact ⟨⟨k + 1, by omega, by go_num, HE2⟩, by simp [intOf]; omega⟩
        · obtain rfl : k = len := by omega
          obtain ⟨s, hP⟩ := HE.out
          have HPS := Lib.hid hP
          clear hP HE HP
          go_upto_region 22 with fail
          go_loopw [11] (fun i wr => ∃ d : Nat, d ≤ n ∧ i = .int .i64 d ∧ Hid (Pair g n m L wb.heap.size wc.heap.size wc s s wr)) (fun i _ => n - (intOf i).toNat)
          case atStart => exact ⟨0, Nat.zero_le _, rfl, HPS.out⟩
          case round =>
            obtain ⟨d, hd, rfl, HQ⟩ := hrel
            have HNA := Lib.hid HQ.out.na
            go_wp2_with fail
            refine (drives_any _ s.n _ HQ.out.r.has).mono ?_
            rintro e v1 ⟨rfl, hv⟩
            have P1 : Hid (Pair g n m L wb.heap.size wc.heap.size wc s s v1) := by show Pair _ _ _ _ _ _ _ _ _ _; rw [hv]; exact HQ.out
            rw [HNA.out]
            clear hv HQ
            by_cases hle : d < n
            · have b2 : decide ((d : Int) < (n : Int)) = true := decide_eq_true (by omega)
              have h1 := P1.out.allP (d : Int) (by omega) (by omega)
              have h2 : ∀ W, Pair g n m L wb.heap.size wc.heap.size wc s s W → Calls Tryz.prog 14 #[.pointer (some ⟨L.x, 0, none⟩), .int .i64 (d : Int)] W fun r w' => r = .returned (.string (s.all (d : Int))) ∧ Pair g n m L wb.heap.size wc.heap.size wc s s w' := fun W h => h.allD (d : Int)
              generalize s.all (d : Int) = Y at *
              have H1 := Lib.hid h1
              have H2 := Lib.hid h2
              clear h1 h2
              go_wp2_with fail
              refine H1.out.mono ?_
              rintro e v2 ⟨rfl, hp⟩
              have P2 := Lib.hid hp
              clear hp H1
              go_wp2_with fail
              refine (H2.out _ P2.out).mono ?_
              rintro e v3 ⟨rfl, hp⟩
              have P3 := Lib.hid hp
              clear hp H2 P2 P1
              go_wp2_with fail
              exact ⟨⟨d + 1, by omega, by go_num, P3⟩, by simp [intOf]; omega⟩
            · obtain rfl : d = n := by omega
              have b2 : decide ((d : Int) < (d : Int)) = false := decide_eq_false (by omega)
              go_wp2_with fail
              refine (HAL.out _).mono ?_
              rintro e w9 ⟨rfl, hk2⟩
              have K9 : Hid (Kept w w9) := (K.out.trans (Only.kept KC.out HG.out P1.out.o)).trans hk2
              clear hk2
              go_wp2_with fail
              go_ret
              exact ⟨rfl, K9.out⟩
end Go.Proofs.YtoekaabngjjefaaGreat
