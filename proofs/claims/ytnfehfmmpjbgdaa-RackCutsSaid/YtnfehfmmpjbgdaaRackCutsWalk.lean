/- RackCuts' walk. -/
import Derived.Test.YtnfehfmmpjbgdaaCutMath
import Derived.OpenShut
namespace Go.Proofs.Ytnfehfmmpjbgdaa
open Go.RowKit Go.ChangeShapes Go.WideShapes
set_option linter.unusedVariables false
open RSt
set_option maxHeartbeats 4000000 in
set_option maxRecDepth 100000 in
theorem rackCuts_walk (a0 : Option Addr) (len0 cap0 : Nat) (z0 : List Stp) (a1 : Int) (w : World) (w0 : IsSteps w a0 len0 cap0 z0) (w1 : (Lit.int .u8 a1).wf = true) :
    Calls Try.prog 4 #[.slice a0 len0 cap0, .int .u8 a1] w fun e w' => e = .returned (.bool true) ∧ Kept w w' := by
  obtain ⟨d1, d2⟩ := bounds_u8 w1
  obtain ⟨hS, hzl, hml⟩ := w0.stps
  have HS := Lib.hid hS
  have HZL := Lib.hid hzl
  have HHV := Lib.hid (heavy_any a0 len0 cap0 z0 hzl hml w hS)
  clear w0 w1 hS hzl
  have hml2 : len0 ≤ 9223372036854775807 := by unfold maxLen at hml; exact hml
  clear hml
  cases hh : heavyB z0
  · obtain ⟨h300, ht⟩ := heavy_not hh
    have HT := Lib.hid ht
    have hcall := HHV.out
    rw [hh] at hcall
    have H3 : len0 ≤ 300 := by rw [← HZL.out]; exact h300
    clear h300 ht hh HHV
    obtain ⟨N, hN40, hN⟩ : ∃ N : Nat, N < 40 ∧ a1 % 40 = (N : Int) := ⟨(a1 % 40).toNat, by omega, by omega⟩
    go_enter Try.func4, Try.ntmps4
    go_wp2_with fail
    refine hcall.mono ?_
    rintro e wa ⟨rfl, hk⟩
    have KA : Hid (Kept w wa) := hk
    clear hk hcall
    go_wp2_with fail
    refine (pNew_ok 3 8 (by decide) (by decide) (by decide) (by decide) _).mono ?_
    rintro e wb ⟨rfl, hk, hR, hsz⟩
    obtain ⟨g, hg⟩ : ∃ g, g = wa.heap.size := ⟨_, rfl⟩
    rw [← hg] at hR hsz
    rw [← hg]
    have HG : Hid (w.heap.size ≤ g) := by show _ ≤ _; rw [hg]; exact KA.out.size
    have KB : Hid (Kept w wb) := KA.out.trans hk
    have RB : Hid (RackAt g (rack0 3 8) wb) := hR
    have HSZ : Hid (wb.heap.size = g + 5) := hsz
    clear hk hR hg hsz
    go_wp2_with fail
    refine (pNew_ok 3 8 (by decide) (by decide) (by decide) (by decide) _).mono ?_
    rintro e wc ⟨rfl, hk, hR, hsz⟩
    rw [HSZ.out] at hR
    rw [HSZ.out]
    have KC : Hid (Kept w wc) := KB.out.trans hk
    have RC : Hid (RackAt g (rack0 3 8) wc) := RB.out.kept hk
    have XC : Hid (RackAt (g + 5) (rack0 3 8) wc) := hR
    clear hk hR hsz
    have hcall := cut_any g (rack0 3 8) (N : Nat) (by omega) (by omega) wc RC.out
    rw [show RSt.cutE (N : Nat) = 0 from if_neg (by omega), show (rack0 3 8).cutS (N : Nat) = (rack0 3 8).lim true N from by unfold RSt.cutS; rw [if_neg (by omega), Int.toNat_natCast], show (rack0 3 8).n = 3 from rfl] at hcall
    have HCALL := Lib.hid hcall
    clear hcall
    go_wp2_with fail
    refine HCALL.out.mono ?_
    rintro e wd ⟨rfl, hR, hO⟩
    have KD : Hid (Kept w wd) := Only.kept KC.out HG.out hO
    have RD : Hid (RackAt g ((rack0 3 8).lim true N) wd) := hR
    have XD : Hid (RackAt (g + 5) (rack0 3 8) wd) := XC.out.only hO (.inl (by show g + 2 + 3 ≤ g + 5; omega))
    clear HCALL hR hO
    go_wp2_with fail
    go_loopw [9, 10] (fun x i wr => ∃ k done : Nat, k ≤ len0 ∧ done ≤ N ∧ i = .int .i64 k ∧ x = .int .i64 done ∧ Kept w wr ∧ Hid (∃ t : RSt, t.Plain ∧ t.sum3 = done ∧ RackAt g (t.lim true (N - done)) wr ∧ RackAt (g + 5) t wr)) (fun _ i _ => len0 - (intOf i).toNat)
    case atStart => exact ⟨0, 0, Nat.zero_le _, Nat.zero_le _, rfl, rfl, KD.out, ⟨_, plain0, rfl, RD.out, XD.out⟩⟩
    case round =>
      obtain ⟨k, done, hk, hdn, rfl, rfl, hkk, HE⟩ := hrel
      by_cases hlt : k < len0
      · obtain ⟨t, hp, hsum, hR, hX⟩ := HE.out
        have HK := Lib.hid hkk
        have HP := Lib.hid hp
        have HR := Lib.hid hR
        have HX := Lib.hid hX
        have hkz : k < z0.length := by rw [HZL.out]; exact hlt
        rcases HS.out with h0 | ⟨b, o, rfl, hq⟩
        · rw [h0] at hkz; cases hkz
        · have hst := hq k hkz
          have hts : z0[k].t.size ≤ 9223372036854775807 := by have := HT.out k hkz; omega
          obtain ⟨zop, d, i, x, hst, hts⟩ : ∃ zop d i x, StpAt w b o k ⟨zop, d, i, x⟩ ∧ x.size ≤ 9223372036854775807 := ⟨z0[k].op, z0[k].d, z0[k].s, z0[k].t, hst, hts⟩
          have HKC : Hid (∀ W, Kept w W → W.cell? ⟨b, o + k * 4 + 1, none⟩ = some (.int .i64 d) ∧ W.cell? ⟨b, o + k * 4 + 2, none⟩ = some (.int .i64 i) ∧ W.cell? ⟨b, o + k * 4 + 3, none⟩ = some (.string x)) := fun W hw => by
            obtain ⟨_, c1, c2, c3, _⟩ := hst.kept hw
            exact ⟨c1, c2, c3⟩
          obtain ⟨_, _, _, _, _, b1, b2, _⟩ := hst
          dsimp only at b1 b2
          obtain ⟨c1, c2, c3⟩ := HKC.out wr hkk
          have HWR : Hid (∀ n, Calls Try.prog 19 #[.pointer (some ⟨g + 1, 0, none⟩), .int .i64 d, .int .i64 i, .string x] (wr.drewN n) fun r w' => r = .returned (.int .i64 ((t.lim true (N - done)).writeE d i x : Nat)) ∧ RackAt g ((t.lim true (N - done)).writeS d i x) w' ∧ Only g (g + 5) (wr.drewN n) w') := fun n => by
            have h := write_any g (t.lim true (N - done)) d i b1.1 b1.2 b2.1 b2.2 x hts (wr.drewN n) (HR.out.drewN n)
            rw [show (t.lim true (N - done)).n = 3 from HP.out.n] at h
            exact h
          have HWX : Hid (∀ W, RackAt (g + 5) t W → Calls Try.prog 19 #[.pointer (some ⟨g + 5 + 1, 0, none⟩), .int .i64 d, .int .i64 i, .string x] W fun r w' => r = .returned (.int .i64 (t.writeE d i x : Nat)) ∧ RackAt (g + 5) (t.writeS d i x) w' ∧ Only (g + 5) (g + 10) W w') := fun W hW => by
            have h := write_any (g + 5) t d i b1.1 b1.2 b2.1 b2.2 x hts W hW
            rw [show t.n = 3 from HP.out.n] at h
            exact h
          have HSM := Lib.hid hsum
          have HG5 : Hid (w.heap.size ≤ g + 5) := Nat.le_trans HG.out (Nat.le_add_right _ _)
          have hstep := t.cut_step hp N done (by omega) hdn hsum d i x
          clear hq hkk hp hR hX b1 b2 hts hsum
          go_wp2_with fail
          refine wp_region_still_tail 16 (by kernel_rfl) (by kernel_rfl) ?_
          simp only [List.take_succ_cons, List.take_zero, List.drop_succ_cons, List.drop_zero]
          change wpStill _ _ wr.drew (fun a' => wpList _ _ _ _ a' wr.drew) _ _
          repeat still_step
          refine wpStill_nil ?_
          go_wp2_with fail
          refine (HWR.out 1).mono ?_
          rintro e wf ⟨rfl, hR, hO⟩
          have HK2 : Hid (Kept w wf) := Only.kept (HK.out.drew) HG.out hO
          have HX2 : Hid (RackAt (g + 5) t wf) := (HX.out.drewN 1).only hO (.inl (Nat.le_refl _))
          obtain ⟨e1, e2, e3⟩ := HKC.out wf HK2.out
          rcases hstep with ⟨hE, hdN, hS2⟩ | ⟨hE, hE2, hd1, hS2, hs3⟩ | ⟨er, her, hE, hE2, hS2, hS3⟩
          · rw [hE]
            rw [hS2] at hR
            have HE2 : Hid (∃ t : RSt, t.Plain ∧ t.sum3 = done ∧ RackAt g (t.lim true (N - done)) wf ∧ RackAt (g + 5) t wf) := ⟨t, HP.out, HSM.out, hR, HX2.out⟩
            subst hdN
            clear hR hO
            go_wp2_with fail
            exact ⟨⟨k + 1, done, by omega, Nat.le_refl _, by go_num, rfl, HK2.out, HE2⟩, by simp [intOf]; omega⟩
          · rw [hE]
            rw [hS2] at hR
            have HW0 : Hid (∀ W, RackAt (g + 5) t W → Calls Try.prog 19 #[.pointer (some ⟨g + 5 + 1, 0, none⟩), .int .i64 d, .int .i64 i, .string x] W fun r w' => r = .returned (.int .i64 (0 : Nat)) ∧ RackAt (g + 5) (t.writeS d i x) w' ∧ Only (g + 5) (g + 10) W w') := fun W hW => by
              have h := HWX.out W hW
              rw [hE2] at h
              exact h
            have HR2 := Lib.hid hR
            have HPT := Lib.hid (HP.out.write d i x)
            have HS3 := Lib.hid hs3
            clear hR hO HE HX HR HWX hE hE2 hS2 hs3
            go_wp2_with fail
            go_region_held3 (fun W => W.cell? ⟨b, o + k * 4 + 1, none⟩ = some (.int .i64 d) ∧ W.cell? ⟨b, o + k * 4 + 2, none⟩ = some (.int .i64 i) ∧ W.cell? ⟨b, o + k * 4 + 3, none⟩ = some (.string x)) (first | exact ⟨e1, e2, e3⟩ | exact HKC.out _ (Only.kept (HK2.out.drewN _) HG5.out hOX) | exact HKC.out _ ((Only.kept (HK2.out.drewN _) HG5.out hOX).drewN _)) (first | (go_at_call 19; refine (HW0.out _ (HX2.out.drewN _)).mono ?_; rintro e w8 ⟨rfl, hRX, hOX⟩))
            all_goals
              have HK8 : Hid (Kept w w8) := Only.kept (HK2.out.drewN _) HG5.out hOX
              have HE2 : Hid (∃ t : RSt, t.Plain ∧ t.sum3 = done + 1 ∧ RackAt g (t.lim true (N - (done + 1))) w8 ∧ RackAt (g + 5) t w8) := ⟨_, HPT.out, HS3.out, (HR2.out.drewN _).only hOX (.inr (by rw [show ((t.writeS d i x).lim true (N - (done + 1))).n = 3 from HPT.out.n]; omega)), hRX⟩
              clear hRX hOX
              go_wp2_with fail
              exact ⟨⟨k + 1, done + 1, by omega, hd1, by go_num, by go_num, HK8.out, HE2⟩, by simp [intOf]; omega⟩
          · rw [hE]
            rw [hS2] at hR
            have HR2 := Lib.hid hR
            rcases her with rfl | rfl
            · have HW0 : Hid (∀ W, RackAt (g + 5) t W → Calls Try.prog 19 #[.pointer (some ⟨g + 5 + 1, 0, none⟩), .int .i64 d, .int .i64 i, .string x] W fun r w' => r = .returned (.int .i64 (70 : Nat)) ∧ RackAt (g + 5) t w' ∧ Only (g + 5) (g + 10) W w') := fun W hW => by
                have h := HWX.out W hW
                rw [hE2, hS3] at h
                exact h
              clear hR hO HE HX HR HWX hE hE2 hS2 hS3
              go_wp2_with fail
              go_region_held3 (fun W => W.cell? ⟨b, o + k * 4 + 1, none⟩ = some (.int .i64 d) ∧ W.cell? ⟨b, o + k * 4 + 2, none⟩ = some (.int .i64 i) ∧ W.cell? ⟨b, o + k * 4 + 3, none⟩ = some (.string x)) (first | exact ⟨e1, e2, e3⟩ | exact HKC.out _ (Only.kept (HK2.out.drewN _) HG5.out hOX) | exact HKC.out _ ((Only.kept (HK2.out.drewN _) HG5.out hOX).drewN _)) (first | (go_at_call 19; refine (HW0.out _ (HX2.out.drewN _)).mono ?_; rintro e w8 ⟨rfl, hRX, hOX⟩))
              all_goals
                have HK8 : Hid (Kept w w8) := Only.kept (HK2.out.drewN _) HG5.out hOX
                have HE2 : Hid (∃ t : RSt, t.Plain ∧ t.sum3 = done ∧ RackAt g (t.lim true (N - done)) w8 ∧ RackAt (g + 5) t w8) := ⟨t, HP.out, HSM.out, (HR2.out.drewN _).only hOX (.inr (by rw [show (t.lim true (N - done)).n = 3 from HP.out.n]; omega)), hRX⟩
                clear hRX hOX
                go_wp2_with fail
                exact ⟨⟨k + 1, done, by omega, hdn, by go_num, rfl, HK8.out, HE2⟩, by simp [intOf]; omega⟩
            · have HW0 : Hid (∀ W, RackAt (g + 5) t W → Calls Try.prog 19 #[.pointer (some ⟨g + 5 + 1, 0, none⟩), .int .i64 d, .int .i64 i, .string x] W fun r w' => r = .returned (.int .i64 (4 : Nat)) ∧ RackAt (g + 5) t w' ∧ Only (g + 5) (g + 10) W w') := fun W hW => by
                have h := HWX.out W hW
                rw [hE2, hS3] at h
                exact h
              clear hR hO HE HX HR HWX hE hE2 hS2 hS3
              go_wp2_with fail
              go_region_held3 (fun W => W.cell? ⟨b, o + k * 4 + 1, none⟩ = some (.int .i64 d) ∧ W.cell? ⟨b, o + k * 4 + 2, none⟩ = some (.int .i64 i) ∧ W.cell? ⟨b, o + k * 4 + 3, none⟩ = some (.string x)) (first | exact ⟨e1, e2, e3⟩ | exact HKC.out _ (Only.kept (HK2.out.drewN _) HG5.out hOX) | exact HKC.out _ ((Only.kept (HK2.out.drewN _) HG5.out hOX).drewN _)) (first | (go_at_call 19; refine (HW0.out _ (HX2.out.drewN _)).mono ?_; rintro e w8 ⟨rfl, hRX, hOX⟩))
              all_goals
                have HK8 : Hid (Kept w w8) := Only.kept (HK2.out.drewN _) HG5.out hOX
                have HE2 : Hid (∃ t : RSt, t.Plain ∧ t.sum3 = done ∧ RackAt g (t.lim true (N - done)) w8 ∧ RackAt (g + 5) t w8) := ⟨t, HP.out, HSM.out, (HR2.out.drewN _).only hOX (.inr (by rw [show (t.lim true (N - done)).n = 3 from HP.out.n]; omega)), hRX⟩
                clear hRX hOX
                go_wp2_with fail
                exact ⟨⟨k + 1, done, by omega, hdn, by go_num, rfl, HK8.out, HE2⟩, by simp [intOf]; omega⟩
      · obtain rfl : k = len0 := by omega
        obtain ⟨t, hp, hsum, hR, hX⟩ := HE.out
        have HP := Lib.hid hp
        have HR := Lib.hid hR
        have HX := Lib.hid hX
        have HK := Lib.hid hkk
        have hcn : ∀ j : Nat, j < 3 → (t.lim true (N - done)).writes (j : Nat) = t.cnt j := fun j hj => by
          unfold RSt.writes
          rw [show (t.lim true (N - done)).drive (j : Nat) = true from hp.drive hj, if_pos rfl, Int.toNat_natCast]
          rfl
        unfold RSt.sum3 at hsum
        have hc0 := hcn 0 (by decide)
        have hc1 := hcn 1 (by decide)
        have hc2 := hcn 2 (by decide)
        generalize t.cnt 0 = n0 at *
        generalize t.cnt 1 = n1 at *
        generalize t.cnt 2 = n2 at *
        have HW0 : Hid (∀ W, RackAt g (t.lim true (N - done)) W → Calls Try.prog 14 #[.pointer (some ⟨g + 1, 0, none⟩), .int .i64 0] W fun r w' => r = .returned (.int .u64 (n0 : Nat)) ∧ Kept W w') := fun W hW => by
          have h := writes_any g (t.lim true (N - done)) 0 (by decide) (by decide) W hW
          rw [show (t.lim true (N - done)).writes 0 = n0 from hc0] at h
          exact h
        have HW1 : Hid (∀ W, RackAt g (t.lim true (N - done)) W → Calls Try.prog 14 #[.pointer (some ⟨g + 1, 0, none⟩), .int .i64 1] W fun r w' => r = .returned (.int .u64 (n1 : Nat)) ∧ Kept W w') := fun W hW => by
          have h := writes_any g (t.lim true (N - done)) 1 (by decide) (by decide) W hW
          rw [show (t.lim true (N - done)).writes 1 = n1 from hc1] at h
          exact h
        have HW2 : Hid (∀ W, RackAt g (t.lim true (N - done)) W → Calls Try.prog 14 #[.pointer (some ⟨g + 1, 0, none⟩), .int .i64 2] W fun r w' => r = .returned (.int .u64 (n2 : Nat)) ∧ Kept W w') := fun W hW => by
          have h := writes_any g (t.lim true (N - done)) 2 (by decide) (by decide) W hW
          rw [show (t.lim true (N - done)).writes 2 = n2 from hc2] at h
          exact h
        have hgt : decide ((N : Int) < (n0 : Int) + n1 + n2) = false := decide_eq_false (by omega)
        have hsum2 : ((done : Nat) : Int) = (n0 : Int) + n1 + n2 := by omega
        clear hp hR hX hkk HE hcn hc0 hc1 hc2 KB RB KC RC XC HSZ KD RD XD HS HT HZL
        have hb40 : n0 + n1 + n2 ≤ 40 := by omega
        clear hsum hdn
        go_wp2_with fail
        refine (HW0.out _ HR.out).mono ?_
        rintro e v1 ⟨rfl, hk1⟩
        have HR1 : Hid (RackAt g (t.lim true (N - done)) v1) := HR.out.kept hk1
        have HX1 : Hid (RackAt (g + 5) t v1) := HX.out.kept hk1
        have HK1 : Hid (Kept w v1) := HK.out.trans hk1
        clear hk1 HR HX HK HW0
        go_wp2_with fail
        refine (HW1.out _ HR1.out).mono ?_
        rintro e v2 ⟨rfl, hk1⟩
        have HR2 : Hid (RackAt g (t.lim true (N - done)) v2) := HR1.out.kept hk1
        have HX2 : Hid (RackAt (g + 5) t v2) := HX1.out.kept hk1
        have HK2 : Hid (Kept w v2) := HK1.out.trans hk1
        clear hk1 HR1 HX1 HK1 HW1
        go_wp2_with fail
        refine (HW2.out _ HR2.out).mono ?_
        rintro e v3 ⟨rfl, hk1⟩
        have HR3 : Hid (RackAt g (t.lim true (N - done)) v3) := HR2.out.kept hk1
        have HX3 : Hid (RackAt (g + 5) t v3) := HX2.out.kept hk1
        have HK3 : Hid (Kept w v3) := HK2.out.trans hk1
        clear hk1 HR2 HX2 HK2 HW2
        have hcall := lift_any g (t.lim true (N - done)) v3 HR3.out
        rw [show (t.lim true (N - done)).liftS = t.lim false 0 from rfl, show (t.lim true (N - done)).n = 3 from HP.out.n] at hcall
        have HCALL := Lib.hid hcall
        have HPL : Hid (t.lim false 0).Plain := HP.out.lim 0 (by decide)
        clear hcall
        go_wp2_with fail
        refine HCALL.out.mono ?_
        rintro e v4 ⟨rfl, hR, hO⟩
        obtain ⟨u, hu⟩ : ∃ u, u = t.lim false 0 := ⟨_, rfl⟩
        rw [← hu] at hR HPL
        have HU : Hid (∀ d : Int, u.all d = t.all d) := fun d => by rw [hu]; exact lim_all t _ _ d
        have HR4 : Hid (RackAt g u v4) := hR
        have HX4 : Hid (RackAt (g + 5) t v4) := HX3.out.only hO (.inl (Nat.le_refl _))
        have HK4 : Hid (Kept w v4) := Only.kept HK3.out HG.out hO
        clear hR hO hu HCALL HR3 HX3 HK3
        go_wp2_with fail
        go_loopw [12] (fun i wr => ∃ k : Nat, k ≤ 3 ∧ i = .int .i64 k ∧ Kept w wr ∧ Hid (RackAt g u wr) ∧ Hid (RackAt (g + 5) t wr)) (fun i _ => 3 - (intOf i).toNat)
        case atStart => exact ⟨0, Nat.zero_le _, rfl, HK4.out, HR4, HX4⟩
        case round =>
          obtain ⟨q, hq, rfl, hkk, HR, HX⟩ := hrel
          have HK := Lib.hid hkk
          clear hkk
          by_cases hlt : q < 3
          · obtain ⟨Y, hY⟩ : ∃ Y, Y = t.all (q : Nat) := ⟨_, rfl⟩
            have h1 := all_any g u (q : Nat) (by omega) (by omega) wr HR.out
            rw [HU.out, ← hY] at h1
            have h2 : ∀ W, RackAt (g + 5) t W → Calls Try.prog 12 #[.pointer (some ⟨g + 5 + 1, 0, none⟩), .int .i64 (q : Nat)] W fun r w' => r = .returned (.string Y) ∧ Kept W w' := fun W hW => by
              have h := all_any (g + 5) t (q : Nat) (by omega) (by omega) W hW
              rw [← hY] at h
              exact h
            have HC1 := Lib.hid h1
            have HC2 := Lib.hid h2
            clear h1 h2 hY
            go_wp2_with fail
            refine HC1.out.mono ?_
            rintro e v5 ⟨rfl, hk1⟩
            have HR5 : Hid (RackAt g u v5) := HR.out.kept hk1
            have HX5 : Hid (RackAt (g + 5) t v5) := HX.out.kept hk1
            have HK5 : Hid (Kept w v5) := HK.out.trans hk1
            clear hk1
            go_wp2_with fail
            refine (HC2.out _ HX5.out).mono ?_
            rintro e v6 ⟨rfl, hk1⟩
            have HR6 : Hid (RackAt g u v6) := HR5.out.kept hk1
            have HX6 : Hid (RackAt (g + 5) t v6) := HX5.out.kept hk1
            have HK6 : Hid (Kept w v6) := HK5.out.trans hk1
            clear hk1 HC1 HC2
            go_wp2_with fail
            exact ⟨⟨q + 1, by omega, by go_num, HK6.out, HR6, HX6⟩, by simp [intOf]; omega⟩
          · obtain rfl : q = 3 := by omega
            obtain ⟨hwe, hws⟩ := HPL.out.writeE0 (d := 1) (i := 7) (by decide) (by decide) ⟨#[101, 110, 100]⟩ (by decide)
            have hcall := write_any g u (1 : Nat) (7 : Nat) (by decide) (by decide) (by decide) (by decide) ⟨#[101, 110, 100]⟩ (by decide) wr HR.out
            rw [hwe, hws, HPL.out.n] at hcall
            have HCALL := Lib.hid hcall
            clear hcall hwe hws HX HX4 HR4 HK4
            go_wp2_with fail
            refine HCALL.out.mono ?_
            rintro e v5 ⟨rfl, hR, hO⟩
            have HK5 : Hid (Kept w v5) := Only.kept HK.out HG.out hO
            obtain ⟨hre, hrt⟩ := RSt.wr_read u (K := 1) (A := 7) (padL ⟨#[101, 110, 100]⟩) HPL.out.cut (HPL.out.there (by decide) (by decide))
            have hcall := read_any g _ (1 : Nat) (7 : Nat) (by decide) (by decide) (by decide) (by decide) v5 hR
            rw [hre, hrt] at hcall
            obtain ⟨T, hT⟩ : ∃ T : ByteArray, T = ⟨(padL ⟨#[101, 110, 100]⟩).toArray⟩ := ⟨_, rfl⟩
            rw [← hT] at hcall
            have hTs : T.size = 64 := by rw [hT]; kernel_rfl
            have hT3 : T.extract 0 3 = ⟨#[101, 110, 100]⟩ := by rw [hT]; kernel_rfl
            have hsl : ∀ W, (Instr.slice 9 (.string T) none (some (.int .i64 3)) none).run Try.prog W = .ok (.string ⟨#[101, 110, 100]⟩) W := fun W => by
              have h := run_slice_string_h (P := Try.prog) W 9 T Try.underlying9 .i64 3 (by decide) (by omega)
              rw [show (3 : Int).toNat = 3 from rfl, hT3] at h
              exact h
            have HCALL2 := Lib.hid hcall
            clear hcall hre hrt hT hT3 hR hO HCALL HR HK
            go_wp2_with fail
            refine HCALL2.out.mono ?_
            rintro e v6 ⟨rfl, hk2⟩
            have HK6 : Hid (Kept w v6) := HK5.out.trans hk2
            clear hk2 HCALL2
            go_wp2_with fail
            refine (alive_any _).mono ?_
            rintro e w9 ⟨rfl, hk2⟩
            have K9 : Hid (Kept w w9) := HK6.out.trans hk2
            clear hk2
            go_wp2_with fail
            go_ret
            exact ⟨rfl, K9.out⟩
  · have hcall := HHV.out
    rw [hh] at hcall
    clear HHV
    go_enter Try.func4, Try.ntmps4
    go_wp2_with fail
    refine hcall.mono ?_
    rintro e wa ⟨rfl, hk⟩
    have KA : Hid (Kept w wa) := hk
    clear hk hcall
    go_wp2_with fail
    refine (alive_any _).mono ?_
    rintro e w9 ⟨rfl, hk2⟩
    have K9 : Hid (Kept w w9) := KA.out.trans hk2
    clear hk2
    go_wp2_with fail
    go_ret
    exact ⟨rfl, K9.out⟩
end Go.Proofs.Ytnfehfmmpjbgdaa
