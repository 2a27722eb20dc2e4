/- TailFull's walk. -/
import Derived.Test.YtmgkkoajjdgmbaaGreatDoorPart41
import Derived.Deep.LoopGhost
import Derived.Deep.QuietTactic
import Derived.BigQuiet
namespace Go.Proofs.YtmgkkoajjdgmbaaGreatDoor
open Go.RowKit Go.Shelf Sm Wr _root_.Go.Proofs.YtmgkkoajjdgmbaaGreatDoor.Nm
set_option linter.unusedVariables false
def gF (T : Nat) : Geo := ⟨2, 1, 130, T⟩
theorem gF_ok (T : Nat) (h1 : 2 ≤ T) (h2 : T ≤ 60) : gOk (gF T) 8 := ⟨(gF T).may_iff.2 ⟨by show (1 : Int) ≤ 2; decide, by show (2 : Int) ≤ 12; decide, by show (0 : Int) ≤ 1; decide, by show (1 : Int) < 2; decide, by show (2 : Int) ≤ T; omega, by show (T : Int) ≤ 512; omega, by show (130 : Int) ≤ 4096; decide, by show (10 : Int) + 2 * T ≤ 130; omega⟩, by decide, by decide⟩
theorem drv_some (g : Geo) (gen : Nat) : ∃ d, d ∈ drvL g gen := ⟨_, List.getElem_mem (n := 0) (by rw [drvL_length]; omega)⟩
set_option maxHeartbeats 4000000 in
set_option maxRecDepth 100000 in
theorem tailFull_walk (a0 : Int) (a1 : Option Addr) (len1 cap1 : Nat) (z1 : List ByteArray) (w : World) (w0 : (Lit.int .u8 a0).wf = true) (w1 : IsStrs w a1 len1 cap1 z1) :
    Calls Tryz.prog 6 #[.int .u8 a0, .slice a1 len1 cap1] w fun e w' => e = .returned (.bool true) ∧ Kept w w' := by
  have hb0 := bounds_u8 w0
  obtain ⟨hS, hl, hmx⟩ := w1.strs
  obtain ⟨m, rfl⟩ : ∃ m : Nat, a0 = m := ⟨a0.toNat, by omega⟩
  have hwr : IntKind.i64.wrap (m : Int) = (m : Int) := IntWalk.i64_in _ (by omega)
  obtain ⟨T, hT⟩ : ∃ T : Nat, 2 + (m : Int) % 59 = T := ⟨2 + m % 59, by omega⟩
  have hT1 : 2 ≤ T := by omega
  have hT2 : T ≤ 60 := by omega
  have HAL := Lib.hid (fun W => alive_any W)
  have HS := Lib.hid hS
  have HMX := Lib.hid hmx
  have HL := Lib.hid hl
  clear hS hl hmx w1 w0
  generalize z1.take len1 = zs at *
  have HOK := Lib.hid (gF_ok T hT1 hT2)
  have K := Lib.hid ((Kept.refl w).alloc (.cells #[.int .i64 2, .int .i64 1, .int .i64 130, .int .i64 (T : Int)] 28))
  have GG : Hid (GeoAt (w.alloc (.cells #[.int .i64 2, .int .i64 1, .int .i64 130, .int .i64 (T : Int)] 28)) w.heap.size (gF T)) := GeoAt.laid w 28 (gF T)
  have HNEW := Lib.hid (fun W => pNew_ok 2 130 (by decide) (by decide) (by decide) (by decide) W)
  go_enter Tryz.func6, Tryz.ntmps6
  go_upto_region 2 with fail
  (try rw [hT])
  generalize w.alloc (.cells #[.int .i64 2, .int .i64 1, .int .i64 130, .int .i64 (T : Int)] 28) = wb at *
  have HN2 := Lib.hid (HNEW.out wb)
  have HGW : Hid (w.heap.size ≤ wb.heap.size) := K.out.size
  have HGB : Hid (∀ W, Kept wb W → W.cell? ⟨w.heap.size, 0, none⟩ = some (.int .i64 2) ∧ W.cell? ⟨w.heap.size, 1, none⟩ = some (.int .i64 1) ∧ W.cell? ⟨w.heap.size, 2, none⟩ = some (.int .i64 130) ∧ W.cell? ⟨w.heap.size, 3, none⟩ = some (.int .i64 (T : Int))) := fun W k => by
    obtain ⟨c0, c1, c2, c3⟩ := GG.out.kept k
    exact ⟨c0, c1, c2, c3⟩
  generalize hG : wb.heap.size = G at *
  have HG : Hid (wb.heap.size ≤ G) := Nat.le_of_eq hG
  clear hG hwr GG
  go_upto_region 3 with (go_at_call 11; refine HN2.out.mono ?_; rintro e w2 ⟨rfl, hk2, hr2, hs2⟩; have K2 := Lib.hid hk2; have R2 := Lib.hid hr2; clear hk2 hr2 hs2)
  obtain ⟨c0, c1, c2, c3⟩ := HGB.out w2 K2.out
  have HB2 : Hid (Calls Tryz.prog 12 #[.pointer (some ⟨G + 1, 0, none⟩), .agg #[.int .i64 2, .int .i64 1, .int .i64 130, .int .i64 (T : Int)], .int .u64 8] w2 fun r w' => ∃ (tb : Nat) (v : Value) (s' : RSt), r = .returned (.tuple #[.pointer (some ⟨tb, 0, none⟩), .int .i64 0]) ∧ BegS G (gF T) 8 (rack0 2 130) s' tb v w2 w') :=
    begin_sit G (rack0 2 130) (gF T) 8 w2 R2.out (new_zero HOK.out 2 130 rfl rfl) rfl
  go_upto_region 4 with (go_at_call 12; refine HB2.out.mono ?_; rintro e w3 ⟨tb, v3, s3, rfl, hb3⟩; have B3 := Lib.hid hb3; clear hb3)
  have K3 := Lib.hid (only_low HG.out K2.out B3.out.on)
  have S3 := Lib.hid B3.out.st
  have C3 := Lib.hid B3.out.cut
  clear HB2 HN2 HNEW R2 K2 B3 c0 c1 c2 c3
  generalize w2.heap.size = B at *
  have HRM : Hid (∀ W, Kept w3 W → Calls Tryz.prog 22 #[.pointer (some ⟨tb, 0, none⟩)] W fun r w' => r = .returned (.int .i64 (((T - 1) * 34 : Nat) : Int)) ∧ Kept W w') := fun W k => (S3.out.kept k).room (.inl rfl)
  have hw1 : IntKind.i64.wrap ((T : Int) - 1) = ((T - 1 : Nat) : Int) := by rw [IntWalk.i64_in _ (by omega)]; omega
  have hw2 : IntKind.i64.wrap (((T - 1 : Nat) : Int) * 34) = (((T - 1) * 34 : Nat) : Int) := by rw [IntWalk.i64_in _ (by omega)]; omega
  obtain ⟨c0, c1, c2, c3⟩ := HGB.out w3 K3.out
  have HK3C : Hid (∀ W, Kept w3 W → W.cell? ⟨w.heap.size, 3, none⟩ = some (.int .i64 (T : Int))) := fun W k => (HGB.out W (K3.out.trans k)).2.2.2
  have k0 := Kept.refl w3
  have kd : Kept w3 w3.drew := (Kept.refl _).drew
  by_cases hlong : 60 < len1
  · have b1 : decide ((60 : Int) < (len1 : Int)) = true := decide_eq_true (by omega)
    have b0 : decide (60 < len1) = true := decide_eq_true hlong
    go_quiet (fail)
    go_upto_region 5 with fail
    have KF := Lib.hid (K.out.trans (K3.out.trans ((Kept.refl _).drewN nq)))
    all_goals
      go_wp2_with (go_at_call 9; refine (HAL.out _).mono ?_; rintro e u9 ⟨rfl, k9⟩)
      go_ret
      exact ⟨rfl, KF.out.trans k9⟩
  · have b1 : decide ((60 : Int) < (len1 : Int)) = false := decide_eq_false (by omega)
    have b0 : decide (60 < len1) = false := decide_eq_false hlong
    go_region_held3 (fun W' => W'.cell? ⟨w.heap.size, 3, none⟩ = some (.int .i64 (T : Int)))
      (first | exact HK3C.out _ k0 | exact HK3C.out _ kd | exact HK3C.out _ kA)
      (first | (go_at_call 22; refine (HRM.out w3.drew kd).mono ?_; rintro e wA ⟨rfl, hkA⟩; have kA := Kept.trans kd hkA; clear hkA))
    all_goals
      have HK4 := Lib.hid (K3.out.trans kA)
      have HS4 := Lib.hid (S3.out.kept kA)
      have HC4 := Lib.hid C3.out
      clear S3 K3 C3 HRM HK3C k0 kd kA c0 c1 c2 c3 b1 b0 hw1 hw2
      go_upto_region 8 with fail
      go_loopw [10, 11] (fun n i wr => ∃ (k : Nat) (L : List ByteArray) (s : RSt) (v : Value), k ≤ len1 ∧ n = .int .i64 (L.length : Nat) ∧ i = .int .i64 (k : Nat) ∧ L.length ≤ k ∧ Hid (Kept wb wr ∧ Sit tb B G (gF T) 8 L L L (fun _ => false) s v false wr ∧ s.cut = false)) (fun n i _ => len1 - (intOf i).toNat)
      case atStart => exact ⟨0, [], s3, v3, Nat.zero_le _, rfl, rfl, Nat.le_refl _, HK4.out, HS4.out, HC4.out⟩
      case round =>
        clear HK4 HS4 HC4
        obtain ⟨k, L, s, v, hk, rfl, rfl, hLk, HR⟩ := hrel
        have KW := Lib.hid HR.out.1
        have SW := Lib.hid HR.out.2.1
        have CW := Lib.hid HR.out.2.2
        clear HR
        have hlt0 := SW.out.ti.len
        have HLT : Hid (lenT L ≤ T) := hlt0
        have hLL := len_le L
        clear hlt0
        by_cases hlt : k < len1
        · have b1 : decide ((k : Int) < (len1 : Int)) = true := decide_eq_true (by omega)
          have b1N : decide (k < len1) = true := decide_eq_true hlt
          have hkw : IntKind.i64.wrap ((k : Int) + 1) = ((k + 1 : Nat) : Int) := by rw [IntWalk.i64_in _ (by omega)]; omega
          have xi1 : (k : Int) < (len1 : Int) := by omega
          have xi0 : (0 : Int) ≤ (k : Int) := by omega
          have hwi : ((k : Int)).toNat = k := by omega
          rcases HS.out with h | ⟨q, o, rfl, hc⟩
          · have := HL.out
            rw [h] at this
            exact absurd hlt (by rw [← this]; simp)
          · have hcell : wr.cell? ⟨q, o + k, none⟩ = some (.string (zs.getD k ByteArray.empty)) := cell_keptT (hc k (by rw [HL.out]; exact hlt)) (K.out.trans KW.out)
            generalize zs.getD k ByteArray.empty = x at *
            clear hc
            by_cases hx : 2048 < x.size
            · have b2 : decide ((2048 : Int) < (x.size : Int)) = true := decide_eq_true (by omega)
              have KF := Lib.hid (K.out.trans KW.out)
              go_wp2_with (go_at_call 9; refine (HAL.out _).mono ?_; rintro e u9 ⟨rfl, k9⟩)
              go_ret
              exact ⟨rfl, KF.out.trans k9⟩
            · have b2 : decide ((2048 : Int) < (x.size : Int)) = false := decide_eq_false (by omega)
              have hxs : x.size ≤ 2048 := by omega
              have HRM : Hid (Calls Tryz.prog 22 #[.pointer (some ⟨tb, 0, none⟩)] wr fun r w' => r = .returned (.int .i64 (((T - lenT L) * 34 : Nat) : Int)) ∧ Kept wr w') := SW.out.room (.inl rfl)
              obtain ⟨RM, hRM⟩ : ∃ RM : Nat, RM = (T - lenT L) * 34 := ⟨_, rfl⟩
              rw [← hRM] at HRM
              obtain ⟨P, hP⟩ : ∃ P : Nat, P = partsN x.size := ⟨_, rfl⟩
              obtain ⟨PM, hPM⟩ : ∃ PM : Nat, PM = P * 34 := ⟨_, rfl⟩
              have hPb : 1 ≤ P ∧ P ≤ 100 := by rw [hP]; unfold partsN; omega
              have hq1 : IntKind.i64.wrap ((x.size : Int) + 34) = (x.size : Int) + 34 := IntWalk.i64_in _ (by omega)
              have hq2 : IntKind.i64.wrap ((x.size : Int) + 34 - 1) = (x.size : Int) + 34 - 1 := IntWalk.i64_in _ (by omega)
              obtain ⟨mm, hmm⟩ : ∃ mm : Nat, mm = (x.size + 33) / 34 := ⟨_, rfl⟩
              have hd : Int.tdiv ((x.size : Int) + 34 - 1) 34 = (mm : Int) := by rw [Int.tdiv_eq_ediv_of_nonneg (by omega)]; omega
              have hq3 : IntKind.i64.wrap (mm : Int) = (mm : Int) := IntWalk.i64_in _ (by omega)
              have hmx : max (1 : Int) (mm : Int) = (P : Int) := by rw [hP]; unfold partsN; omega
              have hq4 : IntKind.i64.wrap ((P : Int) * 34) = (PM : Int) := by rw [IntWalk.i64_in _ (by omega)]; omega
              have HP := Lib.hid hP
              have HRMe := Lib.hid hRM
              have HPMe := Lib.hid hPM
              by_cases hfit : lenT L + partsN x.size ≤ T
              · have b3 : decide ((PM : Int) ≤ (RM : Int)) = true := decide_eq_true (by rw [hPM, hRM, hP]; omega)
                have b3N : decide (PM ≤ RM) = true := decide_eq_true (by rw [hPM, hRM, hP]; omega)
                obtain ⟨R2, hR2⟩ : ∃ R2 : Nat, R2 = (T - lenT (L ++ [x])) * 34 := ⟨_, rfl⟩
                have hlen2 := pre_len L x
                have hq5 : IntKind.i64.wrap ((RM : Int) - (PM : Int)) = (R2 : Int) := by rw [IntWalk.i64_in _ (by omega)]; omega
                have hq6 : IntKind.i64.wrap ((L.length : Int) + 1) = ((L.length + 1 : Nat) : Int) := by rw [IntWalk.i64_in _ (by omega)]; omega
                have HAP := Lib.hid (fun W (k : Kept wr W) => (SW.out.kept k).appn CW.out x hfit)
                have HR2 := Lib.hid hR2
                clear hP hPM hRM hmm hR2 hlen2
                go_wp2_with (first
                  | (go_at_call 22; refine HRM.out.mono ?_; rintro e u1 ⟨rfl, ku1⟩; have KU1 := Lib.hid ku1; have hcell2 := cell_keptT hcell ku1; clear ku1)
                  | (go_at_call 14; refine (HAP.out u1 KU1.out).mono ?_; rintro e u2 ⟨rfl, s2, v2, hA2⟩; have A2 := Lib.hid hA2; have HRM2 : Hid (Calls Tryz.prog 22 #[.pointer (some ⟨tb, 0, none⟩)] u2 fun r w' => r = .returned (.int .i64 (R2 : Int)) ∧ Kept u2 w') := (by rw [HR2.out]; exact hA2.st.room (.inl rfl)); clear hA2)
                  | (go_at_call 22; refine HRM2.out.mono ?_; rintro e u3 ⟨rfl, ku3⟩; have KU3 := Lib.hid ku3; clear ku3))
                refine ⟨⟨k + 1, L ++ [x], s2, v2, by omega, by rw [List.length_append]; go_num, by go_num, by rw [List.length_append]; exact Nat.add_le_add_right hLk 1, SW.out.kept KU1.out |>.low HG.out (KW.out.trans KU1.out) A2.out.fr |>.trans KU3.out, A2.out.st.kept KU3.out, A2.out.cut⟩, by simp [intOf]; omega⟩
              · have b3 : decide ((PM : Int) ≤ (RM : Int)) = false := decide_eq_false (by rw [hPM, hRM, hP]; omega)
                have b3N : decide (PM ≤ RM) = false := decide_eq_false (by rw [hPM, hRM, hP]; omega)
                have HAP := Lib.hid (fun W (k : Kept wr W) => (SW.out.kept k).full (.inl rfl) x (by omega) (show T < lenT L + partsN x.size by omega))
                have HRM2 := Lib.hid (fun W (k : Kept wr W) => (SW.out.kept k).room (.inl rfl))
                have HRM3 : Hid (∀ W, Kept wr W → Calls Tryz.prog 22 #[.pointer (some ⟨tb, 0, none⟩)] W fun r w' => r = .returned (.int .i64 (RM : Int)) ∧ Kept W w') := fun W k => by
                  have h := HRM2.out W k
                  have e : ((gF T).t.toNat - lenT L) * 34 = RM := HRMe.out.symm
                  rw [e] at h
                  exact h
                clear hP hPM hRM hmm HRM2
                go_wp2_with (first
                  | (go_at_call 22; refine HRM.out.mono ?_; rintro e u1 ⟨rfl, ku1⟩; have KU1 := Lib.hid ku1; have hcell2 := cell_keptT hcell ku1; clear ku1)
                  | (go_at_call 14; refine (HAP.out u1 KU1.out).mono ?_; rintro e u2 ⟨rfl, ku2⟩; have KU2 := Lib.hid (KU1.out.trans ku2); clear ku2)
                  | (go_at_call 22; refine (HRM3.out u2 KU2.out).mono ?_; rintro e u3 ⟨rfl, ku3⟩; have KU3 := Lib.hid (KU2.out.trans ku3); clear ku3))
                refine ⟨⟨k + 1, L, s, v, by omega, rfl, by go_num, by omega, KW.out.trans KU3.out, SW.out.kept KU3.out, CW.out⟩, by simp [intOf]; omega⟩
        · obtain rfl : k = len1 := by omega
          have b1 : decide ((k : Int) < (k : Int)) = false := decide_eq_false (by omega)
          have b1N : decide (k < k) = false := decide_eq_false (by omega)
          clear HS HMX HL
          have hTL := HLT.out
          have HRM := Lib.hid (fun W (k : Kept wr W) => (SW.out.kept k).room (.inl rfl))
          obtain ⟨RM, hRM⟩ : ∃ RM : Nat, RM = (T - lenT L) * 34 := ⟨_, rfl⟩
          have HRM3 : Hid (∀ W, Kept wr W → Calls Tryz.prog 22 #[.pointer (some ⟨tb, 0, none⟩)] W fun r w' => r = .returned (.int .i64 (RM : Int)) ∧ Kept W w') := fun W k => by
            have h := HRM.out W k
            have e : ((gF T).t.toNat - lenT L) * 34 = RM := hRM.symm
            rw [e] at h
            exact h
          clear HRM
          have hR0 : RM ≤ 2040 := by omega
          have b4 : decide ((RM : Int) < 0) = false := decide_eq_false (by omega)
          have b5 : decide ((65536 : Int) < (RM : Int)) = false := decide_eq_false (by omega)
          have b5N : decide (65536 < RM) = false := decide_eq_false (by omega)
          have HRMe := Lib.hid hRM
          clear hRM
          go_upto_region 25 with (go_at_call 22; refine (HRM3.out _ (Kept.refl _)).mono ?_; rintro e u1 ⟨rfl, ku1⟩; have KU1 := Lib.hid ku1; clear ku1)
          clear b1 b1N b4 b5 b5N
          have hq1 : IntKind.i64.wrap ((RM : Int) + 1) = ((RM + 1 : Nat) : Int) := by rw [IntWalk.i64_in _ (by omega)]; omega
          obtain ⟨M1, hmk1, hcv1⟩ := mkZ (RM + 1) (by omega)
          obtain ⟨M2, hmk2, hcv2⟩ := mkZ RM (by omega)
          have hmkA := hmk1 u1
          have hcvA := hcv1 u1
          have hZ1 : (⟨(List.replicate (RM + 1) (0 : UInt8)).toArray⟩ : ByteArray).size = RM + 1 := by simp [ByteArray.size]
          have hZ2 : (⟨(List.replicate RM (0 : UInt8)).toArray⟩ : ByteArray).size = RM := by simp [ByteArray.size]
          generalize (⟨(List.replicate (RM + 1) (0 : UInt8)).toArray⟩ : ByteArray) = Z1 at *
          generalize (⟨(List.replicate RM (0 : UInt8)).toArray⟩ : ByteArray) = Z2 at *
          generalize hRP : RM + 1 = RP at *
          have SU := Lib.hid (SW.out.kept KU1.out)
          have KU := Lib.hid (KW.out.trans KU1.out)
          have HF1 := Lib.hid ((SU.out.kept ((Kept.refl _).alloc (.cells M1 5))).full (.inl rfl) Z1 (by omega) (show T < lenT L + partsN Z1.size by have := HRMe.out; rw [hZ1]; unfold partsN; omega))
          have HMK := Lib.hid hmk2
          have HCV := Lib.hid hcv2
          have HRP := Lib.hid hRP
          clear hmk1 hcv1 hmk2 hcv2 hRP hZ1 SW KW
          have HLD : Hid (∀ (L' : List ByteArray) (s' : RSt) (v' : Value) W, Sit tb B G (gF T) 8 L' L' L' (fun _ => false) s' v' false W → s'.cut = false → Calls Tryz.prog 17 #[.pointer (some ⟨G + 1, 0, none⟩), .agg #[.int .i64 2, .int .i64 1, .int .i64 130, .int .i64 (T : Int)], .int .u64 8] W fun r w' => ∃ (tb B c : Nat) (a : Option Addr), r = .returned (.tuple #[.pointer (some ⟨tb, 0, none⟩), .slice a L'.length c, .int .i64 0]) ∧ Kept W w') := fun L' s' v' W h hc => by
            obtain ⟨d, hd⟩ := drv_some (gF T) 8
            refine (load_got G s' (gF T) 8 L' _ W h.rk h.ti (not_down hc) ⟨d, hd, rfl⟩).mono ?_
            rintro r w' ⟨tb, B, c, v, a, rfl, h⟩
            exact ⟨tb, B, c, a, rfl, h.kp⟩
          by_cases hz : RM = 0
          · have b6 : decide ((0 : Int) < (RM : Int)) = false := decide_eq_false (by omega)
            have b6N : decide (0 < RM) = false := decide_eq_false (by omega)
            have hzr : ((RM : Int) != 0) = false := by rw [hz]; rfl
            have HF2 := Lib.hid (fun W (k : Kept u1 W) => (SU.out.kept k).full (.inl rfl) Z2 (by omega) (show T < lenT L + partsN Z2.size by have := HRMe.out; rw [hZ2]; unfold partsN; omega))
            have HZ := Lib.hid hz
            clear hZ2 hz
            go_upto_region 27 with (first
              | (go_at_call 14; (with_reducible refine HF1.out.mono ?_); rintro e u2 ⟨rfl, ku2⟩; have hmkB := HMK.out u2; have hcvB := HCV.out u2; have KU2 : Hid (Kept u1 u2) := ((Kept.refl u1).alloc _).trans ku2; clear ku2)
              | (go_at_call 14; (with_reducible refine (HF2.out _ (KU2.out.alloc _)).mono ?_); rintro e u3 ⟨rfl, ku3⟩; have KU3 : Hid (Kept u1 u3) := (KU2.out.alloc _).trans ku3; clear ku3)
              | (go_at_call 22; refine (HRM3.out _ (KU1.out.trans KU3.out)).mono ?_; rintro e u4 ⟨rfl, ku4⟩; have KU4 := Lib.hid (KU3.out.trans ku4); clear ku4))
            obtain ⟨c0, c1, c2, c3⟩ := HGB.out u4 (KU.out.trans KU4.out)
            have HL4 := Lib.hid (HLD.out L s v u4 (SU.out.kept KU4.out) CW.out)
            have KF := Lib.hid (K.out.trans (KU.out.trans KU4.out))
            clear HF1 HF2 HMK HCV hmkA hcvA hmkB hcvB
            go_wp2_with (first
              | (go_at_call 17; refine HL4.out.mono ?_; rintro e u5 ⟨t5, B5, x5, a5, rfl, ku5⟩; have KU5 := Lib.hid (KF.out.trans ku5); clear ku5)
              | (go_at_call 9; refine (HAL.out _).mono ?_; rintro e u9 ⟨rfl, k9⟩))
            go_ret
            exact ⟨rfl, KU5.out.trans k9⟩
          · have b6 : decide ((0 : Int) < (RM : Int)) = true := decide_eq_true (by omega)
            have b6N : decide (0 < RM) = true := decide_eq_true (by omega)
            have hfit2 : lenT L + partsN Z2.size ≤ T := by have := HRMe.out; rw [hZ2]; unfold partsN; omega
            have HF2 := Lib.hid (fun W (k : Kept u1 W) => (SU.out.kept k).appn CW.out Z2 hfit2)
            have hR2 : (T - lenT (L ++ [Z2])) * 34 = 0 := by have h1 := pre_len L Z2; have := HRMe.out; rw [h1, hZ2]; unfold partsN; omega
            have HR2 := Lib.hid hR2
            have hnw : IntKind.i64.wrap ((L.length : Int) + 1) = ((L.length + 1 : Nat) : Int) := by rw [IntWalk.i64_in _ (by omega)]; omega
            clear hZ2 hz hR2 hfit2
            go_upto_region 27 with (first
              | (go_at_call 14; (with_reducible refine HF1.out.mono ?_); rintro e u2 ⟨rfl, ku2⟩; have hmkB := HMK.out u2; have hcvB := HCV.out u2; have KU2 : Hid (Kept u1 u2) := ((Kept.refl u1).alloc _).trans ku2; clear ku2)
              | (go_at_call 14; (with_reducible refine (HF2.out _ (KU2.out.alloc _)).mono ?_); rintro e u3 ⟨rfl, s3, v3, hA3⟩; have A3 := Lib.hid hA3; have HRM4 : Hid (Calls Tryz.prog 22 #[.pointer (some ⟨tb, 0, none⟩)] u3 fun r w' => r = .returned (.int .i64 0) ∧ Kept u3 w') := (by have h := hA3.st.room (.inl rfl); have e : ((gF T).t.toNat - lenT (L ++ [Z2])) * 34 = 0 := HR2.out; rw [e] at h; exact h); clear hA3)
              | (go_at_call 22; refine HRM4.out.mono ?_; rintro e u4 ⟨rfl, ku4⟩; have KU4 := Lib.hid ku4; clear ku4))
            have KB4 := Lib.hid (((SU.out.kept (KU2.out.alloc (.cells M2 5))).low HG.out (KU.out.trans (KU2.out.alloc _)) A3.out.fr).trans KU4.out)
            obtain ⟨c0, c1, c2, c3⟩ := HGB.out u4 KB4.out
            have HL4 : Hid (Calls Tryz.prog 17 #[.pointer (some ⟨G + 1, 0, none⟩), .agg #[.int .i64 2, .int .i64 1, .int .i64 130, .int .i64 (T : Int)], .int .u64 8] u4 fun r w' => ∃ (tb B c : Nat) (a : Option Addr), r = .returned (.tuple #[.pointer (some ⟨tb, 0, none⟩), .slice a (L.length + 1) c, .int .i64 0]) ∧ Kept u4 w') := by
              have h := HLD.out _ _ _ u4 (A3.out.st.kept KU4.out) A3.out.cut
              have e : (L ++ [Z2]).length = L.length + 1 := by simp
              rw [e] at h
              exact h
            have KF := Lib.hid (K.out.trans KB4.out)
            clear HF1 HF2 HMK HCV hmkA hcvA hmkB hcvB
            go_wp2_with (first
              | (go_at_call 17; refine HL4.out.mono ?_; rintro e u5 ⟨t5, B5, x5, a5, rfl, ku5⟩; have KU5 := Lib.hid (KF.out.trans ku5); clear ku5)
              | (go_at_call 9; refine (HAL.out _).mono ?_; rintro e u9 ⟨rfl, k9⟩))
            go_ret
            exact ⟨rfl, KU5.out.trans k9⟩
end Go.Proofs.YtmgkkoajjdgmbaaGreatDoor
