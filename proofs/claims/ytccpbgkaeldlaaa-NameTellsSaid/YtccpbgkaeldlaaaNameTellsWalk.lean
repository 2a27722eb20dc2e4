/- NameTells' walk. -/
import Derived.Test.YtccpbgkaeldlaaaNyLaw
import Derived.Test.YtccpbgkaeldlaaaNyCmp2
import Derived.Test.YtccpbgkaeldlaaaNyRCmp
import Derived.Test.YtccpbgkaeldlaaaNyOf
import Derived.Test.YtccpbgkaeldlaaaNyRPre
import Derived.Test.YtccpbgkaeldlaaaNyRBytes
import Derived.Test.YtccpbgkaeldlaaaNyRMay2
import Derived.OpenShut
namespace Go.Proofs.Ytccpbgkaeldlaaa
open Go.RowKit Go.ChangeShapes Go.WideShapes _root_.Go.Proofs.Ytccpbgkaeldlaaa.Nm Ny
set_option linter.unusedVariables false
set_option linter.unusedSimpArgs false
set_option maxHeartbeats 2000000 in
set_option maxRecDepth 100000 in
theorem nameTells_walk (a b : Key) (s : ByteArray) (deep : Int) (w : World) (wa : a.Wf) (wb : b.Wf) (w2 : s.size ≤ maxLen) (w3 : (Lit.int .i64 deep).wf = true) :
    Calls Try.prog 3 #[a.val, b.val, .string s, .int .i64 deep] w fun e w' => e = .returned (.bool true) ∧ Kept w w' := by
  have HWA := Lib.hid wa
  have HWB := Lib.hid wb
  have HX := Lib.hid ((KyAt.laid w 24 a).kept ((Kept.refl _).alloc (.cells #[.int .u8 (b.kd : Nat), .string b.bk, .string b.nm, .int .u64 (b.n : Nat), .int .i64 b.pt] 24)))
  have HY := Lib.hid (KyAt.laid (w.alloc (.cells #[.int .u8 (a.kd : Nat), .string a.bk, .string a.nm, .int .u64 (a.n : Nat), .int .i64 a.pt] 24)) 24 b)
  have HL1 := Lib.hid (fun W => long_2 a.bk a.nm 9 W wa.bk wa.nm)
  have HL2 := Lib.hid (fun W => long_2 b.bk b.nm 9 W wb.bk wb.nm)
  have HL3 := Lib.hid (fun W => long_1 s 9 W w2)
  clear wa wb w2 w3
  unfold Key.val
  go_enter Try.func3, Try.ntmps3
  have HE : Hid ((w.alloc (.cells #[.int .u8 (a.kd : Nat), .string a.bk, .string a.nm, .int .u64 (a.n : Nat), .int .i64 a.pt] 24)).heap.size = w.heap.size + 1) := by show _ = _; simp
  rw [HE.out] at HY
  have HK : Hid (Kept w ((w.alloc (.cells #[.int .u8 (a.kd : Nat), .string a.bk, .string a.nm, .int .u64 (a.n : Nat), .int .i64 a.pt] 24)).alloc (.cells #[.int .u8 (b.kd : Nat), .string b.bk, .string b.nm, .int .u64 (b.n : Nat), .int .i64 b.pt] 24))) := ((Kept.refl _).alloc _).alloc _
  clear HE
  go_upto_region 1 with fail
  have X1 := Lib.hid HX.out
  have Y1 := Lib.hid HY.out
  have K1 := Lib.hid HK.out
  clear HX HY HK
  generalize (w.alloc (.cells #[.int .u8 (a.kd : Nat), .string a.bk, .string a.nm, .int .u64 (a.n : Nat), .int .i64 a.pt] 24)).alloc (.cells #[.int .u8 (b.kd : Nat), .string b.bk, .string b.nm, .int .u64 (b.n : Nat), .int .i64 b.pt] 24) = w1 at *
  generalize w.heap.size = ga at *
  obtain ⟨c0, c1, c2, c3, c4, _, _, _, _, _⟩ := X1.out
  go_wp2_with fail
  refine (HL1.out _).mono ?_
  rintro e u ⟨rfl, hu⟩
  have HKD := Lib.hid ((Kept.refl w1).alloc (.cells #[.string a.bk, .string a.nm] 9))
  rw [← hu] at HKD
  clear hu c0 c1 c2 c3 c4
  have K2 := Lib.hid (K1.out.trans HKD.out)
  have X2 := Lib.hid (X1.out.kept HKD.out)
  have Y2 := Lib.hid (Y1.out.kept HKD.out)
  clear X1 Y1 K1 HKD HL1
  have HL1 := Lib.hid (fun h => longB_all (l := [a.bk, a.nm]) (n := 0) h)
  generalize longB [a.bk, a.nm] 0 = lb1 at *
  cases lb1
  case true =>
    go_wp2_with fail
    refine (works_any _).mono ?_
    rintro e v ⟨rfl, hv⟩
    have K9 := Lib.hid (K2.out.trans hv)
    clear hv
    go_wp2_with fail
    go_ret
    exact ⟨rfl, K9.out⟩
  obtain ⟨d0, d1, d2, d3, d4, _, _, _, _, _⟩ := Y2.out
  go_wp2_with fail
  refine (HL2.out _).mono ?_
  rintro e u2 ⟨rfl, hu⟩
  have HKD := Lib.hid ((Kept.refl u).alloc (.cells #[.string b.bk, .string b.nm] 9))
  rw [← hu] at HKD
  clear hu d0 d1 d2 d3 d4
  have K3 := Lib.hid (K2.out.trans HKD.out)
  have X3 := Lib.hid (X2.out.kept HKD.out)
  have Y3 := Lib.hid (Y2.out.kept HKD.out)
  clear X2 Y2 K2 HKD HL2
  generalize longB [b.bk, b.nm] 0 = lb2 at *
  cases lb2
  case true =>
    go_wp2_with fail
    refine (works_any _).mono ?_
    rintro e v ⟨rfl, hv⟩
    have K9 := Lib.hid (K3.out.trans hv)
    clear hv
    go_wp2_with fail
    go_ret
    exact ⟨rfl, K9.out⟩
  go_wp2_with fail
  refine (HL3.out _).mono ?_
  rintro e u3 ⟨rfl, hu⟩
  have HKD := Lib.hid ((Kept.refl u2).alloc (.cells #[.string s] 9))
  rw [← hu] at HKD
  clear hu
  have K4 := Lib.hid (K3.out.trans HKD.out)
  have X4 := Lib.hid (X3.out.kept HKD.out)
  have Y4 := Lib.hid (Y3.out.kept HKD.out)
  clear X3 Y3 K3 HKD HL3
  have HL3 := Lib.hid (fun h => longB_all (l := [s]) (n := 0) h)
  generalize longB [s] 0 = lb3 at *
  cases lb3
  case true =>
    go_wp2_with fail
    refine (works_any _).mono ?_
    rintro e v ⟨rfl, hv⟩
    have K9 := Lib.hid (K4.out.trans hv)
    clear hv
    go_wp2_with fail
    go_ret
    exact ⟨rfl, K9.out⟩
  have HSS : Hid (s.size ≤ 2048) := HL3.out (by first | trivial | rfl) s (by simp)
  have HEN := Lib.hid (encB_len a (HL1.out (by first | trivial | rfl) a.bk (by simp)) (HL1.out (by first | trivial | rfl) a.nm (by simp)))
  have hea := fun W => pEncode_any a W HWA.out
  rw [encV_eq] at hea
  have HEA := Lib.hid hea
  clear hea HL1 HL3
  obtain ⟨c0, c1, c2, c3, c4, _, _, _, _, _⟩ := X4.out
  go_wp2_with fail
  refine (HEA.out _).mono ?_
  rintro e w3 ⟨rfl, hk⟩
  have K5 := Lib.hid (K4.out.trans hk)
  have X5 := Lib.hid (X4.out.kept hk)
  have Y5 := Lib.hid (Y4.out.kept hk)
  clear c0 c1 c2 c3 c4 hk K4 X4 Y4 HEA
  have HDE := Lib.hid (fun W => pDecode_any s W (Nat.le_trans HSS.out (by decide)))
  have HOF := Lib.hid (fun W => of_any s W (Nat.le_trans HSS.out (by decide)))
  obtain ⟨kk, ok, er, hde, hof, her⟩ : ∃ (k : Key) (ok : Bool) (er : Int), decV s.data.toList = .tuple #[k.val, .int .i64 er] ∧ ofV s.data.toList = .tuple #[k.val, .bool ok] ∧ ((ok = true ∧ er = 0) ∨ (ok = false ∧ er = 8)) := by
    cases h : decO s.data.toList with
    | none => exact ⟨Key.none, false, 8, decV_none h, ofV_none h, .inr ⟨rfl, rfl⟩⟩
    | some k => exact ⟨k, true, 0, decV_some h, ofV_some h, .inl ⟨rfl, rfl⟩⟩
  rw [hde] at HDE
  rw [hof] at HOF
  clear hde hof
  go_wp2_with fail
  refine (HDE.out _).mono ?_
  rintro e w4 ⟨rfl, hk⟩
  have K6 := Lib.hid (K5.out.trans hk)
  have X6 := Lib.hid (X5.out.kept hk)
  have Y6 := Lib.hid (Y5.out.kept hk)
  clear hk K5 X5 Y5 HDE
  unfold Key.val
  go_upto_region 5 with fail
  have HER := Lib.hid her
  clear her
  have P7 := Lib.hid (KyAt.laid w4 24 kk)
  have HKD := Lib.hid ((Kept.refl w4).alloc (.cells #[.int .u8 (kk.kd : Nat), .string kk.bk, .string kk.nm, .int .u64 (kk.n : Nat), .int .i64 kk.pt] 24))
  have K7 := Lib.hid (K6.out.trans HKD.out)
  have X7 := Lib.hid (X6.out.kept HKD.out)
  have Y7 := Lib.hid (Y6.out.kept HKD.out)
  clear K6 X6 Y6 HKD
  generalize w4.alloc (.cells #[.int .u8 (kk.kd : Nat), .string kk.bk, .string kk.nm, .int .u64 (kk.n : Nat), .int .i64 kk.pt] 24) = w5 at *
  generalize w4.heap.size = gp at *
  go_wp2_with fail
  refine (HOF.out _).mono ?_
  rintro e w6 ⟨rfl, hk⟩
  have K8 := Lib.hid (K7.out.trans hk)
  have X8 := Lib.hid (X7.out.kept hk)
  have Y8 := Lib.hid (Y7.out.kept hk)
  have P8 := Lib.hid (P7.out.kept hk)
  clear hk K7 X7 Y7 P7 HOF
  unfold Key.val
  go_upto_region 6 with fail
  have Q9 := Lib.hid (KyAt.laid w6 24 kk)
  have HKD := Lib.hid ((Kept.refl w6).alloc (.cells #[.int .u8 (kk.kd : Nat), .string kk.bk, .string kk.nm, .int .u64 (kk.n : Nat), .int .i64 kk.pt] 24))
  have K9 := Lib.hid (K8.out.trans HKD.out)
  have X9 := Lib.hid (X8.out.kept HKD.out)
  have Y9 := Lib.hid (Y8.out.kept HKD.out)
  have P9 := Lib.hid (P8.out.kept HKD.out)
  clear K8 X8 Y8 P8 HKD
  generalize w6.alloc (.cells #[.int .u8 (kk.kd : Nat), .string kk.bk, .string kk.nm, .int .u64 (kk.n : Nat), .int .i64 kk.pt] 24) = w7 at *
  generalize w6.heap.size = gq at *
  have HPA := Lib.hid (fun W => pPrefix_any a deep W HWA.out)
  have HRA := Lib.hid (fun W => rPrefix_any a deep W HWA.out)
  obtain ⟨pt, pok, pe, hpv, hpw, hpe⟩ : ∃ (t : ByteArray) (ok : Bool) (er : Int), prefV (prefO a deep) = .tuple #[.string t, .int .i64 er] ∧ prefW (prefO a deep) = .tuple #[.string t, .bool ok] ∧ ((ok = true ∧ er = 0) ∨ (ok = false ∧ er = 2)) := by
    cases prefO a deep with
    | none => exact ⟨_, _, _, rfl, rfl, .inr ⟨rfl, rfl⟩⟩
    | some k => exact ⟨_, _, _, rfl, rfl, .inl ⟨rfl, rfl⟩⟩
  rw [hpv] at HPA
  rw [hpw] at HRA
  clear hpv hpw
  have HPE := Lib.hid hpe
  clear hpe
  unfold Key.val at HPA HRA
  obtain ⟨c0, c1, c2, c3, c4, _, _, _, _, _⟩ := X9.out
  go_wp2_with fail
  refine (HPA.out _).mono ?_
  rintro e w8 ⟨rfl, hk⟩
  have K10 := Lib.hid (K9.out.trans hk)
  have X10 := Lib.hid (X9.out.kept hk)
  have Y10 := Lib.hid (Y9.out.kept hk)
  have P10 := Lib.hid (P9.out.kept hk)
  have Q10 := Lib.hid (Q9.out.kept hk)
  clear hk K9 X9 Y9 P9 Q9 HPA c0 c1 c2 c3 c4
  obtain ⟨c0, c1, c2, c3, c4, _, _, _, _, _⟩ := X10.out
  go_wp2_with fail
  refine (HRA.out _).mono ?_
  rintro e w9 ⟨rfl, hk⟩
  have K11 := Lib.hid (K10.out.trans hk)
  have X11 := Lib.hid (X10.out.kept hk)
  have Y11 := Lib.hid (Y10.out.kept hk)
  have P11 := Lib.hid (P10.out.kept hk)
  have Q11 := Lib.hid (Q10.out.kept hk)
  clear hk K10 X10 Y10 P10 Q10 HRA c0 c1 c2 c3 c4
  go_upto_region 8 with fail
  have hsm : s.size ≤ maxLen := Nat.le_trans HSS.out (by unfold maxLen; decide)
  have HB1 := Lib.hid (fun W => pBucket_any s W hsm)
  have HB2 := Lib.hid (fun W => rBucket_any s W hsm)
  have HO1 := Lib.hid (fun W => pObject_any s W hsm)
  have HO2 := Lib.hid (fun W => rObject_any s W hsm)
  have HM1 := Lib.hid (fun W => pMay_any a W HWA.out)
  have HM2 := Lib.hid (fun W => rMay_any a W HWA.out)
  have HC1 := Lib.hid (fun W => pCompare_any a b W HWA.out HWB.out)
  have HC2 := Lib.hid (fun W => rCompare_any a b W HWA.out HWB.out)
  have HH1 := Lib.hid (fun W => pBehind_any s W (Nat.le_trans HSS.out (by decide)))
  have HH2 := Lib.hid (fun W => rBehind_any s W (Nat.le_trans HSS.out (by decide)))
  have HRB := Lib.hid (fun W h => rBytes_any a W HWA.out h)
  have HEE : Hid ((mayK a = true → encB a = ⟨(encL a).toArray⟩ ∧ encE a = 0) ∧ (mayK a = false → encB a = ⟨#[]⟩ ∧ encE a = 2)) := ⟨fun h => ⟨by unfold encB; rw [if_pos h], encE_ok h⟩, fun h => ⟨by unfold encB; rw [h]; rfl, by unfold encE; rw [h]; rfl⟩⟩
  clear hsm HSS HEN
  unfold Key.val at HM1 HM2 HC1 HC2 HRB
  generalize bktB s.data.toList = vb at *
  generalize objB s.size = vo at *
  generalize mayK a = vm at *
  generalize cmpK a b = vc at *
  generalize (⟨(behL s.data.toList).toArray⟩ : ByteArray) = vh at *
  generalize encB a = ex at *
  generalize encE a = ee at *
  have HCL : Hid (∀ W, Kept w9 W → (W.cell? ⟨ga, 0, none⟩ = some (.int .u8 (a.kd : Nat)) ∧ W.cell? ⟨ga, 1, none⟩ = some (.string a.bk) ∧ W.cell? ⟨ga, 2, none⟩ = some (.string a.nm) ∧ W.cell? ⟨ga, 3, none⟩ = some (.int .u64 (a.n : Nat)) ∧ W.cell? ⟨ga, 4, none⟩ = some (.int .i64 a.pt)) ∧
      (W.cell? ⟨ga + 1, 0, none⟩ = some (.int .u8 (b.kd : Nat)) ∧ W.cell? ⟨ga + 1, 1, none⟩ = some (.string b.bk) ∧ W.cell? ⟨ga + 1, 2, none⟩ = some (.string b.nm) ∧ W.cell? ⟨ga + 1, 3, none⟩ = some (.int .u64 (b.n : Nat)) ∧ W.cell? ⟨ga + 1, 4, none⟩ = some (.int .i64 b.pt))) := fun W k =>
    ⟨⟨(X11.out.kept k).c0, (X11.out.kept k).c1, (X11.out.kept k).c2, (X11.out.kept k).c3, (X11.out.kept k).c4⟩, (Y11.out.kept k).c0, (Y11.out.kept k).c1, (Y11.out.kept k).c2, (Y11.out.kept k).c3, (Y11.out.kept k).c4⟩
  refine wp_quietN (C := fun W => Kept w9 W) (by kernel_rfl) (by kernel_rfl) ((Kept.refl w9).drew) ?_
  repeat (first
    | go_big_quiet_skip
    | (go_big_quiet_want
       refine ⟨_, fun W hW => by
         obtain ⟨⟨c0, c1, c2, c3, c4⟩, d0, d1, d2, d3, d4⟩ := HCL.out W hW
         unfold Oper.quietAt
         go_simp
         first
           | (go_at_call 14; (with_reducible refine (HB1.out W).mono ?_); exact fun e w' h => ⟨h.1, hW.trans h.2⟩)
           | (go_at_call 15; (with_reducible refine (HB2.out W).mono ?_); exact fun e w' h => ⟨h.1, by rw [h.2]; exact hW⟩)
           | (go_at_call 16; (with_reducible refine (HO1.out W).mono ?_); exact fun e w' h => ⟨h.1, by rw [h.2]; exact hW⟩)
           | (go_at_call 17; (with_reducible refine (HO2.out W).mono ?_); exact fun e w' h => ⟨h.1, by rw [h.2]; exact hW⟩)
           | (go_at_call 18; (with_reducible refine (HM1.out W).mono ?_); exact fun e w' h => ⟨h.1, hW.trans h.2⟩)
           | (go_at_call 19; (with_reducible refine (HM2.out W).mono ?_); exact fun e w' h => ⟨h.1, hW.trans h.2⟩)
           | (go_at_call 20; (with_reducible refine (HC1.out W).mono ?_); exact fun e w' h => ⟨h.1, hW.trans h.2⟩)
           | (go_at_call 21; (with_reducible refine (HC2.out W).mono ?_); exact fun e w' h => ⟨h.1, hW.trans h.2⟩)
           | (go_at_call 22; (with_reducible refine (HH1.out W).mono ?_); exact fun e w' h => ⟨h.1, hW.trans h.2⟩)
           | (go_at_call 23; (with_reducible refine (HH2.out W).mono ?_); exact fun e w' h => ⟨h.1, hW.trans h.2⟩)
           | exact rfl, ?_⟩
       go_simp
       go_big_quiet_on))
  refine wpQuiet_nil ?_
  intro W hW
  have K12 := Lib.hid (K11.out.trans hW)
  have X12 := Lib.hid (X11.out.kept hW)
  have P12 := Lib.hid (P11.out.kept hW)
  have Q12 := Lib.hid (Q11.out.kept hW)
  clear hW K11 X11 Y11 P11 Q11 HCL HB1 HB2 HO1 HO2 HM1 HC1 HC2 HH1 HH2
  obtain ⟨sn, hNE, hsn⟩ := neq_key kk kk
  obtain rfl := hsn.2 rfl
  obtain ⟨c0, c1, c2, c3, c4, _, _, _, _, _⟩ := P12.out
  obtain ⟨d0, d1, d2, d3, d4, _, _, _, _, _⟩ := Q12.out
  rcases HER.out with ⟨rfl, rfl⟩ | ⟨rfl, rfl⟩
  all_goals
    rcases HPE.out with ⟨rfl, rfl⟩ | ⟨rfl, rfl⟩
  all_goals
    go_upto_region 12 with fail
    clear c0 c1 c2 c3 c4 d0 d1 d2 d3 d4
    obtain ⟨c0, c1, c2, c3, c4, _, _, _, _, _⟩ := X12.out
    go_wp2_with fail
    refine (HM2.out _).mono ?_
    rintro e w13 ⟨rfl, hk⟩
    have K13 := Lib.hid (K12.out.trans hk)
    have X13 := Lib.hid (X12.out.kept hk)
    clear hk K12 X12 c0 c1 c2 c3 c4
    cases vm
    · obtain ⟨rfl, rfl⟩ := HEE.out.2 (by first | rfl | trivial)
      go_wp2_with fail
      refine (works_any _).mono ?_
      rintro e v ⟨rfl, hv⟩
      have K9 := Lib.hid (K13.out.trans hv)
      clear hv
      go_wp2_with fail
      go_ret
      exact ⟨rfl, K9.out⟩
    · obtain ⟨rfl, rfl⟩ := HEE.out.1 (by first | rfl | trivial)
      have HR := Lib.hid (fun W => HRB.out W (by first | rfl | trivial))
      generalize (⟨(encL a).toArray⟩ : ByteArray) = ea at *
      obtain ⟨c0, c1, c2, c3, c4, _, _, _, _, _⟩ := X13.out
      go_wp2_with fail
      refine (HR.out _).mono ?_
      rintro e w14 ⟨rfl, hk⟩
      have K14 := Lib.hid (K13.out.trans hk)
      clear hk
      go_wp2_with fail
      refine (works_any _).mono ?_
      rintro e v ⟨rfl, hv⟩
      have K9 := Lib.hid (K14.out.trans hv)
      clear hv
      go_wp2_with fail
      go_ret
      exact ⟨rfl, K9.out⟩
end Go.Proofs.Ytccpbgkaeldlaaa
