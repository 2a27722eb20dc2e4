/- ShardDocR, ShSteps, ShHeavy. -/
import Derived.Test.YtdpkmonlkdegjaaGreatDoorPart34
import Derived.Lib.SmallJoins
import Derived.Test.YtdpkmonlkdegjaaGreatDoorPart32
import Derived.Test.YtdpkmonlkdegjaaGreatDoorPart23
import Derived.Deep.Slices
import Derived.Deep.Strs
import Derived.ChangeArms
import Derived.OpenShut
/- What the document's own Read of a shard answers. -/
namespace Go.Proofs.YtdpkmonlkdegjaaGreatDoor
open Go.RowKit Sm Wr _root_.Go.Proofs.YtdpkmonlkdegjaaGreatDoor.Nm
set_option linter.unusedVariables false
theorem bytes_same (p q : ByteArray) : (p.toList == q.toList) = true ↔ p.data.toList = q.data.toList := by
  rw [beq_iff_eq, ByteArray.toList_eq, ByteArray.toList_eq]
theorem zero_is (T : ByteArray) (h : T.data.toList.length = 64) : (T.toList == (⟨(List.replicate 64 (0 : UInt8)).toArray⟩ : ByteArray).toList) = allz T.data.toList := by
  rw [Bool.eq_iff_iff, bytes_same]
  show T.data.toList = List.replicate 64 0 ↔ _
  rw [List.eq_replicate_iff]
  unfold allz
  rw [List.all_eq_true]
  constructor
  · rintro ⟨_, h2⟩ x hx; rw [h2 x hx]; rfl
  · intro h2; exact ⟨h, fun x hx => by simpa using h2 x hx⟩
theorem ShAt.setT {w : World} {g : Nat} {x : Shd} (h : ShAt w g x) (v : ByteArray) : ShAt (w.setCell ⟨g, 3, none⟩ (.string v)) g ⟨x.st, x.ix, x.tt, v⟩ := by
  have hs : ∀ o, o ≠ 3 → (w.setCell ⟨g, 3, none⟩ (.string v)).cell? ⟨g, o, none⟩ = w.cell? ⟨g, o, none⟩ := fun o hne => World.cell?_setCell_other _ _ _ _ (by intro e; injection e with _ e; exact hne e.symm)
  refine ⟨by rw [hs 0 (by decide)]; exact h.c0, by rw [hs 1 (by decide)]; exact h.c1, by rw [hs 2 (by decide)]; exact h.c2, World.cell?_setCell_same _ _ _ h.c3, ?_, ?_, ?_, ?_⟩
  all_goals rw [World.frozen?_setCell]
  · exact h.f0
  · exact h.f1
  · exact h.f2
  · exact h.f3
set_option maxHeartbeats 2000000 in
set_option maxRecDepth 100000 in
theorem refRead_any (L : DLay) (lo hi : Nat) (s : RSt) (d a : Int) (ha1 : -9223372036854775808 ≤ a) (ha2 : a ≤ 9223372036854775807) (w : World) (hD : DocAt L lo hi s w) :
    Calls Tryz.prog 13 #[.pointer (some ⟨L.x, 0, none⟩), .int .i64 d, .int .i64 a] w fun r w' => r = .returned (readV (shR s d a)) ∧ Kept w w' := by
  have hwf := hD.wf
  have HDR := Lib.hid (fun i W h => dRead_any L lo hi s d i W h)
  have K0 : Hid (Kept w (w.alloc (.cells #[.int .u64 0, .int .i64 0, .int .i64 0, .string ⟨#[]⟩] 34))) := (Kept.refl _).alloc _
  have S0 := Lib.hid (ShAt.new w 34)
  have D0 := Lib.hid (hD.kept K0.out)
  clear hD
  by_cases he : s.readE d a = 0
  case neg =>
    have HE : Hid (shR s d a = (s.readE d a, .none)) := by show _ = _; unfold shR; rw [if_pos he]
    have h0 := HDR.out a
    generalize s.readE d a = e0 at *
    generalize s.readT d a = T0 at *
    have HR0 := Lib.hid h0
    have hz : ((e0 : Int) != 0) = true := by simp; omega
    clear h0 HDR he
    go_enter Tryz.func13, Tryz.ntmps13
    go_wp2_with fail
    refine (HR0.out _ D0.out).mono ?_
    rintro e u1 ⟨rfl, rfl⟩
    go_wp2_with fail
    rw [HE.out]
    exact bodyPost_ret (v := readV (e0, Shd.none)) (by simp [results, Tryz.results13, go_sem, readV, Shd.val, Shd.none]) rfl ⟨rfl, K0.out⟩
  have hTl := readT_size s hwf d a he
  have h0 := HDR.out a
  rw [he] at h0
  have HR0 := Lib.hid h0
  have HSH : Hid (shR s d a = if allz (s.readT d a).data.toList = true then (80, .none)
    else match look (s.readT d a).data.toList with
      | .none => (81, .none)
      | some h => if (rTo s d a (nsec h.n)).1 ≠ 0 then ((rTo s d a (nsec h.n)).1, .none)
        else if b4 (crc ((rTo s d a (nsec h.n)).2.take h.n)) = h.sum then (0, ⟨h.a, h.b, h.c, ofL ((rTo s d a (nsec h.n)).2.take h.n)⟩) else (81, .none)) := by
    show _ = _
    unfold shR
    rw [he, if_neg (by simp)]
    rfl
  clear h0 he
  obtain ⟨T0, hT0⟩ : ∃ T0, T0 = s.readT d a := ⟨_, rfl⟩
  rw [← hT0] at hTl HR0 HSH
  clear hT0
  have hz0 := zero_is T0 hTl
  have hTs : T0.size = 64 := by rw [← hTl]; simp
  obtain ⟨M, hmk, hcv⟩ := mkZ 64 (by decide)
  have hmk0 := hmk (w.alloc (.cells #[.int .u64 0, .int .i64 0, .int .i64 0, .string ⟨#[]⟩] 34))
  have hcv0 := hcv (w.alloc (.cells #[.int .u64 0, .int .i64 0, .int .i64 0, .string ⟨#[]⟩] 34))
  rw [show (((64 : Nat) : Int)) = 64 from rfl, show (w.alloc (.cells #[.int .u64 0, .int .i64 0, .int .i64 0, .string ⟨#[]⟩] 34)).heap.size = w.heap.size + 1 from by simp] at hmk0
  rw [show (w.alloc (.cells #[.int .u64 0, .int .i64 0, .int .i64 0, .string ⟨#[]⟩] 34)).heap.size = w.heap.size + 1 from by simp] at hcv0
  obtain ⟨Z, hZ⟩ : ∃ Z : ByteArray, Z = ⟨(List.replicate 64 (0 : UInt8)).toArray⟩ := ⟨_, rfl⟩
  rw [← hZ] at hcv0 hz0
  clear hZ
  have kb : Kept (w.alloc (.cells #[.int .u64 0, .int .i64 0, .int .i64 0, .string ⟨#[]⟩] 34)) ((w.alloc (.cells #[.int .u64 0, .int .i64 0, .int .i64 0, .string ⟨#[]⟩] 34)).alloc (.cells M 5)) := (Kept.refl _).alloc _
  have K1 := Lib.hid (K0.out.trans kb)
  have S1 := Lib.hid (S0.out.kept kb)
  have D1 := Lib.hid (D0.out.kept kb)
  clear kb hmk hcv hTl
  cases hal : allz T0.data.toList with
  | true =>
    have HE : Hid (shR s d a = (80, .none)) := by show _ = _; rw [HSH.out, hal, if_pos rfl]
    rw [hal] at hz0
    clear HSH HDR hal
    go_enter Tryz.func13, Tryz.ntmps13
    go_wp2_with fail
    refine (HR0.out _ D0.out).mono ?_
    rintro e u1 ⟨rfl, rfl⟩
    have HP := Lib.hid (S1.out.put Shd.none)
    have HKP := Lib.hid (putSh_kept K1.out w.heap.size Shd.none (Nat.le_refl _))
    obtain ⟨p0, p1, p2, p3, f0, f1, f2, f3⟩ := S1.out
    unfold putSh at HP HKP
    dsimp only [Shd.none] at HP HKP p0 p1 p2 p3
    go_wp2_with fail
    rw [HE.out]
    exact bodyPost_ret (v := readV (80, Shd.none)) (by have q0 := HP.out.c0; have q1 := HP.out.c1; have q2 := HP.out.c2; have q3 := HP.out.c3; (try simp at q0 q1 q2 q3); simp [results, Tryz.results13, go_sem, readV, Shd.val, Shd.none, q0, q1, q2, q3]) rfl ⟨rfl, K1.out⟩
  | false =>
    rw [hal] at hz0
    have HHD := Lib.hid (fun W => refHd_any T0 W hTs)
    rw [hal, if_neg (show ¬ (false = true) by decide)] at HSH
    clear hal
    cases hlk : look T0.data.toList with
    | none =>
      have HE : Hid (shR s d a = (81, .none)) := by show _ = _; rw [HSH.out, hlk]
      rw [hlk] at HHD
      unfold hdV at HHD
      dsimp only at HHD
      rw [shN_val] at HHD
      clear HSH HDR hlk
      go_enter Tryz.func13, Tryz.ntmps13
      go_wp2_with fail
      refine (HR0.out _ D0.out).mono ?_
      rintro e u1 ⟨rfl, rfl⟩
      go_wp2_with fail
      refine (HHD.out _).mono ?_
      rintro e u2 ⟨rfl, hk⟩
      have K2 := Lib.hid (K1.out.trans hk)
      have S2 := Lib.hid (S1.out.kept hk)
      clear hk K1 S1 HHD
      go_upto_region 8 with fail
      have kb : Kept u2 (u2.alloc (.cells #[.int .u64 0, .int .i64 0, .int .i64 0, .string ⟨#[]⟩] 34)) := (Kept.refl _).alloc _
      have K3 := Lib.hid (K2.out.trans kb)
      have S3 := Lib.hid (S2.out.kept kb)
      clear kb K2 S2
      generalize u2.alloc (.cells #[.int .u64 0, .int .i64 0, .int .i64 0, .string ⟨#[]⟩] 34) = u3 at *
      have HP := Lib.hid (S3.out.put Shd.none)
      have HKP := Lib.hid (putSh_kept K3.out w.heap.size Shd.none (Nat.le_refl _))
      obtain ⟨p0, p1, p2, p3, f0, f1, f2, f3⟩ := S3.out
      unfold putSh at HP HKP
      dsimp only [Shd.none] at HP HKP p0 p1 p2 p3
      go_wp2_with fail
      rw [HE.out]
      exact bodyPost_ret (v := readV (81, Shd.none)) (by have q0 := HP.out.c0; have q1 := HP.out.c1; have q2 := HP.out.c2; have q3 := HP.out.c3; (try simp at q0 q1 q2 q3); simp [results, Tryz.results13, go_sem, readV, Shd.val, Shd.none, q0, q1, q2, q3]) rfl ⟨rfl, HKP.out⟩
    | some h =>
      obtain ⟨m1, m2, m3, m4, m5, m6⟩ := look_may _ _ hlk
      obtain ⟨ha, hb, hc, hn, hs⟩ := h
      dsimp only at m1 m2 m3 m4 m5 m6
      rw [hlk] at HHD HSH
      unfold hdV at HHD
      dsimp only at HHD HSH
      unfold Shd.val at HHD
      dsimp only at HHD
      clear hlk m1 m2
      obtain ⟨sv, hsv⟩ : ∃ sv, sv = ofL hs := ⟨_, rfl⟩
      rw [← hsv] at HHD
      have HSV : Hid (sv.data.toList = hs) := by show _ = _; rw [hsv]; rfl
      clear hsv
      have hN7 : nsec hn ≤ 7 := nsec_le _ m6
      have HRG := Lib.hid (fun k hk => rL_range s hwf d a hn k hk)
      have HNB : Hid (hn ≤ 64 * nsec hn) := by show _ ≤ _; unfold nsec; omega
      have HNL : Hid (∀ k, k * 64 < hn → k < nsec hn) := fun k hk => by unfold nsec; omega
      have HNM : Hid (∀ k, k ≤ nsec hn → ¬ k * 64 < hn → k = nsec hn) := fun k h1 h2 => by unfold nsec at h1 ⊢; omega
      generalize nsec hn = N at *
      go_enter Tryz.func13, Tryz.ntmps13
      go_wp2_with fail
      refine (HR0.out _ D0.out).mono ?_
      rintro e u1 ⟨rfl, rfl⟩
      go_wp2_with fail
      refine (HHD.out _).mono ?_
      rintro e u2 ⟨rfl, hk⟩
      have K2 := Lib.hid (K1.out.trans hk)
      have S2 := Lib.hid (S1.out.kept hk)
      have D2 := Lib.hid (D1.out.kept hk)
      clear hk K1 S1 D1 HHD
      go_upto_region 8 with fail
      have kb : Kept u2 (u2.alloc (.cells #[.int .u64 (ha : Nat), .int .i64 (hb : Nat), .int .i64 (hc : Nat), .string ⟨#[]⟩] 34)) := (Kept.refl _).alloc _
      have HB : Hid (w.heap.size < u2.heap.size) := S2.out.lt
      have K3 := Lib.hid (K2.out.trans kb)
      have S3 := Lib.hid (S2.out.kept kb)
      have D3 := Lib.hid (D2.out.kept kb)
      have X3 : Hid (ShAt (u2.alloc (.cells #[.int .u64 (ha : Nat), .int .i64 (hb : Nat), .int .i64 (hc : Nat), .string ⟨#[]⟩] 34)) u2.heap.size ⟨ha, hb, hc, ⟨#[]⟩⟩) := ShAt.laid u2 34 ⟨ha, hb, hc, ⟨#[]⟩⟩
      clear kb K2 S2 D2
      generalize u2.alloc (.cells #[.int .u64 (ha : Nat), .int .i64 (hb : Nat), .int .i64 (hc : Nat), .string ⟨#[]⟩] 34) = u3 at *
      generalize u2.heap.size = c at *
      clear hmk0 hcv0 hz0
      go_wp2_with fail
      go_loopw [14, 15] (fun x i wr => ∃ (k : Nat) (tx : ByteArray), k ≤ N ∧ x = .string tx ∧ i = .int .i64 k ∧ wr = u3 ∧ Hid ((rTo s d a k).1 = 0 ∧ tx.data.toList = (rTo s d a k).2 ∧ tx.size = 64 * k)) (fun _ i _ => N - (intOf i).toNat)
      case atStart => exact ⟨0, ⟨#[]⟩, Nat.zero_le _, rfl, rfl, rfl, rfl, rfl, rfl⟩
      case round =>
        obtain ⟨k, tx, hk, rfl, rfl, rfl, HI⟩ := hrel
        by_cases hlt : k * 64 < hn
        · have b1 : decide ((k : Int) * 64 < (hn : Int)) = true := decide_eq_true (by omega)
          have hkN := HNL.out k hlt
          have HST : Hid (rTo s d a (k + 1) = (s.readE d (secAt a k), (rTo s d a k).2 ++ (s.readT d (secAt a k)).data.toList)) := by
            show (if (rTo s d a k).1 = 0 then _ else _) = _
            rw [if_pos HI.out.1]
          have hq := HDR.out (secAt a k)
          have HSZ := Lib.hid (readT_size s hwf d (secAt a k))
          have HER := Lib.hid (fun hne => rTo_err s d a (k + 1) hne N hkN)
          rw [show secAt a k = wrap64 (wrap64 (a + 1) + (k : Int)) from rfl] at hq HST HSZ
          generalize s.readE d (wrap64 (wrap64 (a + 1) + (k : Int))) = e1 at *
          generalize s.readT d (wrap64 (wrap64 (a + 1) + (k : Int))) = t1 at *
          have HRQ := Lib.hid hq
          clear hq
          go_wp2_with fail
          refine (HRQ.out _ D3.out).mono ?_
          rintro e u4 ⟨rfl, rfl⟩
          clear HRQ
          by_cases he1 : e1 = 0
          · have hz1 : ((e1 : Int) != 0) = false := by rw [he1]; rfl
            have hl1 := HSZ.out he1
            have HF : Hid ((rTo s d a (k + 1)).1 = 0 ∧ (tx ++ t1).data.toList = (rTo s d a (k + 1)).2 ∧ (tx ++ t1).size = 64 * (k + 1)) := by
              refine ⟨by rw [HST.out]; exact he1, ?_, ?_⟩
              · rw [HST.out, ← HI.out.2.1]
                exact Go.Joins.data_append tx t1
              · have h64 : t1.size = 64 := by rw [← hl1]; simp
                rw [ByteArray.size_append, HI.out.2.2, h64]; omega
            have hsum : tx.size + t1.size ≤ 512 := by have := HF.out.2.2; rw [ByteArray.size_append] at this; omega
            clear he1 hl1
            go_wp2_with fail
            exact ⟨⟨k + 1, tx ++ t1, by omega, rfl, by go_num, trivial, HF⟩, by simp [intOf]; omega⟩
          · have hz1 : ((e1 : Int) != 0) = true := by simp; omega
            have HE : Hid (shR s d a = (e1, .none)) := by
              have h2 : (rTo s d a (k + 1)).1 ≠ 0 := by rw [HST.out]; exact he1
              have h3 := HER.out h2
              show _ = _
              rw [HSH.out, h3, if_pos h2, HST.out]
            clear he1
            have HP := Lib.hid (S3.out.put Shd.none)
            have HKP := Lib.hid (putSh_kept K3.out w.heap.size Shd.none (Nat.le_refl _))
            obtain ⟨p0, p1, p2, p3, f0, f1, f2, f3⟩ := S3.out
            unfold putSh at HP HKP
            dsimp only [Shd.none] at HP HKP p0 p1 p2 p3
            go_wp2_with fail
            rw [HE.out]
            exact bodyPost_ret (v := readV (e1, Shd.none)) (by have q0 := HP.out.c0; have q1 := HP.out.c1; have q2 := HP.out.c2; have q3 := HP.out.c3; (try simp at q0 q1 q2 q3); simp [results, Tryz.results13, go_sem, readV, Shd.val, Shd.none, q0, q1, q2, q3]) rfl ⟨rfl, HKP.out⟩
        · have b1 : decide ((k : Int) * 64 < (hn : Int)) = false := decide_eq_false (by omega)
          obtain rfl := HNM.out k hk hlt
          have hn64 := HNB.out
          have htz : tx.size = 64 * k := HI.out.2.2
          obtain ⟨ct, hct⟩ : ∃ ct, ct = tx.extract 0 hn := ⟨_, rfl⟩
          have hsl : ∀ W, (Instr.slice 9 (.string tx) Option.none (some (.int .i64 (hn : Int))) Option.none).run Tryz.prog W = .ok (.string ct) W := fun W => by
            have h := run_slice_string_h (P := Tryz.prog) W 9 tx Tryz.underlying9 .i64 (hn : Int) (by omega) (by omega)
            rw [Int.toNat_natCast, ← hct] at h
            exact h
          have HCT : Hid (ct.data.toList = (rTo s d a k).2.take hn) := by show _ = _; rw [hct, ext_take, HI.out.2.1]
          have hcz : ct.size ≤ 448 := by rw [hct, ByteArray.size_extract]; omega
          rw [if_neg (show ¬ (rTo s d a k).1 ≠ 0 by rw [HI.out.1]; simp), ← HCT.out] at HSH
          have HOF := Lib.hid (fun W => refof_any ct W (by omega))
          have hcr := crc_lt ct.data.toList
          have HCO : Hid (ofL ct.data.toList = ct) := rfl
          obtain ⟨cr, hcre⟩ : ∃ cr, cr = crc ct.data.toList := ⟨_, rfl⟩
          rw [← hcre] at HOF HSH hcr
          have HBY := Lib.hid (fun W => refbytes_any (cr : Int) W (by omega) (by omega))
          rw [Int.toNat_natCast] at HBY
          obtain ⟨r4, hr4⟩ : ∃ r4 : ByteArray, r4 = ⟨(b4 cr).toArray⟩ := ⟨_, rfl⟩
          have HR4 : Hid (r4.data.toList = b4 cr) := by show _ = _; rw [hr4]
          rw [← hr4] at HBY
          rw [HCO.out] at HSH
          have hwc := HB.out
          have bs := But.ofSet wr c 3 (.string ct)
          have S4 := Lib.hid (S3.out.but bs (by omega))
          have X4 := Lib.hid (X3.out.setT ct)
          have K4 : Hid (Kept w (wr.setCell ⟨c, 3, none⟩ (.string ct))) := But.kept K3.out (by omega) bs
          have x3 := X3.out.c3
          have y3 := X3.out.f3
          (try dsimp only at x3 X4)
          clear hr4 hcre hct bs HI HDR D3 HRG HNB HNL HNM
          go_upto_region 18 with fail
          generalize wr.setCell ⟨c, 3, none⟩ (.string ct) = u4 at *
          have x4 := X4.out.c3
          (try dsimp only at x4)
          go_wp2_with fail
          refine (HOF.out _).mono ?_
          rintro e u5 ⟨rfl, hk5⟩
          go_wp2_with fail
          refine (HBY.out _).mono ?_
          rintro e u6 ⟨rfl, hk6⟩
          have hk7 := hk5.trans hk6
          have S6 := Lib.hid (S4.out.kept hk7)
          have X6 := Lib.hid (X4.out.kept hk7)
          have K6 : Hid (Kept w u6) := K4.out.trans hk7
          clear hk5 hk6 hk7 S4 X4 K4 x4 S3 X3 K3 x3 y3
          cases hq : (r4.toList == sv.toList) with
          | true =>
            have hq2 : (r4.toList != sv.toList) = false := by unfold bne; rw [hq]; rfl
            have HE : Hid (shR s d a = (0, ⟨ha, hb, hc, ct⟩)) := by
              show _ = _
              rw [HSH.out, if_pos (by rw [← HR4.out, ← HSV.out]; exact (bytes_same _ _).1 hq)]
            have x0 := X6.out.c0
            have x1 := X6.out.c1
            have x2 := X6.out.c2
            have x3 := X6.out.c3
            (try dsimp only at x0 x1 x2 x3)
            have HP := Lib.hid (S6.out.put (⟨ha, hb, hc, ct⟩ : Shd))
            have HKP := Lib.hid (putSh_kept K6.out w.heap.size (⟨ha, hb, hc, ct⟩ : Shd) (Nat.le_refl _))
            obtain ⟨p0, p1, p2, p3, f0, f1, f2, f3⟩ := S6.out
            unfold putSh at HP HKP
            dsimp only [Shd.none] at HP HKP p0 p1 p2 p3
            go_wp2_with fail
            rw [HE.out]
            exact bodyPost_ret (v := readV (0, (⟨ha, hb, hc, ct⟩ : Shd))) (by have q0 := HP.out.c0; have q1 := HP.out.c1; have q2 := HP.out.c2; have q3 := HP.out.c3; (try simp at q0 q1 q2 q3); simp [results, Tryz.results13, go_sem, readV, Shd.val, Shd.none, q0, q1, q2, q3]) rfl ⟨rfl, HKP.out⟩
          | false =>
            have hq2 : (r4.toList != sv.toList) = true := by unfold bne; rw [hq]; rfl
            have HE : Hid (shR s d a = (81, .none)) := by
              show _ = _
              rw [HSH.out, if_neg]
              intro cc
              rw [← HR4.out, ← HSV.out] at cc
              rw [(bytes_same _ _).2 cc] at hq
              cases hq
            have HP := Lib.hid (S6.out.put Shd.none)
            have HKP := Lib.hid (putSh_kept K6.out w.heap.size Shd.none (Nat.le_refl _))
            obtain ⟨p0, p1, p2, p3, f0, f1, f2, f3⟩ := S6.out
            unfold putSh at HP HKP
            dsimp only [Shd.none] at HP HKP p0 p1 p2 p3
            go_wp2_with fail
            rw [HE.out]
            exact bodyPost_ret (v := readV (81, Shd.none)) (by have q0 := HP.out.c0; have q1 := HP.out.c1; have q2 := HP.out.c2; have q3 := HP.out.c3; (try simp at q0 q1 q2 q3); simp [results, Tryz.results13, go_sem, readV, Shd.val, Shd.none, q0, q1, q2, q3]) rfl ⟨rfl, HKP.out⟩
end Go.Proofs.YtdpkmonlkdegjaaGreatDoor

/- A slice of steps of shards that came in, opened; whether there are too many, or a text is too long. -/
namespace Go.Proofs.YtdpkmonlkdegjaaGreatDoor
open Go.RowKit Go.Deep Sm Wr _root_.Go.Proofs.YtdpkmonlkdegjaaGreatDoor.Nm
set_option linter.unusedVariables false
/-- One step: what to do, the drive, the sector, the shard, the rack's call. -/
structure SStp where
  op : Int
  d : Int
  s : Int
  x : Shd
  r : Stp
structure SStpAt (w : World) (b o i : Nat) (z : SStp) : Prop where
  c0 : w.cell? ⟨b, o + i * 11, none⟩ = some (.int .u8 z.op)
  c1 : w.cell? ⟨b, o + i * 11 + 1, none⟩ = some (.int .i64 z.d)
  c2 : w.cell? ⟨b, o + i * 11 + 2, none⟩ = some (.int .i64 z.s)
  c3 : w.cell? ⟨b, o + i * 11 + 3, none⟩ = some (.int .u64 (z.x.st : Nat))
  c4 : w.cell? ⟨b, o + i * 11 + 4, none⟩ = some (.int .i64 z.x.ix)
  c5 : w.cell? ⟨b, o + i * 11 + 5, none⟩ = some (.int .i64 z.x.tt)
  c6 : w.cell? ⟨b, o + i * 11 + 6, none⟩ = some (.string z.x.t)
  c7 : w.cell? ⟨b, o + i * 11 + 7, none⟩ = some (.int .u8 z.r.op)
  c8 : w.cell? ⟨b, o + i * 11 + 8, none⟩ = some (.int .i64 z.r.d)
  c9 : w.cell? ⟨b, o + i * 11 + 9, none⟩ = some (.int .i64 z.r.s)
  c10 : w.cell? ⟨b, o + i * 11 + 10, none⟩ = some (.string z.r.t)
  bo : 0 ≤ z.op ∧ z.op ≤ 255
  bd : -9223372036854775808 ≤ z.d ∧ z.d ≤ 9223372036854775807
  bs : -9223372036854775808 ≤ z.s ∧ z.s ≤ 9223372036854775807
  wf : z.x.Wf
  ts : z.x.t.size ≤ maxLen
  ro : 0 ≤ z.r.op ∧ z.r.op ≤ 255
  rd : -9223372036854775808 ≤ z.r.d ∧ z.r.d ≤ 9223372036854775807
  rs : -9223372036854775808 ≤ z.r.s ∧ z.r.s ≤ 9223372036854775807
  rt : z.r.t.size ≤ maxLen
theorem SStpAt.kept {w w' : World} {b o i : Nat} {z : SStp} (h : SStpAt w b o i z) (k : Kept w w') : SStpAt w' b o i z :=
  { h with c0 := cell_kept h.c0 k, c1 := cell_kept h.c1 k, c2 := cell_kept h.c2 k, c3 := cell_kept h.c3 k, c4 := cell_kept h.c4 k, c5 := cell_kept h.c5 k, c6 := cell_kept h.c6 k, c7 := cell_kept h.c7 k, c8 := cell_kept h.c8 k, c9 := cell_kept h.c9 k, c10 := cell_kept h.c10 k }
def IsSSteps (w : World) (a : Option Addr) (len cap : Nat) (zs : List SStp) : Prop :=
  (a = none ∧ len = 0 ∧ cap = 0 ∧ zs = []) ∨
  ∃ p, a = some p ∧ len ≤ cap ∧ cap ≤ maxLen ∧ zs.length = len ∧ ∀ (i : Nat) (h : i < zs.length), p.spot = none ∧ SStpAt w p.block p.off i zs[i]
def SStps (w : World) (a : Option Addr) (zs : List SStp) : Prop :=
  zs = [] ∨ ∃ b o, a = some ⟨b, o, none⟩ ∧ ∀ (i : Nat) (h : i < zs.length), SStpAt w b o i zs[i]
theorem IsSSteps.stps {w : World} {a : Option Addr} {len cap : Nat} {zs : List SStp} (h : IsSSteps w a len cap zs) : SStps w a zs ∧ zs.length = len ∧ len ≤ maxLen := by
  rcases h with ⟨rfl, rfl, rfl, rfl⟩ | ⟨p, rfl, hl, hm, hz, hq⟩
  · exact ⟨.inl rfl, rfl, by decide⟩
  · refine ⟨?_, hz, by omega⟩
    rcases Nat.eq_zero_or_pos zs.length with h0 | h0
    · exact .inl (List.length_eq_zero_iff.1 h0)
    · obtain ⟨b, o, spot⟩ := p
      have := (hq 0 h0).1
      dsimp only at this
      subst this
      exact .inr ⟨b, o, rfl, fun i hi => (hq i hi).2⟩
theorem sub4 (cs : List Value) (o j : Nat) (hj : j < 4) : ((cs.drop o).take 4)[j]? = cs[o + j]? := by
  rw [List.getElem?_take, if_pos hj, List.getElem?_drop]
set_option maxRecDepth 100000 in
set_option maxHeartbeats 1000000 in
theorem open_ssteps {H : Type} {enc : TypeId × Value → H} {w : World} {base : Nat} {spare : Nat → Bool} {held : Bool} {fuel : Nat} {a : Option Addr} {len cap : Nat} {x : DataW H × List MemPlace}
    (h : DataW.trod enc Tryz.prog w base spare held fuel 22 [.slice a len cap] = some x) : ∃ zs, IsSSteps w a len cap zs := by
  have hC : Tryz.prog.cellsOf 38 = 11 := by kernel_rfl
  have c8 : Tryz.prog.cellsOf 5 = 1 := by kernel_rfl
  have ci : Tryz.prog.cellsOf 3 = 1 := by kernel_rfl
  have cu : Tryz.prog.cellsOf 32 = 1 := by kernel_rfl
  have cst : Tryz.prog.cellsOf 9 = 1 := by kernel_rfl
  have c4 : Tryz.prog.cellsOf 34 = 4 := by kernel_rfl
  have c7 : Tryz.prog.cellsOf 36 = 4 := by kernel_rfl
  rcases open_slice Tryz.underlying22 h with ⟨hcs, _⟩ | ⟨p, l, c, m, n, D, Pl, hcs, hb, hl, hm, hmm, _, hi⟩
  · simp at hcs
    obtain ⟨rfl, rfl, rfl⟩ := hcs
    exact ⟨[], .inl ⟨rfl, rfl, rfl, rfl⟩⟩
  · simp at hcs
    obtain ⟨rfl, rfl, rfl⟩ := hcs
    have hlm : len ≤ m := by rw [hmm]; split <;> omega
    have hz : ∀ i, i < len → ∃ z : SStp, p.spot = none ∧ SStpAt w p.block p.off i z := by
      intro i hil
      have hspot : p.spot = none := by
        obtain ⟨cs', hc, _⟩ := hi 0 (by omega)
        rw [hC] at hc
        obtain ⟨_, hcl, hat⟩ := World.cells?_some hc
        have d0 := hat 0 (by omega)
        rw [add_add, List.getElem?_eq_getElem (by omega)] at d0
        have := World.cell?_spot d0
        simpa [Addr.add] using this
      obtain ⟨cs', hc, ht'⟩ := hi i (by omega)
      rw [hC] at hc
      obtain ⟨_, hcl, hat⟩ := World.cells?_some hc
      obtain ⟨xs, n', _, _, _, hlen, hf⟩ := DataW.trod_struct Tryz.underlying38 ht'
      match xs, hlen with
      | [y0, y1, y2, y3, y4], _ =>
        have g0 : DataW.trod enc Tryz.prog w base spare held n' 5 ((cs'.drop 0).take (Tryz.prog.cellsOf 5)) = some y0 := by simpa using hf 0 _ rfl
        have g1 : DataW.trod enc Tryz.prog w base spare held n' 3 ((cs'.drop 1).take (Tryz.prog.cellsOf 3)) = some y1 := by simpa using hf 1 _ rfl
        have g2 : DataW.trod enc Tryz.prog w base spare held n' 3 ((cs'.drop 2).take (Tryz.prog.cellsOf 3)) = some y2 := by simpa using hf 2 _ rfl
        have g3 : DataW.trod enc Tryz.prog w base spare held n' 34 ((cs'.drop 3).take (Tryz.prog.cellsOf 34)) = some y3 := by simpa using hf 3 _ rfl
        have g4 : DataW.trod enc Tryz.prog w base spare held n' 36 ((cs'.drop 7).take (Tryz.prog.cellsOf 36)) = some y4 := by simpa using hf 4 _ rfl
        rw [c4] at g3
        rw [c7] at g4
        obtain ⟨z0, e0, v0⟩ := one_cell 0 Tryz.underlying5 c8 g0
        obtain ⟨z1, e1, v1⟩ := one_cell 1 Tryz.underlying3 ci g1
        obtain ⟨z2, e2, v2⟩ := one_cell 2 Tryz.underlying3 ci g2
        obtain ⟨a0, a1, a2, a3, n1, _, k0, k1, k2, k3⟩ := trod4 Tryz.underlying34 g3
        obtain ⟨q0, q1, q2, q3, n2, _, j0, j1, j2, j3⟩ := trod4 Tryz.underlying36 g4
        obtain ⟨z3, e3, v3⟩ := one_cell 0 Tryz.underlying32 cu k0
        obtain ⟨z4, e4, v4⟩ := one_cell 1 Tryz.underlying3 ci k1
        obtain ⟨z5, e5, v5⟩ := one_cell 2 Tryz.underlying3 ci k2
        obtain ⟨z6, e6, v6⟩ := one_text 3 Tryz.underlying9 cst k3
        obtain ⟨z7, e7, v7⟩ := one_cell 0 Tryz.underlying5 c8 j0
        obtain ⟨z8, e8, v8⟩ := one_cell 1 Tryz.underlying3 ci j1
        obtain ⟨z9, e9, v9⟩ := one_cell 2 Tryz.underlying3 ci j2
        obtain ⟨z10, e10, v10⟩ := one_text 3 Tryz.underlying9 cst j3
        rw [sub4 _ _ _ (by decide)] at e3 e4 e5 e6 e7 e8 e9 e10
        have d0 := (hat 0 (by omega)).trans e0
        have d1 := (hat 1 (by omega)).trans e1
        have d2 := (hat 2 (by omega)).trans e2
        have d3 := (hat 3 (by omega)).trans e3
        have d4 := (hat 4 (by omega)).trans e4
        have d5 := (hat 5 (by omega)).trans e5
        have d6 := (hat 6 (by omega)).trans e6
        have d7 := (hat 7 (by omega)).trans e7
        have d8 := (hat 8 (by omega)).trans e8
        have d9 := (hat 9 (by omega)).trans e9
        have d10 := (hat 10 (by omega)).trans e10
        obtain ⟨b, o, spot⟩ := p
        dsimp only at hspot
        subst hspot
        rw [add_add, Go.WideShapes.add_plain] at d0 d1 d2 d3 d4 d5 d6 d7 d8 d9 d10
        have b3 := bounds_u64 v3
        obtain ⟨z3n, rfl⟩ : ∃ s : Nat, z3 = s := ⟨z3.toNat, by omega⟩
        have b4 := wf_i64 v4
        have b5 := wf_i64 v5
        have b0 := bounds_u8 v0
        have b7 := bounds_u8 v7
        exact ⟨⟨z0, z1, z2, ⟨z3n, z4, z5, z6⟩, ⟨z7, z8, z9, z10⟩⟩, rfl, d0, d1, d2, d3, d4, d5, d6, d7, d8, d9, d10, by show _ ∧ _; omega, wf_i64 v1, wf_i64 v2, ⟨by show z3n < _; omega, b4.1, b4.2, b5.1, b5.2⟩, v6, by show _ ∧ _; omega, wf_i64 v8, wf_i64 v9, v10⟩
    obtain ⟨zs, hzl, hzq⟩ := list_of (fun i z => p.spot = none ∧ SStpAt w p.block p.off i z) len hz
    exact ⟨zs, .inr ⟨p, rfl, hl, hm, hzl, hzq⟩⟩
end Go.Proofs.YtdpkmonlkdegjaaGreatDoor

/- Whether there are too many steps of shards, or a text is too long. -/
namespace Go.Proofs.YtdpkmonlkdegjaaGreatDoor
open Go.RowKit Sm Wr _root_.Go.Proofs.YtdpkmonlkdegjaaGreatDoor.Nm
set_option linter.unusedVariables false
theorem SStps.kept {w w' : World} {a : Option Addr} {zs : List SStp} (h : SStps w a zs) (k : Kept w w') : SStps w' a zs := by
  rcases h with h | ⟨b, o, rfl, h⟩
  · exact .inl h
  · exact .inr ⟨b, o, rfl, fun i hi => (h i hi).kept k⟩
def sBig (z : SStp) : Bool := decide (1024 < z.x.t.size) || decide (1024 < z.r.t.size)
def sheavyB (zs : List SStp) : Bool := decide (100 < zs.length) || zs.any sBig
theorem sheavy_not {zs : List SStp} (h : sheavyB zs = false) : zs.length ≤ 100 ∧ ∀ (i : Nat) (hi : i < zs.length), zs[i].x.t.size ≤ 1024 ∧ zs[i].r.t.size ≤ 1024 := by
  unfold sheavyB at h
  rw [Bool.or_eq_false_iff] at h
  refine ⟨by have := of_decide_eq_false h.1; omega, fun i hi => ?_⟩
  have h2 := List.any_eq_false.1 h.2 zs[i] (List.getElem_mem hi)
  have h3 : sBig zs[i] = false := by simpa using h2
  unfold sBig at h3
  rw [Bool.or_eq_false_iff] at h3
  have h4 := of_decide_eq_false h3.1
  have h5 := of_decide_eq_false h3.2
  omega
set_option maxHeartbeats 1000000 in
set_option maxRecDepth 100000 in
theorem sheavy_any (a : Option Addr) (len cap : Nat) (zs : List SStp) (hl : zs.length = len) (hm : len ≤ maxLen) (w : World) (hS : SStps w a zs) :
    Calls Tryz.prog 6 #[.slice a len cap] w fun e w' => e = .returned (.bool (sheavyB zs)) ∧ Kept w w' := by
  subst hl
  have hm2 : zs.length ≤ 9223372036854775807 := by unfold maxLen at hm; exact hm
  clear hm
  by_cases h300 : 100 < zs.length
  · have HB : Hid (sheavyB zs = true) := by show _ = _; unfold sheavyB; rw [decide_eq_true h300]; rfl
    have hb : decide ((100 : Int) < (zs.length : Nat)) = true := decide_eq_true (by omega)
    clear hS
    generalize zs.length = n at *
    go_enter Tryz.func6, Tryz.ntmps6
    go_wp2_with fail
    go_ret
    rw [HB.out]
    exact ⟨rfl, Kept.refl _⟩
  · have hb : decide ((100 : Int) < (zs.length : Nat)) = false := decide_eq_false (by omega)
    have HS := Lib.hid hS
    clear hS
    obtain ⟨n, hn⟩ : ∃ n, n = zs.length := ⟨_, rfl⟩
    rw [← hn] at hb h300 hm2
    rw [← hn]
    have HN := Lib.hid hn
    clear hn
    go_enter Tryz.func6, Tryz.ntmps6
    go_wp2_with fail
    go_loopw [3] (fun i wr => ∃ k : Nat, k ≤ n ∧ i = .int .i64 k ∧ wr = w ∧ Hid (∀ (j : Nat) (hj : j < zs.length), j < k → sBig zs[j] = false)) (fun i _ => n - (intOf i).toNat)
    case atStart => exact ⟨0, Nat.zero_le _, rfl, rfl, fun j hj h => absurd h (by omega)⟩
    case round =>
      obtain ⟨k, hk, rfl, rfl, HA⟩ := hrel
      by_cases hlt : k < n
      · have hkz : k < zs.length := by rw [← HN.out]; exact hlt
        rcases HS.out with h0 | ⟨b, o, rfl, hq⟩
        · rw [h0] at hkz; cases hkz
        · have c6 := (hq k hkz).c6
          have c10 := (hq k hkz).c10
          have hsz := (hq k hkz).ts
          have hsz' := (hq k hkz).rt
          have HSZ : Hid (sBig zs[k] = false → ∀ (j : Nat) (hj : j < zs.length), j < k + 1 → sBig zs[j] = false) := fun h j hj hjk => by
            by_cases e : j = k
            · subst e; exact h
            · exact HA.out j hj (by omega)
          have HBT : Hid (sBig zs[k] = true → sheavyB zs = true) := fun h => by
            unfold sheavyB
            rw [List.any_eq_true.2 ⟨zs[k], List.getElem_mem hkz, h⟩]
            simp
          have HBD : Hid (sBig zs[k] = (decide (1024 < zs[k].x.t.size) || decide (1024 < zs[k].r.t.size))) := rfl
          have hsz2 : zs[k].x.t.size ≤ 9223372036854775807 := by unfold maxLen at hsz; exact hsz
          have hsz3 : zs[k].r.t.size ≤ 9223372036854775807 := by unfold maxLen at hsz'; exact hsz'
          generalize sBig zs[k] = B at *
          generalize zs[k].x.t = t at *
          generalize zs[k].r.t = u at *
          have c6b : wr.cell? ⟨b, o + k * 11 + 3 + 3, none⟩ = some (.string t) := c6
          have c10b : wr.cell? ⟨b, o + k * 11 + 7 + 3, none⟩ = some (.string u) := c10
          clear hq hsz hsz'
          by_cases h2 : 1024 < t.size
          · have hb2 : decide ((1024 : Int) < (t.size : Nat)) = true := decide_eq_true (by omega)
            have HR := Lib.hid (HBT.out (by rw [HBD.out, decide_eq_true h2]; rfl))
            clear h2
            go_wp2_with fail
            go_ret
            rw [HR.out]
            exact ⟨rfl, Kept.refl _⟩
          · have hb2 : decide ((1024 : Int) < (t.size : Nat)) = false := decide_eq_false (by omega)
            by_cases h3 : 1024 < u.size
            · have hb3 : decide ((1024 : Int) < (u.size : Nat)) = true := decide_eq_true (by omega)
              have HR := Lib.hid (HBT.out (by rw [HBD.out, decide_eq_true h3]; simp))
              clear h2 h3
              go_wp2_with fail
              go_ret
              rw [HR.out]
              exact ⟨rfl, Kept.refl _⟩
            · have hb3 : decide ((1024 : Int) < (u.size : Nat)) = false := decide_eq_false (by omega)
              have HR := Lib.hid (HSZ.out (by rw [HBD.out, decide_eq_false h2, decide_eq_false h3]; rfl))
              clear h2 h3
              go_wp2_with fail
              exact ⟨⟨k + 1, by omega, by go_num, trivial, HR⟩, by simp [intOf]; omega⟩
      · have HR : Hid (sheavyB zs = false) := by
          show _ = _
          unfold sheavyB
          rw [Bool.or_eq_false_iff]
          refine ⟨decide_eq_false (by rw [← HN.out]; omega), List.any_eq_false.2 fun z hz => ?_⟩
          obtain ⟨j, hj, rfl⟩ := List.getElem_of_mem hz
          have := HA.out j hj (by have := HN.out; omega)
          simp [this]
        go_wp2_with fail
        go_ret
        rw [HR.out]
        exact ⟨rfl, Kept.refl _⟩
end Go.Proofs.YtdpkmonlkdegjaaGreatDoor

