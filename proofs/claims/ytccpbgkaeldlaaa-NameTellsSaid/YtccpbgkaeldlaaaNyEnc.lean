/- What the program's Encode answers. -/
import Derived.Test.YtccpbgkaeldlaaaNyMay
namespace Go.Proofs.Ytccpbgkaeldlaaa
open Go.RowKit _root_.Go.Proofs.Ytccpbgkaeldlaaa.Nm Ny
set_option linter.unusedVariables false
set_option linter.unusedSimpArgs false
/-- What Encode answers. -/
def encV (k : Key) : Value := if mayK k = true then .tuple #[.string ⟨(encL k).toArray⟩, .int .i64 0] else .tuple #[.string ⟨#[]⟩, .int .i64 2]
set_option maxHeartbeats 4000000 in
set_option maxRecDepth 100000 in
theorem pEncode_any (k : Key) (w : World) (wk : k.Wf) :
    Calls Try.prog 9 #[k.val] w fun e w' => e = .returned (encV k) ∧ Kept w w' := by
  have HEV : Hid (encV k = if mayK k = true then .tuple #[.string ⟨(encL k).toArray⟩, .int .i64 0] else .tuple #[.string ⟨#[]⟩, .int .i64 2]) := rfl
  have HM := Lib.hid (fun W => pMay_any k W wk)
  have HX := Lib.hid (KyAt.laid w 24 k)
  have HK := Lib.hid ((Kept.refl w).alloc (.cells #[.int .u8 (k.kd : Nat), .string k.bk, .string k.nm, .int .u64 (k.n : Nat), .int .i64 k.pt] 24))
  by_cases hm : mayK k = true
  · have HP := Lib.hid (mayP hm)
    have HE : Hid (encV k = .tuple #[.string ⟨(encL k).toArray⟩, .int .i64 0]) := by show _ = _; rw [HEV.out, if_pos hm]
    rw [hm] at HM
    have HH := Lib.hid (fun W => has_any k.kd W)
    have HFL := Lib.hid (fun W => FdAt.laid W 47 k.kd)
    have HL : Hid (encL k = UInt8.ofNat k.kd :: (bP k ++ (mP k ++ (nP k ++ pP k)))) := rfl
    have HBP : Hid (bP k = if hasB k.kd then k.bk.data.toList ++ [0] else []) := rfl
    have HMP : Hid (mP k = if hasM k.kd then nmL k.nm.data.toList ++ [0, 1] else []) := rfl
    have HNP : Hid (nP k = if hasN k.kd then be 8 (tn k.kd k.n) else []) := rfl
    have HPP : Hid (pP k = if hasP k.kd then be 2 k.pt.toNat else []) := rfl
    have HT := Lib.hid (fun W => turned_any k.kd k.n W wk.n)
    have HTN := Lib.hid (tn_lt k.kd k.n wk.n)
    have HKD := Lib.hid (kd_byte wk.kd)
    rw [HE.out]
    clear hm HE HEV
    have HZ1 : Hid (hasB k.kd = true → k.bk.size ≤ 63) := fun h => by
      have := HP.out.bk
      rw [if_pos h] at this
      unfold bktB at this
      simp only [Bool.and_eq_true, decide_eq_true_eq, list_size] at this
      exact this.1.2
    have HZ2 : Hid (hasM k.kd = true → k.nm.size ≤ 200) := fun h => by
      have := HP.out.nm
      rw [if_pos h] at this
      exact this.2
    have HZ3 : Hid (hasP k.kd = true → 1 ≤ k.pt ∧ k.pt ≤ 1000) := fun h => by
      have := HP.out.pt
      rw [if_pos h] at this
      exact this
    have HLB : Hid ((bP k).length ≤ 64) := by
      show _ ≤ _; unfold bP; split
      · rename_i h; rw [List.length_append, list_size]; have := HZ1.out h; simp; omega
      · simp
    have HLM : Hid ((mP k).length ≤ 402) := by
      show _ ≤ _; unfold mP; split
      · rename_i h; rw [List.length_append]; have := nmL_length k.nm.data.toList; rw [list_size] at this; have := HZ2.out h; simp; omega
      · simp
    have HLN : Hid ((nP k).length ≤ 8) := by
      show _ ≤ _; unfold nP; split
      · rw [be_length]; omega
      · simp
    have HLP : Hid ((pP k).length ≤ 2) := by
      show _ ≤ _; unfold pP; split
      · rw [be_length]; omega
      · simp
    generalize encL k = L at *
    generalize bP k = lb at *
    generalize mP k = lm at *
    generalize nP k = ln at *
    generalize pP k = lp at *
    generalize tn k.kd k.n = N at *
    obtain ⟨kd, bk, nm, n, pt⟩ := k
    unfold fdV at HH
    unfold Key.val at *
    dsimp only at *
    have HFB : Hid (∀ W, FdAt W w.heap.size kd → True) := fun _ _ => trivial
    clear HFB
    have HFB : Hid (∀ (fb fm fn fp : Bool), hasB kd = fb → hasM kd = fm → hasN kd = fn → hasP kd = fp → ∀ (W : World) (g : Nat), FdAt W g kd → W.cell? ⟨g, 0, none⟩ = some (.bool fb) ∧ W.cell? ⟨g, 1, none⟩ = some (.bool fm) ∧ W.cell? ⟨g, 2, none⟩ = some (.bool fn) ∧ W.cell? ⟨g, 3, none⟩ = some (.bool fp)) := fun _ _ _ _ e1 e2 e3 e4 W g h => by subst e1 e2 e3 e4; exact ⟨h.c0, h.c1, h.c2, h.c3⟩
    replace HFB := Lib.hid (HFB.out _ _ _ _ rfl rfl rfl rfl)
    generalize hasB kd = fb at *
    generalize hasM kd = fm at *
    generalize hasN kd = fn at *
    generalize hasP kd = fp at *
    have hpt2 : Hid (fp = true → pt = ((pt.toNat : Nat) : Int)) := fun h => by have := HZ3.out h; omega
    generalize hptn : pt.toNat = P at *
    have HPTN := Lib.hid hptn
    clear hptn
    generalize UInt8.ofNat kd = kb at *
    go_enter Try.func9, Try.ntmps9
    go_upto_region 1 with fail
    generalize w.alloc (.cells #[.int .u8 (kd : Nat), .string bk, .string nm, .int .u64 (n : Nat), .int .i64 pt] 24) = w0 at *
    obtain ⟨c0, c1, c2, c3, c4, _, _, _, _, _⟩ := HX.out
    dsimp only at c0 c3
    go_wp2_with fail
    refine (HM.out _).mono ?_
    rintro e w1 ⟨rfl, hk1⟩
    clear c0 c1 c2 c3 c4
    have HX1 := Lib.hid (HX.out.kept hk1)
    have HK1 := Lib.hid (HK.out.trans hk1)
    clear hk1 HX HK HM
    obtain ⟨c0, c1, c2, c3, c4, _, _, _, _, _⟩ := HX1.out
    dsimp only at c0 c3
    go_wp2_with fail
    refine (HH.out _).mono ?_
    rintro e w2 ⟨rfl, hk2⟩
    clear c0 c1 c2 c3 c4
    have HX2 := Lib.hid (HX1.out.kept hk2)
    have HK2 := Lib.hid (HK1.out.trans hk2)
    have hlt := HX2.out.lt
    clear hk2 HX1 HK1 HH
    go_upto_region 4 with fail
    have HF := Lib.hid (HFL.out w2)
    have hk3 : Kept w2 (w2.alloc (.cells #[.bool fb, .bool fm, .bool fn, .bool fp] 47)) := (Kept.refl _).alloc _
    have HX3 := Lib.hid (HX2.out.kept hk3)
    have HK3 := Lib.hid (HK2.out.trans hk3)
    clear hk3 HX2 HK2 HFL
    generalize w2.alloc (.cells #[.bool fb, .bool fm, .bool fn, .bool fp] 47) = w3 at *
    generalize w2.heap.size = g1 at *
    obtain ⟨B, hB⟩ : ∃ B, w3.heap.size = B := ⟨_, rfl⟩
    have HBB := Lib.hid hB
    have HCX : Hid (∀ W, Below B w3 W → (W.cell? ⟨w.heap.size, 0, none⟩ = some (.int .u8 (kd : Nat)) ∧ W.cell? ⟨w.heap.size, 1, none⟩ = some (.string bk) ∧ W.cell? ⟨w.heap.size, 2, none⟩ = some (.string nm) ∧ W.cell? ⟨w.heap.size, 3, none⟩ = some (.int .u64 (n : Nat)) ∧ W.cell? ⟨w.heap.size, 4, none⟩ = some (.int .i64 pt)) ∧ (W.cell? ⟨g1, 0, none⟩ = some (.bool fb) ∧ W.cell? ⟨g1, 1, none⟩ = some (.bool fm) ∧ W.cell? ⟨g1, 2, none⟩ = some (.bool fn) ∧ W.cell? ⟨g1, 3, none⟩ = some (.bool fp)) ∧ B ≤ W.heap.size) := fun W hb => by
      have h1 := HX3.out.below hb (by rw [← hB]; exact HX3.out.lt)
      have h2 := HF.out.below hb (by rw [← hB]; exact HF.out.lt)
      exact ⟨⟨h1.c0, h1.c1, h1.c2, h1.c3, h1.c4⟩, HFB.out W g1 h2, by rw [← hB]; exact hb.size⟩
    clear hB
    obtain ⟨⟨c0, c1, c2, c3, c4⟩, ⟨d0, d1, d2, d3⟩, _⟩ := HCX.out w3 (Below.refl _ _)
    go_upto_region 5 with fail
    have HG : Hid (GatU B (.slice (some ⟨w3.heap.size, 0, none⟩) 1 1) [kb] (w3.alloc (.cells #[.int .u8 (kd : Nat)] 5)) ∧ Below B w3 (w3.alloc (.cells #[.int .u8 (kd : Nat)] 5))) := ⟨by rw [← HKD.out]; exact GatU.one kb (Nat.le_of_eq HBB.out.symm), (Below.refl _ _).alloc (Nat.le_of_eq HBB.out.symm) _⟩
    clear c0 c1 c2 c3 c4 d0 d1 d2 d3
    generalize w3.alloc (.cells #[.int .u8 (kd : Nat)] 5) = w4 at *
    obtain ⟨⟨c0, c1, c2, c3, c4⟩, ⟨d0, d1, d2, d3⟩, hsz⟩ := HCX.out w4 HG.out.2
    go_upto_if 20 with fail
    go_cut [6] from 21 to 24 (fun v wx => Hid (GatU B v ([kb] ++ lb) wx ∧ Below B w3 wx))
    case first =>
      cases fb
      · go_wp2_with fail
        go_meet
        show GatU B _ _ _ ∧ _
        rw [HBP.out, if_neg (by first | exact Bool.false_ne_true | exact not_false), List.append_nil]
        exact HG.out
      · go_wp2_with fail
        refine (putBucket_any B _ [kb] bk _ hsz HG.out.1 (by have := HZ1.out (by first | rfl | trivial); simp; omega)).mono ?_
        rintro e y1 ⟨v1, rfl, hG1, hB1⟩
        go_wp2_with fail
        go_meet
        exact ⟨by rw [HBP.out]; first | exact hG1 | (rw [if_pos rfl]; exact hG1) | (rw [if_pos trivial]; exact hG1), HG.out.2.trans hB1⟩
    case rest =>
    have HG0 := HG
    clear HG
    have HG := Lib.hid hcut.out
    clear hcut HG0 c0 c1 c2 c3 c4 d0 d1 d2 d3 hsz
    generalize wc = x0 at *
    obtain ⟨⟨c0, c1, c2, c3, c4⟩, ⟨d0, d1, d2, d3⟩, hsz⟩ := HCX.out x0 HG.out.2
    go_upto_if 26 with fail
    go_cut [6] from 27 to 31 (fun v wx => Hid (GatU B v ([kb] ++ lb ++ lm) wx ∧ Below B w3 wx))
    case first =>
      cases fm
      · go_wp2_with fail
        go_meet
        show GatU B _ _ _ ∧ _
        rw [HMP.out, if_neg (by first | exact Bool.false_ne_true | exact not_false), List.append_nil]
        exact HG.out
      · go_wp2_with fail
        refine (putName_any B _ ([kb] ++ lb) nm _ hsz HG.out.1 (by have := HZ2.out (by first | rfl | trivial); have := HLB.out; simp; omega)).mono ?_
        rintro e y1 ⟨v1, rfl, hG1, hB1⟩
        have HG1 := Lib.hid hG1
        have HB1 := Lib.hid hB1
        have hsz1 : B ≤ y1.heap.size := Nat.le_trans hsz hB1.size
        have HLL : Hid (([kb] ++ lb ++ nmL nm.data.toList).length ≤ 1000) := by
          show _ ≤ _
          have := nmL_length nm.data.toList
          rw [list_size] at this
          have := HZ2.out (by first | rfl | trivial)
          have := HLB.out
          simp only [List.length_append, List.length_singleton]
          omega
        clear hG1 hB1 c0 c1 c2 c3 c4 d0 d1 d2 d3
        go_wp2_with (at_builtin; (refine wpList_gatus _ rfl (.tmp 30) (.const (.string ⟨#[0, 1]⟩)) rfl B hsz1 _ ([kb] ++ lb ++ nmL nm.data.toList) rfl HG1.out ⟨#[0, 1]⟩ rfl (by have := HLL.out; show _ + 2 ≤ _; omega) ?_; intro v2 y2 hG2 hb2; have HG2 := Lib.hid hG2; have HB2 := Lib.hid hb2; clear hG2 hb2))
        go_meet
        exact ⟨by rw [HMP.out]; first | (rw [if_pos rfl, ← List.append_assoc]; exact HG2.out) | (rw [if_pos trivial, ← List.append_assoc]; exact HG2.out), HG.out.2.trans (HB1.out.trans HB2.out)⟩
    case rest =>
    have HG0 := HG
    clear HG
    have HG := Lib.hid hcut.out
    clear hcut HG0 c0 c1 c2 c3 c4 d0 d1 d2 d3 hsz
    generalize wc = x1 at *
    obtain ⟨⟨c0, c1, c2, c3, c4⟩, ⟨d0, d1, d2, d3⟩, hsz⟩ := HCX.out x1 HG.out.2
    go_upto_if 33 with fail
    go_cut [6] from 34 to 40 (fun v wx => Hid (GatU B v (([kb] ++ lb) ++ lm ++ ln) wx ∧ Below B w3 wx))
    case first =>
      cases fn
      · go_wp2_with fail
        go_meet
        show GatU B _ _ _ ∧ _
        rw [HNP.out, if_neg (by first | exact Bool.false_ne_true | exact not_false), List.append_nil]
        exact HG.out
      · go_wp2_with fail
        refine (HT.out _).mono ?_
        rintro e y1 ⟨rfl, rfl⟩
        go_wp2_with fail
        refine (putNumber_any B _ (([kb] ++ lb) ++ lm) N 8 _ hsz HG.out.1 (by have := HLB.out; have := HLM.out; simp; omega) (by omega) HTN.out).mono ?_
        rintro e y1 ⟨v1, rfl, hG1, hB1⟩
        go_wp2_with fail
        go_meet
        exact ⟨by rw [HNP.out]; first | exact hG1 | (rw [if_pos rfl]; exact hG1) | (rw [if_pos trivial]; exact hG1), HG.out.2.trans hB1⟩
    case rest =>
    have HG0 := HG
    clear HG
    have HG := Lib.hid hcut.out
    clear hcut HG0 c0 c1 c2 c3 c4 d0 d1 d2 d3 hsz
    generalize wc = x2 at *
    obtain ⟨⟨c0, c1, c2, c3, c4⟩, ⟨d0, d1, d2, d3⟩, hsz⟩ := HCX.out x2 HG.out.2
    go_upto_if 42 with fail
    go_cut [6] from 43 to 47 (fun v wx => Hid (GatU B v ((([kb] ++ lb) ++ lm) ++ ln ++ lp) wx ∧ Below B w3 wx))
    case first =>
      cases fp
      · go_wp2_with fail
        go_meet
        show GatU B _ _ _ ∧ _
        rw [HPP.out, if_neg (by first | exact Bool.false_ne_true | exact not_false), List.append_nil]
        exact HG.out
      · have hp := hpt2.out (by first | rfl | trivial)
        have hp1 := HZ3.out (by first | rfl | trivial)
        have HP9 := Lib.hid hp
        have hw9 : IntKind.u64.wrap pt = ((P : Nat) : Int) := by rw [HP9.out]; exact IntWalk.u64_in _ (by have := HP9.out; omega)
        have hP9 : P < 18446744073709551616 := by have := HP9.out; omega
        clear hp
        go_wp2_with fail
        refine (putNumber_any B _ ((([kb] ++ lb) ++ lm) ++ ln) P 2 _ hsz HG.out.1 (by have := HLB.out; have := HLM.out; have := HLN.out; simp; omega) (by omega) hP9).mono ?_
        rintro e y1 ⟨v1, rfl, hG1, hB1⟩
        go_wp2_with fail
        go_meet
        exact ⟨by rw [HPP.out]; first | exact hG1 | (rw [if_pos rfl]; exact hG1) | (rw [if_pos trivial]; exact hG1), HG.out.2.trans hB1⟩
    case rest =>
    have HG0 := HG
    clear HG
    have HG := Lib.hid hcut.out
    clear hcut HG0 c0 c1 c2 c3 c4 d0 d1 d2 d3 hsz
    generalize wc = x3 at *
    have HLT : Hid (L.length ≤ 1000000000) := by
      show _ ≤ _
      have h1 := HLB.out
      have h2 := HLM.out
      have h3 := HLN.out
      have h4 := HLP.out
      rw [HL.out]
      simp only [List.length_cons, List.length_append]
      omega
    have HGL : Hid (GatU B u6 L x3) := by
      show GatU _ _ _ _
      rw [HL.out]
      have := HG.out.1
      simpa only [List.append_assoc, List.singleton_append, List.cons_append, List.nil_append] using this
    have hcv := HGL.out.text HLT.out
    have HKF : Hid (Kept w x3) := HK3.out.trans (HG.out.2.mono (Nat.le_of_eq HBB.out))
    clear HG HGL HL HCX
    go_wp2_with fail
    go_ret2
    exact ⟨rfl, HKF.out⟩
  · have HE : Hid (encV k = .tuple #[.string ⟨#[]⟩, .int .i64 2]) := by show _ = _; rw [HEV.out, if_neg hm]
    have hm2 : mayK k = false := by simpa using hm
    rw [hm2] at HM
    rw [HE.out]
    clear hm hm2 HE HEV
    obtain ⟨kd, bk, nm, n, pt⟩ := k
    unfold Key.val at *
    dsimp only at *
    go_enter Try.func9, Try.ntmps9
    go_upto_region 1 with fail
    generalize w.alloc (.cells #[.int .u8 (kd : Nat), .string bk, .string nm, .int .u64 (n : Nat), .int .i64 pt] 24) = w0 at *
    obtain ⟨c0, c1, c2, c3, c4, _, _, _, _, _⟩ := HX.out
    dsimp only at c0 c3
    go_wp2_with fail
    refine (HM.out _).mono ?_
    rintro e w1 ⟨rfl, hk1⟩
    have HK1 := Lib.hid (HK.out.trans hk1)
    clear hk1
    go_wp2_with fail
    go_ret2
    exact ⟨rfl, HK1.out⟩
end Go.Proofs.Ytccpbgkaeldlaaa
