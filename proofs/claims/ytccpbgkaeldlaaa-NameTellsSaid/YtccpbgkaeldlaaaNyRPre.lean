/- What keys begin with: the document's. -/
import Derived.Test.YtccpbgkaeldlaaaNyPre
import Derived.Test.YtccpbgkaeldlaaaNyRTxt
namespace Go.Proofs.Ytccpbgkaeldlaaa
open Go.RowKit _root_.Go.Proofs.Ytccpbgkaeldlaaa.Nm Ny
set_option linter.unusedVariables false
set_option linter.unusedSimpArgs false
def prefW (o : Option (List UInt8)) : Value :=
  match o with
  | none => .tuple #[.string ⟨#[]⟩, .bool false]
  | some l => .tuple #[.string ⟨l.toArray⟩, .bool true]
set_option maxHeartbeats 8000000 in
set_option maxRecDepth 100000 in
theorem rPrefix_any (k : Key) (deep : Int) (w : World) (wk : k.Wf) :
    Calls Try.prog 13 #[k.val, .int .i64 deep] w fun e w' => e = .returned (prefW (prefO k deep)) ∧ Kept w w' := by
  have HX := Lib.hid (KyAt.laid w 24 k)
  have HK := Lib.hid ((Kept.refl w).alloc (.cells #[.int .u8 (k.kd : Nat), .string k.bk, .string k.nm, .int .u64 (k.n : Nat), .int .i64 k.pt] 24))
  have HHB := Lib.hid (fun W => rHasB_any k.kd W)
  have HBK := Lib.hid (fun W => rBucket_any k.bk W wk.bk)
  have HE := Lib.hid (fun W => rEight_any k.n W wk.n)
  have HKD := Lib.hid (kd_byte wk.kd)
  have HONE := Lib.hid (fun W => one_byteM W (k.kd : Nat) (UInt8.ofNat k.kd) (by rw [kd_byte wk.kd]))
  have HIB : Hid (isK k.kd = false → hasB k.kd = false) := fun h => by
    unfold isK at h
    unfold hasB
    simp only [Bool.and_eq_false_iff, decide_eq_false_iff_not] at h ⊢
    omega
  have HISK : Hid (isK k.kd = (decide (1 ≤ k.kd) && decide (k.kd ≤ 6))) := rfl
  have HM3 : Hid (hasM k.kd = decide (k.kd = 3)) := rfl
  have HP5 : Hid (hasP k.kd = decide (k.kd = 5)) := rfl
  have HBZ : Hid (bktB k.bk.data.toList = true → k.bk.size ≤ 63) := fun h => by
    unfold bktB at h
    simp only [Bool.and_eq_true, decide_eq_true_eq, list_size] at h
    exact h.1.2
  have HOBJ : Hid (objB k.nm.size = (decide (1 ≤ k.nm.size) && decide (k.nm.size ≤ 200))) := rfl
  have hse := str_nil k.nm
  obtain ⟨r, hr⟩ : ∃ r, prefO k deep = r := ⟨_, rfl⟩
  have HR := Lib.hid hr.symm
  rw [hr]
  clear hr
  unfold prefO at HR
  have hnz := wk.nm
  have hkz := wk.kd
  unfold maxLen at hnz
  obtain ⟨kd, bk, nm, n, pt⟩ := k
  unfold Key.val at *
  dsimp only at *
  generalize isK kd = is at *
  generalize hasB kd = fb at *
  generalize hasM kd = fm at *
  generalize hasP kd = fp at *
  generalize bktB bk.data.toList = bb at *
  generalize objB nm.size = ob at *
  generalize UInt8.ofNat kd = kb at *
  go_enter Try.func13, Try.ntmps13
  go_upto_region 1 with fail
  generalize w.alloc (.cells #[.int .u8 (kd : Nat), .string bk, .string nm, .int .u64 (n : Nat), .int .i64 pt] 24) = w0 at *
  obtain ⟨c0, c1, c2, c3, c4, _, _, _, _, _⟩ := HX.out
  dsimp only at c0 c3
  by_cases hbad : deep < 1 ∨ 4 < deep ∨ kd < 1 ∨ 6 < kd
  · have HF : Hid (r = none) := by
      show _ = _
      rw [HR.out]
      unfold prefF
      rcases hbad with h | h | h | h
      · rw [if_neg (by omega), if_neg (by omega : ¬ deep = 2), if_neg (by omega : ¬ deep = 3), if_neg (by omega : ¬ deep = 4)]; split <;> rfl
      · rw [if_neg (by omega), if_neg (by omega : ¬ deep = 2), if_neg (by omega : ¬ deep = 3), if_neg (by omega : ¬ deep = 4)]; split <;> rfl
      · have hi : is = false := by rw [HISK.out, decide_eq_false (by omega)]; rfl
        rw [hi, HIB.out hi]
        simp
      · have hi : is = false := by rw [HISK.out, decide_eq_false (p := kd ≤ 6) (by omega), Bool.and_false]
        rw [hi, HIB.out hi]
        simp
    have hw : decide (deep < 1) = true ∨ (decide (deep < 1) = false ∧ decide (4 < deep) = true) ∨ (decide (deep < 1) = false ∧ decide (4 < deep) = false ∧ kd = 0) ∨ (decide (deep < 1) = false ∧ decide (4 < deep) = false ∧ decide ((kd : Int) < 1) = false ∧ decide ((6 : Int) < kd) = true) := by
      simp only [decide_eq_true_eq, decide_eq_false_iff_not]
      omega
    clear hbad HR
    rcases hw with q1 | ⟨q1, q2⟩ | ⟨q1, q2, rfl⟩ | ⟨q1, q2, q3, q4⟩
    all_goals
      go_wp2_with fail
      go_ret2
      exact ⟨by rw [HF.out]; rfl, HK.out⟩
  · have hg : 1 ≤ deep ∧ deep ≤ 4 ∧ 1 ≤ kd ∧ kd ≤ 6 := by omega
    obtain ⟨g1, g2, g3, g4⟩ := hg
    have q1 : decide (deep < 1) = false := decide_eq_false (by omega)
    have q2 : decide (4 < deep) = false := decide_eq_false (by omega)
    have q3 : decide ((kd : Int) < 1) = false := decide_eq_false (by omega)
    have q4 : decide ((6 : Int) < kd) = false := decide_eq_false (by omega)
    have HIS : Hid (is = true) := by show _ = _; rw [HISK.out, decide_eq_true g3, decide_eq_true g4]; rfl
    rw [HIS.out] at HR
    clear hbad HISK HIB
    have hone := HONE.out w0
    go_upto_region 4 with fail
    have hk1 : Kept w0 (w0.alloc (.cells #[.int .u8 (kd : Nat)] 5)) := (Kept.refl _).alloc _
    have HX1 := Lib.hid (HX.out.kept hk1)
    have HK1 := Lib.hid (HK.out.trans hk1)
    clear hone hk1 HX HK HONE c0 c1 c2 c3 c4 q1 q2 q3 q4
    generalize w0.alloc (.cells #[.int .u8 (kd : Nat)] 5) = w1 at *
    obtain ⟨c0, c1, c2, c3, c4, _, _, _, _, _⟩ := HX1.out
    dsimp only at c0 c3
    unfold prefF at HR
    by_cases h1 : deep = 1
    · have q1 : (deep == 1) = true := by rw [h1]; rfl
      have HF : Hid (r = some [kb]) := by show _ = _; rw [HR.out, if_pos h1, if_pos rfl]
      clear h1 HR
      go_wp2_with fail
      go_ret2
      exact ⟨by rw [HF.out]; rfl, HK1.out⟩
    · have q1 : (deep == 1) = false := beq_eq_false_iff_ne.2 h1
      rw [if_neg h1] at HR
      have g5 : 2 ≤ deep := by omega
      clear h1
      go_wp2_with fail
      refine (HHB.out _).mono ?_
      rintro e y1 ⟨rfl, hy⟩
      replace hy := hy.symm
      subst hy
      cases fb
      · have HF : Hid (r = none) := by show _ = _; rw [HR.out, if_pos (by simp)]
        clear HR
        go_wp2_with fail
        go_ret2
        exact ⟨by rw [HF.out]; rfl, HK1.out⟩
      · go_wp2_with fail
        refine (HBK.out _).mono ?_
        rintro e y1 ⟨rfl, hy⟩
        replace hy := hy.symm
        subst hy
        cases bb
        · have HF : Hid (r = none) := by show _ = _; rw [HR.out, if_pos (by simp)]
          clear HR
          go_wp2_with fail
          go_ret2
          exact ⟨by rw [HF.out]; rfl, HK1.out⟩
        · rw [if_neg (by simp)] at HR
          have hbz := HBZ.out rfl
          have hbl : bk.data.toList.length ≤ 63 := by rw [list_size]; exact hbz
          have hnl := nmL_length nm.data.toList
          rw [list_size] at hnl
          obtain ⟨l1, hl1⟩ : ∃ l, [kb] ++ bk.data.toList = l := ⟨_, rfl⟩
          have hz1 : l1.length ≤ 64 := by rw [← hl1]; simp only [List.length_append, List.length_cons, List.length_nil]; omega
          have hadd1 := fun W => add_strN ⟨#[kb]⟩ bk l1 hl1 (by omega) W
          obtain ⟨l2, hl2⟩ : ∃ l, [kb] ++ (bk.data.toList ++ [0]) = l := ⟨_, rfl⟩
          have hz2 : l2.length ≤ 65 := by rw [← hl2]; simp only [List.length_append, List.length_cons, List.length_nil]; omega
          have hadd2 := fun W => add_strN ⟨l1.toArray⟩ ⟨#[0]⟩ l2 (by rw [← hl2, ← hl1]; simp) (by omega) W
          rw [hl2] at HR
          clear hl1 hl2
          by_cases h2 : deep = 2
          · have q2 : (deep == 2) = true := by rw [h2]; rfl
            have HF : Hid (r = some l2) := by show _ = _; rw [HR.out, if_pos h2]
            clear h2 HR
            go_wp2_with fail
            go_ret2
            exact ⟨by rw [HF.out]; rfl, HK1.out⟩
          · have q2 : (deep == 2) = false := beq_eq_false_iff_ne.2 h2
            rw [if_neg h2] at HR
            have g6 : 3 ≤ deep := by omega
            clear h2
            by_cases h5 : kd = 5
            · have q5 : ((kd : Int) == 5) = true := by rw [h5]; rfl
              have q53 : ((kd : Int) != 3) = true := by rw [h5]; rfl
              have hfm : fm = false := by rw [HM3.out, h5]; rfl
              have hfp : fp = true := by rw [HP5.out, h5]; rfl
              rw [hfm, hfp] at HR
              by_cases h4 : deep = 4
              · have q4 : (deep == 4) = true := by rw [h4]; rfl
                have HF : Hid (r = some (l2 ++ be 8 n)) := by show _ = _; rw [HR.out, if_neg (by omega), if_pos h4, if_neg (by simp), if_pos rfl]
                have hadd3 := fun W => add_strN ⟨l2.toArray⟩ ⟨(be 8 n).toArray⟩ (l2 ++ be 8 n) rfl (by rw [List.length_append, be_length]; omega) W
                clear h4 HR h5 hfm hfp
                go_wp2_with fail
                refine (HE.out _).mono ?_
                rintro e w2 ⟨rfl, hk2⟩
                have HK2 := Lib.hid (HK1.out.trans hk2)
                clear hk2 c0 c1 c2 c3 c4
                go_wp2_with fail
                go_ret2
                exact ⟨by rw [HF.out]; rfl, HK2.out⟩
              · have q4 : (deep == 4) = false := beq_eq_false_iff_ne.2 h4
                have HF : Hid (r = none) := by show _ = _; rw [HR.out, if_pos (by omega), if_neg (by simp)]
                clear h4 HR h5 hfm hfp
                go_wp2_with fail
                go_ret2
                exact ⟨by rw [HF.out]; rfl, HK1.out⟩
            · have q5 : ((kd : Int) == 5) = false := beq_eq_false_iff_ne.2 (by omega)
              have hfp : fp = false := by rw [HP5.out]; exact decide_eq_false h5
              rw [hfp] at HR
              clear h5 hfp
              by_cases h3 : kd = 3
              · have q3 : ((kd : Int) != 3) = false := by rw [h3]; rfl
                have hfm : fm = true := by rw [HM3.out, h3]; rfl
                rw [hfm] at HR
                clear h3 hfm
                by_cases hs : nm.size ≤ 200
                · have q6 : decide ((200 : Int) < nm.size) = false := decide_eq_false (by omega)
                  have HNM := Lib.hid (fun W => rName_any nm W (by omega))
                  have hadd3 := fun W => add_strN ⟨l2.toArray⟩ ⟨(nmL nm.data.toList).toArray⟩ (l2 ++ nmL nm.data.toList) rfl (by rw [List.length_append]; omega) W
                  have hz3 : (l2 ++ nmL nm.data.toList).length ≤ 500 := by rw [List.length_append]; omega
                  rw [decide_eq_true hs] at HR
                  by_cases h4 : deep = 4
                  · have q4 : (deep == 4) = true := by rw [h4]; rfl
                    rw [if_neg (by omega), if_pos h4] at HR
                    by_cases he : nm.size = 0
                    · have HF : Hid (r = none) := by
                        show _ = _
                        have ho : ob = false := by rw [HOBJ.out, he]; rfl
                        rw [HR.out, ho, if_neg (by simp), if_neg (by simp)]
                      rw [decide_eq_true he] at hse
                      clear h4 HR he hs
                      go_wp2_with fail
                      go_ret2
                      exact ⟨by rw [HF.out]; rfl, HK1.out⟩
                    · have HF : Hid (r = some ((l2 ++ nmL nm.data.toList) ++ [0, 1])) := by
                        show _ = _
                        have ho : ob = true := by rw [HOBJ.out, decide_eq_true (by omega), decide_eq_true hs]; rfl
                        rw [HR.out, ho, if_pos ⟨rfl, rfl⟩]
                      rw [decide_eq_false he] at hse
                      generalize hl3 : l2 ++ nmL nm.data.toList = l3 at *
                      have hadd4 := fun W => add_strN ⟨l3.toArray⟩ ⟨#[0, 1]⟩ (l3 ++ [0, 1]) rfl (by rw [List.length_append]; show _ + 2 ≤ _; omega) W
                      clear h4 HR he hs hl3
                      go_wp2_with fail
                      refine (HNM.out _).mono ?_
                      rintro e y1 ⟨rfl, hy⟩
                      replace hy := hy.symm
                      subst hy
                      go_wp2_with fail
                      go_ret2
                      exact ⟨by rw [HF.out]; rfl, HK1.out⟩
                  · have q4 : (deep == 4) = false := beq_eq_false_iff_ne.2 h4
                    have HF : Hid (r = some (l2 ++ nmL nm.data.toList)) := by show _ = _; rw [HR.out, if_pos (by omega), if_pos ⟨rfl, rfl⟩]
                    clear h4 HR hs
                    go_wp2_with fail
                    refine (HNM.out _).mono ?_
                    rintro e y1 ⟨rfl, hy⟩
                    replace hy := hy.symm
                    subst hy
                    go_wp2_with fail
                    go_ret2
                    exact ⟨by rw [HF.out]; rfl, HK1.out⟩
                · have q6 : decide ((200 : Int) < nm.size) = true := decide_eq_true (by omega)
                  have HF : Hid (r = none) := by
                    show _ = _
                    have ho : ob = false := by rw [HOBJ.out, decide_eq_false (p := nm.size ≤ 200) hs, Bool.and_false]
                    rw [HR.out, ho, decide_eq_false hs]
                    simp
                  clear HR hs
                  go_wp2_with fail
                  go_ret2
                  exact ⟨by rw [HF.out]; rfl, HK1.out⟩
              · have q3 : ((kd : Int) != 3) = true := by rw [bne_iff_ne]; omega
                have hfm : fm = false := by rw [HM3.out]; exact decide_eq_false h3
                have HF : Hid (r = none) := by
                  show _ = _
                  rw [HR.out, hfm]
                  simp
                clear HR h3 hfm
                go_wp2_with fail
                go_ret2
                exact ⟨by rw [HF.out]; rfl, HK1.out⟩
end Go.Proofs.Ytccpbgkaeldlaaa
