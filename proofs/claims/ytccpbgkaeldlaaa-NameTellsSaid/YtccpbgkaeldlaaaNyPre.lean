/- What keys begin with: the program's. -/
import Derived.Test.YtccpbgkaeldlaaaNyEnc
namespace Go.Proofs.Ytccpbgkaeldlaaa
open Go.RowKit _root_.Go.Proofs.Ytccpbgkaeldlaaa.Nm Ny
set_option linter.unusedVariables false
set_option linter.unusedSimpArgs false
def prefF (deep : Int) (is fb bb fm sz ob fp : Bool) (l1 l2 l3 l4 l5 : List UInt8) : Option (List UInt8) :=
  if deep = 1 then (if is = true then some l1 else none) else if ¬ (fb = true ∧ bb = true) then none else if deep = 2 then some l2 else
  if deep = 3 then (if fm = true ∧ sz = true then some l3 else none) else if deep = 4 then (if fm = true ∧ ob = true then some l4 else if fp = true then some l5 else none) else none
/-- What keys begin with. -/
def prefO (k : Key) (deep : Int) : Option (List UInt8) :=
  prefF deep (isK k.kd) (hasB k.kd) (bktB k.bk.data.toList) (hasM k.kd) (decide (k.nm.size ≤ 200)) (objB k.nm.size) (hasP k.kd) [UInt8.ofNat k.kd] ([UInt8.ofNat k.kd] ++ (k.bk.data.toList ++ [0]))
    (([UInt8.ofNat k.kd] ++ (k.bk.data.toList ++ [0])) ++ nmL k.nm.data.toList) ((([UInt8.ofNat k.kd] ++ (k.bk.data.toList ++ [0])) ++ nmL k.nm.data.toList) ++ [0, 1]) (([UInt8.ofNat k.kd] ++ (k.bk.data.toList ++ [0])) ++ be 8 k.n)
def prefV (o : Option (List UInt8)) : Value :=
  match o with
  | none => .tuple #[.string ⟨#[]⟩, .int .i64 2]
  | some l => .tuple #[.string ⟨l.toArray⟩, .int .i64 0]
set_option maxHeartbeats 8000000 in
set_option maxRecDepth 100000 in
theorem pPrefix_any (k : Key) (deep : Int) (w : World) (wk : k.Wf) :
    Calls Try.prog 12 #[k.val, .int .i64 deep] w fun e w' => e = .returned (prefV (prefO k deep)) ∧ Kept w w' := by
  have HX := Lib.hid (KyAt.laid w 24 k)
  have HK := Lib.hid ((Kept.refl w).alloc (.cells #[.int .u8 (k.kd : Nat), .string k.bk, .string k.nm, .int .u64 (k.n : Nat), .int .i64 k.pt] 24))
  have HH := Lib.hid (fun W => has_any k.kd W)
  have HFL := Lib.hid (fun W => FdAt.laid W 47 k.kd)
  have HKD := Lib.hid (kd_byte wk.kd)
  have HBK := Lib.hid (fun W => pBucket_any k.bk W wk.bk)
  have HOB := Lib.hid (fun W => pObject_any k.nm W wk.nm)
  have HIB : Hid (isK k.kd = false → hasB k.kd = false) := fun h => by
    unfold isK at h
    unfold hasB
    simp only [Bool.and_eq_false_iff, decide_eq_false_iff_not] at h ⊢
    omega
  have HBZ : Hid (bktB k.bk.data.toList = true → k.bk.size ≤ 63) := fun h => by
    unfold bktB at h
    simp only [Bool.and_eq_true, decide_eq_true_eq, list_size] at h
    exact h.1.2
  have HOZ : Hid (objB k.nm.size = true → k.nm.size ≤ 200) := fun h => by
    unfold objB at h
    simp only [Bool.and_eq_true, decide_eq_true_eq] at h
    exact h.2
  obtain ⟨r, hr⟩ : ∃ r, prefO k deep = r := ⟨_, rfl⟩
  have HR := Lib.hid hr.symm
  rw [hr]
  clear hr
  unfold prefO at HR
  have hn := wk.n
  have hnz := wk.nm
  unfold maxLen at hnz
  obtain ⟨kd, bk, nm, n, pt⟩ := k
  unfold fdV at HH
  unfold Key.val at *
  dsimp only at *
  have HFB : Hid (∀ (fb fm fn fp : Bool), hasB kd = fb → hasM kd = fm → hasN kd = fn → hasP kd = fp → ∀ (W : World) (g : Nat), FdAt W g kd → W.cell? ⟨g, 0, none⟩ = some (.bool fb) ∧ W.cell? ⟨g, 1, none⟩ = some (.bool fm) ∧ W.cell? ⟨g, 2, none⟩ = some (.bool fn) ∧ W.cell? ⟨g, 3, none⟩ = some (.bool fp)) := fun _ _ _ _ e1 e2 e3 e4 W g h => by subst e1 e2 e3 e4; exact ⟨h.c0, h.c1, h.c2, h.c3⟩
  replace HFB := Lib.hid (HFB.out _ _ _ _ rfl rfl rfl rfl)
  generalize isK kd = is at *
  generalize hasB kd = fb at *
  generalize hasM kd = fm at *
  generalize hasN kd = fn at *
  generalize hasP kd = fp at *
  generalize bktB bk.data.toList = bb at *
  generalize hob : objB nm.size = ob at *
  clear hob
  generalize hsz : decide (nm.size ≤ 200) = sz at *
  have HSZ := Lib.hid hsz
  clear hsz
  generalize UInt8.ofNat kd = kb at *
  go_enter Try.func12, Try.ntmps12
  go_upto_region 1 with fail
  generalize w.alloc (.cells #[.int .u8 (kd : Nat), .string bk, .string nm, .int .u64 (n : Nat), .int .i64 pt] 24) = w0 at *
  obtain ⟨c0, c1, c2, c3, c4, _, _, _, _, _⟩ := HX.out
  dsimp only at c0 c3
  go_wp2_with fail
  refine (HH.out _).mono ?_
  rintro e w2 ⟨rfl, hk2⟩
  clear c0 c1 c2 c3 c4
  have HX2 := Lib.hid (HX.out.kept hk2)
  have HK2 := Lib.hid (HK.out.trans hk2)
  clear hk2 HX HK HH
  go_upto_region 2 with fail
  have HF := Lib.hid (HFL.out w2)
  have hk3 : Kept w2 (w2.alloc (.cells #[.bool fb, .bool fm, .bool fn, .bool fp] 47)) := (Kept.refl _).alloc _
  have HX3 := Lib.hid (HX2.out.kept hk3)
  have HK3 := Lib.hid (HK2.out.trans hk3)
  clear hk3 HX2 HK2 HFL
  generalize w2.alloc (.cells #[.bool fb, .bool fm, .bool fn, .bool fp] 47) = w3 at *
  generalize w2.heap.size = g1 at *
  obtain ⟨B, hB⟩ : ∃ B, w3.heap.size = B := ⟨_, rfl⟩
  have HBB := Lib.hid hB
  have HCX : Hid (∀ W, Below B w3 W → (W.cell? ⟨w.heap.size, 0, none⟩ = some (.int .u8 (kd : Nat)) ∧ W.cell? ⟨w.heap.size, 1, none⟩ = some (.string bk) ∧ W.cell? ⟨w.heap.size, 2, none⟩ = some (.string nm) ∧ W.cell? ⟨w.heap.size, 3, none⟩ = some (.int .u64 (n : Nat)) ∧ W.cell? ⟨w.heap.size, 4, none⟩ = some (.int .i64 pt)) ∧ (W.cell? ⟨g1, 0, none⟩ = some (.bool fb) ∧ W.cell? ⟨g1, 1, none⟩ = some (.bool fm) ∧ W.cell? ⟨g1, 2, none⟩ = some (.bool fn) ∧ W.cell? ⟨g1, 3, none⟩ = some (.bool fp)) ∧ B ≤ W.heap.size) := fun W hb => by
    have h1 := HX3.out.below hb (by rw [← hB]; exact HX3.out.lt)
    have h2 := HF.out.below hb (by rw [← hB]; exact HF.out.lt)
    exact ⟨⟨h1.c0, h1.c1, h1.c2, h1.c3, h1.c4⟩, HFB.out W g1 h2, by rw [← hB]; exact hb.size⟩
  clear hB
  obtain ⟨⟨c0, c1, c2, c3, c4⟩, ⟨d0, d1, d2, d3⟩, _⟩ := HCX.out w3 (Below.refl _ _)
  go_upto_region 3 with fail
  have HG : Hid (GatU B (.slice (some ⟨w3.heap.size, 0, none⟩) 1 1) [kb] (w3.alloc (.cells #[.int .u8 (kd : Nat)] 5)) ∧ Below B w3 (w3.alloc (.cells #[.int .u8 (kd : Nat)] 5))) := ⟨by rw [← HKD.out]; exact GatU.one kb (Nat.le_of_eq HBB.out.symm), (Below.refl _ _).alloc (Nat.le_of_eq HBB.out.symm) _⟩
  have HKW : Hid (∀ W, Below B w3 W → Kept w W) := fun W h => HK3.out.trans (h.mono (Nat.le_of_eq HBB.out))
  clear c0 c1 c2 c3 c4 d0 d1 d2 d3 HX3 HF HFB HK3
  generalize w3.alloc (.cells #[.int .u8 (kd : Nat)] 5) = w4 at *
  obtain ⟨⟨c0, c1, c2, c3, c4⟩, ⟨d0, d1, d2, d3⟩, hsz4⟩ := HCX.out w4 HG.out.2
  by_cases h1 : deep = 1
  · have q1 : (deep == 1) = true := by rw [h1]; rfl
    cases is
    · have hfb := HIB.out rfl
      subst hfb
      have HF : Hid (r = none) := by show _ = _; rw [HR.out, h1]; rfl
      clear h1 HR
      go_wp2_with fail
      go_ret2
      exact ⟨by rw [HF.out]; rfl, HKW.out _ HG.out.2⟩
    · have HF : Hid (r = some [kb]) := by show _ = _; rw [HR.out, h1]; rfl
      have hcv := HG.out.1.text (by simp)
      clear h1 HR
      go_wp2_with fail
      go_ret2
      exact ⟨by rw [HF.out]; rfl, HKW.out _ HG.out.2⟩
  · have q1 : (deep == 1) = false := beq_eq_false_iff_ne.2 h1
    unfold prefF at HR
    rw [if_neg h1] at HR
    clear h1
    cases fb
    · have HF : Hid (r = none) := by show _ = _; rw [HR.out, if_pos (by simp)]
      clear HR
      go_wp2_with fail
      go_ret2
      exact ⟨by rw [HF.out]; rfl, HKW.out _ HG.out.2⟩
    · go_wp2_with fail
      refine (HBK.out _).mono ?_
      rintro e w5 ⟨rfl, hk5⟩
      have HG5 : Hid (GatU B (.slice (some ⟨w3.heap.size, 0, none⟩) 1 1) [kb] w5 ∧ Below B w3 w5) := ⟨HG.out.1.kept hk5, HG.out.2.trans (hk5.mono hsz4)⟩
      clear hk5 HG c0 c1 c2 c3 c4 d0 d1 d2 d3 hsz4
      obtain ⟨⟨c0, c1, c2, c3, c4⟩, ⟨d0, d1, d2, d3⟩, hsz5⟩ := HCX.out w5 HG5.out.2
      cases bb
      · have HF : Hid (r = none) := by show _ = _; rw [HR.out, if_pos (by simp)]
        clear HR
        go_wp2_with fail
        go_ret2
        exact ⟨by rw [HF.out]; rfl, HKW.out _ HG5.out.2⟩
      · rw [if_neg (by simp)] at HR
        have hbz := HBZ.out rfl
        have HBL : Hid (bk.data.toList.length ≤ 63) := by show _ ≤ _; rw [list_size]; exact hbz
        go_wp2_with fail
        refine (putBucket_any B _ [kb] bk _ hsz5 HG5.out.1 (by simp; omega)).mono ?_
        rintro e w6 ⟨v6, rfl, hG6, hB6⟩
        have HG6 : Hid (GatU B v6 ([kb] ++ (bk.data.toList ++ [0])) w6 ∧ Below B w3 w6) := ⟨hG6, HG5.out.2.trans hB6⟩
        have HL2 : Hid (([kb] ++ (bk.data.toList ++ [0])).length ≤ 65) := by show _ ≤ _; have := HBL.out; simp only [List.length_append, List.length_cons, List.length_nil]; omega
        generalize [kb] ++ (bk.data.toList ++ [0]) = l2 at *
        clear hG6 hB6 HG5 c0 c1 c2 c3 c4 d0 d1 d2 d3 hsz5
        obtain ⟨⟨c0, c1, c2, c3, c4⟩, ⟨d0, d1, d2, d3⟩, hsz6⟩ := HCX.out w6 HG6.out.2
        by_cases h2 : deep = 2
        · have q2 : (deep == 2) = true := by rw [h2]; rfl
          have HF : Hid (r = some l2) := by show _ = _; rw [HR.out, if_pos h2]
          have hcv := HG6.out.1.text (by have := HL2.out; omega)
          clear h2 HR
          go_wp2_with fail
          go_ret2
          exact ⟨by rw [HF.out]; rfl, HKW.out _ HG6.out.2⟩
        · have q2 : (deep == 2) = false := beq_eq_false_iff_ne.2 h2
          rw [if_neg h2] at HR
          clear h2
          by_cases h3 : deep = 3
          · have q3 : (deep == 3) = true := by rw [h3]; rfl
            have q4 : (deep == 4) = false := beq_eq_false_iff_ne.2 (by omega)
            rw [if_pos h3] at HR
            clear h3
            by_cases hfs : fm = true ∧ sz = true
            · obtain ⟨rfl, rfl⟩ := hfs
              have HF : Hid (r = some (l2 ++ nmL nm.data.toList)) := by show _ = _; rw [HR.out, if_pos ⟨rfl, rfl⟩]
              have hnm : nm.size ≤ 200 := of_decide_eq_true HSZ.out
              have qz : decide ((nm.size : Int) ≤ 200) = true := decide_eq_true (by omega)
              clear HR
              go_wp2_with fail
              refine (putName_any B _ l2 nm _ hsz6 HG6.out.1 (by have := HL2.out; omega)).mono ?_
              rintro e w7 ⟨v7, rfl, hG7, hB7⟩
              have hcv := hG7.text (by have := HL2.out; have h9 := nmL_length nm.data.toList; rw [list_size] at h9; rw [List.length_append]; omega)
              have HB7 := Lib.hid (HG6.out.2.trans hB7)
              clear hG7 hB7 c0 c1 c2 c3 c4 d0 d1 d2 d3
              go_wp2_with fail
              go_ret2
              exact ⟨by rw [HF.out]; rfl, HKW.out _ HB7.out⟩
            · have HF : Hid (r = none) := by show _ = _; rw [HR.out, if_neg hfs]
              have hw : fm = false ∨ (fm = true ∧ decide ((nm.size : Int) ≤ 200) = false) := by
                cases fm
                · exact .inl rfl
                · right
                  refine ⟨rfl, decide_eq_false (fun h => hfs ⟨rfl, ?_⟩)⟩
                  rw [← HSZ.out]
                  exact decide_eq_true (by omega)
              clear hfs HR
              rcases hw with rfl | ⟨rfl, qz⟩
              all_goals
                go_wp2_with fail
                go_ret2
                exact ⟨by rw [HF.out]; rfl, HKW.out _ HG6.out.2⟩
          · have q3 : (deep == 3) = false := beq_eq_false_iff_ne.2 h3
            rw [if_neg h3] at HR
            clear h3
            by_cases h4 : deep = 4
            · have q4 : (deep == 4) = true := by rw [h4]; rfl
              rw [if_pos h4] at HR
              clear h4
              by_cases hfo : fm = true ∧ ob = true
              · obtain ⟨rfl, rfl⟩ := hfo
                have HF : Hid (r = some ((l2 ++ nmL nm.data.toList) ++ [0, 1])) := by show _ = _; rw [HR.out, if_pos ⟨rfl, rfl⟩]
                have hnm : nm.size ≤ 200 := HOZ.out rfl
                have HNL : Hid ((l2 ++ nmL nm.data.toList).length ≤ 500) := by show _ ≤ _; have := HL2.out; have h9 := nmL_length nm.data.toList; rw [list_size] at h9; rw [List.length_append]; omega
                clear HR
                go_wp2_with fail
                refine (HOB.out _).mono ?_
                rintro e w7 ⟨rfl, hw7⟩
                replace hw7 := hw7.symm
                subst hw7
                go_wp2_with fail
                refine (putName_any B _ l2 nm _ hsz6 HG6.out.1 (by have := HL2.out; omega)).mono ?_
                rintro e w7 ⟨v7, rfl, hG7, hB7⟩
                have HG7 := Lib.hid hG7
                have HB7 := Lib.hid (HG6.out.2.trans hB7)
                have hsz7 := (HCX.out w7 HB7.out).2.2
                clear hG7 hB7 c0 c1 c2 c3 c4 d0 d1 d2 d3
                go_wp2_with (at_builtin; (refine wpList_gatus _ rfl (.tmp 78) (.const (.string ⟨#[0, 1]⟩)) rfl B hsz7 _ (l2 ++ nmL nm.data.toList) rfl HG7.out ⟨#[0, 1]⟩ rfl (by have := HNL.out; show _ + 2 ≤ _; omega) ?_; intro v8 w8 hG8 hb8; have HB8 := Lib.hid (HB7.out.trans hb8); have hcv := hG8.text (by have := HNL.out; rw [List.length_append]; show _ + 2 ≤ _; omega); clear hG8 hb8))
                go_ret2
                exact ⟨by rw [HF.out]; first | rfl | (rw [List.append_assoc]; rfl), HKW.out _ HB8.out⟩
              · rw [if_neg hfo] at HR
                have hw : fm = false ∨ (fm = true ∧ ob = false) := by
                  cases fm
                  · exact .inl rfl
                  · cases ob
                    · exact .inr ⟨rfl, rfl⟩
                    · exact absurd ⟨rfl, rfl⟩ hfo
                clear hfo
                cases fp
                · have HF : Hid (r = none) := by show _ = _; rw [HR.out, if_neg (by simp)]
                  clear HR
                  rcases hw with rfl | ⟨rfl, rfl⟩
                  all_goals
                    go_wp2_with (go_at_call 16; refine (HOB.out _).mono ?_; rintro e w7 ⟨rfl, hw7⟩; replace hw7 := hw7.symm; subst hw7)
                    go_ret2
                    exact ⟨by rw [HF.out]; rfl, HKW.out _ HG6.out.2⟩
                · have HF : Hid (r = some (l2 ++ be 8 n)) := by show _ = _; rw [HR.out, if_pos rfl]
                  clear HR
                  rcases hw with rfl | ⟨rfl, rfl⟩
                  all_goals
                    go_wp2_with (go_at_call 16; refine (HOB.out _).mono ?_; rintro e w7 ⟨rfl, hw7⟩; replace hw7 := hw7.symm; subst hw7)
                    refine (putNumber_any B _ l2 n 8 _ hsz6 HG6.out.1 (by have := HL2.out; omega) (by omega) hn).mono ?_
                    rintro e w7 ⟨v7, rfl, hG7, hB7⟩
                    have hcv := hG7.text (by have := HL2.out; rw [List.length_append, be_length]; omega)
                    have HB7 := Lib.hid (HG6.out.2.trans hB7)
                    clear hG7 hB7 c0 c1 c2 c3 c4 d0 d1 d2 d3
                    go_wp2_with fail
                    go_ret2
                    exact ⟨by rw [HF.out]; rfl, HKW.out _ HB7.out⟩
            · have q4 : (deep == 4) = false := beq_eq_false_iff_ne.2 h4
              have HF : Hid (r = none) := by show _ = _; rw [HR.out, if_neg h4]
              clear h4 HR
              go_wp2_with fail
              go_ret2
              exact ⟨by rw [HF.out]; rfl, HKW.out _ HG6.out.2⟩
end Go.Proofs.Ytccpbgkaeldlaaa
