/- Which of two keys comes first: the document's. -/
import Derived.Test.YtccpbgkaeldlaaaNyCmp2
namespace Go.Proofs.Ytccpbgkaeldlaaa
open Go.RowKit _root_.Go.Proofs.Ytccpbgkaeldlaaa.Nm Ny
set_option linter.unusedVariables false
set_option linter.unusedSimpArgs false
theorem cmpB_step (a b : List UInt8) (k : Nat) (ha : k < a.length) (hb : k < b.length) : Lib.compareBytes (a.drop k) (b.drop k) = if a[k]! = b[k]! then Lib.compareBytes (a.drop (k + 1)) (b.drop (k + 1)) else if a[k]!.toNat < b[k]!.toNat then -1 else 1 := by
  rw [List.drop_eq_getElem_cons ha, List.drop_eq_getElem_cons hb, getElem!_pos a k ha, getElem!_pos b k hb]
  unfold Lib.compareBytes
  by_cases e : a[k] = b[k]
  · rw [if_pos e, e, if_neg (UInt8.lt_irrefl _), if_neg (UInt8.lt_irrefl _)]
    cases List.drop (k + 1) a <;> cases List.drop (k + 1) b <;> rfl
  · rw [if_neg e]
    have := ne_nat e
    by_cases h : a[k] < b[k]
    · rw [if_pos h, if_pos (lt_nat.1 h)]
    · have h1 : ¬ a[k].toNat < b[k].toNat := fun h2 => h (lt_nat.2 h2)
      rw [if_neg h, if_neg h1, if_pos (lt_nat.2 (by omega))]
theorem cmpB_end (a b : List UInt8) (k : Nat) (ha : k ≤ a.length) (hb : k ≤ b.length) (h : k = a.length ∨ k = b.length) : Lib.compareBytes (a.drop k) (b.drop k) = cmpN a.length b.length := by
  by_cases h1 : k = a.length
  · rw [List.drop_of_length_le (by omega)]
    by_cases h2 : k = b.length
    · rw [List.drop_of_length_le (by omega), ← h1, ← h2, cmpN_self]; rfl
    · rw [List.drop_eq_getElem_cons (by omega)]
      unfold Lib.compareBytes cmpN
      rw [if_pos (by omega)]
  · have h2 : k = b.length := by omega
    rw [List.drop_eq_getElem_cons (by omega), show b.drop k = [] from List.drop_of_length_le (by omega)]
    unfold Lib.compareBytes cmpN
    rw [if_neg (by omega), if_pos (by omega)]
set_option maxHeartbeats 1000000 in
set_option maxRecDepth 100000 in
theorem rTexts_any (a b : ByteArray) (w : World) (ha : a.size ≤ maxLen) (hb : b.size ≤ maxLen) :
    Calls Try.prog 43 #[.string a, .string b] w fun e w' => e = .returned (.int .i64 (Lib.compareBytes a.data.toList b.data.toList)) ∧ Kept w w' := by
  unfold maxLen at ha hb
  have HAL := Lib.hid (list_size a)
  have HBL := Lib.hid (list_size b)
  have HNU := Lib.hid (fun W => rNumbers_any a.size b.size W)
  obtain ⟨c, hc⟩ : ∃ c, Lib.compareBytes a.data.toList b.data.toList = c := ⟨_, rfl⟩
  have HC := Lib.hid hc
  rw [hc]
  clear hc
  go_enter Try.func43, Try.ntmps43
  go_wp2_with fail
  go_loopw [5] (fun i wr => ∃ k : Nat, k ≤ a.size ∧ k ≤ b.size ∧ i = .int .i64 k ∧ Hid (Lib.compareBytes (a.data.toList.drop k) (b.data.toList.drop k) = c ∧ Kept w wr)) (fun i _ => a.size - (intOf i).toNat)
  case atStart => exact ⟨0, Nat.zero_le _, Nat.zero_le _, rfl, HC.out, Kept.refl _⟩
  case round =>
    obtain ⟨k, hk, hkb, rfl, HIK⟩ := hrel
    have HI := Lib.hid HIK.out.1
    have HKW := Lib.hid HIK.out.2
    clear HIK
    by_cases h1 : k < a.size
    · have b1 : decide ((k : Int) < a.size) = true := decide_eq_true (by omega)
      by_cases h2 : k < b.size
      · have b2 : decide ((k : Int) < b.size) = true := decide_eq_true (by omega)
        obtain ⟨x, hx⟩ : ∃ x, a[k] = x := ⟨_, rfl⟩
        obtain ⟨y, hy⟩ : ∃ y, b[k] = y := ⟨_, rfl⟩
        have HS := Lib.hid (cmpB_step a.data.toList b.data.toList k (by rw [HAL.out]; exact h1) (by rw [HBL.out]; exact h2))
        rw [HI.out, getElem!_pos a.data.toList k (by rw [HAL.out]; exact h1), getElem!_pos b.data.toList k (by rw [HBL.out]; exact h2), show a.data.toList[k]'(by rw [HAL.out]; exact h1) = x from hx, show b.data.toList[k]'(by rw [HBL.out]; exact h2) = y from hy] at HS
        by_cases e : x = y
        · have q1 : (((x.toNat : Nat) : Int) != ((y.toNat : Nat) : Int)) = false := by rw [e]; simp
          have HI2 : Hid (Lib.compareBytes (a.data.toList.drop (k + 1)) (b.data.toList.drop (k + 1)) = c) := by show _ = _; rw [HS.out, if_pos e]
          clear HI HS e
          go_wp2_with fail
          go_region
          all_goals
            go_wp2_with fail
            exact ⟨⟨k + 1, by omega, by omega, by go_num, HI2.out, HKW.out.drew⟩, by simp [intOf]; omega⟩
        · have q1 : (((x.toNat : Nat) : Int) != ((y.toNat : Nat) : Int)) = true := by rw [bne_iff_ne]; have := ne_nat e; omega
          by_cases l : x.toNat < y.toNat
          · have HF : Hid (c = -1) := by show _ = _; rw [HS.out, if_neg e, if_pos l]
            have q2 : decide (((x.toNat : Nat) : Int) < ((y.toNat : Nat) : Int)) = true := decide_eq_true (by omega)
            clear HI HS e HC
            go_wp2_with fail
            go_region
            all_goals
              go_wp2_with fail
              go_region
              all_goals
                go_wp2_with fail
                go_ret
                exact ⟨by rw [HF.out]; rfl, HKW.out.drew.drew⟩
          · have HF : Hid (c = 1) := by show _ = _; rw [HS.out, if_neg e, if_neg l]
            have q2 : decide (((x.toNat : Nat) : Int) < ((y.toNat : Nat) : Int)) = false := decide_eq_false (by omega)
            clear HI HS e HC
            go_wp2_with fail
            go_region
            all_goals
              go_wp2_with fail
              go_region
              all_goals
                go_wp2_with fail
                go_ret
                exact ⟨by rw [HF.out]; rfl, HKW.out.drew.drew⟩
      · have b2 : decide ((k : Int) < b.size) = false := decide_eq_false (by omega)
        have HF : Hid (cmpN a.size b.size = c) := by show _ = _; rw [← HI.out, cmpB_end _ _ k (by rw [HAL.out]; exact hk) (by rw [HBL.out]; exact hkb) (.inr (by rw [HBL.out]; omega)), HAL.out, HBL.out]
        clear HI HC
        go_wp2_with fail
        refine (HNU.out _).mono ?_
        rintro e w1 ⟨rfl, rfl⟩
        go_wp2_with fail
        go_ret
        exact ⟨by rw [← HF.out]; rfl, HKW.out⟩
    · have b1 : decide ((k : Int) < a.size) = false := decide_eq_false (by omega)
      have HF : Hid (cmpN a.size b.size = c) := by show _ = _; rw [← HI.out, cmpB_end _ _ k (by rw [HAL.out]; exact hk) (by rw [HBL.out]; exact hkb) (.inl (by rw [HAL.out]; omega)), HAL.out, HBL.out]
      clear HI HC
      go_wp2_with fail
      refine (HNU.out _).mono ?_
      rintro e w1 ⟨rfl, rfl⟩
      go_wp2_with fail
      go_ret
      exact ⟨by rw [← HF.out]; rfl, HKW.out⟩
theorem or5_same (b c d e : Int) : or5 0 b c d e = if b ≠ 0 then b else if c ≠ 0 then c else if d ≠ 0 then d else e := by unfold or5; simp
theorem cmpK_ways (kd kd' n n' : Nat) (c2 c3 pt pt' r : Int) (hn : n < 18446744073709551616) (hn' : n' < 18446744073709551616) (hr : r = or5 (cmpN kd kd') c2 c3 (cmpN (tn kd n) (tn kd' n')) (cmpN pt pt')) :
    (kd = kd' → c2 ≠ 0 → r = c2) ∧ (kd = kd' → c2 = 0 → c3 ≠ 0 → r = c3) ∧ (kd = kd' → c2 = 0 → c3 = 0 → kd = 3 → cmpN n' n ≠ 0 → r = cmpN n' n) ∧ (kd = kd' → c2 = 0 → c3 = 0 → kd = 3 → cmpN n' n = 0 → n = n' ∧ r = cmpN pt pt') ∧ (kd = kd' → c2 = 0 → c3 = 0 → kd ≠ 3 → cmpN n n' ≠ 0 → r = cmpN n n') ∧ (kd = kd' → c2 = 0 → c3 = 0 → kd ≠ 3 → cmpN n n' = 0 → r = cmpN pt pt') ∧ (kd ≠ kd' → r = cmpN kd kd') := by
  have h0 : kd = kd' → r = if c2 ≠ 0 then c2 else if c3 ≠ 0 then c3 else if cmpN (tn kd n) (tn kd n') ≠ 0 then cmpN (tn kd n) (tn kd n') else cmpN pt pt' := fun e => by
    subst e
    rw [hr, cmpN_self, or5_same]
  have h3 : kd = 3 → cmpN (tn kd n) (tn kd n') = cmpN n' n := fun e => by
    subst e
    unfold tn cmpN
    simp only [if_true]
    by_cases h1 : (n' : Int) < n
    · rw [if_pos h1, if_pos (by omega)]
    · rw [if_neg h1, if_neg (by omega)]
      by_cases h2 : (n : Int) < n'
      · rw [if_pos h2, if_pos (by omega)]
      · rw [if_neg h2, if_neg (by omega)]
  have h4 : kd ≠ 3 → cmpN (tn kd n) (tn kd n') = cmpN n n' := fun e => by
    unfold tn
    rw [if_neg e, if_neg e]
  have h5 : cmpN n' n = 0 → n = n' := fun e => by
    unfold cmpN at e
    split at e
    · cases e
    · split at e
      · cases e
      · omega
  refine ⟨fun e h => ?_, fun e h h' => ?_, fun e h h' k d => ?_, fun e h h' k d => ⟨h5 d, ?_⟩, fun e h h' k d => ?_, fun e h h' k d => ?_, fun e => ?_⟩
  · rw [h0 e, if_pos h]
  · rw [h0 e, if_neg (by simp [h]), if_pos h']
  · rw [h0 e, if_neg (by simp [h]), if_neg (by simp [h']), h3 k, if_pos d]
  · rw [h0 e, if_neg (by simp [h]), if_neg (by simp [h']), h3 k, if_neg (by simp [d])]
  · rw [h0 e, if_neg (by simp [h]), if_neg (by simp [h']), h4 k, if_pos d]
  · rw [h0 e, if_neg (by simp [h]), if_neg (by simp [h']), h4 k, if_neg (by simp [d])]
  · rw [hr]
    have : cmpN kd kd' ≠ 0 := by unfold cmpN; split; · decide
                                 · split; · decide
                                   · omega
    unfold or5
    rw [if_pos this]
set_option maxHeartbeats 4000000 in
set_option maxRecDepth 100000 in
theorem rCompare_any (a b : Key) (w : World) (wa : a.Wf) (wb : b.Wf) :
    Calls Try.prog 21 #[a.val, b.val] w fun e w' => e = .returned (.int .i64 (cmpK a b)) ∧ Kept w w' := by
  have HO : Hid (cmpK a b = or5 (cmpN a.kd b.kd) (Lib.compareBytes a.bk.data.toList b.bk.data.toList) (Lib.compareBytes a.nm.data.toList b.nm.data.toList) (cmpN (tn a.kd a.n) (tn b.kd b.n)) (cmpN a.pt b.pt)) := rfl
  have HC1 := Lib.hid (fun W => rNumbers_any a.kd b.kd W)
  have HC2 := Lib.hid (fun W => rTexts_any a.bk b.bk W wa.bk wb.bk)
  have HC3 := Lib.hid (fun W => rTexts_any a.nm b.nm W wa.nm wb.nm)
  have HC4 := Lib.hid (fun W => rNumbers_any b.n a.n W)
  have HC5 := Lib.hid (fun W => rNumbers_any a.n b.n W)
  have HA := Lib.hid (KyAt.laid w 24 a)
  have HB := Lib.hid (fun W => KyAt.laid W 24 b)
  have HK := Lib.hid ((Kept.refl w).alloc (.cells #[.int .u8 (a.kd : Nat), .string a.bk, .string a.nm, .int .u64 (a.n : Nat), .int .i64 a.pt] 24))
  have HKB : Hid (∀ W : World, Kept W (W.alloc (.cells #[.int .u8 (b.kd : Nat), .string b.bk, .string b.nm, .int .u64 (b.n : Nat), .int .i64 b.pt] 24))) := fun W => (Kept.refl W).alloc _
  have hk1 := wa.kd
  have hk2 := wb.kd
  have hn1 := wa.n
  have hn2 := wb.n
  obtain ⟨r, hr⟩ : ∃ r, cmpK a b = r := ⟨_, rfl⟩
  rw [hr] at HO ⊢
  clear hr wa wb
  obtain ⟨kd, bk, nm, n, pt⟩ := a
  obtain ⟨kd', bk', nm', n', pt'⟩ := b
  unfold Key.val
  dsimp only at *
  generalize Lib.compareBytes bk.data.toList bk'.data.toList = c2 at *
  generalize Lib.compareBytes nm.data.toList nm'.data.toList = c3 at *
  have hw1 : IntKind.u64.wrap (kd : Int) = (kd : Int) := IntWalk.u64_in _ (by omega)
  have hw2 : IntKind.u64.wrap (kd' : Int) = (kd' : Int) := IntWalk.u64_in _ (by omega)
  have HX : Hid (KyAt ((w.alloc (.cells #[.int .u8 (kd : Nat), .string bk, .string nm, .int .u64 (n : Nat), .int .i64 pt] 24)).alloc (.cells #[.int .u8 (kd' : Nat), .string bk', .string nm', .int .u64 (n' : Nat), .int .i64 pt'] 24)) w.heap.size ⟨kd, bk, nm, n, pt⟩ ∧ KyAt ((w.alloc (.cells #[.int .u8 (kd : Nat), .string bk, .string nm, .int .u64 (n : Nat), .int .i64 pt] 24)).alloc (.cells #[.int .u8 (kd' : Nat), .string bk', .string nm', .int .u64 (n' : Nat), .int .i64 pt'] 24)) (w.heap.size + 1) ⟨kd', bk', nm', n', pt'⟩ ∧ Kept w ((w.alloc (.cells #[.int .u8 (kd : Nat), .string bk, .string nm, .int .u64 (n : Nat), .int .i64 pt] 24)).alloc (.cells #[.int .u8 (kd' : Nat), .string bk', .string nm', .int .u64 (n' : Nat), .int .i64 pt'] 24))) := by
    have h2 := HB.out (w.alloc (.cells #[.int .u8 (kd : Nat), .string bk, .string nm, .int .u64 (n : Nat), .int .i64 pt] 24))
    rw [World.size_alloc] at h2
    exact ⟨HA.out.kept (HKB.out _), h2, HK.out.trans (HKB.out _)⟩
  clear HA HB HK HKB
  have HW := Lib.hid (cmpK_ways kd kd' n n' c2 c3 pt pt' r hn1 hn2 HO.out)
  have HCP : Hid (cmpN pt pt' = if pt < pt' then -1 else if pt' < pt then 1 else 0) := rfl
  generalize cmpN pt pt' = cp at *
  generalize hd : cmpN (n' : Int) n = d at *
  generalize he : cmpN (n : Int) n' = e0 at *
  generalize cmpN (kd : Int) kd' = ck at *
  have HDE : Hid (n = n' → e0 = 0) := fun e => by rw [← he, e, cmpN_self]
  clear HO hd he hn1 hn2
  go_enter Try.func21, Try.ntmps21
  go_upto_region 1 with fail
  generalize (w.alloc (.cells #[.int .u8 (kd : Nat), .string bk, .string nm, .int .u64 (n : Nat), .int .i64 pt] 24)).alloc (.cells #[.int .u8 (kd' : Nat), .string bk', .string nm', .int .u64 (n' : Nat), .int .i64 pt'] 24) = w1 at *
  obtain ⟨HX1, HX2, HK⟩ := HX.out
  replace HX1 := Lib.hid HX1
  replace HX2 := Lib.hid HX2
  replace HK := Lib.hid HK
  have HCL : Hid (∀ W, Kept w1 W → (W.cell? ⟨w.heap.size, 0, none⟩ = some (.int .u8 (kd : Nat)) ∧ W.cell? ⟨w.heap.size, 1, none⟩ = some (.string bk) ∧ W.cell? ⟨w.heap.size, 2, none⟩ = some (.string nm) ∧ W.cell? ⟨w.heap.size, 3, none⟩ = some (.int .u64 (n : Nat)) ∧ W.cell? ⟨w.heap.size, 4, none⟩ = some (.int .i64 pt)) ∧ (W.cell? ⟨w.heap.size + 1, 0, none⟩ = some (.int .u8 (kd' : Nat)) ∧ W.cell? ⟨w.heap.size + 1, 1, none⟩ = some (.string bk') ∧ W.cell? ⟨w.heap.size + 1, 2, none⟩ = some (.string nm') ∧ W.cell? ⟨w.heap.size + 1, 3, none⟩ = some (.int .u64 (n' : Nat)) ∧ W.cell? ⟨w.heap.size + 1, 4, none⟩ = some (.int .i64 pt'))) := fun W k =>
    ⟨⟨(HX1.out.kept k).c0, (HX1.out.kept k).c1, (HX1.out.kept k).c2, (HX1.out.kept k).c3, (HX1.out.kept k).c4⟩, (HX2.out.kept k).c0, (HX2.out.kept k).c1, (HX2.out.kept k).c2, (HX2.out.kept k).c3, (HX2.out.kept k).c4⟩
  clear HX HX1 HX2
  obtain ⟨⟨a0, a1, a2, a3, a4⟩, b0, b1, b2, b3, b4⟩ := HCL.out w1 (Kept.refl _)
  by_cases hk : kd = kd'
  · have q1 : ((kd : Int) != (kd' : Int)) = false := by rw [hk]; simp
    have HKK := Lib.hid hk
    clear hk
    go_wp2_with fail
    refine (HC2.out _).mono ?_
    rintro e w2 ⟨rfl, hk2⟩
    have HK2 := Lib.hid hk2
    clear hk2 a0 a1 a2 a3 a4 b0 b1 b2 b3 b4
    obtain ⟨⟨a0, a1, a2, a3, a4⟩, b0, b1, b2, b3, b4⟩ := HCL.out w2 HK2.out
    by_cases h2 : c2 = 0
    · have q2 : (c2 == 0) = true := by rw [h2]; rfl
      have HZ2 := Lib.hid h2
      clear h2
      go_wp2_with fail
      refine (HC3.out _).mono ?_
      rintro e w3 ⟨rfl, hk3⟩
      have HK3 : Hid (Kept w1 w3) := HK2.out.trans hk3
      clear hk3 a0 a1 a2 a3 a4 b0 b1 b2 b3 b4 HK2
      obtain ⟨⟨a0, a1, a2, a3, a4⟩, b0, b1, b2, b3, b4⟩ := HCL.out w3 HK3.out
      have HKF : Hid (Kept w w3) := HK.out.trans HK3.out
      by_cases h3 : c3 = 0
      · have q3 : (c3 == 0) = true := by rw [h3]; rfl
        have HZ3 := Lib.hid h3
        clear h3
        by_cases hm : kd = 3
        · have q4 : ((kd : Int) == 3) = true := by rw [hm]; rfl
          have HM3 := Lib.hid hm
          clear hm
          go_wp2_with fail
          refine (HC4.out _).mono ?_
          rintro e w4 ⟨rfl, rfl⟩
          by_cases h4 : d = 0
          · have q5 : (d == 0) = true := by rw [h4]; rfl
            have HR := Lib.hid (HW.out.2.2.2.1 HKK.out HZ2.out HZ3.out HM3.out h4)
            have HE0 : Hid (e0 = 0) := HDE.out HR.out.1
            have q6 : (e0 == 0) = true := by rw [HE0.out]; rfl
            clear h4
            go_wp2_with fail
            refine (HC5.out _).mono ?_
            rintro e w5 ⟨rfl, rfl⟩
            by_cases hp : pt = pt'
            · have q7 : (pt != pt') = false := by rw [hp]; simp
              have HF : Hid (r = 0) := by show _ = _; rw [HR.out.2, HCP.out, if_neg (by omega), if_neg (by omega)]
              have HEZ : Hid (e0 = 0) := by show e0 = 0; simpa using q6
              clear hp
              go_wp2_with fail
              go_ret
              exact ⟨by rw [HF.out, ← HEZ.out]; rfl, HKF.out⟩
            · have q7 : (pt != pt') = true := by rw [bne_iff_ne]; exact hp
              by_cases hl : pt < pt'
              · have HF : Hid (r = -1) := by show _ = _; rw [HR.out.2, HCP.out, if_pos hl]
                clear hp
                go_wp2_with fail
                go_ret
                exact ⟨by rw [HF.out]; rfl, HKF.out⟩
              · have HF : Hid (r = 1) := by show _ = _; rw [HR.out.2, HCP.out, if_neg hl, if_pos (by omega)]
                clear hp
                go_wp2_with fail
                go_ret
                exact ⟨by rw [HF.out]; rfl, HKF.out⟩
          · have q5 : (d == 0) = false := beq_eq_false_iff_ne.2 h4
            have HR := Lib.hid (HW.out.2.2.1 HKK.out HZ2.out HZ3.out HM3.out h4)
            clear h4
            go_wp2_with fail
            go_ret
            exact ⟨by rw [HR.out]; rfl, HKF.out⟩
        · have q4 : ((kd : Int) == 3) = false := beq_eq_false_iff_ne.2 (by omega)
          have HM3 := Lib.hid hm
          clear hm
          by_cases h4 : e0 = 0
          · have q6 : (e0 == 0) = true := by rw [h4]; rfl
            have HR0 := Lib.hid (HW.out.2.2.2.2.2.1 HKK.out HZ2.out HZ3.out HM3.out h4)
            have HR : Hid (True ∧ r = cp) := ⟨trivial, HR0.out⟩
            clear h4 HR0
            go_wp2_with fail
            refine (HC5.out _).mono ?_
            rintro e w5 ⟨rfl, rfl⟩
            by_cases hp : pt = pt'
            · have q7 : (pt != pt') = false := by rw [hp]; simp
              have HF : Hid (r = 0) := by show _ = _; rw [HR.out.2, HCP.out, if_neg (by omega), if_neg (by omega)]
              have HEZ : Hid (e0 = 0) := by show e0 = 0; simpa using q6
              clear hp
              go_wp2_with fail
              go_ret
              exact ⟨by rw [HF.out, ← HEZ.out]; rfl, HKF.out⟩
            · have q7 : (pt != pt') = true := by rw [bne_iff_ne]; exact hp
              by_cases hl : pt < pt'
              · have HF : Hid (r = -1) := by show _ = _; rw [HR.out.2, HCP.out, if_pos hl]
                clear hp
                go_wp2_with fail
                go_ret
                exact ⟨by rw [HF.out]; rfl, HKF.out⟩
              · have HF : Hid (r = 1) := by show _ = _; rw [HR.out.2, HCP.out, if_neg hl, if_pos (by omega)]
                clear hp
                go_wp2_with fail
                go_ret
                exact ⟨by rw [HF.out]; rfl, HKF.out⟩
          · have q6 : (e0 == 0) = false := beq_eq_false_iff_ne.2 h4
            have HR := Lib.hid (HW.out.2.2.2.2.1 HKK.out HZ2.out HZ3.out HM3.out h4)
            clear h4
            go_wp2_with fail
            refine (HC5.out _).mono ?_
            rintro e w5 ⟨rfl, rfl⟩
            go_wp2_with fail
            go_ret
            exact ⟨by rw [HR.out]; rfl, HKF.out⟩
      · have q3 : (c3 == 0) = false := beq_eq_false_iff_ne.2 h3
        have HR := Lib.hid (HW.out.2.1 HKK.out HZ2.out h3)
        clear h3
        go_wp2_with fail
        go_ret
        exact ⟨by rw [HR.out]; rfl, HKF.out⟩
    · have q2 : (c2 == 0) = false := beq_eq_false_iff_ne.2 h2
      have HR := Lib.hid (HW.out.1 HKK.out h2)
      clear h2
      go_wp2_with fail
      go_ret
      exact ⟨by rw [HR.out]; rfl, HK.out.trans HK2.out⟩
  · have q1 : ((kd : Int) != (kd' : Int)) = true := by rw [bne_iff_ne]; omega
    have HR := Lib.hid (HW.out.2.2.2.2.2.2 hk)
    clear hk
    go_wp2_with fail
    refine (HC1.out _).mono ?_
    rintro e w2 ⟨rfl, rfl⟩
    go_wp2_with fail
    go_ret
    exact ⟨by rw [HR.out]; rfl, HK.out⟩
end Go.Proofs.Ytccpbgkaeldlaaa
