/- What the program's calls on matrices answer: Pick. -/
import Derived.Test.YtlmoeaphikdjnaaMatCode4
namespace Go.Proofs.Ytlmoeaphikdjnaa
open Go.RowKit Gf
set_option linter.unusedVariables false
set_option maxHeartbeats 1000000 in
set_option maxRecDepth 100000 in
theorem pPick_any (a b : Option Addr) (ca cb : Nat) (ss : List ByteArray) (rs : List Int) (w : World) (hS : Strs w a ss) (hR : Ints .i64 w b rs) (hm : ss.length ≤ maxLen) (hn : rs.length ≤ maxLen) (hz : ∀ s ∈ ss, s.size ≤ maxLen) (hb : ∀ r ∈ rs, -9223372036854775808 ≤ r ∧ r ≤ 9223372036854775807) :
    Calls Try.prog 21 #[.slice a ss.length ca, .slice b rs.length cb] w fun e w' => GotM (pickL ss rs) (pickE ss rs) w e w' := by
  obtain ⟨b1, o1, hc1⟩ := strs_at hS
  obtain ⟨b2, o2, hc2⟩ := ints_at hR
  have HS := Lib.hid hS
  have HM1 := Lib.hid hm
  have HZ1 := Lib.hid hz
  have HB : Hid (∀ i, i < rs.length → -9223372036854775808 ≤ nthI rs i ∧ nthI rs i ≤ 9223372036854775807) := fun i hi => hb _ (by rw [← nthI_get rs i hi]; exact List.getElem_mem hi)
  have H1 := Lib.hid hc1
  have H2 := Lib.hid hc2
  unfold maxLen at hn
  clear hS hR hm hz hb hc1 hc2
  go_enter Try.func21, Try.ntmps21
  go_wp2_with fail
  refine (pMay_any a ca ss _ HS.out HM1.out HZ1.out).mono ?_
  rintro e w1 ⟨rfl, k1⟩
  cases hma : mayB ss
  · have HE : Hid ([] = pickL ss rs ∧ 8 = pickE ss rs) := by
      have h8 : pickE ss rs = 8 := by unfold pickE; rw [hma]; simp
      exact ⟨by unfold pickL; rw [h8]; rfl, h8.symm⟩
    clear hma
    go_wp2_with fail
    go_ret2
    rw [← HE.out.1, ← HE.out.2]
    exact GotM.nil 8 k1
  · go_wp2_with fail
    refine (side_nat rs.length _ (by omega)).mono ?_
    rintro e w1 ⟨rfl, rfl⟩
    cases hsd : sideB rs.length
    · have HE : Hid ([] = pickL ss rs ∧ 2 = pickE ss rs) := by
        have h2 : pickE ss rs = 2 := by
          unfold pickE pickOk
          rw [if_pos hma, decide_eq_false (fun h => sideB_no hsd ⟨by omega, by omega⟩)]
          rfl
        exact ⟨by unfold pickL; rw [h2]; rfl, h2.symm⟩
      clear hma
      go_wp2_with fail
      go_ret2
      rw [← HE.out.1, ← HE.out.2]
      exact GotM.nil 2 k1
    · have hl' := sideB_yes hsd
      have hl : 1 ≤ rs.length ∧ rs.length ≤ 64 := by omega
      obtain ⟨a1, a2, a3, a4, _⟩ := may_yes ss hma
      obtain ⟨ha, hc1⟩ := H1.out (by omega)
      obtain ⟨hb, hc2⟩ := H2.out (by omega)
      have HC1 : Hid (∀ W, Kept w W → ∀ i, i < ss.length → W.cell? ⟨b1, o1 + i, none⟩ = some (.string (nth ss i))) := fun W hW i hi => by rw [Below.cell hW (block_lt_of_cell (hc1 i hi)), hc1 i hi]
      have HC2 : Hid (∀ W, Kept w W → ∀ i, i < rs.length → W.cell? ⟨b2, o2 + i, none⟩ = some (.int .i64 (nthI rs i))) := fun W hW i hi => by rw [Below.cell hW (block_lt_of_cell (hc2 i hi)), hc2 i hi]
      have HMA := Lib.hid (may_size ss hma)
      have HP : Hid (∀ k, k < rs.length → ¬ (0 ≤ nthI rs k ∧ nthI rs k < ss.length) → [] = pickL ss rs ∧ 2 = pickE ss rs) := fun k hk hno => by
        have h2 : pickE ss rs = 2 := by
          unfold pickE
          rw [if_pos hma, if_neg]
          unfold pickOk
          rw [Bool.and_eq_true, List.all_eq_true]
          intro h
          have := h.2 _ (List.getElem_mem hk)
          rw [nthI_get rs k hk] at this
          exact hno (by simpa using this)
        exact ⟨by unfold pickL; rw [h2]; rfl, h2.symm⟩
      have HQ : Hid ((∀ k, k < rs.length → 0 ≤ nthI rs k ∧ nthI rs k < ss.length) → rs.map (fun r => nth ss r.toNat) = pickL ss rs ∧ 0 = pickE ss rs) := fun hall => by
        have h0 : pickE ss rs = 0 := by
          unfold pickE
          rw [if_pos hma, if_pos]
          unfold pickOk
          rw [Bool.and_eq_true, List.all_eq_true]
          refine ⟨decide_eq_true hl, fun r hr => ?_⟩
          obtain ⟨i, hi, rfl⟩ := List.getElem_of_mem hr
          rw [nthI_get rs i hi]
          exact decide_eq_true (hall i hi)
        exact ⟨by unfold pickL; rw [if_pos h0], h0.symm⟩
      rw [ha, hb]
      clear hc1 hc2 ha hb H1 H2 HM1 HZ1 HS hma hl'
      have hmk := fun W => make_txt rs.length (by omega) W
      have HTM := Lib.hid (Txt.made w1 rs.length)
      have HK : Hid (Kept w1 (w1.alloc (.cells (row rs.length fun _ => .string ByteArray.empty) 9))) := (Kept.refl _).alloc _
      generalize (row rs.length fun _ => Value.string ByteArray.empty) = R0 at *
      go_upto_region 6 with fail
      generalize w1.alloc (.cells R0 9) = w3 at *
      obtain ⟨G, hG⟩ : ∃ G, w1.heap.size = G := ⟨_, rfl⟩
      rw [hG] at HTM ⊢
      have HGW : Hid (w.heap.size ≤ G) := by rw [← hG]; exact k1.size
      have HK3 := Lib.hid (k1.trans HK.out)
      clear hG hmk
      go_wp2_with fail
      go_loopw [23, 7, 8] (fun i _ _ wr => ∃ k : Nat, k ≤ rs.length ∧ i = .int .i64 k ∧ Hid (Txt G rs.length (fillT (fun i => nth ss (nthI rs i).toNat) k) wr ∧ Kept w wr ∧ ∀ j, j < k → 0 ≤ nthI rs j ∧ nthI rs j < ss.length)) (fun i _ _ _ => rs.length - (intOf i).toNat)
      case atStart => exact ⟨0, Nat.zero_le _, rfl, HTM.out.congr (fun j hj => by unfold fillT; rw [if_neg (by omega)]), HK3.out, fun j hj => by omega⟩
      case round =>
        obtain ⟨k, hk, rfl, HI⟩ := hrel
        by_cases hlt : k < rs.length
        · have hcr := HC2.out wr HI.out.2.1 k hlt
          have hbr := HB.out k hlt
          have HP2 := Lib.hid (HP.out k hlt)
          have HAL : Hid (0 ≤ nthI rs k ∧ nthI rs k < ss.length → ∀ j, j < k + 1 → 0 ≤ nthI rs j ∧ nthI rs j < ss.length) := fun h j hj => by
            by_cases e : j = k
            · subst e; exact h
            · exact HI.out.2.2 j (by omega)
          have hcell : ∃ v, wr.cell? ⟨G, k, none⟩ = some v := ⟨_, HI.out.1.cell k hlt⟩
          obtain ⟨v, hcell⟩ := hcell
          have hfree := HI.out.1.free k hlt
          have HF : Hid (Txt G rs.length (fillT (fun i => nth ss (nthI rs i).toNat) (k + 1)) (wr.setCell ⟨G, k, none⟩ (.string (nth ss (nthI rs k).toNat))) ∧ Kept w (wr.setCell ⟨G, k, none⟩ (.string (nth ss (nthI rs k).toNat)))) :=
            ⟨(HI.out.1.set k hlt _).congr (fun j _ => fillT_next _ k j), HI.out.2.1.setCell HGW.out _⟩
          have HKW := Lib.hid HI.out.2.1
          clear HI
          generalize nthI rs k = r at *
          obtain ⟨hr1, hr2⟩ := hbr
          by_cases hok : 0 ≤ r ∧ r < ss.length
          · obtain ⟨R, rfl⟩ := Int.eq_ofNat_of_zero_le hok.1
            have hR : R < ss.length := by omega
            have hcs := HC1.out wr HKW.out R hR
            have HAL2 := Lib.hid (HAL.out hok)
            clear HP2 HAL hok
            rw [show ((R : Int)).toNat = R from rfl] at HF
            generalize nth ss R = p at *
            go_wp2_with fail
            exact ⟨⟨k + 1, by omega, by go_num, HF.out.1, HF.out.2, HAL2.out⟩, by simp [intOf]; omega⟩
          · have HP3 := Lib.hid (HP2.out hok)
            clear HP2 HAL HF
            rcases Int.lt_or_le r 0 with k2 | k2
            · go_wp2_with fail
              go_ret2
              rw [← HP3.out.1, ← HP3.out.2]
              exact GotM.nil 2 HKW.out
            · have k3 : (ss.length : Int) ≤ r := by omega
              clear hok
              go_wp2_with fail
              go_ret2
              rw [← HP3.out.1, ← HP3.out.2]
              exact GotM.nil 2 HKW.out
        · obtain rfl : k = rs.length := by omega
          have HQ2 := Lib.hid (HQ.out HI.out.2.2)
          have HT8 := Lib.hid HI.out.1
          have HK8 := Lib.hid HI.out.2.1
          have HZ8 : Hid (∀ i, i < rs.length → (fillT (fun i => nth ss (nthI rs i).toNat) rs.length i).size ≤ 281474976710656) := fun i hi => by
            have h9 := HI.out.2.2 i hi
            unfold fillT
            rw [if_pos hi, HMA.out _ (by omega)]
            omega
          have HN8 : Hid (∀ i, i < rs.length → nth (rs.map fun r => nth ss r.toNat) i = fillT (fun i => nth ss (nthI rs i).toNat) rs.length i) := fun i hi => by
            unfold fillT
            rw [if_pos hi, ← nth_get _ i (by rw [List.length_map]; exact hi), List.getElem_map, nthI_get rs i hi]
          clear HI HQ HP
          go_wp2_with fail
          refine (copies_any G rs.length rs.length _ _ HT8.out (by omega) HZ8.out).mono ?_
          rintro e w9 ⟨rfl, hb9, ht9⟩
          have HF : Hid (Strs w9 (some ⟨G, 0, none⟩) (rs.map fun r => nth ss r.toNat) ∧ Kept w w9) := ⟨ht9.strs _ (List.length_map _) HN8.out, But.kept HK8.out HGW.out hb9⟩
          clear hb9 ht9 HN8
          have HLM : Hid ((rs.map fun r => nth ss r.toNat).length = rs.length) := List.length_map _
          rw [HQ2.out.1] at HF HLM
          go_wp2_with fail
          go_ret2
          rw [← HQ2.out.2]
          exact ⟨_, _, by rw [HLM.out]; rfl, HF.out⟩
end Go.Proofs.Ytlmoeaphikdjnaa
