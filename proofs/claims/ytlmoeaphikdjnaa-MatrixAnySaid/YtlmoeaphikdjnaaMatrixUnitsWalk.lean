/- The walk of MatrixUnits. -/
import Derived.Test.YtlmoeaphikdjnaaMatUnitsMath
import Derived.Test.YtlmoeaphikdjnaaGatI
import Derived.Deep.DeepMust
namespace Go.Proofs.Ytlmoeaphikdjnaa
open Go.RowKit Gf
set_option linter.unusedVariables false
theorem small_unit (n : Int) : small (unitL n) := by
  unfold unitL
  split
  · exact small_matL _ _ _ (by omega) (by omega)
  · exact small_nil
theorem small_pick (a : List ByteArray) (rs : List Int) (h : small a) (hl : rs.length ≤ 200) : small (pickL a rs) := by
  unfold pickL
  split
  · refine ⟨by rw [List.length_map]; unfold maxLen; omega, fun s hs => ?_⟩
    obtain ⟨r, _, rfl⟩ := List.mem_map.1 hs
    unfold nth
    rw [List.getD_eq_getElem?_getD]
    cases h2 : a[r.toNat]? with
    | none => exact Nat.zero_le _
    | some x => exact h.2 x (List.mem_of_getElem? h2)
  · exact small_nil
theorem small_bel (a b : List ByteArray) (ha : small a) (hb : small b) (hl : a.length + b.length ≤ 1000) : small (belL a b) := by
  unfold belL
  split
  · refine ⟨by rw [List.length_append]; unfold maxLen; omega, fun s hs => ?_⟩
    rcases List.mem_append.1 hs with h | h
    · exact ha.2 s h
    · exact hb.2 s h
  · exact small_nil
/-- Numbers, each as a row's. -/
def mods (rs : List Int) (n : Nat) : List Int := rs.map fun r => r % (n : Int)
set_option maxHeartbeats 1000000 in
set_option maxRecDepth 100000 in
theorem matrixUnits_walk (a0 : Option Addr) (len0 cap0 : Nat) (z0 : List ByteArray) (a1 : Option Addr) (len1 cap1 : Nat) (z1 : List ByteArray) (a2 : Option Addr) (len2 cap2 : Nat) (z2 : List Int) (w : World) (w0 : IsStrs w a0 len0 cap0 z0) (w1 : IsStrs w a1 len1 cap1 z1) (w2 : IsRow .u8 w a2 len2 cap2 z2) :
    Calls Try.prog 7 #[.slice a0 len0 cap0, .slice a1 len1 cap1, .slice a2 len2 cap2] w fun e w' => e = .returned (.bool true) ∧ Kept w w' := by
  obtain ⟨ss, rfl, hS, hs⟩ := w0.all
  obtain ⟨ts, rfl, hT, ht⟩ := w1.all
  obtain ⟨hR, hl, hlm, hwf⟩ := w2.ints
  clear w0 w1 w2
  generalize z2.take len2 = rs at *
  subst hl
  have S := Lib.hid hS
  have T := Lib.hid hT
  have HS := Lib.hid hs
  have HT := Lib.hid ht
  have HRB : Hid (∀ i, i < rs.length → 0 ≤ nthI rs i ∧ nthI rs i ≤ 255) := fun i hi => bounds_u8 (hwf _ (by rw [← nthI_get rs i hi]; exact List.getElem_mem hi))
  obtain ⟨bR, oR, hcR⟩ := ints_at hR
  have HCR := Lib.hid hcR
  unfold maxLen at hlm
  clear hS hT hR hs ht hwf hcR
  go_enter Try.func7, Try.ntmps7
  go_wp2_with fail
  refine (heavy_any a0 cap0 ss _ S.out HS.out.1 HS.out.2).mono ?_
  rintro e w1 ⟨rfl, k1⟩
  cases hv1 : heavyB ss
  · go_wp2_with fail
    refine (heavy_any a1 cap1 ts _ (T.out.kept k1) HT.out.1 HT.out.2).mono ?_
    rintro e w2 ⟨rfl, k2⟩
    have K2 := k1.trans k2
    clear k1 k2
    cases hv2 : heavyB ts
    · have HV1 := Lib.hid (heavy_no ss hv1)
      have HV2 := Lib.hid (heavy_no ts hv2)
      clear hv1 hv2
      rcases Nat.lt_or_ge 60 rs.length with hr1 | hr1
      · skip
        go_wp2_with fail
        refine (matAlive_any _).mono ?_
        rintro e w99 ⟨rfl, j99⟩
        go_wp2_with fail
        go_ret
        exact ⟨rfl, K2.trans j99⟩
      · by_cases hr0 : rs.length = 0
        · have hr0b : ((rs.length : Int) == 0) = true := by simp [hr0]
          clear hr0
          go_wp2_with fail
          refine (matAlive_any _).mono ?_
          rintro e w99 ⟨rfl, j99⟩
          go_wp2_with fail
          go_ret
          exact ⟨rfl, K2.trans j99⟩
        · have hr0b : ((rs.length : Int) == 0) = false := beq_eq_false_iff_ne.2 (by omega)
          go_wp2_with fail
          refine (refMay_any a0 cap0 ss _ (S.out.kept K2) HS.out.1 HS.out.2).mono ?_
          rintro e w3 ⟨rfl, k3⟩
          have K3 := K2.trans k3
          clear k3 K2
          cases hma : mayB ss
          · clear hma
            go_wp2_with fail
            refine (matAlive_any _).mono ?_
            rintro e w99 ⟨rfl, j99⟩
            go_wp2_with fail
            go_ret
            exact ⟨rfl, K3.trans j99⟩
          · have HMA := Lib.hid hma
            obtain ⟨n1, n2, m1, m2, _⟩ := may_yes ss hma
            obtain ⟨bS, oS, hcS⟩ := strs_at S.out
            obtain ⟨ha, hcS⟩ := hcS (by omega)
            have HC0 : Hid (∀ W, Kept w W → W.cell? ⟨bS, oS, none⟩ = some (.string (nth ss 0))) := fun W hW => by
              have e := hcS 0 (by omega)
              rw [Nat.add_zero] at e
              rw [Below.cell hW (block_lt_of_cell e), e]
            have HV3 := HV1.out.1
            have HV4 := HV2.out.1
            have HUL := Lib.hid (unit_left ss hma)
            have HUR := Lib.hid (unit_right ss hma)
            clear hma hcS
            subst ha
            go_wp2_with fail
            refine (pUnit_any (ss.length : Nat) _ (by omega) (by omega)).mono ?_
            rintro e w4 ⟨b4, c4, rfl, s4, j4⟩
            have K4 := K3.trans j4
            clear j4 K3
            go_wp2_with fail
            refine (pTimes_c b4 _ _ _ c4 cap0 (unitL (ss.length : Nat)) ss ss _ 0 _ s4 (S.out.kept K4) rfl rfl (small_unit _) HS.out HUL.out rfl).mono ?_
            rintro e w5 ⟨b5, c5, rfl, s5, j5⟩
            have K5 := K4.trans j5
            clear j5 K4 s4
            have hc0 := HC0.out w5 K5
            generalize nth ss 0 = p0 at *
            go_wp2_with fail
            refine (pUnit_any (p0.size : Nat) _ (by omega) (by omega)).mono ?_
            rintro e w6 ⟨b6, c6, rfl, s6, j6⟩
            have K6 := K5.trans j6
            replace s5 := s5.kept j6
            clear j6 K5 hc0
            go_wp2_with fail
            refine (pTimes_c _ b6 _ _ cap0 c6 ss (unitL (p0.size : Nat)) ss _ 0 _ (S.out.kept K6) s6 rfl rfl HS.out (small_unit _) HUR.out rfl).mono ?_
            rintro e w7 ⟨b7, c7, rfl, s7, j7⟩
            have K7 := K6.trans j7
            replace s5 := s5.kept j7
            clear j7 K6 s6
            go_wp2_with fail
            refine (same_self b5 _ c5 cap0 ss _ s5 (S.out.kept K7) HS.out.1).mono ?_
            rintro e w8 ⟨rfl, j8⟩
            have K8 := K7.trans j8
            replace s7 := s7.kept j8
            clear j8 K7 s5
            go_wp2_with fail
            refine (same_self b7 _ c7 cap0 ss _ s7 (S.out.kept K8) HS.out.1).mono ?_
            rintro e w9 ⟨rfl, j9⟩
            have K9 := K8.trans j9
            clear j9 K8 s7 HUL HUR
            go_wp2_with fail
            go_loopw [11, 12] (fun v i wr => ∃ k : Nat, k ≤ rs.length ∧ i = .int .i64 k ∧ Hid (GatI w.heap.size v (mods (rs.take k) ss.length) wr ∧ Kept w wr)) (fun _ i _ => rs.length - (intOf i).toNat)
            case atStart => exact ⟨0, Nat.zero_le _, rfl, GatI.nil _ _, K9⟩
            case round =>
              obtain ⟨k, hk, rfl, HI⟩ := hrel
              by_cases hlt : k < rs.length
              · obtain ⟨ha2, hcR⟩ := HCR.out (by omega)
                have hck : wr.cell? ⟨bR, oR + k, none⟩ = some (.int .u8 (nthI rs k)) := by rw [Below.cell HI.out.2 (block_lt_of_cell (hcR k hlt)), hcR k hlt]
                obtain ⟨r0, r1⟩ := HRB.out k hlt
                have HTK : Hid (mods (rs.take (k + 1)) ss.length = mods (rs.take k) ss.length ++ [nthI rs k % (ss.length : Int)]) := by
                  show _ = _
                  unfold mods
                  rw [List.take_succ_eq_append_getElem hlt, List.map_append, nthI_get rs k hlt]
                  rfl
                have HLN : Hid ((mods (rs.take k) ss.length).length ≤ 1000000000) := by show _ ≤ _; unfold mods; rw [List.length_map, List.length_take]; omega
                rw [ha2]
                clear hcR ha2
                generalize nthI rs k = r at *
                go_wp2_with (first | (at_builtin; go_must (refine wpList_gati _ rfl (.tmp 85) (.tmp 94) rfl w _ (mods (rs.take k) ss.length) (by rfl) (HI.out.1.kept ((Kept.refl _).alloc _)) (HI.out.2.alloc _) (r % (ss.length : Int)) wr.heap.size rfl (by rw [World.cell?_alloc_mark]; rfl) HLN.out ?_); intro v9 w9 hG9 hK9))
                exact ⟨⟨k + 1, by omega, by go_num, by rw [HTK.out]; exact ⟨hG9, hK9⟩⟩, by simp [intOf]; omega⟩
              · obtain rfl : k = rs.length := by omega
                rw [List.take_length] at HI
                obtain ⟨a9, c9, hv, hI9⟩ := HI.out.1.ints
                subst hv
                have K10 := HI.out.2
                have HLL : Hid ((mods rs ss.length).length = rs.length) := by show _ = _; unfold mods; rw [List.length_map]
                have HLR : Hid (∀ r ∈ mods rs ss.length, 0 ≤ r ∧ r < ss.length) := fun r hr => by
                  unfold mods at hr
                  obtain ⟨q, _, rfl⟩ := List.mem_map.1 hr
                  exact ⟨Int.emod_nonneg _ (by omega), Int.emod_lt_of_pos _ (by omega)⟩
                have hL1 : 1 ≤ (mods rs ss.length).length := by rw [HLL.out]; omega
                have hL2 : (mods rs ss.length).length ≤ 60 := by rw [HLL.out]; omega
                clear HI K9 HLL HCR HRB
                generalize mods rs ss.length = L at *
                have HB : Hid ((L.all fun r => decide (-200 ≤ r ∧ r ≤ 200)) = true) := by
                  show _ = _
                  rw [List.all_eq_true]
                  intro r hr
                  have := HLR.out r hr
                  exact decide_eq_true (by omega)
                have I9 := Lib.hid hI9
                have HP1 := Lib.hid (pick_mk ss L HMA.out hL1 (by omega) HLR.out)
                have HP2 := Lib.hid (pick_unit ss L HMA.out hL1 (by omega) HLR.out)
                have HP3 := Lib.hid (fun h => pick_below ss ts L h hL1 (by omega) HLR.out)
                have PL := Lib.hid (pick_len ss L)
                clear hI9
                go_wp2_with fail
                refine (pPick_c _ a9 _ _ cap0 c9 ss L (pickL ss L) _ 0 _ (S.out.kept K10) I9.out rfl rfl HS.out (by omega) HB.out ⟨rfl, HP1.out.2⟩ rfl).mono ?_
                rintro e w11 ⟨b11, c11, rfl, s11, j11⟩
                have K11 := K10.trans j11
                have I11 := Lib.hid (I9.out.kept j11)
                clear j11 K10 I9
                go_wp2_with fail
                refine (pUnit_any (ss.length : Nat) _ (by omega) (by omega)).mono ?_
                rintro e w12 ⟨b12, c12, rfl, s12, j12⟩
                have K12 := K11.trans j12
                have I12 := Lib.hid (I11.out.kept j12)
                replace s11 := s11.kept j12
                clear j12 K11 I11
                go_wp2_with fail
                refine (pPick_c b12 a9 _ _ c12 c9 (unitL (ss.length : Nat)) L (pickL (unitL (ss.length : Nat)) L) _ 0 _ s12 I12.out rfl rfl (small_unit _) (by omega) HB.out ⟨rfl, HP2.out.1⟩ rfl).mono ?_
                rintro e w13 ⟨b13, c13, rfl, s13, j13⟩
                have K13 := K12.trans j13
                have I13 := Lib.hid (I12.out.kept j13)
                replace s11 := s11.kept j13
                clear j13 K12 I12 s12
                have PU := Lib.hid (small_pick (unitL (ss.length : Nat)) L (small_unit _) (by omega))
                generalize pickL (unitL (ss.length : Nat)) L = u at *
                generalize pickL ss L = p at *
                go_wp2_with fail
                refine (pTimes_c b13 _ _ _ c13 cap0 u ss p _ 0 _ s13 (S.out.kept K13) rfl rfl PU.out HS.out HP2.out.2 rfl).mono ?_
                rintro e w14 ⟨b14, c14, rfl, s14, j14⟩
                have K14 := K13.trans j14
                have I14 := Lib.hid (I13.out.kept j14)
                replace s11 := s11.kept j14
                clear j14 K13 I13 s13
                go_wp2_with fail
                refine (same_self b11 b14 c11 c14 p _ s11 s14 (ml (Nat.le_trans PL.out hL2) (by decide))).mono ?_
                rintro e w15 ⟨rfl, j15⟩
                have K15 := K14.trans j15
                have I15 := Lib.hid (I14.out.kept j15)
                replace s11 := s11.kept j15
                clear j15 K14 I14 s14
                go_wp2_with fail
                refine (pBelow_any _ a1 cap0 cap1 ss ts _ (S.out.kept K15) (T.out.kept K15) HS.out.1 HT.out.1 HS.out.2 HT.out.2).mono ?_
                rintro e w16 ⟨b16, c16, rfl, s16, j16⟩
                have K16 := K15.trans j16
                have I16 := Lib.hid (I15.out.kept j16)
                replace s11 := s11.kept j16
                clear j16 K15 I15
                have PB := Lib.hid (small_bel ss ts HS.out HT.out (by omega))
                obtain ⟨g, hg⟩ : ∃ g, belE ss ts = g := ⟨_, rfl⟩
                rw [hg] at HP3 ⊢
                clear hg
                generalize belL ss ts = z at *
                by_cases h0 : g = 0
                · have HP4 := Lib.hid (HP3.out h0)
                  have hzl := HP4.out.1
                  subst h0
                  clear HP3
                  go_wp2_with fail
                  refine (pPick_c b16 a9 (ss.length + ts.length) _ c16 c9 z L p _ 0 _ s16 I16.out HP4.out.1 rfl PB.out (by omega) HB.out HP4.out.2 rfl).mono ?_
                  rintro e w17 ⟨b17, c17, rfl, s17, j17⟩
                  have K17 := K16.trans j17
                  replace s11 := s11.kept j17
                  clear j17 K16 s16
                  go_wp2_with fail
                  refine (same_self b17 b11 c17 c11 p _ s17 s11 (ml (Nat.le_trans PL.out hL2) (by decide))).mono ?_
                  rintro e w18 ⟨rfl, j18⟩
                  have K18 := K17.trans j18
                  go_wp2_with fail
                  refine (matAlive_any _).mono ?_
                  rintro e w99 ⟨rfl, j99⟩
                  go_wp2_with fail
                  go_ret
                  exact ⟨rfl, K18.trans j99⟩
                · have h0b : (g == 0) = false := beq_eq_false_iff_ne.2 h0
                  clear HP3 h0
                  go_wp2_with fail
                  refine (matAlive_any _).mono ?_
                  rintro e w99 ⟨rfl, j99⟩
                  go_wp2_with fail
                  go_ret
                  exact ⟨rfl, K16.trans j99⟩
    · clear hv1 hv2
      go_wp2_with fail
      refine (matAlive_any _).mono ?_
      rintro e w99 ⟨rfl, j99⟩
      go_wp2_with fail
      go_ret
      exact ⟨rfl, K2.trans j99⟩
  · clear hv1
    go_wp2_with fail
    refine (matAlive_any _).mono ?_
    rintro e w99 ⟨rfl, j99⟩
    go_wp2_with fail
    go_ret
    exact ⟨rfl, k1.trans j99⟩
end Go.Proofs.Ytlmoeaphikdjnaa
