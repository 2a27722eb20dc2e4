/- The walk of MatrixUndoes. -/
import Derived.Test.YtlmoeaphikdjnaaMatrixRowsWalk
namespace Go.Proofs.Ytlmoeaphikdjnaa
open Go.RowKit Gf
set_option linter.unusedVariables false
theorem small_matL (n m : Nat) (A : Nat → Nat → UInt8) (hn : n ≤ 1000) (hm : m ≤ 1000) : small (matL n m A) := by
  refine ⟨by rw [matL_length]; unfold maxLen; omega, fun s hs => ?_⟩
  obtain ⟨i, hi, rfl⟩ := List.getElem_of_mem hs
  have hi2 := hi
  rw [matL_length] at hi2
  rw [nth_get _ i hi, nth_matL _ _ _ _ hi2, strOf_size]
  unfold maxLen
  omega
theorem small_nil : small [] := ⟨Nat.zero_le _, fun s hs => by simp at hs⟩
theorem prod_ok (a b : List ByteArray) (h : prodE a b = 0) : mayB a = true ∧ mayB b = true ∧ (nth a 0).size = b.length ∧ prodL a b = matL a.length (nth b 0).size (mm b.length (mt a) (mt b)) := by
  have hl : prodL a b = matL a.length (nth b 0).size (mm b.length (mt a) (mt b)) := by unfold prodL; rw [if_pos h]
  unfold prodE at h
  by_cases h1 : mayB a = true ∧ mayB b = true
  · rw [if_pos h1] at h
    by_cases h2 : (nth a 0).size = b.length
    · exact ⟨h1.1, h1.2, h2, hl⟩
    · rw [if_neg h2] at h
      exact absurd h (by decide)
  · rw [if_neg h1] at h
    exact absurd h (by decide)
theorem prod_mk (a b : List ByteArray) (h1 : mayB a = true) (h2 : mayB b = true) (h3 : (nth a 0).size = b.length) : prodE a b = 0 ∧ prodL a b = matL a.length (nth b 0).size (mm b.length (mt a) (mt b)) := by
  have h : prodE a b = 0 := by unfold prodE; rw [if_pos ⟨h1, h2⟩, if_pos h3]
  exact ⟨h, (prod_ok a b h).2.2.2⟩
theorem undo_ok (a : List ByteArray) (h : undoE a = 0) : mayB a = true ∧ (nth a 0).size = a.length ∧ ∃ U, Inv a.length (mt a) U ∧ undoL a = matL a.length a.length U := by
  by_cases h1 : mayB a = true
  · by_cases h2 : (nth a 0).size = a.length
    · by_cases h3 : CanUndo a
      · obtain ⟨U, hU⟩ := h3
        exact ⟨h1, h2, U, hU, (undo_is a h1 h2 U hU).2⟩
      · rw [(undo_not a h1 h2 h3).1] at h
        exact absurd h (by decide)
    · rw [(undo_side a h1 h2).1] at h
      exact absurd h (by decide)
  · rw [(undo_form a h1).1] at h
    exact absurd h (by decide)
theorem small_prod (a b : List ByteArray) : small (prodL a b) := by
  by_cases h : prodE a b = 0
  · obtain ⟨h1, h2, _, h3⟩ := prod_ok a b h
    rw [h3]
    have := may_yes a h1
    have := may_yes b h2
    exact small_matL _ _ _ (by omega) (by omega)
  · unfold prodL
    rw [if_neg h]
    exact small_nil
theorem small_undo (a : List ByteArray) : small (undoL a) := by
  by_cases h : undoE a = 0
  · obtain ⟨h1, _, U, _, h3⟩ := undo_ok a h
    rw [h3]
    have := may_yes a h1
    exact small_matL _ _ _ (by omega) (by omega)
  · unfold undoL
    rw [dif_neg (fun k => h k.1)]
    exact small_nil
theorem unit_is (n : Nat) (h1 : 1 ≤ n) (h2 : n ≤ 64) : unitL (n : Int) = matL n n un := by unfold unitL; rw [if_pos (by omega)]; rfl
theorem inv_congr {n : Nat} {A B U V : Nat → Nat → UInt8} (h : Inv n A U) (ha : Eq2 n B A) (hu : Eq2 n V U) : Inv n B V :=
  ⟨(mm_congr ha hu).trans h.1, (mm_congr hu ha).trans h.2⟩
/-- What undoes undoes from both sides, and is undone. -/
theorem undo_facts (a : List ByteArray) (h : undoE a = 0) : (prodL a (undoL a) = unitL a.length ∧ prodE a (undoL a) = 0) ∧ (prodL (undoL a) a = unitL a.length ∧ prodE (undoL a) a = 0) ∧ (undoE (undoL a) = 0 ∧ undoL (undoL a) = a) := by
  obtain ⟨h1, h2, U, hU, hL⟩ := undo_ok a h
  obtain ⟨a1, a2, a3, a4, hev⟩ := may_yes a h1
  obtain ⟨n, hn⟩ : ∃ n, a.length = n := ⟨_, rfl⟩
  rw [hn] at h2 hU hL a1 a2 ⊢
  obtain ⟨u, hu⟩ : ∃ u, undoL a = u := ⟨_, rfl⟩
  rw [hu] at hL ⊢
  have hul : u.length = n := by rw [hL, matL_length]
  have hus : (nth u 0).size = n := by rw [hL, nth_matL _ _ _ _ (by omega), strOf_size]
  have hum : mayB u = true := by rw [hL]; exact may_matL _ _ _ a1 a2 a1 a2
  have hut : Eq2 n (mt u) U := fun i j hi hj => by rw [hL, mt_matL _ _ _ _ _ hi hj]
  have hI : Inv n (mt a) (mt u) := inv_congr hU (fun _ _ _ _ => rfl) hut
  refine ⟨?_, ?_, ?_⟩
  · obtain ⟨e1, e2⟩ := prod_mk a u h1 hum (by rw [h2, hul])
    refine ⟨?_, e1⟩
    rw [e2, hn, hus, hul, unit_is n a1 a2]
    exact matL_congr _ _ _ _ hI.1
  · obtain ⟨e1, e2⟩ := prod_mk u a hum h1 (by rw [hus, hn])
    refine ⟨?_, e1⟩
    rw [e2, hn, hul, h2, unit_is n a1 a2]
    exact matL_congr _ _ _ _ hI.2
  · have h3 := undo_is u hum (by rw [hus, hul]) (mt a) (by rw [hul]; exact hI.symm)
    refine ⟨h3.1, ?_⟩
    rw [h3.2, hul]
    have h4 := mat_self a hev
    rw [hn, h2] at h4
    exact h4
/-- Products go in any grouping. -/
theorem prod_assoc (a b c : List ByteArray) (h1 : prodE a b = 0) (h2 : prodE b c = 0) : prodE (prodL a b) c = 0 ∧ prodE a (prodL b c) = 0 ∧ prodL (prodL a b) c = prodL a (prodL b c) := by
  obtain ⟨ma, mb, hab, lab⟩ := prod_ok a b h1
  obtain ⟨_, mc, hbc, lbc⟩ := prod_ok b c h2
  obtain ⟨x1, x2, x3, x4, _⟩ := may_yes a ma
  obtain ⟨y1, y2, y3, y4, _⟩ := may_yes b mb
  obtain ⟨z1, z2, z3, z4, _⟩ := may_yes c mc
  obtain ⟨p, hp⟩ : ∃ p, prodL a b = p := ⟨_, rfl⟩
  obtain ⟨q, hq⟩ : ∃ q, prodL b c = q := ⟨_, rfl⟩
  rw [hp] at lab ⊢
  rw [hq] at lbc ⊢
  have hpm : mayB p = true := by rw [lab]; exact may_matL _ _ _ x1 x2 y3 y4
  have hqm : mayB q = true := by rw [lbc]; exact may_matL _ _ _ y1 y2 z3 z4
  have hps : (nth p 0).size = (nth b 0).size := by rw [lab, nth_matL _ _ _ _ (by omega), strOf_size]
  have hqs : (nth q 0).size = (nth c 0).size := by rw [lbc, nth_matL _ _ _ _ (by omega), strOf_size]
  have hpl : p.length = a.length := by rw [lab, matL_length]
  have hql : q.length = b.length := by rw [lbc, matL_length]
  obtain ⟨e1, e2⟩ := prod_mk p c hpm mc (by rw [hps, hbc])
  obtain ⟨e3, e4⟩ := prod_mk a q ma hqm (by rw [hab, hql])
  refine ⟨e1, e3, ?_⟩
  rw [e2, e4, hpl, hqs, hql]
  refine matL_congr _ _ _ _ (fun i j hi hj => ?_)
  have e5 : mm c.length (mt p) (mt c) i j = mm c.length (mm b.length (mt a) (mt b)) (mt c) i j := sm_congr fun k hk => by
    rw [lab, mt_matL _ _ _ _ _ hi (by omega)]
  have e6 : mm b.length (mt a) (mt q) i j = mm b.length (mt a) (mm c.length (mt b) (mt c)) i j := sm_congr fun k hk => by
    rw [lbc, mt_matL _ _ _ _ _ hk hj]
  rw [e5, e6, mm_assoc]
set_option maxHeartbeats 2000000 in
set_option maxRecDepth 100000 in
theorem matrixUndoes_walk (a0 : Option Addr) (len0 cap0 : Nat) (z0 : List ByteArray) (a1 : Option Addr) (len1 cap1 : Nat) (z1 : List ByteArray) (a2 : Option Addr) (len2 cap2 : Nat) (z2 : List ByteArray) (w : World) (w0 : IsStrs w a0 len0 cap0 z0) (w1 : IsStrs w a1 len1 cap1 z1) (w2 : IsStrs w a2 len2 cap2 z2) :
    Calls Try.prog 5 #[.slice a0 len0 cap0, .slice a1 len1 cap1, .slice a2 len2 cap2] w fun e w' => e = .returned (.bool true) ∧ Kept w w' := by
  obtain ⟨ss, rfl, hS, hs⟩ := w0.all
  obtain ⟨ts, rfl, hT, ht⟩ := w1.all
  obtain ⟨us, rfl, hU, hu⟩ := w2.all
  have S := Lib.hid hS
  have T := Lib.hid hT
  have U := Lib.hid hU
  have HS := Lib.hid hs
  have HT := Lib.hid ht
  have HU := Lib.hid hu
  clear w0 w1 w2 hS hT hU hs ht hu
  go_enter Try.func5, Try.ntmps5
  go_wp2_with fail
  refine (heavy_any a0 cap0 ss _ S.out HS.out.1 HS.out.2).mono ?_
  rintro e w1 ⟨rfl, k1⟩
  cases hv1 : heavyB ss
  · go_wp2_with fail
    refine (heavy_any a1 cap1 ts _ (T.out.kept k1) HT.out.1 HT.out.2).mono ?_
    rintro e w2 ⟨rfl, k2⟩
    have K2 := k1.trans k2
    clear k1 k2
    cases hv2 : heavyB ts
    · go_wp2_with fail
      refine (heavy_any a2 cap2 us _ (U.out.kept K2) HU.out.1 HU.out.2).mono ?_
      rintro e w3 ⟨rfl, k3⟩
      have K3 := K2.trans k3
      clear k3
      cases hv3 : heavyB us
      · have HV1 := Lib.hid (heavy_no ss hv1)
        clear hv1 hv2 hv3 K2
        go_wp2_with fail
        refine (pUndo_any a0 cap0 ss _ (S.out.kept K3) HS.out.1 HS.out.2).mono ?_
        rintro e w4 ⟨b4, c4, rfl, s4, j4⟩
        have K4 := K3.trans j4
        have HSU := Lib.hid (small_undo ss)
        have HL := Lib.hid (undo_len ss)
        have HF := Lib.hid (undo_facts ss)
        clear K3 j4
        obtain ⟨g, hg⟩ : ∃ g, undoE ss = g := ⟨_, rfl⟩
        rw [hg] at HF ⊢
        clear hg
        generalize undoL ss = r at *
        go_upto_if 40 with fail
        go_cut [9, 10, 11, 12, 13, 14] from 40 to 87 (fun _ _ _ _ _ _ wx => Kept w wx)
        case first =>
          by_cases he : g = 0
          · have HF2 := Lib.hid (HF.out he)
            have hgb : (g == 0) = true := by rw [he]; rfl
            have hv := HV1.out.1
            clear HF he
            go_wp2_with fail
            refine (pTimes_c a0 b4 _ _ cap0 c4 ss r _ _ 0 _ (S.out.kept K4) s4 rfl rfl HS.out HSU.out HF2.out.1 rfl).mono ?_
            rintro e w5 ⟨b5, c5, rfl, s5, j5⟩
            have K5 := K4.trans j5
            replace s4 := s4.kept j5
            go_wp2_with fail
            refine (pTimes_c b4 a0 _ _ c4 cap0 r ss _ _ 0 _ s4 (S.out.kept K5) rfl rfl HSU.out HS.out HF2.out.2.1 rfl).mono ?_
            rintro e w6 ⟨b6, c6, rfl, s6, j6⟩
            have K6 := K5.trans j6
            replace s4 := s4.kept j6
            replace s5 := s5.kept j6
            go_wp2_with fail
            refine (pUndo_c b4 _ c4 r ss _ 0 _ s4 rfl HSU.out HF2.out.2.2 rfl).mono ?_
            rintro e w7 ⟨b7, c7, rfl, s7, j7⟩
            have K7 := K6.trans j7
            replace s5 := s5.kept j7
            replace s6 := s6.kept j7
            have L3 := Lib.hid (unit_len (ss.length : Int))
            go_wp2_with fail
            refine (pUnit_any (ss.length : Int) _ (by omega) (by omega)).mono ?_
            rintro e w8 ⟨b8, c8, rfl, s8, j8⟩
            have K8 := K7.trans j8
            replace s5 := s5.kept j8
            replace s6 := s6.kept j8
            replace s7 := s7.kept j8
            clear j5 j6 j7 j8 K4 K5 K6 K7 s4 HF2
            generalize unitL (ss.length : Int) = q at *
            go_wp2_with fail
            refine (same_self b5 b8 c5 c8 q _ s5 s8 (ml L3.out (by decide))).mono ?_
            rintro e w9 ⟨rfl, j9⟩
            have K9 := K8.trans j9
            replace s5 := s5.kept j9
            replace s6 := s6.kept j9
            replace s7 := s7.kept j9
            go_wp2_with fail
            refine (same_self b5 b6 c5 c6 q _ s5 s6 (ml L3.out (by decide))).mono ?_
            rintro e w10 ⟨rfl, j10⟩
            have K10 := K9.trans j10
            replace s7 := s7.kept j10
            go_wp2_with fail
            refine (same_self b7 a0 c7 cap0 ss _ s7 (S.out.kept K10) HS.out.1).mono ?_
            rintro e w11 ⟨rfl, j11⟩
            go_wp2_with fail
            go_meet
            exact K10.trans j11
          · have hgb : (g == 0) = false := beq_eq_false_iff_ne.2 he
            clear HF he
            go_wp2_with fail
            go_meet
            exact K4
        case rest =>
          have K5 := hcut
          clear hcut K4 s4 HF
          go_wp2_with fail
          refine (pTimes_any a0 a1 cap0 cap1 ss ts _ (S.out.kept K5) (T.out.kept K5) HS.out.1 HT.out.1 HS.out.2 HT.out.2).mono ?_
          rintro e w6 ⟨b6, c6, rfl, s6, j6⟩
          have K6 := K5.trans j6
          go_wp2_with fail
          refine (pTimes_any a1 a2 cap1 cap2 ts us _ (T.out.kept K6) (U.out.kept K6) HT.out.1 HU.out.1 HT.out.2 HU.out.2).mono ?_
          rintro e w7 ⟨b7, c7, rfl, s7, j7⟩
          have K7 := K6.trans j7
          replace s6 := s6.kept j7
          clear j6 j7 K5 K6
          have HA := Lib.hid (prod_assoc ss ts us)
          have P1 := Lib.hid (small_prod ss ts)
          have P2 := Lib.hid (small_prod ts us)
          obtain ⟨e1, he1⟩ : ∃ e, prodE ss ts = e := ⟨_, rfl⟩
          obtain ⟨e2, he2⟩ : ∃ e, prodE ts us = e := ⟨_, rfl⟩
          rw [he1, he2] at HA
          rw [he1, he2]
          clear he1 he2
          generalize prodL ss ts = p at *
          generalize prodL ts us = q at *
          by_cases h1 : e1 = 0
          · by_cases h2 : e2 = 0
            · have HA2 := Lib.hid (HA.out h1 h2)
              have L4 := Lib.hid (prod_len p us)
              subst h1
              subst h2
              clear HA
              go_wp2_with fail
              refine (pTimes_c b6 a2 _ _ c6 cap2 p us _ _ 0 _ s6 (U.out.kept K7) rfl rfl P1.out HU.out ⟨rfl, HA2.out.1⟩ rfl).mono ?_
              rintro e w8 ⟨b8, c8, rfl, s8, j8⟩
              have K8 := K7.trans j8
              replace s7 := s7.kept j8
              go_wp2_with fail
              refine (pTimes_c a0 b7 _ _ cap0 c7 ss q _ _ 0 _ (S.out.kept K8) s7 rfl rfl HS.out P2.out ⟨HA2.out.2.2.symm, HA2.out.2.1⟩ rfl).mono ?_
              rintro e w9 ⟨b9, c9, rfl, s9, j9⟩
              have K9 := K8.trans j9
              replace s8 := s8.kept j9
              generalize prodL p us = t at *
              go_wp2_with fail
              refine (same_self b8 b9 c8 c9 t _ s8 s9 (ml L4.out (by decide))).mono ?_
              rintro e w10 ⟨rfl, j10⟩
              have K10 := K9.trans j10
              go_wp2_with fail
              refine (matAlive_any _).mono ?_
              rintro e w99 ⟨rfl, j99⟩
              go_wp2_with fail
              go_ret
              exact ⟨rfl, K10.trans j99⟩
            · have h2b : (e2 == 0) = false := beq_eq_false_iff_ne.2 h2
              subst h1
              clear HA h2
              go_wp2_with fail
              refine (matAlive_any _).mono ?_
              rintro e w99 ⟨rfl, j99⟩
              go_wp2_with fail
              go_ret
              exact ⟨rfl, K7.trans j99⟩
          · have h1b : (e1 == 0) = false := beq_eq_false_iff_ne.2 h1
            clear HA h1
            go_wp2_with fail
            refine (matAlive_any _).mono ?_
            rintro e w99 ⟨rfl, j99⟩
            go_wp2_with fail
            go_ret
            exact ⟨rfl, K7.trans j99⟩
      · clear hv1 hv2 hv3
        go_wp2_with fail
        refine (matAlive_any _).mono ?_
        rintro e w99 ⟨rfl, j99⟩
        go_wp2_with fail
        go_ret
        exact ⟨rfl, K3.trans j99⟩
    · clear hv1 hv2
      go_wp2_with fail
      refine (matAlive_any _).mono ?_
      rintro e w99 ⟨rfl, j99⟩
      go_wp2_with fail
      go_ret
      exact ⟨rfl, K2.trans j99⟩
  · clear hv1
    go_wp2_with fail
    refine (matAlive_any _).mono ?_
    rintro e w99 ⟨rfl, j99⟩
    go_wp2_with fail
    go_ret
    exact ⟨rfl, k1.trans j99⟩
end Go.Proofs.Ytlmoeaphikdjnaa
