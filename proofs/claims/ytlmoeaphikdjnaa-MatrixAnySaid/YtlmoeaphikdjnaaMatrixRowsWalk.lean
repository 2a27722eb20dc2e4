/- The walk of MatrixRows. -/
import Derived.Test.YtlmoeaphikdjnaaMatrixTellsWalk
namespace Go.Proofs.Ytlmoeaphikdjnaa
open Go.RowKit Gf
set_option linter.unusedVariables false
set_option maxHeartbeats 2000000 in
set_option maxRecDepth 100000 in
theorem matrixRows_walk (a0 : Option Addr) (len0 cap0 : Nat) (z0 : List ByteArray) (a1 : Option Addr) (len1 cap1 : Nat) (z1 : List ByteArray) (a2 : Option Addr) (len2 cap2 : Nat) (z2 : List Int) (a3 a4 : Int) (w : World) (w0 : IsStrs w a0 len0 cap0 z0) (w1 : IsStrs w a1 len1 cap1 z1) (w2 : IsRow .i64 w a2 len2 cap2 z2) (w3 : (Lit.int .i64 a3).wf = true) (w4 : (Lit.int .i64 a4).wf = true) :
    Calls Try.prog 4 #[.slice a0 len0 cap0, .slice a1 len1 cap1, .slice a2 len2 cap2, .int .i64 a3, .int .i64 a4] w fun e w' => e = .returned (.bool true) ∧ Kept w w' := by
  obtain ⟨ss, rfl, hS, hs⟩ := w0.all
  obtain ⟨ts, rfl, hT, ht⟩ := w1.all
  obtain ⟨hR, hl, hlm, hwf⟩ := w2.ints
  obtain ⟨n0, n1⟩ := bounds_i64 w3
  obtain ⟨m0, m1⟩ := bounds_i64 w4
  clear w0 w1 w2 w3 w4
  generalize z2.take len2 = rs at *
  subst hl
  have S := Lib.hid hS
  have T := Lib.hid hT
  have R := Lib.hid hR
  have HS := Lib.hid hs
  have HT := Lib.hid ht
  have HRL := Lib.hid hlm
  have HRB : Hid (∀ r ∈ rs, -9223372036854775808 ≤ r ∧ r ≤ 9223372036854775807) := fun r hr => bounds_i64 (hwf r hr)
  unfold maxLen at hlm
  clear hS hT hR hs ht hwf
  go_enter Try.func4, Try.ntmps4
  go_wp2_with fail
  refine (heavy_any a0 cap0 ss _ S.out HS.out.1 HS.out.2).mono ?_
  rintro e w1 ⟨rfl, k1⟩
  cases hv1 : heavyB ss
  · go_wp2_with fail
    refine (heavy_any a1 cap1 ts _ (T.out.kept k1) HT.out.1 HT.out.2).mono ?_
    rintro e w2 ⟨rfl, k2⟩
    have K2 := k1.trans k2
    clear k1 k2
    cases hv2 : heavyB ts
    · rcases Nat.lt_or_ge 200 rs.length with hrl | hrl
      · clear hv1 hv2
        go_wp2_with fail
        refine (matAlive_any _).mono ?_
        rintro e w12 ⟨rfl, j12⟩
        go_wp2_with fail
        go_ret
        exact ⟨rfl, K2.trans j12⟩
      · have HV1 := Lib.hid hv1
        have HV2 := Lib.hid hv2
        go_wp2_with fail
        refine (pCauchy_any a3 a4 _ (by omega) (by omega) (by omega) (by omega)).mono ?_
        rintro e w3 ⟨b3, c3, rfl, s3, j3⟩
        have K3 := K2.trans j3
        clear j3
        go_wp2_with fail
        refine (refCauchy_any a3 a4 _ (by omega) (by omega) (by omega) (by omega)).mono ?_
        rintro e w4 ⟨b4, c4, rfl, s4, j4⟩
        have K4 := K3.trans j4
        replace s3 := s3.kept j4
        clear j4
        go_wp2_with fail
        refine (pPick_any a0 a2 cap0 cap2 ss rs _ (S.out.kept K4) (R.out.kept K4) HS.out.1 HRL.out HS.out.2 HRB.out).mono ?_
        rintro e w5 ⟨b5, c5, rfl, s5, j5⟩
        have K5 := K4.trans j5
        replace s3 := s3.kept j5
        replace s4 := s4.kept j5
        clear j5
        go_wp2_with fail
        refine (refPick_any a0 a2 cap0 cap2 ss rs _ (S.out.kept K5) (R.out.kept K5) HS.out.1 HRL.out HS.out.2 HRB.out).mono ?_
        rintro e w6 ⟨b6, c6, rfl, s6, j6⟩
        have K6 := K5.trans j6
        replace s3 := s3.kept j6
        replace s4 := s4.kept j6
        replace s5 := s5.kept j6
        clear j6
        go_wp2_with fail
        refine (pBelow_any a0 a1 cap0 cap1 ss ts _ (S.out.kept K6) (T.out.kept K6) HS.out.1 HT.out.1 HS.out.2 HT.out.2).mono ?_
        rintro e w7 ⟨b7, c7, rfl, s7, j7⟩
        have K7 := K6.trans j7
        replace s3 := s3.kept j7
        replace s4 := s4.kept j7
        replace s5 := s5.kept j7
        replace s6 := s6.kept j7
        clear j7
        go_wp2_with fail
        refine (refBelow_any a0 a1 cap0 cap1 ss ts _ (S.out.kept K7) (T.out.kept K7) HS.out.1 HT.out.1 HS.out.2 HT.out.2).mono ?_
        rintro e w8 ⟨b8, c8, rfl, s8, j8⟩
        have K8 := K7.trans j8
        replace s3 := s3.kept j8
        replace s4 := s4.kept j8
        replace s5 := s5.kept j8
        replace s6 := s6.kept j8
        replace s7 := s7.kept j8
        clear j8
        have L1 := Lib.hid (cau_len a3 a4)
        have L2 : Hid ((pickL ss rs).length ≤ 200) := Nat.le_trans (pick_len ss rs) hrl
        have L3 : Hid ((belL ss ts).length ≤ 160) := Nat.le_trans (bel_len ss ts) (by have := (heavy_no ss hv1).1; have := (heavy_no ts hv2).1; omega)
        clear hv1 hv2
        generalize cauE a3 a4 = e1 at *
        generalize cauL a3 a4 = r1 at *
        generalize pickE ss rs = e2 at *
        generalize pickL ss rs = r2 at *
        generalize belE ss ts = e3 at *
        generalize belL ss ts = r3 at *
        go_wp2_with fail
        refine (same_self b3 b4 c3 c4 r1 _ s3 s4 (ml L1.out (by decide))).mono ?_
        rintro e w9 ⟨rfl, j9⟩
        have K9 := K8.trans j9
        replace s3 := s3.kept j9
        replace s4 := s4.kept j9
        replace s5 := s5.kept j9
        replace s6 := s6.kept j9
        replace s7 := s7.kept j9
        replace s8 := s8.kept j9
        clear j9
        go_wp2_with fail
        refine (same_self b5 b6 c5 c6 r2 _ s5 s6 (ml L2.out (by decide))).mono ?_
        rintro e w10 ⟨rfl, j10⟩
        have K10 := K9.trans j10
        replace s3 := s3.kept j10
        replace s4 := s4.kept j10
        replace s5 := s5.kept j10
        replace s6 := s6.kept j10
        replace s7 := s7.kept j10
        replace s8 := s8.kept j10
        clear j10
        go_wp2_with fail
        refine (same_self b7 b8 c7 c8 r3 _ s7 s8 (ml L3.out (by decide))).mono ?_
        rintro e w11 ⟨rfl, j11⟩
        have K11 := K10.trans j11
        replace s3 := s3.kept j11
        replace s4 := s4.kept j11
        replace s5 := s5.kept j11
        replace s6 := s6.kept j11
        replace s7 := s7.kept j11
        replace s8 := s8.kept j11
        clear j11
        go_wp2_with fail
        refine (matAlive_any _).mono ?_
        rintro e w12 ⟨rfl, j12⟩
        go_wp2_with fail
        go_ret
        exact ⟨rfl, K11.trans j12⟩
    · clear hv1 hv2
      go_wp2_with fail
      refine (matAlive_any _).mono ?_
      rintro e w12 ⟨rfl, j12⟩
      go_wp2_with fail
      go_ret
      exact ⟨rfl, K2.trans j12⟩
  · clear hv1
    go_wp2_with fail
    refine (matAlive_any _).mono ?_
    rintro e w12 ⟨rfl, j12⟩
    go_wp2_with fail
    go_ret
    exact ⟨rfl, k1.trans j12⟩
end Go.Proofs.Ytlmoeaphikdjnaa
