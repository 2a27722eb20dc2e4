/- The walks of MatrixTells and MatrixRows. -/
import Derived.Test.YtlmoeaphikdjnaaMatAlive
namespace Go.Proofs.Ytlmoeaphikdjnaa
open Go.RowKit Gf
set_option linter.unusedVariables false
theorem IsStrs.all {w : World} {a : Option Addr} {len cap : Nat} {zs : List ByteArray} (h : IsStrs w a len cap zs) : ∃ ss : List ByteArray, ss.length = len ∧ Strs w a ss ∧ small ss := by
  obtain ⟨h1, h2, h3⟩ := h.strs
  refine ⟨_, h2, h1, ?_, h3⟩
  rw [h2]
  rcases h with ⟨_, rfl, _, _⟩ | ⟨x, _, h4, h5, _⟩
  · exact Nat.zero_le _
  · exact Nat.le_trans h4 h5
theorem prod_len (a b : List ByteArray) : (prodL a b).length ≤ 64 := by
  unfold prodL
  split
  · rename_i h
    rw [matL_length]
    refine (may_yes a (Decidable.byContradiction fun hn => ?_)).2.1
    have h8 : prodE a b = 8 := by unfold prodE; rw [if_neg (fun e => hn e.1)]
    rw [h8] at h
    exact absurd h (by decide)
  · exact Nat.zero_le _
theorem undo_len (a : List ByteArray) : (undoL a).length ≤ 64 := by
  unfold undoL
  split
  · rename_i h
    rw [matL_length]
    have hm : mayB a = true := Decidable.byContradiction fun hn => by have := (undo_form a hn).1; rw [this] at h; exact absurd h.1 (by decide)
    exact (may_yes a hm).2.1
  · exact Nat.zero_le _
theorem unit_len (n : Int) : (unitL n).length ≤ 64 := by
  unfold unitL
  split
  · rw [matL_length]; omega
  · exact Nat.zero_le _
theorem cau_len (n m : Int) : (cauL n m).length ≤ 64 := by
  unfold cauL cauE
  by_cases h : 1 ≤ n ∧ n ≤ 64 ∧ 1 ≤ m ∧ m ≤ 64
  · rw [if_pos h, if_pos rfl, matL_length]; omega
  · rw [if_neg h, if_neg (by decide)]; exact Nat.zero_le _
theorem pick_len (a : List ByteArray) (rs : List Int) : (pickL a rs).length ≤ rs.length := by
  unfold pickL
  split
  · rw [List.length_map]; exact Nat.le_refl _
  · exact Nat.zero_le _
theorem bel_len (a b : List ByteArray) : (belL a b).length ≤ a.length + b.length := by
  unfold belL
  split
  · rw [List.length_append]; exact Nat.le_refl _
  · exact Nat.zero_le _
theorem ml {n m : Nat} (h : n ≤ m) (k : m ≤ 1000) : n ≤ maxLen := by unfold maxLen; omega
/-- A list is the same as itself. -/
theorem same_self (a b : Option Addr) (ca cb : Nat) (ss : List ByteArray) (w : World) (hS : Strs w a ss) (hT : Strs w b ss) (hm : ss.length ≤ maxLen) :
    Calls Try.prog 16 #[.slice a ss.length ca, .slice b ss.length cb] w fun e w' => e = .returned (.bool true) ∧ Kept w w' := by
  refine (same_any a b ca cb ss ss w hS hT hm hm).mono ?_
  rintro e w' ⟨rfl, hk⟩
  exact ⟨by rw [decide_eq_true rfl], hk⟩
set_option maxHeartbeats 2000000 in
set_option maxRecDepth 100000 in
theorem matrixTells_walk (a0 : Option Addr) (len0 cap0 : Nat) (z0 : List ByteArray) (a1 : Option Addr) (len1 cap1 : Nat) (z1 : List ByteArray) (a2 : Int) (w : World) (w0 : IsStrs w a0 len0 cap0 z0) (w1 : IsStrs w a1 len1 cap1 z1) (w2 : (Lit.int .i64 a2).wf = true) :
    Calls Try.prog 3 #[.slice a0 len0 cap0, .slice a1 len1 cap1, .int .i64 a2] w fun e w' => e = .returned (.bool true) ∧ Kept w w' := by
  obtain ⟨ss, rfl, hS, hs⟩ := w0.all
  obtain ⟨ts, rfl, hT, ht⟩ := w1.all
  obtain ⟨n0, n1⟩ := bounds_i64 w2
  have S := Lib.hid hS
  have T := Lib.hid hT
  have HS := Lib.hid hs
  have HT := Lib.hid ht
  clear w0 w1 w2 hS hT hs ht
  go_enter Try.func3, Try.ntmps3
  go_wp2_with fail
  refine (heavy_any a0 cap0 ss _ S.out HS.out.1 HS.out.2).mono ?_
  rintro e w1 ⟨rfl, k1⟩
  cases hv1 : heavyB ss
  · go_wp2_with fail
    refine (heavy_any a1 cap1 ts _ (T.out.kept k1) HT.out.1 HT.out.2).mono ?_
    rintro e w2 ⟨rfl, k2⟩
    cases hv2 : heavyB ts
    · have K2 := k1.trans k2
      clear hv1 hv2 k1 k2
      go_wp2_with fail
      refine (pTimes_any a0 a1 cap0 cap1 ss ts _ (S.out.kept K2) (T.out.kept K2) HS.out.1 HT.out.1 HS.out.2 HT.out.2).mono ?_
      rintro e w3 ⟨b3, c3, rfl, s3, j3⟩
      have K3 := K2.trans j3
      go_wp2_with fail
      refine (refTimes5_any a0 a1 cap0 cap1 ss ts _ (S.out.kept K3) (T.out.kept K3) HS.out.1 HT.out.1 HS.out.2 HT.out.2).mono ?_
      rintro e w4 ⟨b4, c4, rfl, s4, j4⟩
      have K4 := K3.trans j4
      replace s3 := s3.kept j4
      go_wp2_with fail
      refine (pUndo_any a0 cap0 ss _ (S.out.kept K4) HS.out.1 HS.out.2).mono ?_
      rintro e w5 ⟨b5, c5, rfl, s5, j5⟩
      have K5 := K4.trans j5
      replace s3 := s3.kept j5
      replace s4 := s4.kept j5
      go_wp2_with fail
      refine (refUndo_any a0 cap0 ss _ (S.out.kept K5) HS.out.1 HS.out.2).mono ?_
      rintro e w6 ⟨b6, c6, rfl, s6, j6⟩
      have K6 := K5.trans j6
      replace s3 := s3.kept j6
      replace s4 := s4.kept j6
      replace s5 := s5.kept j6
      have L1 := Lib.hid (prod_len ss ts)
      have L2 := Lib.hid (undo_len ss)
      clear K2 K3 K4 K5 j3 j4 j5 j6
      generalize prodE ss ts = e1 at *
      generalize undoE ss = e2 at *
      generalize prodL ss ts = r1 at *
      generalize undoL ss = r2 at *
      go_wp2_with fail
      refine (pMay_any a0 cap0 ss _ (S.out.kept K6) HS.out.1 HS.out.2).mono ?_
      rintro e w7 ⟨rfl, j7⟩
      have K7 := K6.trans j7
      replace s3 := s3.kept j7
      replace s4 := s4.kept j7
      replace s5 := s5.kept j7
      replace s6 := s6.kept j7
      go_wp2_with fail
      refine (refMay_any a0 cap0 ss _ (S.out.kept K7) HS.out.1 HS.out.2).mono ?_
      rintro e w8 ⟨rfl, j8⟩
      have K8 := K7.trans j8
      replace s3 := s3.kept j8
      replace s4 := s4.kept j8
      replace s5 := s5.kept j8
      replace s6 := s6.kept j8
      generalize mayB ss = mb1 at *
      clear K6 K7 j7 j8
      go_wp2_with fail
      refine (pUnit_any a2 _ (by omega) (by omega)).mono ?_
      rintro e w9 ⟨b9, c9, rfl, s9, j9⟩
      have K9 := K8.trans j9
      replace s3 := s3.kept j9
      replace s4 := s4.kept j9
      replace s5 := s5.kept j9
      replace s6 := s6.kept j9
      go_wp2_with fail
      refine (refUnit_any a2 _ (by omega) (by omega)).mono ?_
      rintro e w10 ⟨b10, c10, rfl, s10, j10⟩
      have K10 := K9.trans j10
      replace s3 := s3.kept j10
      replace s4 := s4.kept j10
      replace s5 := s5.kept j10
      replace s6 := s6.kept j10
      replace s9 := s9.kept j10
      have L3 := Lib.hid (unit_len a2)
      clear K8 K9 j9 j10
      generalize unitL a2 = r3 at *
      go_wp2_with fail
      refine (same_self b9 b10 c9 c10 r3 _ s9 s10 (ml L3.out (by decide))).mono ?_
      rintro e w11 ⟨rfl, j11⟩
      replace s3 := s3.kept j11
      replace s4 := s4.kept j11
      replace s5 := s5.kept j11
      replace s6 := s6.kept j11
      go_wp2_with fail
      refine (same_self b3 b4 c3 c4 r1 _ s3 s4 (ml L1.out (by decide))).mono ?_
      rintro e w12 ⟨rfl, j12⟩
      replace s5 := s5.kept j12
      replace s6 := s6.kept j12
      go_wp2_with fail
      refine (same_self b5 b6 c5 c6 r2 _ s5 s6 (ml L2.out (by decide))).mono ?_
      rintro e w13 ⟨rfl, j13⟩
      go_wp2_with fail
      refine (matAlive_any _).mono ?_
      rintro e w14 ⟨rfl, j14⟩
      go_wp2_with fail
      go_ret
      exact ⟨rfl, K10.trans (j11.trans (j12.trans (j13.trans j14)))⟩
    · clear hv1 hv2
      go_wp2_with fail
      refine (matAlive_any _).mono ?_
      rintro e w14 ⟨rfl, j14⟩
      go_wp2_with fail
      go_ret
      exact ⟨rfl, k1.trans (k2.trans j14)⟩
  · clear hv1
    go_wp2_with fail
    refine (matAlive_any _).mono ?_
    rintro e w14 ⟨rfl, j14⟩
    go_wp2_with fail
    go_ret
    exact ⟨rfl, k1.trans j14⟩
end Go.Proofs.Ytlmoeaphikdjnaa
