/- NameBegins' walk. -/
import Derived.Test.YtccpbgkaeldlaaaNyLaw
import Derived.Test.YtccpbgkaeldlaaaNyPre
import Derived.OpenShut
namespace Go.Proofs.Ytccpbgkaeldlaaa
open Go.RowKit Go.ChangeShapes Go.WideShapes _root_.Go.Proofs.Ytccpbgkaeldlaaa.Nm Ny
set_option linter.unusedVariables false
set_option linter.unusedSimpArgs false
/-- With what the keys begin that are like an object's key in three fields. -/
theorem pref3 (bk bg : ByteArray) : prefO ⟨3, bk, bg, 0, 0⟩ 3 = if (bktB bk.data.toList && decide (bg.size ≤ 200)) = true then some (3 :: (bk.data.toList ++ 0 :: nmL bg.data.toList)) else none := by
  unfold prefO prefF
  rw [show hasB 3 = true from rfl, show hasM 3 = true from rfl]
  cases bktB bk.data.toList
  · simp
  · by_cases h : bg.size ≤ 200
    · simp [h]
    · simp [h]
theorem enc3 (bk rs : ByteArray) (n : Nat) : ∃ t, encL ⟨3, bk, rs, n, 0⟩ = 3 :: (bk.data.toList ++ 0 :: (nmL rs.data.toList ++ 0 :: 1 :: t)) := by
  refine ⟨be 8 (tn 3 n), ?_⟩
  unfold encL bP mP nP pP
  rw [show hasB 3 = true from rfl, show hasM 3 = true from rfl, show hasN 3 = true from rfl, show hasP 3 = false from rfl]
  simp
theorem begins3 (bk bg rs : ByteArray) (n : Nat) : (3 :: (bk.data.toList ++ 0 :: nmL bg.data.toList) <+: encL ⟨3, bk, rs, n, 0⟩) ↔ bg.data.toList <+: rs.data.toList := by
  obtain ⟨t, ht⟩ := enc3 bk rs n
  rw [ht, List.cons_prefix_cons, List.prefix_append_right_inj, List.cons_prefix_cons, nm_begins]
  simp
/-- Does a text begin with another: as the program asks it. -/
theorem begB (t p : ByteArray) : ∃ c q : Bool, decide (p.size ≤ t.size) = c ∧ ((t.extract 0 p.size).toList == p.toList) = q ∧ ((c = true ∧ q = true) ↔ p.data.toList <+: t.data.toList) := by
  refine ⟨_, _, rfl, rfl, ?_⟩
  rw [decide_eq_true_eq, bytes_eq, ext_take, List.prefix_iff_eq_take, list_size]
  constructor
  · rintro ⟨h1, h2⟩
    exact (by have := congrArg (fun b : ByteArray => b.data.toList) h2; simpa using this.symm)
  · intro h
    have hl := congrArg List.length h
    rw [List.length_take, list_size, list_size] at hl
    exact ⟨by omega, by rw [← h]⟩
set_option maxHeartbeats 2000000 in
set_option maxRecDepth 100000 in
theorem nameBegins_walk (bk bg rs : ByteArray) (n : Int) (s : ByteArray) (w : World) (w0 : bk.size ≤ maxLen) (w1 : bg.size ≤ maxLen) (w2 : rs.size ≤ maxLen) (w3 : (Lit.int .u64 n).wf = true) (w4 : s.size ≤ maxLen) :
    Calls Try.prog 5 #[.string bk, .string bg, .string rs, .int .u64 n, .string s] w fun e w' => e = .returned (.bool true) ∧ Kept w w' := by
  obtain ⟨x0, x1⟩ := bounds_u64 w3
  obtain ⟨n, rfl⟩ : ∃ m : Nat, n = (m : Nat) := ⟨n.toNat, by omega⟩
  have HPA : Hid ((⟨3, bk, bg, 0, 0⟩ : Key).Wf) := ⟨by show 3 < 256; decide, w0, w1, by show 0 < _; decide, by show _ ≤ (0 : Int); decide, by show (0 : Int) ≤ _; decide⟩
  have HPB : Hid ((⟨3, bk, rs, n, 0⟩ : Key).Wf) := ⟨by show 3 < 256; decide, w0, w2, by show n < _; omega, by show _ ≤ (0 : Int); decide, by show (0 : Int) ≤ _; decide⟩
  have HL4 := Lib.hid (fun W => long_4 bk bg rs s 9 W w0 w1 w2 w4)
  clear w0 w1 w2 w3 w4 x0 x1
  go_enter Try.func5, Try.ntmps5
  go_wp2_with fail
  refine (HL4.out _).mono ?_
  rintro e u ⟨rfl, hu⟩
  have K1 := Lib.hid (((Kept.refl w).alloc (.cells #[.string bk, .string bg, .string rs, .string s] 9)))
  rw [← hu] at K1
  clear hu HL4
  have HLL := Lib.hid (fun h => longB_all (l := [bk, bg, rs, s]) (n := 0) h)
  generalize longB [bk, bg, rs, s] 0 = lb at *
  cases lb
  case true =>
    go_wp2_with fail
    refine (works_any _).mono ?_
    rintro e v ⟨rfl, hv⟩
    have K3 := Lib.hid (K1.out.trans hv)
    clear hv
    go_wp2_with fail
    go_ret
    exact ⟨rfl, K3.out⟩
  have hpp := fun W => pPrefix_any ⟨3, bk, bg, 0, 0⟩ 3 W HPA.out
  rw [pref3] at hpp
  have HBG : Hid (bg.size ≤ 2048) := HLL.out (by first | trivial | rfl) bg (by simp)
  have HRS : Hid (rs.size ≤ 2048) := HLL.out (by first | trivial | rfl) rs (by simp)
  have HBK : Hid (bk.size ≤ 2048) := HLL.out (by first | trivial | rfl) bk (by simp)
  have HSS : Hid (s.size ≤ 2048) := HLL.out (by first | trivial | rfl) s (by simp)
  clear HLL
  unfold Key.val at hpp
  dsimp only at hpp
  by_cases hb : (bktB bk.data.toList && decide (bg.size ≤ 200)) = true
  case neg =>
    rw [if_neg hb] at hpp
    have HPP := Lib.hid hpp
    clear hpp hb
    unfold prefV at HPP
    dsimp only at HPP
    go_wp2_with fail
    refine (HPP.out _).mono ?_
    rintro e v ⟨rfl, hv⟩
    have K3 := Lib.hid (K1.out.trans hv)
    clear hv
    go_wp2_with fail
    refine (works_any _).mono ?_
    rintro e v2 ⟨rfl, hv⟩
    have K4 := Lib.hid (K3.out.trans hv)
    clear hv
    go_wp2_with fail
    go_ret
    exact ⟨rfl, K4.out⟩
  rw [if_pos hb] at hpp
  have HPP := Lib.hid hpp
  clear hpp
  unfold prefV at HPP
  dsimp only at HPP
  obtain ⟨p, hp⟩ : ∃ p : ByteArray, p = ⟨(3 :: (bk.data.toList ++ 0 :: nmL bg.data.toList)).toArray⟩ := ⟨_, rfl⟩
  rw [← hp] at HPP
  have HPL : Hid (p.data.toList = 3 :: (bk.data.toList ++ 0 :: nmL bg.data.toList)) := by show _ = _; rw [hp]
  have hps : p.size ≤ 10000 := by
    rw [← list_size, HPL.out]
    have := nmL_length bg.data.toList
    rw [list_size] at this
    have h1 := HBG.out
    have h2 := HBK.out
    simp [list_size]
    omega
  clear hp hb HPA
  go_wp2_with fail
  refine (HPP.out _).mono ?_
  rintro e w2 ⟨rfl, hv⟩
  have K2 := Lib.hid (K1.out.trans hv)
  clear hv K1 HPP
  have hee := fun W => pEncode_any ⟨3, bk, rs, n, 0⟩ W HPB.out
  rw [encV_eq] at hee
  have HEE := Lib.hid hee
  clear hee
  unfold Key.val at HEE
  dsimp only at HEE
  go_wp2_with fail
  refine (HEE.out _).mono ?_
  rintro e w3 ⟨rfl, hv⟩
  have K3 := Lib.hid (K2.out.trans hv)
  clear hv K2 HEE
  by_cases hm : mayK ⟨3, bk, rs, n, 0⟩ = true
  case neg =>
    rw [encE_no hm]
    clear hm
    go_wp2_with fail
    refine (works_any _).mono ?_
    rintro e v ⟨rfl, hv⟩
    have K5 := Lib.hid (K3.out.trans hv)
    clear hv
    go_wp2_with fail
    go_ret
    exact ⟨rfl, K5.out⟩
  rw [encE_ok hm]
  have HXP : Hid (p.data.toList <+: (encB ⟨3, bk, rs, n, 0⟩).data.toList ↔ bg.data.toList <+: rs.data.toList) := by
    rw [encB_list hm, HPL.out]
    exact begins3 bk bg rs n
  have hxs := encB_len ⟨3, bk, rs, n, 0⟩ HBK.out HRS.out
  clear hm HPB
  generalize encB ⟨3, bk, rs, n, 0⟩ = x at *
  obtain ⟨bb, hbb⟩ : ∃ b, behO p.data.toList = some b := by rw [HPL.out]; exact behO_pos 3 _ (by decide)
  have HBB := Lib.hid (fun W => pBehind_any p W (by omega))
  have hbl : behL p.data.toList = bb := by unfold behL; rw [hbb]; rfl
  rw [hbl] at HBB
  have hbeh := behO_some hbb
  obtain ⟨b, hb⟩ : ∃ b : ByteArray, b = ⟨bb.toArray⟩ := ⟨_, rfl⟩
  rw [← hb] at HBB
  have hbt : bb = b.toList := by rw [ByteArray.toList_eq, hb]
  rw [hbt, ← ByteArray.toList_eq] at hbeh
  clear hbb hbl hb hbt bb HPL
  obtain ⟨V, hV⟩ : ∃ V : Bool, V = true ↔ bg.data.toList <+: rs.data.toList := ⟨decide (bg.data.toList <+: rs.data.toList), by simp⟩
  obtain ⟨U, hU⟩ : ∃ U : Bool, U = true ↔ p.data.toList <+: s.data.toList := ⟨decide (p.data.toList <+: s.data.toList), by simp⟩
  obtain ⟨c1, q1, hc1, hq1, hw1⟩ := begB rs bg
  obtain ⟨c2, q2, hc2, hq2, hw2⟩ := begB x p
  obtain ⟨c3, q3, hc3, hq3, hw3⟩ := begB s p
  obtain ⟨l1, hl1⟩ : ∃ l, Op.bytesLess x.toList p.toList = l := ⟨_, rfl⟩
  obtain ⟨m1, hm1⟩ : ∃ l, Op.bytesLess x.toList b.toList = l := ⟨_, rfl⟩
  obtain ⟨l3, hl3⟩ : ∃ l, Op.bytesLess s.toList p.toList = l := ⟨_, rfl⟩
  obtain ⟨m3, hm3⟩ : ∃ l, Op.bytesLess s.toList b.toList = l := ⟨_, rfl⟩
  have hv2 := hbeh x.data.toList
  have hv3 := hbeh s.data.toList
  rw [← ByteArray.toList_eq, hl1, hm1] at hv2
  rw [← ByteArray.toList_eq, hl3, hm3] at hv3
  have hxp := HXP.out
  simp only [ByteArray.toList_eq] at hv2 hv3 hxp hV hU hw1 hw2 hw3
  rw [← hV] at hw1
  rw [hxp, ← hV] at hw2 hv2
  rw [← hU] at hw3 hv3
  have A1 : Hid ((c1 && q1) = V) := by show _ = _; rw [Bool.eq_iff_iff, Bool.and_eq_true]; exact hw1
  have A2 : Hid ((c2 && q2) = V) := by show _ = _; rw [Bool.eq_iff_iff, Bool.and_eq_true]; exact hw2
  have A3 : Hid ((c3 && q3) = U) := by show _ = _; rw [Bool.eq_iff_iff, Bool.and_eq_true]; exact hw3
  have B2 : Hid ((!l1 && m1) = V) := by show _ = _; rw [Bool.eq_iff_iff, Bool.and_eq_true, Bool.not_eq_true']; exact hv2.symm
  have B3 : Hid ((!l3 && m3) = U) := by show _ = _; rw [Bool.eq_iff_iff, Bool.and_eq_true, Bool.not_eq_true']; exact hv3.symm
  have hbg := HBG.out
  have hrs := HRS.out
  have hss := HSS.out
  clear hw1 hw2 hw3 HXP HBG HRS HSS HBK hbeh hv2 hv3 hxp hV hU
  go_upto_region 9 with fail
  go_cut [15] from 50 to 62 (fun v wx => v = .bool V ∧ wx = w3)
  case first =>
    have h := A1.out
    cases c1
    · obtain rfl : false = V := h
      go_wp2_with fail
      go_meet
      exact ⟨rfl, rfl⟩
    · obtain rfl : q1 = V := h
      have h1 : bg.size ≤ rs.size := of_decide_eq_true hc1
      go_wp2_with fail
      go_meet
      exact ⟨rfl, rfl⟩
  case rest =>
  obtain ⟨rfl, hx⟩ := hcut
  replace hx := hx.symm
  subst hx
  clear hc1 hq1 A1 hbg hrs
  go_upto_region 10 with fail
  go_cut [77] from 63 to 77 (fun v wx => v = .bool false ∧ wx = w3)
  case first =>
    have h := A2.out
    cases c2
    · obtain rfl : false = V := h
      go_wp2_with fail
      go_meet
      exact ⟨rfl, rfl⟩
    · obtain rfl : q2 = V := h
      have h1 : p.size ≤ x.size := of_decide_eq_true hc2
      cases q2
      all_goals
        go_wp2_with fail
        go_meet
        exact ⟨rfl, rfl⟩
  case rest =>
  obtain ⟨rfl, hx⟩ := hcut
  replace hx := hx.symm
  subst hx
  clear hc2 hq2 A2
  go_wp2_with fail
  refine (HBB.out _).mono ?_
  rintro e w4 ⟨rfl, hv⟩
  have K4 := Lib.hid (K3.out.trans hv)
  clear hv K3 HBB
  go_upto_region 13 with fail
  go_cut [89] from 80 to 89 (fun v wx => v = .bool false ∧ wx = w4)
  case first =>
    have h := B2.out
    cases l1
    · obtain rfl : m1 = V := h
      cases m1
      all_goals
        go_wp2_with fail
        go_meet
        exact ⟨rfl, rfl⟩
    · obtain rfl : false = V := h
      go_wp2_with fail
      go_meet
      exact ⟨rfl, rfl⟩
  case rest =>
  obtain ⟨rfl, hx⟩ := hcut
  replace hx := hx.symm
  subst hx
  clear hl1 hm1 B2
  go_upto_region 15 with fail
  go_cut [17] from 90 to 102 (fun v wx => v = .bool U ∧ wx = w4)
  case first =>
    have h := A3.out
    cases c3
    · obtain rfl : false = U := h
      go_wp2_with fail
      go_meet
      exact ⟨rfl, rfl⟩
    · obtain rfl : q3 = U := h
      have h1 : p.size ≤ s.size := of_decide_eq_true hc3
      go_wp2_with fail
      go_meet
      exact ⟨rfl, rfl⟩
  case rest =>
  obtain ⟨rfl, hx⟩ := hcut
  replace hx := hx.symm
  subst hx
  clear hc3 hq3 A3
  have key : (l3 = false ∧ m3 = false ∧ U = false) ∨ (l3 = false ∧ m3 = true ∧ U = true) ∨ (l3 = true ∧ U = false) := by
    have h := B3.out
    cases l3 <;> cases m3 <;> cases U <;> simp at h ⊢
  clear B3
  rcases key with ⟨rfl, rfl, rfl⟩ | ⟨rfl, rfl, rfl⟩ | ⟨rfl, rfl⟩
  all_goals
    go_wp2_with fail
    refine (works_any _).mono ?_
    rintro e v ⟨rfl, hv⟩
    have K5 := Lib.hid (K4.out.trans hv)
    clear hv
    go_wp2_with fail
    go_ret
    exact ⟨rfl, K5.out⟩
end Go.Proofs.Ytccpbgkaeldlaaa
