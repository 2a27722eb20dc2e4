/- The walk of FieldLines. -/
import Derived.Test.YtmfoplkpdibppaaFieldTextsWalk
namespace Go.Proofs.Ytmfoplkpdibppaa
open Go.RowKit Gf
set_option linter.unusedVariables false
theorem mb_lt (c : Nat) (x : UInt8) : (mb c x).toNat < 256 := (mb c x).toNat_lt
theorem u8_ext {a b : UInt8} (h : a.toNat = b.toNat) : a = b := UInt8.toNat.inj h
theorem mb_xor (c : Nat) (x y : UInt8) (hc : c < 256) : mb c (x ^^^ y) = mb c x ^^^ mb c y := by
  apply u8_ext
  rw [mb_nat _ _ hc, UInt8.toNat_xor, UInt8.toNat_xor, mb_nat _ _ hc, mb_nat _ _ hc, mul_right]
theorem mb_mb (c d : Nat) (x : UInt8) (hc : c < 256) (hd : d < 256) : mb c (mb d x) = mb (mul c d) x := by
  apply u8_ext
  rw [mb_nat _ _ hc, mb_nat _ _ hd, mb_nat _ _ (mul_lt hc hd), mul_assoc hc hd x.toNat_lt]
theorem mb_inv (c : Nat) (x : UInt8) (hc : c < 256) (h0 : c ≠ 0) : mb (inv c) (mb c x) = x := by
  apply u8_ext
  rw [mb_nat _ _ (inv_lt hc), mb_nat _ _ hc, mul_assoc (inv_lt hc) hc x.toNat_lt, mul_comm (inv_lt hc) hc, mul_inv hc h0, one_mul x.toNat_lt]
/-- Two texts together. -/
def xB (s t : ByteArray) : ByteArray := strOf s.size fun j => bt s j ^^^ bt t j
theorem xB_size (s t : ByteArray) : (xB s t).size = s.size := strOf_size _ _
theorem even_two (s t : ByteArray) (h : s.size = t.size) : evenB [s, t] = true := by unfold evenB; simp [h]
theorem pl_two (s t : ByteArray) (h : s.size = t.size) : plS [s, t] = xB s t ∧ plE [s, t] = 0 := by
  unfold plS plE
  rw [if_pos (even_two s t h), if_pos (even_two s t h)]
  refine ⟨strOf_congr _ _ _ (fun j _ => ?_), rfl⟩
  show (0 ^^^ bt s j) ^^^ bt t j = _
  simp
theorem sum_two (c d : UInt8) (s t : ByteArray) (h : s.size = t.size) : sumS ⟨#[c, d]⟩ [s, t] = xB (timesB c.toNat s) (timesB d.toNat t) ∧ sumE ⟨#[c, d]⟩ [s, t] = 0 := by
  have ho : sumOk ⟨#[c, d]⟩ [s, t] = true := by unfold sumOk; rw [even_two s t h]; rfl
  unfold sumS sumE
  rw [if_pos ho, if_pos ho]
  refine ⟨?_, rfl⟩
  unfold xB
  rw [times_size]
  refine strOf_congr _ _ _ (fun j hj => ?_)
  have hj2 : j < s.size := hj
  rw [times_bt _ s _ hj2, times_bt _ t _ (by rw [← h]; exact hj2)]
  show (0 ^^^ mb c.toNat (bt s j)) ^^^ mb d.toNat (bt t j) = _
  simp
theorem times_xB (c : Nat) (s t : ByteArray) (hc : c < 256) (h : s.size = t.size) : timesB c (xB s t) = xB (timesB c s) (timesB c t) := by
  unfold timesB
  rw [xB_size]
  show _ = strOf _ _
  rw [strOf_size]
  refine strOf_congr _ _ _ (fun j hj => ?_)
  show mb c (bt (xB s t) j) = bt (timesB c s) j ^^^ bt (timesB c t) j
  rw [times_bt _ _ _ hj, times_bt _ _ _ (by rw [← h]; exact hj), ← mb_xor _ _ _ hc]
  unfold xB
  rw [strOf_bt _ _ _ hj]
theorem times_times (c d : Nat) (s : ByteArray) (hc : c < 256) (hd : d < 256) : timesB c (timesB d s) = timesB (mul c d) s := by
  show strOf _ _ = strOf _ _
  rw [times_size]
  exact strOf_congr _ _ _ (fun j hj => by rw [times_bt _ _ _ hj, mb_mb _ _ _ hc hd])
theorem times_inv (c : Nat) (s : ByteArray) (hc : c < 256) (h0 : c ≠ 0) : timesB (inv c) (timesB c s) = s := by
  show strOf _ _ = _
  rw [times_size, strOf_congr s.size _ (bt s) (fun j hj => by rw [times_bt _ _ _ hj, mb_inv _ _ hc h0]), strOf_self]
theorem times_n (c : Nat) (s r : ByteArray) (hc : c < 256) (w : World) (hs : s.size ≤ 512) (h : timesB c s = r) : Calls Try.prog 23 #[.int .u8 (c : Nat), .string s] w fun e w' => e = .returned (.string r) ∧ Kept w w' := by
  subst h
  exact times_any c s hc (by omega) w
theorem size_one (w : World) (o : Obj) : (w.alloc o).heap.size = w.heap.size + 1 := by show (w.heap.push o).size = _; simp
theorem strs_two_at (w : World) (o : Obj) (a b : ByteArray) (t : TypeId) : Strs ((w.alloc o).alloc (.cells #[.string a, .string b] t)) (some ⟨w.heap.size + 1, 0, none⟩) [a, b] := by
  rw [← size_one w o]
  exact strs_two _ _ _ _
set_option maxHeartbeats 1000000 in
set_option maxRecDepth 100000 in
theorem fieldLines_walk (a0 a1 : Int) (a2 a3 : ByteArray) (w : World) (w0 : (Lit.int .u8 a0).wf = true) (w1 : (Lit.int .u8 a1).wf = true) (w2 : a2.size ≤ maxLen) (w3 : a3.size ≤ maxLen) :
    Calls Try.prog 6 #[.int .u8 a0, .int .u8 a1, .string a2, .string a3] w fun e w' => e = .returned (.bool true) ∧ Kept w w' := by
  obtain ⟨x0, x1⟩ := bounds_u8 w0
  obtain ⟨y0, y1⟩ := bounds_u8 w1
  obtain ⟨c, rfl, hc⟩ := nat_of a0 x0 (by omega)
  obtain ⟨d, rfl, hd⟩ := nat_of a1 y0 (by omega)
  clear w0 w1 x0 x1 y0 y1
  have HTW : Hid (∀ s ∈ [a2, a3], s.size ≤ maxLen) := all_two _ _ _ w2 w3
  unfold maxLen at w2 w3
  go_enter Try.func6, Try.ntmps6
  go_wp2_with fail
  refine (long_any _ 2 [a2, a3] _ (strs_two _ _ _ _) (by show 2 ≤ maxLen; decide) HTW.out).mono ?_
  rintro e w1 ⟨rfl, rfl⟩
  cases hv : longB [a2, a3]
  · obtain ⟨_, hz⟩ := longB_no _ hv
    have hz2 : a2.size ≤ 512 := hz _ (by simp)
    have hz3 : a3.size ≤ 512 := hz _ (by simp)
    have k1 : Kept w (w.alloc (.cells #[.string a2, .string a3] 9)) := (Kept.refl _).alloc _
    clear hv hz w2 w3 HTW
    generalize w.alloc (.cells #[.string a2, .string a3] 9) = w9 at *
    go_upto_if 28 with fail
    go_cut [3] from 29 to 32 (fun y wx => ∃ t : ByteArray, y = .string t ∧ t.size ≤ a2.size ∧ t.size ≤ 512 ∧ wx = w9)
    case first =>
      rcases Nat.lt_or_ge a2.size a3.size with h | h
      · go_wp2_with fail
        go_meet
        exact ⟨a3.extract 0 a2.size, rfl, by rw [ByteArray.size_extract]; omega, by rw [ByteArray.size_extract]; omega, rfl⟩
      · go_wp2_with fail
        go_meet
        exact ⟨a3, rfl, h, hz3, rfl⟩
    case rest =>
      obtain ⟨t, rfl, hst, hs5, rfl⟩ := hcut
      obtain ⟨s, hs⟩ : ∃ s, a2.extract 0 t.size = s := ⟨_, rfl⟩
      have hss : s.size = t.size := by rw [← hs, ByteArray.size_extract]; omega
      go_upto_region 6 with fail
      clear hs hst hz2 hz3
      have zt : t.size ≤ 512 := hs5
      have zs : s.size ≤ 512 := by omega
      obtain ⟨A, hA⟩ : ∃ A, xB s t = A := ⟨_, rfl⟩
      obtain ⟨S1, hS1⟩ : ∃ A, timesB c s = A := ⟨_, rfl⟩
      obtain ⟨T1, hT1⟩ : ∃ A, timesB c t = A := ⟨_, rfl⟩
      obtain ⟨T2, hT2⟩ : ∃ A, timesB d t = A := ⟨_, rfl⟩
      obtain ⟨D1, hD1⟩ : ∃ A, timesB d s = A := ⟨_, rfl⟩
      obtain ⟨B, hB⟩ : ∃ A, xB S1 T1 = A := ⟨_, rfl⟩
      obtain ⟨X, hX⟩ : ∃ A, xB S1 T2 = A := ⟨_, rfl⟩
      obtain ⟨E1, hE1⟩ : ∃ A, timesB c D1 = A := ⟨_, rfl⟩
      obtain ⟨m, hmm⟩ : ∃ m, mul c d = m := ⟨_, rfl⟩
      obtain ⟨C, hC⟩ : ∃ C : UInt8, C.toNat = c := ⟨UInt8.ofNat c, by simp; omega⟩
      obtain ⟨D, hD⟩ : ∃ D : UInt8, D.toNat = d := ⟨UInt8.ofNat d, by simp; omega⟩
      have hm : m < 256 := hmm ▸ mul_lt hc hd
      have z1 : S1.size = s.size := by rw [← hS1, times_size]
      have z2 : T1.size = t.size := by rw [← hT1, times_size]
      have z3 : T2.size = t.size := by rw [← hT2, times_size]
      have z4 : D1.size = s.size := by rw [← hD1, times_size]
      have z5 : A.size = s.size := by rw [← hA, xB_size]
      have zA : A.size ≤ 512 := by omega
      have zD : D1.size ≤ 512 := by omega
      have zS : S1.size ≤ 512 := by omega
      have e1 : Hid (plS [s, t] = A ∧ plE [s, t] = 0) := ⟨by rw [(pl_two s t hss).1, hA], (pl_two s t hss).2⟩
      have e2 := Lib.hid hS1
      have e3 := Lib.hid hT1
      have e4 : Hid (plS [S1, T1] = B ∧ plE [S1, T1] = 0) := ⟨by rw [(pl_two S1 T1 (by omega)).1, hB], (pl_two S1 T1 (by omega)).2⟩
      have e5 : Hid (sumS ⟨#[C, D]⟩ [s, t] = X ∧ sumE ⟨#[C, D]⟩ [s, t] = 0) := ⟨by rw [(sum_two C D s t hss).1, hC, hD, hS1, hT2, hX], (sum_two C D s t hss).2⟩
      have e6 := Lib.hid hT2
      have e7 : Hid (plS [S1, T2] = X ∧ plE [S1, T2] = 0) := ⟨by rw [(pl_two S1 T2 (by omega)).1, hX], (pl_two S1 T2 (by omega)).2⟩
      have e8 : Hid (timesB c A = B) := by show _ = _; rw [← hA, times_xB c s t hc hss, hS1, hT1, hB]
      have e9 := Lib.hid hD1
      have e10 := Lib.hid hE1
      have e11 := Lib.hid hmm
      have e12 : Hid (timesB m s = E1) := by show _ = _; rw [← hE1, ← hD1, times_times c d s hc hd, hmm]
      have hcv : ∀ W : World, (convert 45 9 (.slice (some ⟨W.heap.size, 0, none⟩) 2 2)).run Try.prog (W.alloc (.cells #[.int .u8 (c : Nat), .int .u8 (d : Nat)] 5)) = .ok (.string ⟨#[C, D]⟩) (W.alloc (.cells #[.int .u8 (c : Nat), .int .u8 (d : Nat)] 5)) := fun W => by
        refine run_convert_bytes_back (P := Try.prog) _ 45 9 5 ⟨W.heap.size, 0, none⟩ 2 [C, D] Try.underlying45 Try.underlying5 Try.underlying9 (fun j hj => ?_)
        rw [add_at, World.cell?_alloc_mark]
        match j, hj with
        | 0, _ => simp [hC]
        | 1, _ => simp [hD]
      have hi := inv_lt hc
      clear hA hS1 hT1 hT2 hD1 hB hX hE1 hmm hC hD hs5
      go_wp2_with fail
      refine (plus_c _ 2 2 [s, t] A 0 _ (strs_two _ _ _ _) rfl (by show 2 ≤ 100000000; decide) (all_two _ _ _ (by omega) (by omega)) e1.out).mono ?_
      rintro e w10 ⟨rfl, k10⟩
      go_wp2_with fail
      refine (times_n c s S1 hc _ zs e2.out).mono ?_
      rintro e w11 ⟨rfl, k11⟩
      go_wp2_with fail
      refine (times_n c t T1 hc _ zt e3.out).mono ?_
      rintro e w12 ⟨rfl, k12⟩
      go_wp2_with fail
      refine (plus_c _ 2 2 [S1, T1] B 0 _ (strs_two _ _ _ _) rfl (by show 2 ≤ 100000000; decide) (all_two _ _ _ (by omega) (by omega)) e4.out).mono ?_
      rintro e w13 ⟨rfl, k13⟩
      go_wp2_with fail
      refine (sum_c ⟨#[C, D]⟩ _ 2 2 [s, t] X 0 _ (strs_two_at _ _ _ _ _) rfl (by show 2 ≤ 100000000; decide) (all_two _ _ _ (by omega) (by omega)) (by show 2 ≤ 100000000; decide) e5.out).mono ?_
      rintro e w14 ⟨rfl, k14⟩
      go_wp2_with fail
      refine (times_n c s S1 hc _ zs e2.out).mono ?_
      rintro e w15 ⟨rfl, k15⟩
      go_wp2_with fail
      refine (times_n d t T2 hd _ zt e6.out).mono ?_
      rintro e w16 ⟨rfl, k16⟩
      go_wp2_with fail
      refine (plus_c _ 2 2 [S1, T2] X 0 _ (strs_two _ _ _ _) rfl (by show 2 ≤ 100000000; decide) (all_two _ _ _ (by omega) (by omega)) e7.out).mono ?_
      rintro e w17 ⟨rfl, k17⟩
      go_wp2_with fail
      refine (times_n c A B hc _ zA e8.out).mono ?_
      rintro e w18 ⟨rfl, k18⟩
      go_wp2_with fail
      refine (times_n d s D1 hd _ zs e9.out).mono ?_
      rintro e w19 ⟨rfl, k19⟩
      go_wp2_with fail
      refine (times_n c D1 E1 hc _ zD e10.out).mono ?_
      rintro e w20 ⟨rfl, k20⟩
      go_wp2_with fail
      refine (mul_n c d m hc hd _ e11.out).mono ?_
      rintro e w21 ⟨rfl, k21⟩
      go_wp2_with fail
      refine (times_n m s E1 hm _ zs e12.out).mono ?_
      rintro e w22 ⟨rfl, k22⟩
      go_wp2_with fail
      refine (inv_any c hc _).mono ?_
      rintro e w30 ⟨rfl, k30⟩
      have HK : Hid (Kept w w30) := k1.trans (((Kept.refl _).alloc _).trans (k10.trans (k11.trans (k12.trans (((Kept.refl _).alloc _).trans (k13.trans (((Kept.refl _).alloc _).trans (((Kept.refl _).alloc _).trans (k14.trans (k15.trans (k16.trans (((Kept.refl _).alloc _).trans (k17.trans (k18.trans (k19.trans (k20.trans (k21.trans (k22.trans (k30)))))))))))))))))))
      clear k10 k11 k12 k13 k14 k15 k16 k17 k18 k19 k20 k21 k22 k30 hcv
      obtain ⟨g1, hg1⟩ : ∃ g, quoE c = g := ⟨_, rfl⟩
      obtain ⟨g4, hg4⟩ : ∃ g, quo 1 c = g := ⟨_, rfl⟩
      rw [hg1, hg4]
      have HG1 := Lib.hid hg1
      have HG4 := Lib.hid hg4
      clear hg1 hg4
      by_cases h0 : c = 0
      · have hg : g1 = 40 := by rw [← HG1.out]; unfold quoE; rw [if_pos h0]
        subst hg
        clear h0
        go_wp2_with fail
        refine (fieldAlive_any _).mono ?_
        rintro e w31 ⟨rfl, k31⟩
        go_wp2_with fail
        go_ret
        exact ⟨rfl, HK.out.trans k31⟩
      · have hg : g1 = 0 := by rw [← HG1.out]; unfold quoE; rw [if_neg h0]
        have hq : g4 = inv c := by rw [← HG4.out, quo_one c hc h0]
        have h4 : g4 < 256 := by rw [hq]; exact hi
        have e13 : Hid (timesB g4 S1 = s) := by show _ = _; rw [hq, ← e2.out, times_inv c s hc h0]
        subst hg
        clear hq
        go_wp2_with fail
        refine (times_n c s S1 hc _ zs e2.out).mono ?_
        rintro e w31 ⟨rfl, k31⟩
        go_wp2_with fail
        refine (times_n g4 S1 s h4 _ zS e13.out).mono ?_
        rintro e w32 ⟨rfl, k32⟩
        go_wp2_with fail
        refine (fieldAlive_any _).mono ?_
        rintro e w33 ⟨rfl, k33⟩
        go_wp2_with fail
        go_ret
        exact ⟨rfl, HK.out.trans (k31.trans (k32.trans k33))⟩
  · clear hv
    go_wp2_with fail
    refine (fieldAlive_any _).mono ?_
    rintro e w2 ⟨rfl, k2⟩
    go_wp2_with fail
    go_ret
    exact ⟨rfl, ((Kept.refl _).alloc _).trans k2⟩
end Go.Proofs.Ytmfoplkpdibppaa
