/- The document's: a key's bytes; a number out of eight bytes. -/
import Derived.Test.YtccpbgkaeldlaaaNyRTxt
import Derived.Test.YtccpbgkaeldlaaaNyTake
namespace Go.Proofs.Ytccpbgkaeldlaaa
open Go.RowKit _root_.Go.Proofs.Ytccpbgkaeldlaaa.Nm Ny
set_option linter.unusedVariables false
set_option linter.unusedSimpArgs false
set_option maxHeartbeats 1000000 in
set_option maxRecDepth 100000 in
theorem rNumber_any (s : ByteArray) (w : World) (hs : 8 ≤ s.size) (hm : s.size ≤ 1000000) :
    Calls Try.prog 33 #[.string s] w fun e w' => e = .returned (.int .u64 (val (s.data.toList.take 8) : Nat)) ∧ w' = w := by
  have HSL := Lib.hid (list_size s)
  go_enter Try.func33, Try.ntmps33
  go_wp2_with fail
  go_loopw [3, 4] (fun x i wr => ∃ k : Nat, k ≤ 8 ∧ i = .int .i64 k ∧ ∃ y : Nat, x = .int .u64 (y : Nat) ∧ y < 256 ^ k ∧ Hid (y = val (s.data.toList.take k)) ∧ wr = w) (fun _ i _ => 8 - (intOf i).toNat)
  case atStart => exact ⟨0, Nat.zero_le _, rfl, 0, rfl, by simp, rfl, rfl⟩
  case round =>
    obtain ⟨k, hk, rfl, y, rfl, hy, HY, rfl⟩ := hrel
    by_cases hlt : k < 8
    · have hks : k < s.size := by omega
      have hkl : k < s.data.toList.length := by rw [HSL.out]; omega
      obtain ⟨b, hb0⟩ : ∃ b, s[k] = b := ⟨_, rfl⟩
      have HV : Hid (val (s.data.toList.take (k + 1)) = 256 * val (s.data.toList.take k) + b.toNat) := by
        show _ = _
        rw [val_take _ k hkl, getElem!_pos _ k hkl, ← hb0]
        rfl
      have hb : b.toNat < 256 := UInt8.toNat_lt _
      have HO := Lib.hid (or_u64' y b.toNat (pow_56 hy (by omega)) hb)
      have HS := Lib.hid (val_step hy hb)
      go_wp2_with fail
      exact ⟨⟨k + 1, by omega, by go_num, 256 * y + b.toNat, by rw [HO.out], HS.out, by rw [HV.out, HY.out]; rfl, by first | rfl | trivial⟩, by simp [intOf]; omega⟩
    · obtain rfl : k = 8 := by omega
      have hyv := HY.out
      have HYV := Lib.hid hyv
      clear hyv HY
      go_wp2_with fail
      go_ret
      exact ⟨by rw [← HYV.out]; rfl, rfl⟩
theorem two_be (p : Nat) : be 2 p = [UInt8.ofNat (p / 256), UInt8.ofNat p] := by
  show [UInt8.ofNat (p / 256 ^ 1), UInt8.ofNat (p / 256 ^ 0)] = _
  simp
theorem two_bytes (w : World) (x y : Int) (a b : UInt8) (h : x = (a.toNat : Nat)) (h' : y = (b.toNat : Nat)) : (convert 50 9 (.slice (some ⟨w.heap.size, 0, none⟩) 2 2)).run Try.prog (w.alloc (.cells #[.int .u8 x, .int .u8 y] 5)) = .ok (.string ⟨#[a, b]⟩) (w.alloc (.cells #[.int .u8 x, .int .u8 y] 5)) := by
  subst h h'
  have hr := run_convert_bytes_back (P := Try.prog) (w.alloc (.cells #[.int .u8 (a.toNat : Nat), .int .u8 (b.toNat : Nat)] 5)) 50 9 5 ⟨w.heap.size, 0, none⟩ 2 [a, b] Try.underlying50 Try.underlying5 Try.underlying9 (fun j hj => by
    rw [add_at, World.cell?_alloc_mark]
    match j, hj with
    | 0, _ => rfl
    | 1, _ => rfl)
  exact hr
set_option maxHeartbeats 2000000 in
set_option maxRecDepth 100000 in
theorem rBytes_1 (bk nm : ByteArray) (n P : Nat) (pt : Int) (w : World) (hb1 : bk.size ≤ 63) (hb2 : nm.size ≤ 200) (hn : n < 18446744073709551616) (hP : P ≤ 1000) (hpt : pt = (P : Int)) :
    Calls Try.prog 24 #[.agg #[.int .u8 1, .string bk, .string nm, .int .u64 (n : Nat), .int .i64 pt]] w fun e w' => e = .returned (.string ⟨([1]).toArray⟩) ∧ Kept w w' := by
  have HK := Lib.hid ((Kept.refl w).alloc (.cells #[.int .u8 1, .string bk, .string nm, .int .u64 (n : Nat), .int .i64 pt] 24))
  have HX := Lib.hid (KyAt.laid w 24 ⟨1, bk, nm, n, pt⟩)
  have HB : Hid (∀ W, Calls Try.prog 31 #[.int .u8 1] W fun e w' => e = .returned (.bool false) ∧ w' = W) := fun W => rHasB_any 1 W
  have HN : Hid (∀ W, Calls Try.prog 32 #[.int .u8 1] W fun e w' => e = .returned (.bool false) ∧ w' = W) := fun W => rHasN_any 1 W
  have zb : bk.data.toList.length ≤ 63 := by rw [list_size]; exact hb1
  have zn : (nmL nm.data.toList).length ≤ 400 := by have := nmL_length nm.data.toList; rw [list_size] at this; omega
  have HONE := Lib.hid (fun W => one_byteM W (1 : Int) 1 rfl)
  subst hpt
  go_enter Try.func24, Try.ntmps24
  go_upto_region 1 with fail
  generalize w.alloc _ = w0 at *
  obtain ⟨c0, c1, c2, c3, c4, _, _, _, _, _⟩ := HX.out
  dsimp only at c0 c3
  have hone := HONE.out w0
  clear HONE
  go_upto_region 2 with fail
  have hk1 : Kept w0 (w0.alloc (.cells #[.int .u8 1] 5)) := (Kept.refl _).alloc _
  clear hone c0 c1 c2 c3 c4
  generalize w0.alloc (.cells #[.int .u8 1] 5) = w1 at *
  obtain ⟨c0, c1, c2, c3, c4, _, _, _, _, _⟩ := HX.out.kept hk1
  dsimp only at c0 c3
  have HK1 := Lib.hid (HK.out.trans hk1)
  have HX1 := Lib.hid (HX.out.kept hk1)
  clear hk1 HX HK
  go_wp2_with (first
    | (go_at_call 31; refine (HB.out _).mono ?_; rintro e w3 ⟨rfl, hw3⟩; replace hw3 := hw3.symm; subst hw3)
    | (go_at_call 32; refine (HN.out _).mono ?_; rintro e w3 ⟨rfl, hw3⟩; replace hw3 := hw3.symm; subst hw3))
  go_ret
  exact ⟨rfl, HK1.out⟩
set_option maxHeartbeats 2000000 in
set_option maxRecDepth 100000 in
theorem rBytes_2 (bk nm : ByteArray) (n P : Nat) (pt : Int) (w : World) (hb1 : bk.size ≤ 63) (hb2 : nm.size ≤ 200) (hn : n < 18446744073709551616) (hP : P ≤ 1000) (hpt : pt = (P : Int)) :
    Calls Try.prog 24 #[.agg #[.int .u8 2, .string bk, .string nm, .int .u64 (n : Nat), .int .i64 pt]] w fun e w' => e = .returned (.string ⟨([2] ++ bk.data.toList ++ [0]).toArray⟩) ∧ Kept w w' := by
  have HK := Lib.hid ((Kept.refl w).alloc (.cells #[.int .u8 2, .string bk, .string nm, .int .u64 (n : Nat), .int .i64 pt] 24))
  have HX := Lib.hid (KyAt.laid w 24 ⟨2, bk, nm, n, pt⟩)
  have HB : Hid (∀ W, Calls Try.prog 31 #[.int .u8 2] W fun e w' => e = .returned (.bool true) ∧ w' = W) := fun W => rHasB_any 2 W
  have HN : Hid (∀ W, Calls Try.prog 32 #[.int .u8 2] W fun e w' => e = .returned (.bool false) ∧ w' = W) := fun W => rHasN_any 2 W
  have zb : bk.data.toList.length ≤ 63 := by rw [list_size]; exact hb1
  have zn : (nmL nm.data.toList).length ≤ 400 := by have := nmL_length nm.data.toList; rw [list_size] at this; omega
  have HONE := Lib.hid (fun W => one_byteM W (2 : Int) 2 rfl)
  obtain ⟨A1, hA1⟩ : ∃ A, ([2] : List UInt8) ++ bk.data.toList = A := ⟨_, rfl⟩
  have zA1 : A1.length ≤ 64 := by rw [← hA1]; simp only [List.length_append, List.length_cons, List.length_nil, be_length]; omega
  have hadd1 := fun W => add_strN ⟨#[2]⟩ bk A1 hA1 (by omega) W
  obtain ⟨A2, hA2⟩ : ∃ A, A1 ++ [0] = A := ⟨_, rfl⟩
  have zA2 : A2.length ≤ 65 := by rw [← hA2]; simp only [List.length_append, List.length_cons, List.length_nil, be_length]; omega
  have hadd2 := fun W => add_strN ⟨A1.toArray⟩ ⟨#[0]⟩ A2 hA2 (by omega) W
  have HA1 := Lib.hid hA1
  have HA2 := Lib.hid hA2
  clear hA1 hA2 zA1 zA2
  subst hpt
  go_enter Try.func24, Try.ntmps24
  go_upto_region 1 with fail
  generalize w.alloc _ = w0 at *
  obtain ⟨c0, c1, c2, c3, c4, _, _, _, _, _⟩ := HX.out
  dsimp only at c0 c3
  have hone := HONE.out w0
  clear HONE
  go_upto_region 2 with fail
  have hk1 : Kept w0 (w0.alloc (.cells #[.int .u8 2] 5)) := (Kept.refl _).alloc _
  clear hone c0 c1 c2 c3 c4
  generalize w0.alloc (.cells #[.int .u8 2] 5) = w1 at *
  obtain ⟨c0, c1, c2, c3, c4, _, _, _, _, _⟩ := HX.out.kept hk1
  dsimp only at c0 c3
  have HK1 := Lib.hid (HK.out.trans hk1)
  have HX1 := Lib.hid (HX.out.kept hk1)
  clear hk1 HX HK
  go_wp2_with (first
    | (go_at_call 31; refine (HB.out _).mono ?_; rintro e w3 ⟨rfl, hw3⟩; replace hw3 := hw3.symm; subst hw3)
    | (go_at_call 32; refine (HN.out _).mono ?_; rintro e w3 ⟨rfl, hw3⟩; replace hw3 := hw3.symm; subst hw3))
  go_ret
  exact ⟨by show Ending.returned (Value.string ⟨A2.toArray⟩) = _; rw [← HA2.out, ← HA1.out] <;> simp, HK1.out⟩
set_option maxHeartbeats 2000000 in
set_option maxRecDepth 100000 in
theorem rBytes_3 (bk nm : ByteArray) (n P : Nat) (pt : Int) (w : World) (hb1 : bk.size ≤ 63) (hb2 : nm.size ≤ 200) (hn : n < 18446744073709551616) (hP : P ≤ 1000) (hpt : pt = (P : Int)) :
    Calls Try.prog 24 #[.agg #[.int .u8 3, .string bk, .string nm, .int .u64 (n : Nat), .int .i64 pt]] w fun e w' => e = .returned (.string ⟨((([3] ++ bk.data.toList ++ [0]) ++ nmL nm.data.toList ++ [0, 1]) ++ be 8 (18446744073709551615 - n)).toArray⟩) ∧ Kept w w' := by
  have HK := Lib.hid ((Kept.refl w).alloc (.cells #[.int .u8 3, .string bk, .string nm, .int .u64 (n : Nat), .int .i64 pt] 24))
  have HX := Lib.hid (KyAt.laid w 24 ⟨3, bk, nm, n, pt⟩)
  have HB : Hid (∀ W, Calls Try.prog 31 #[.int .u8 3] W fun e w' => e = .returned (.bool true) ∧ w' = W) := fun W => rHasB_any 3 W
  have HN : Hid (∀ W, Calls Try.prog 32 #[.int .u8 3] W fun e w' => e = .returned (.bool true) ∧ w' = W) := fun W => rHasN_any 3 W
  have zb : bk.data.toList.length ≤ 63 := by rw [list_size]; exact hb1
  have zn : (nmL nm.data.toList).length ≤ 400 := by have := nmL_length nm.data.toList; rw [list_size] at this; omega
  have HONE := Lib.hid (fun W => one_byteM W (3 : Int) 3 rfl)
  obtain ⟨A1, hA1⟩ : ∃ A, ([3] : List UInt8) ++ bk.data.toList = A := ⟨_, rfl⟩
  have zA1 : A1.length ≤ 64 := by rw [← hA1]; simp only [List.length_append, List.length_cons, List.length_nil, be_length]; omega
  have hadd1 := fun W => add_strN ⟨#[3]⟩ bk A1 hA1 (by omega) W
  obtain ⟨A2, hA2⟩ : ∃ A, A1 ++ [0] = A := ⟨_, rfl⟩
  have zA2 : A2.length ≤ 65 := by rw [← hA2]; simp only [List.length_append, List.length_cons, List.length_nil, be_length]; omega
  have hadd2 := fun W => add_strN ⟨A1.toArray⟩ ⟨#[0]⟩ A2 hA2 (by omega) W
  have HNM := Lib.hid (fun W => rName_any nm W (by omega))
  have HE := Lib.hid (fun W => rEight_any (18446744073709551615 - n) W (by omega))
  have hsub : (18446744073709551615 : Int) - (n : Int) = ((18446744073709551615 - n : Nat) : Int) := by omega
  have hsw : IntKind.u64.wrap (((18446744073709551615 - n : Nat)) : Int) = ((18446744073709551615 - n : Nat) : Int) := IntWalk.u64_in _ (by omega)
  obtain ⟨A3, hA3⟩ : ∃ A, A2 ++ nmL nm.data.toList = A := ⟨_, rfl⟩
  have zA3 : A3.length ≤ 465 := by rw [← hA3]; simp only [List.length_append, List.length_cons, List.length_nil, be_length]; omega
  have hadd3 := fun W => add_strN ⟨A2.toArray⟩ ⟨(nmL nm.data.toList).toArray⟩ A3 hA3 (by omega) W
  obtain ⟨A4, hA4⟩ : ∃ A, A3 ++ [0, 1] = A := ⟨_, rfl⟩
  have zA4 : A4.length ≤ 467 := by rw [← hA4]; simp only [List.length_append, List.length_cons, List.length_nil, be_length]; omega
  have hadd4 := fun W => add_strN ⟨A3.toArray⟩ ⟨#[0, 1]⟩ A4 hA4 (by omega) W
  obtain ⟨A5, hA5⟩ : ∃ A, A4 ++ be 8 (18446744073709551615 - n) = A := ⟨_, rfl⟩
  have zA5 : A5.length ≤ 475 := by rw [← hA5]; simp only [List.length_append, List.length_cons, List.length_nil, be_length]; omega
  have hadd5 := fun W => add_strN ⟨A4.toArray⟩ ⟨(be 8 (18446744073709551615 - n)).toArray⟩ A5 hA5 (by omega) W
  generalize 18446744073709551615 - n = m9 at *
  have HA1 := Lib.hid hA1
  have HA2 := Lib.hid hA2
  have HA3 := Lib.hid hA3
  have HA4 := Lib.hid hA4
  have HA5 := Lib.hid hA5
  clear hA1 hA2 hA3 hA4 hA5 zA1 zA2 zA3 zA4 zA5
  subst hpt
  go_enter Try.func24, Try.ntmps24
  go_upto_region 1 with fail
  generalize w.alloc _ = w0 at *
  obtain ⟨c0, c1, c2, c3, c4, _, _, _, _, _⟩ := HX.out
  dsimp only at c0 c3
  have hone := HONE.out w0
  clear HONE
  go_upto_region 2 with fail
  have hk1 : Kept w0 (w0.alloc (.cells #[.int .u8 3] 5)) := (Kept.refl _).alloc _
  clear hone c0 c1 c2 c3 c4
  generalize w0.alloc (.cells #[.int .u8 3] 5) = w1 at *
  obtain ⟨c0, c1, c2, c3, c4, _, _, _, _, _⟩ := HX.out.kept hk1
  dsimp only at c0 c3
  have HK1 := Lib.hid (HK.out.trans hk1)
  have HX1 := Lib.hid (HX.out.kept hk1)
  clear hk1 HX HK
  go_wp2_with (go_at_call 31; refine (HB.out _).mono ?_; rintro e w3 ⟨rfl, hw3⟩; replace hw3 := hw3.symm; subst hw3)
  clear c0 c1 c2 c3 c4
  refine wp_quietN (C := fun W => Kept w1 W) (by kernel_rfl) (by kernel_rfl) ((Kept.refl w1).drew) ?_
  repeat (first
    | go_big_quiet_skip
    | (go_big_quiet_want
       refine ⟨_, fun W hW => by
         obtain ⟨c0, c1, c2, c3, c4, _, _, _, _, _⟩ := HX1.out.kept hW
         dsimp only at c0 c3
         unfold Oper.quietAt
         go_simp
         first
           | (go_at_call 35; (with_reducible refine (HNM.out W).mono ?_); exact fun e w' h => ⟨h.1, by rw [h.2]; exact hW⟩)
           | (go_at_call 34; (with_reducible refine (HE.out W).mono ?_); exact fun e w' h => ⟨h.1, hW.trans h.2⟩)
           | exact rfl, ?_⟩
       go_simp
       go_big_quiet_on))
  refine wpQuiet_nil ?_
  intro W hW
  have HKW := Lib.hid (HK1.out.trans hW)
  clear hW
  go_wp2_with fail
  go_ret
  exact ⟨by show Ending.returned (Value.string ⟨A5.toArray⟩) = _; rw [← HA5.out, ← HA4.out, ← HA3.out, ← HA2.out, ← HA1.out] <;> simp, HKW.out⟩
set_option maxHeartbeats 2000000 in
set_option maxRecDepth 100000 in
theorem rBytes_4 (bk nm : ByteArray) (n P : Nat) (pt : Int) (w : World) (hb1 : bk.size ≤ 63) (hb2 : nm.size ≤ 200) (hn : n < 18446744073709551616) (hP : P ≤ 1000) (hpt : pt = (P : Int)) :
    Calls Try.prog 24 #[.agg #[.int .u8 4, .string bk, .string nm, .int .u64 (n : Nat), .int .i64 pt]] w fun e w' => e = .returned (.string ⟨(([4] ++ bk.data.toList ++ [0]) ++ be 8 n).toArray⟩) ∧ Kept w w' := by
  have HK := Lib.hid ((Kept.refl w).alloc (.cells #[.int .u8 4, .string bk, .string nm, .int .u64 (n : Nat), .int .i64 pt] 24))
  have HX := Lib.hid (KyAt.laid w 24 ⟨4, bk, nm, n, pt⟩)
  have HB : Hid (∀ W, Calls Try.prog 31 #[.int .u8 4] W fun e w' => e = .returned (.bool true) ∧ w' = W) := fun W => rHasB_any 4 W
  have HN : Hid (∀ W, Calls Try.prog 32 #[.int .u8 4] W fun e w' => e = .returned (.bool true) ∧ w' = W) := fun W => rHasN_any 4 W
  have zb : bk.data.toList.length ≤ 63 := by rw [list_size]; exact hb1
  have zn : (nmL nm.data.toList).length ≤ 400 := by have := nmL_length nm.data.toList; rw [list_size] at this; omega
  have HONE := Lib.hid (fun W => one_byteM W (4 : Int) 4 rfl)
  obtain ⟨A1, hA1⟩ : ∃ A, ([4] : List UInt8) ++ bk.data.toList = A := ⟨_, rfl⟩
  have zA1 : A1.length ≤ 64 := by rw [← hA1]; simp only [List.length_append, List.length_cons, List.length_nil, be_length]; omega
  have hadd1 := fun W => add_strN ⟨#[4]⟩ bk A1 hA1 (by omega) W
  obtain ⟨A2, hA2⟩ : ∃ A, A1 ++ [0] = A := ⟨_, rfl⟩
  have zA2 : A2.length ≤ 65 := by rw [← hA2]; simp only [List.length_append, List.length_cons, List.length_nil, be_length]; omega
  have hadd2 := fun W => add_strN ⟨A1.toArray⟩ ⟨#[0]⟩ A2 hA2 (by omega) W
  have HE := Lib.hid (fun W => rEight_any n W hn)
  obtain ⟨A3, hA3⟩ : ∃ A, A2 ++ be 8 n = A := ⟨_, rfl⟩
  have zA3 : A3.length ≤ 73 := by rw [← hA3]; simp only [List.length_append, List.length_cons, List.length_nil, be_length]; omega
  have hadd3 := fun W => add_strN ⟨A2.toArray⟩ ⟨(be 8 n).toArray⟩ A3 hA3 (by omega) W
  have HA1 := Lib.hid hA1
  have HA2 := Lib.hid hA2
  have HA3 := Lib.hid hA3
  clear hA1 hA2 hA3 zA1 zA2 zA3
  subst hpt
  go_enter Try.func24, Try.ntmps24
  go_upto_region 1 with fail
  generalize w.alloc _ = w0 at *
  obtain ⟨c0, c1, c2, c3, c4, _, _, _, _, _⟩ := HX.out
  dsimp only at c0 c3
  have hone := HONE.out w0
  clear HONE
  go_upto_region 2 with fail
  have hk1 : Kept w0 (w0.alloc (.cells #[.int .u8 4] 5)) := (Kept.refl _).alloc _
  clear hone c0 c1 c2 c3 c4
  generalize w0.alloc (.cells #[.int .u8 4] 5) = w1 at *
  obtain ⟨c0, c1, c2, c3, c4, _, _, _, _, _⟩ := HX.out.kept hk1
  dsimp only at c0 c3
  have HK1 := Lib.hid (HK.out.trans hk1)
  have HX1 := Lib.hid (HX.out.kept hk1)
  clear hk1 HX HK
  go_wp2_with (first
    | (go_at_call 31; refine (HB.out _).mono ?_; rintro e w3 ⟨rfl, hw3⟩; replace hw3 := hw3.symm; subst hw3)
    | (go_at_call 32; refine (HN.out _).mono ?_; rintro e w3 ⟨rfl, hw3⟩; replace hw3 := hw3.symm; subst hw3)
    | (go_at_call 34; refine (HE.out _).mono ?_; rintro e w4 ⟨rfl, hk⟩; have HK2 := Lib.hid (HK1.out.trans hk); have HX2 := Lib.hid (HX1.out.kept hk); clear hk c0 c1 c2 c3 c4; obtain ⟨c0, c1, c2, c3, c4, _, _, _, _, _⟩ := HX2.out; dsimp only at c0 c3))
  go_ret
  exact ⟨by show Ending.returned (Value.string ⟨A3.toArray⟩) = _; rw [← HA3.out, ← HA2.out, ← HA1.out] <;> simp, HK2.out⟩
set_option maxHeartbeats 2000000 in
set_option maxRecDepth 100000 in
theorem rBytes_5 (bk nm : ByteArray) (n P : Nat) (pt : Int) (w : World) (hb1 : bk.size ≤ 63) (hb2 : nm.size ≤ 200) (hn : n < 18446744073709551616) (hP : P ≤ 1000) (hpt : pt = (P : Int)) :
    Calls Try.prog 24 #[.agg #[.int .u8 5, .string bk, .string nm, .int .u64 (n : Nat), .int .i64 pt]] w fun e w' => e = .returned (.string ⟨((([5] ++ bk.data.toList ++ [0]) ++ be 8 n) ++ be 2 P).toArray⟩) ∧ Kept w w' := by
  have HK := Lib.hid ((Kept.refl w).alloc (.cells #[.int .u8 5, .string bk, .string nm, .int .u64 (n : Nat), .int .i64 pt] 24))
  have HX := Lib.hid (KyAt.laid w 24 ⟨5, bk, nm, n, pt⟩)
  have HB : Hid (∀ W, Calls Try.prog 31 #[.int .u8 5] W fun e w' => e = .returned (.bool true) ∧ w' = W) := fun W => rHasB_any 5 W
  have HN : Hid (∀ W, Calls Try.prog 32 #[.int .u8 5] W fun e w' => e = .returned (.bool true) ∧ w' = W) := fun W => rHasN_any 5 W
  have zb : bk.data.toList.length ≤ 63 := by rw [list_size]; exact hb1
  have zn : (nmL nm.data.toList).length ≤ 400 := by have := nmL_length nm.data.toList; rw [list_size] at this; omega
  have HONE := Lib.hid (fun W => one_byteM W (5 : Int) 5 rfl)
  obtain ⟨A1, hA1⟩ : ∃ A, ([5] : List UInt8) ++ bk.data.toList = A := ⟨_, rfl⟩
  have zA1 : A1.length ≤ 64 := by rw [← hA1]; simp only [List.length_append, List.length_cons, List.length_nil, be_length]; omega
  have hadd1 := fun W => add_strN ⟨#[5]⟩ bk A1 hA1 (by omega) W
  obtain ⟨A2, hA2⟩ : ∃ A, A1 ++ [0] = A := ⟨_, rfl⟩
  have zA2 : A2.length ≤ 65 := by rw [← hA2]; simp only [List.length_append, List.length_cons, List.length_nil, be_length]; omega
  have hadd2 := fun W => add_strN ⟨A1.toArray⟩ ⟨#[0]⟩ A2 hA2 (by omega) W
  have HE := Lib.hid (fun W => rEight_any n W hn)
  obtain ⟨A3, hA3⟩ : ∃ A, A2 ++ be 8 n = A := ⟨_, rfl⟩
  have zA3 : A3.length ≤ 73 := by rw [← hA3]; simp only [List.length_append, List.length_cons, List.length_nil, be_length]; omega
  have hadd3 := fun W => add_strN ⟨A2.toArray⟩ ⟨(be 8 n).toArray⟩ A3 hA3 (by omega) W
  have HTB := Lib.hid (fun W => two_bytes W ((P : Int) / 256) ((P : Int) % 256) (UInt8.ofNat (P / 256)) (UInt8.ofNat P) (by rw [UInt8.toNat_ofNat']; omega) (by rw [UInt8.toNat_ofNat']; omega))
  obtain ⟨A4, hA4⟩ : ∃ A, A3 ++ [UInt8.ofNat (P / 256), UInt8.ofNat P] = A := ⟨_, rfl⟩
  have zA4 : A4.length ≤ 75 := by rw [← hA4]; simp only [List.length_append, List.length_cons, List.length_nil, be_length]; omega
  have hadd4 := fun W => add_strN ⟨A3.toArray⟩ ⟨#[UInt8.ofNat (P / 256), UInt8.ofNat P]⟩ A4 hA4 (by omega) W
  have HA1 := Lib.hid hA1
  have HA2 := Lib.hid hA2
  have HA3 := Lib.hid hA3
  have HA4 := Lib.hid hA4
  clear hA1 hA2 hA3 hA4 zA1 zA2 zA3 zA4
  subst hpt
  go_enter Try.func24, Try.ntmps24
  go_upto_region 1 with fail
  generalize w.alloc _ = w0 at *
  obtain ⟨c0, c1, c2, c3, c4, _, _, _, _, _⟩ := HX.out
  dsimp only at c0 c3
  have hone := HONE.out w0
  clear HONE
  go_upto_region 2 with fail
  have hk1 : Kept w0 (w0.alloc (.cells #[.int .u8 5] 5)) := (Kept.refl _).alloc _
  clear hone c0 c1 c2 c3 c4
  generalize w0.alloc (.cells #[.int .u8 5] 5) = w1 at *
  obtain ⟨c0, c1, c2, c3, c4, _, _, _, _, _⟩ := HX.out.kept hk1
  dsimp only at c0 c3
  have HK1 := Lib.hid (HK.out.trans hk1)
  have HX1 := Lib.hid (HX.out.kept hk1)
  clear hk1 HX HK
  go_wp2_with (first
    | (go_at_call 31; refine (HB.out _).mono ?_; rintro e w3 ⟨rfl, hw3⟩; replace hw3 := hw3.symm; subst hw3)
    | (go_at_call 32; refine (HN.out _).mono ?_; rintro e w3 ⟨rfl, hw3⟩; replace hw3 := hw3.symm; subst hw3)
    | (go_at_call 34; refine (HE.out _).mono ?_; rintro e w4 ⟨rfl, hk⟩; have HK2 := Lib.hid (HK1.out.trans hk); have HX2 := Lib.hid (HX1.out.kept hk); clear hk c0 c1 c2 c3 c4; obtain ⟨c0, c1, c2, c3, c4, _, _, _, _, _⟩ := HX2.out; dsimp only at c0 c3; have htb := HTB.out w4))
  go_ret
  exact ⟨by show Ending.returned (Value.string ⟨A4.toArray⟩) = _; rw [two_be]; rw [← HA4.out, ← HA3.out, ← HA2.out, ← HA1.out] <;> simp, HK2.out.alloc _⟩
set_option maxHeartbeats 2000000 in
set_option maxRecDepth 100000 in
theorem rBytes_6 (bk nm : ByteArray) (n P : Nat) (pt : Int) (w : World) (hb1 : bk.size ≤ 63) (hb2 : nm.size ≤ 200) (hn : n < 18446744073709551616) (hP : P ≤ 1000) (hpt : pt = (P : Int)) :
    Calls Try.prog 24 #[.agg #[.int .u8 6, .string bk, .string nm, .int .u64 (n : Nat), .int .i64 pt]] w fun e w' => e = .returned (.string ⟨([6] ++ be 8 n).toArray⟩) ∧ Kept w w' := by
  have HK := Lib.hid ((Kept.refl w).alloc (.cells #[.int .u8 6, .string bk, .string nm, .int .u64 (n : Nat), .int .i64 pt] 24))
  have HX := Lib.hid (KyAt.laid w 24 ⟨6, bk, nm, n, pt⟩)
  have HB : Hid (∀ W, Calls Try.prog 31 #[.int .u8 6] W fun e w' => e = .returned (.bool false) ∧ w' = W) := fun W => rHasB_any 6 W
  have HN : Hid (∀ W, Calls Try.prog 32 #[.int .u8 6] W fun e w' => e = .returned (.bool true) ∧ w' = W) := fun W => rHasN_any 6 W
  have zb : bk.data.toList.length ≤ 63 := by rw [list_size]; exact hb1
  have zn : (nmL nm.data.toList).length ≤ 400 := by have := nmL_length nm.data.toList; rw [list_size] at this; omega
  have HONE := Lib.hid (fun W => one_byteM W (6 : Int) 6 rfl)
  have HE := Lib.hid (fun W => rEight_any n W hn)
  obtain ⟨A1, hA1⟩ : ∃ A, ([6] : List UInt8) ++ be 8 n = A := ⟨_, rfl⟩
  have zA1 : A1.length ≤ 9 := by rw [← hA1]; simp only [List.length_append, List.length_cons, List.length_nil, be_length]; omega
  have hadd1 := fun W => add_strN ⟨#[6]⟩ ⟨(be 8 n).toArray⟩ A1 hA1 (by omega) W
  have HA1 := Lib.hid hA1
  clear hA1 zA1
  subst hpt
  go_enter Try.func24, Try.ntmps24
  go_upto_region 1 with fail
  generalize w.alloc _ = w0 at *
  obtain ⟨c0, c1, c2, c3, c4, _, _, _, _, _⟩ := HX.out
  dsimp only at c0 c3
  have hone := HONE.out w0
  clear HONE
  go_upto_region 2 with fail
  have hk1 : Kept w0 (w0.alloc (.cells #[.int .u8 6] 5)) := (Kept.refl _).alloc _
  clear hone c0 c1 c2 c3 c4
  generalize w0.alloc (.cells #[.int .u8 6] 5) = w1 at *
  obtain ⟨c0, c1, c2, c3, c4, _, _, _, _, _⟩ := HX.out.kept hk1
  dsimp only at c0 c3
  have HK1 := Lib.hid (HK.out.trans hk1)
  have HX1 := Lib.hid (HX.out.kept hk1)
  clear hk1 HX HK
  go_wp2_with (first
    | (go_at_call 31; refine (HB.out _).mono ?_; rintro e w3 ⟨rfl, hw3⟩; replace hw3 := hw3.symm; subst hw3)
    | (go_at_call 32; refine (HN.out _).mono ?_; rintro e w3 ⟨rfl, hw3⟩; replace hw3 := hw3.symm; subst hw3)
    | (go_at_call 34; refine (HE.out _).mono ?_; rintro e w4 ⟨rfl, hk⟩; have HK2 := Lib.hid (HK1.out.trans hk); have HX2 := Lib.hid (HX1.out.kept hk); clear hk c0 c1 c2 c3 c4; obtain ⟨c0, c1, c2, c3, c4, _, _, _, _, _⟩ := HX2.out; dsimp only at c0 c3))
  go_ret
  exact ⟨by show Ending.returned (Value.string ⟨A1.toArray⟩) = _; rw [← HA1.out] <;> simp, HK2.out⟩
theorem encL_kind (k : Key) : encL k = UInt8.ofNat k.kd :: ((if hasB k.kd then k.bk.data.toList ++ [0] else []) ++ ((if hasM k.kd then nmL k.nm.data.toList ++ [0, 1] else []) ++ ((if hasN k.kd then be 8 (tn k.kd k.n) else []) ++ (if hasP k.kd then be 2 k.pt.toNat else [])))) := rfl
theorem rBytes_any (k : Key) (w : World) (hk : k.Wf) (hm : mayK k = true) :
    Calls Try.prog 24 #[k.val] w fun e w' => e = .returned (.string ⟨(encL k).toArray⟩) ∧ Kept w w' := by
  have hp := mayP hm
  have he := encL_kind k
  obtain ⟨kd, bk, nm, n, pt⟩ := k
  have h1 := hp.bk
  have h2 := hp.nm
  have h3 := hp.pt
  have hn := hk.n
  have hi := hp.kd
  dsimp only at *
  have hb1 : bk.size ≤ 63 := by
    split at h1
    · unfold bktB at h1
      simp only [Bool.and_eq_true, decide_eq_true_eq, list_size] at h1
      exact h1.1.2
    · rw [h1]; exact Nat.zero_le _
  have hb2 : nm.size ≤ 200 := by
    split at h2
    · exact h2.2
    · rw [h2]; exact Nat.zero_le _
  have hP : pt.toNat ≤ 1000 := by
    split at h3 <;> omega
  have hpt : pt = ((pt.toNat : Nat) : Int) := by
    split at h3 <;> omega
  unfold Key.val
  dsimp only
  have hkd : kd = 1 ∨ kd = 2 ∨ kd = 3 ∨ kd = 4 ∨ kd = 5 ∨ kd = 6 := by
    unfold isK at hi
    simp only [Bool.and_eq_true, decide_eq_true_eq] at hi
    omega
  clear hm hp hi h1 h2 h3 hk
  rcases hkd with rfl | rfl | rfl | rfl | rfl | rfl
  · have h := rBytes_1 bk nm n pt.toNat pt w hb1 hb2 hn hP hpt
    rw [he, show hasB 1 = false from rfl, show hasM 1 = false from rfl, show hasN 1 = false from rfl, show hasP 1 = false from rfl]
    simpa [tn] using h
  · have h := rBytes_2 bk nm n pt.toNat pt w hb1 hb2 hn hP hpt
    rw [he, show hasB 2 = true from rfl, show hasM 2 = false from rfl, show hasN 2 = false from rfl, show hasP 2 = false from rfl]
    simpa [tn] using h
  · have h := rBytes_3 bk nm n pt.toNat pt w hb1 hb2 hn hP hpt
    rw [he, show hasB 3 = true from rfl, show hasM 3 = true from rfl, show hasN 3 = true from rfl, show hasP 3 = false from rfl]
    simpa [tn] using h
  · have h := rBytes_4 bk nm n pt.toNat pt w hb1 hb2 hn hP hpt
    rw [he, show hasB 4 = true from rfl, show hasM 4 = false from rfl, show hasN 4 = true from rfl, show hasP 4 = false from rfl]
    simpa [tn] using h
  · have h := rBytes_5 bk nm n pt.toNat pt w hb1 hb2 hn hP hpt
    rw [he, show hasB 5 = true from rfl, show hasM 5 = false from rfl, show hasN 5 = true from rfl, show hasP 5 = true from rfl]
    simpa [tn] using h
  · have h := rBytes_6 bk nm n pt.toNat pt w hb1 hb2 hn hP hpt
    rw [he, show hasB 6 = false from rfl, show hasM 6 = false from rfl, show hasN 6 = true from rfl, show hasP 6 = false from rfl]
    simpa [tn] using h
end Go.Proofs.Ytccpbgkaeldlaaa
