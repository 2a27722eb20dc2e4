/- Which keys may be: the document's. -/
import Derived.Test.YtccpbgkaeldlaaaNyDec
namespace Go.Proofs.Ytccpbgkaeldlaaa
open Go.RowKit _root_.Go.Proofs.Ytccpbgkaeldlaaa.Nm Ny
set_option linter.unusedVariables false
set_option linter.unusedSimpArgs false
theorem rMay_low (kd : Nat) (bk nm : ByteArray) (n : Nat) (pt : Int) (w : World) (h : isK kd = false) :
    Calls Try.prog 19 #[.agg #[.int .u8 (kd : Nat), .string bk, .string nm, .int .u64 (n : Nat), .int .i64 pt]] w fun e w' => e = .returned (.bool false) ∧ Kept w w' := by
  have HK := Lib.hid ((Kept.refl w).alloc (.cells #[.int .u8 (kd : Nat), .string bk, .string nm, .int .u64 (n : Nat), .int .i64 pt] 24))
  have HX := Lib.hid (KyAt.laid w 24 ⟨kd, bk, nm, n, pt⟩)
  have h2 : kd = 0 ∨ (decide ((kd : Int) < 1) = false ∧ decide ((6 : Int) < kd) = true) := by
    unfold isK at h
    simp only [Bool.and_eq_false_iff, decide_eq_false_iff_not] at h
    simp only [decide_eq_true_eq, decide_eq_false_iff_not]
    omega
  clear h
  rcases h2 with rfl | ⟨h1, h2⟩
  all_goals
    go_enter Try.func19, Try.ntmps19
    go_upto_region 1 with fail
    generalize w.alloc _ = w0 at *
    obtain ⟨c0, c1, c2, c3, c4, _, _, _, _, _⟩ := HX.out
    dsimp only at c0 c3
    go_wp2_with fail
    go_ret
    exact ⟨rfl, HK.out⟩
set_option maxHeartbeats 4000000 in
set_option maxRecDepth 100000 in
theorem rMay_1 (bk nm : ByteArray) (n : Nat) (pt : Int) (w : World) (bb oo z1 z2 z3 z4 p1 p2 r : Bool) (hb1 : bk.size ≤ maxLen) (hb2 : nm.size ≤ maxLen)
    (e0 : bktB bk.data.toList = bb) (e1 : bk.toList.isEmpty = z1) (e2 : nm.toList.isEmpty = z2) (e3 : decide ((200 : Int) < nm.size) = oo) (e4 : ((n : Int) != 0) = z3) (e5 : (pt == 0) = z4) (e6 : decide (1 ≤ pt) = p1) (e7 : decide (pt ≤ 1000) = p2)
    (hw : (z1 = false ∧ r = false) ∨ (z1 = true ∧ z2 = false ∧ r = false) ∨ (z1 = true ∧ z2 = true ∧ oo = false ∧ z3 = true ∧ r = false) ∨ (z1 = true ∧ z2 = true ∧ oo = false ∧ z3 = false ∧ z4 = false ∧ r = false) ∨ (z1 = true ∧ z2 = true ∧ oo = false ∧ z3 = false ∧ z4 = true ∧ r = true)) :
    Calls Try.prog 19 #[.agg #[.int .u8 1, .string bk, .string nm, .int .u64 (n : Nat), .int .i64 pt]] w fun e w' => e = .returned (.bool r) ∧ Kept w w' := by
  have HK := Lib.hid ((Kept.refl w).alloc (.cells #[.int .u8 1, .string bk, .string nm, .int .u64 (n : Nat), .int .i64 pt] 24))
  have HX := Lib.hid (KyAt.laid w 24 ⟨1, bk, nm, n, pt⟩)
  have HB : Hid (∀ W, Calls Try.prog 31 #[.int .u8 1] W fun e w' => e = .returned (.bool false) ∧ w' = W) := fun W => rHasB_any 1 W
  have HN : Hid (∀ W, Calls Try.prog 32 #[.int .u8 1] W fun e w' => e = .returned (.bool false) ∧ w' = W) := fun W => rHasN_any 1 W
  have HBK := Lib.hid (fun W => rBucket_any bk W hb1)
  rw [e0] at HBK
  unfold maxLen at hb2
  clear e0
  rcases hw with ⟨rfl, rfl⟩ | ⟨rfl, rfl, rfl⟩ | ⟨rfl, rfl, rfl, rfl, rfl⟩ | ⟨rfl, rfl, rfl, rfl, rfl, rfl⟩ | ⟨rfl, rfl, rfl, rfl, rfl, rfl⟩
  all_goals
    go_enter Try.func19, Try.ntmps19
    go_upto_region 1 with fail
    generalize w.alloc _ = w0 at *
    obtain ⟨c0, c1, c2, c3, c4, _, _, _, _, _⟩ := HX.out
    dsimp only at c0 c3
    go_upto_region 3 with fail
    refine wp_quietN (C := fun W => Kept w0 W) (by kernel_rfl) (by kernel_rfl) ((Kept.refl w0).drew) ?_
    have HCL : Hid (∀ W, Kept w0 W → W.cell? ⟨w.heap.size, 0, none⟩ = some (.int .u8 1) ∧ W.cell? ⟨w.heap.size, 1, none⟩ = some (.string bk) ∧ W.cell? ⟨w.heap.size, 2, none⟩ = some (.string nm) ∧ W.cell? ⟨w.heap.size, 3, none⟩ = some (.int .u64 (n : Nat)) ∧ W.cell? ⟨w.heap.size, 4, none⟩ = some (.int .i64 pt)) := fun W k => ⟨(HX.out.kept k).c0, (HX.out.kept k).c1, (HX.out.kept k).c2, (HX.out.kept k).c3, (HX.out.kept k).c4⟩
    clear c0 c1 c2 c3 c4
    repeat (first
      | go_big_quiet_skip
      | (go_big_quiet_want
         refine ⟨_, fun W hW => by
           obtain ⟨c0, c1, c2, c3, c4⟩ := HCL.out W hW
           unfold Oper.quietAt
           go_simp
           first
             | (go_at_call 31; (with_reducible refine (HB.out W).mono ?_); exact fun e w' h => ⟨h.1, by rw [h.2]; exact hW⟩)
             | (go_at_call 15; (with_reducible refine (HBK.out W).mono ?_); exact fun e w' h => ⟨h.1, by rw [h.2]; exact hW⟩)
             | exact rfl, ?_⟩
         go_simp
         go_big_quiet_on))
    refine wpQuiet_nil ?_
    intro W hW
    have HKW := Lib.hid (HK.out.trans hW)
    obtain ⟨c0, c1, c2, c3, c4⟩ := HCL.out W hW
    clear hW
    go_wp2_with (go_at_call 32; refine (HN.out _).mono ?_; rintro e w3 ⟨rfl, rfl⟩)
    go_ret
    exact ⟨rfl, HKW.out⟩
set_option maxHeartbeats 4000000 in
set_option maxRecDepth 100000 in
theorem rMay_2 (bk nm : ByteArray) (n : Nat) (pt : Int) (w : World) (bb oo z1 z2 z3 z4 p1 p2 r : Bool) (hb1 : bk.size ≤ maxLen) (hb2 : nm.size ≤ maxLen)
    (e0 : bktB bk.data.toList = bb) (e1 : bk.toList.isEmpty = z1) (e2 : nm.toList.isEmpty = z2) (e3 : decide ((200 : Int) < nm.size) = oo) (e4 : ((n : Int) != 0) = z3) (e5 : (pt == 0) = z4) (e6 : decide (1 ≤ pt) = p1) (e7 : decide (pt ≤ 1000) = p2)
    (hw : (z1 = true ∧ r = false) ∨ (z1 = false ∧ bb = false ∧ r = false) ∨ (z1 = false ∧ bb = true ∧ z2 = false ∧ r = false) ∨ (z1 = false ∧ bb = true ∧ z2 = true ∧ oo = false ∧ z3 = true ∧ r = false) ∨ (z1 = false ∧ bb = true ∧ z2 = true ∧ oo = false ∧ z3 = false ∧ z4 = false ∧ r = false) ∨ (z1 = false ∧ bb = true ∧ z2 = true ∧ oo = false ∧ z3 = false ∧ z4 = true ∧ r = true)) :
    Calls Try.prog 19 #[.agg #[.int .u8 2, .string bk, .string nm, .int .u64 (n : Nat), .int .i64 pt]] w fun e w' => e = .returned (.bool r) ∧ Kept w w' := by
  have HK := Lib.hid ((Kept.refl w).alloc (.cells #[.int .u8 2, .string bk, .string nm, .int .u64 (n : Nat), .int .i64 pt] 24))
  have HX := Lib.hid (KyAt.laid w 24 ⟨2, bk, nm, n, pt⟩)
  have HB : Hid (∀ W, Calls Try.prog 31 #[.int .u8 2] W fun e w' => e = .returned (.bool true) ∧ w' = W) := fun W => rHasB_any 2 W
  have HN : Hid (∀ W, Calls Try.prog 32 #[.int .u8 2] W fun e w' => e = .returned (.bool false) ∧ w' = W) := fun W => rHasN_any 2 W
  have HBK := Lib.hid (fun W => rBucket_any bk W hb1)
  rw [e0] at HBK
  unfold maxLen at hb2
  clear e0
  rcases hw with ⟨rfl, rfl⟩ | ⟨rfl, rfl, rfl⟩ | ⟨rfl, rfl, rfl, rfl⟩ | ⟨rfl, rfl, rfl, rfl, rfl, rfl⟩ | ⟨rfl, rfl, rfl, rfl, rfl, rfl, rfl⟩ | ⟨rfl, rfl, rfl, rfl, rfl, rfl, rfl⟩
  all_goals
    go_enter Try.func19, Try.ntmps19
    go_upto_region 1 with fail
    generalize w.alloc _ = w0 at *
    obtain ⟨c0, c1, c2, c3, c4, _, _, _, _, _⟩ := HX.out
    dsimp only at c0 c3
    go_upto_region 3 with fail
    refine wp_quietN (C := fun W => Kept w0 W) (by kernel_rfl) (by kernel_rfl) ((Kept.refl w0).drew) ?_
    have HCL : Hid (∀ W, Kept w0 W → W.cell? ⟨w.heap.size, 0, none⟩ = some (.int .u8 2) ∧ W.cell? ⟨w.heap.size, 1, none⟩ = some (.string bk) ∧ W.cell? ⟨w.heap.size, 2, none⟩ = some (.string nm) ∧ W.cell? ⟨w.heap.size, 3, none⟩ = some (.int .u64 (n : Nat)) ∧ W.cell? ⟨w.heap.size, 4, none⟩ = some (.int .i64 pt)) := fun W k => ⟨(HX.out.kept k).c0, (HX.out.kept k).c1, (HX.out.kept k).c2, (HX.out.kept k).c3, (HX.out.kept k).c4⟩
    clear c0 c1 c2 c3 c4
    repeat (first
      | go_big_quiet_skip
      | (go_big_quiet_want
         refine ⟨_, fun W hW => by
           obtain ⟨c0, c1, c2, c3, c4⟩ := HCL.out W hW
           unfold Oper.quietAt
           go_simp
           first
             | (go_at_call 31; (with_reducible refine (HB.out W).mono ?_); exact fun e w' h => ⟨h.1, by rw [h.2]; exact hW⟩)
             | (go_at_call 15; (with_reducible refine (HBK.out W).mono ?_); exact fun e w' h => ⟨h.1, by rw [h.2]; exact hW⟩)
             | exact rfl, ?_⟩
         go_simp
         go_big_quiet_on))
    refine wpQuiet_nil ?_
    intro W hW
    have HKW := Lib.hid (HK.out.trans hW)
    obtain ⟨c0, c1, c2, c3, c4⟩ := HCL.out W hW
    clear hW
    go_wp2_with (go_at_call 32; refine (HN.out _).mono ?_; rintro e w3 ⟨rfl, rfl⟩)
    go_ret
    exact ⟨rfl, HKW.out⟩
set_option maxHeartbeats 4000000 in
set_option maxRecDepth 100000 in
theorem rMay_3 (bk nm : ByteArray) (n : Nat) (pt : Int) (w : World) (bb oo z1 z2 z3 z4 p1 p2 r : Bool) (hb1 : bk.size ≤ maxLen) (hb2 : nm.size ≤ maxLen)
    (e0 : bktB bk.data.toList = bb) (e1 : bk.toList.isEmpty = z1) (e2 : nm.toList.isEmpty = z2) (e3 : decide ((200 : Int) < nm.size) = oo) (e4 : ((n : Int) != 0) = z3) (e5 : (pt == 0) = z4) (e6 : decide (1 ≤ pt) = p1) (e7 : decide (pt ≤ 1000) = p2)
    (hw : (z1 = true ∧ r = false) ∨ (z1 = false ∧ bb = false ∧ r = false) ∨ (z1 = false ∧ bb = true ∧ z2 = true ∧ r = false) ∨ (z1 = false ∧ bb = true ∧ z2 = false ∧ oo = true ∧ r = false) ∨ (z1 = false ∧ bb = true ∧ z2 = false ∧ oo = false ∧ z4 = false ∧ r = false) ∨ (z1 = false ∧ bb = true ∧ z2 = false ∧ oo = false ∧ z4 = true ∧ r = true)) :
    Calls Try.prog 19 #[.agg #[.int .u8 3, .string bk, .string nm, .int .u64 (n : Nat), .int .i64 pt]] w fun e w' => e = .returned (.bool r) ∧ Kept w w' := by
  have HK := Lib.hid ((Kept.refl w).alloc (.cells #[.int .u8 3, .string bk, .string nm, .int .u64 (n : Nat), .int .i64 pt] 24))
  have HX := Lib.hid (KyAt.laid w 24 ⟨3, bk, nm, n, pt⟩)
  have HB : Hid (∀ W, Calls Try.prog 31 #[.int .u8 3] W fun e w' => e = .returned (.bool true) ∧ w' = W) := fun W => rHasB_any 3 W
  have HN : Hid (∀ W, Calls Try.prog 32 #[.int .u8 3] W fun e w' => e = .returned (.bool true) ∧ w' = W) := fun W => rHasN_any 3 W
  have HBK := Lib.hid (fun W => rBucket_any bk W hb1)
  rw [e0] at HBK
  unfold maxLen at hb2
  clear e0
  rcases hw with ⟨rfl, rfl⟩ | ⟨rfl, rfl, rfl⟩ | ⟨rfl, rfl, rfl, rfl⟩ | ⟨rfl, rfl, rfl, rfl, rfl⟩ | ⟨rfl, rfl, rfl, rfl, rfl, rfl⟩ | ⟨rfl, rfl, rfl, rfl, rfl, rfl⟩
  all_goals
    go_enter Try.func19, Try.ntmps19
    go_upto_region 1 with fail
    generalize w.alloc _ = w0 at *
    obtain ⟨c0, c1, c2, c3, c4, _, _, _, _, _⟩ := HX.out
    dsimp only at c0 c3
    go_upto_region 3 with fail
    refine wp_quietN (C := fun W => Kept w0 W) (by kernel_rfl) (by kernel_rfl) ((Kept.refl w0).drew) ?_
    have HCL : Hid (∀ W, Kept w0 W → W.cell? ⟨w.heap.size, 0, none⟩ = some (.int .u8 3) ∧ W.cell? ⟨w.heap.size, 1, none⟩ = some (.string bk) ∧ W.cell? ⟨w.heap.size, 2, none⟩ = some (.string nm) ∧ W.cell? ⟨w.heap.size, 3, none⟩ = some (.int .u64 (n : Nat)) ∧ W.cell? ⟨w.heap.size, 4, none⟩ = some (.int .i64 pt)) := fun W k => ⟨(HX.out.kept k).c0, (HX.out.kept k).c1, (HX.out.kept k).c2, (HX.out.kept k).c3, (HX.out.kept k).c4⟩
    clear c0 c1 c2 c3 c4
    repeat (first
      | go_big_quiet_skip
      | (go_big_quiet_want
         refine ⟨_, fun W hW => by
           obtain ⟨c0, c1, c2, c3, c4⟩ := HCL.out W hW
           unfold Oper.quietAt
           go_simp
           first
             | (go_at_call 31; (with_reducible refine (HB.out W).mono ?_); exact fun e w' h => ⟨h.1, by rw [h.2]; exact hW⟩)
             | (go_at_call 15; (with_reducible refine (HBK.out W).mono ?_); exact fun e w' h => ⟨h.1, by rw [h.2]; exact hW⟩)
             | exact rfl, ?_⟩
         go_simp
         go_big_quiet_on))
    refine wpQuiet_nil ?_
    intro W hW
    have HKW := Lib.hid (HK.out.trans hW)
    obtain ⟨c0, c1, c2, c3, c4⟩ := HCL.out W hW
    clear hW
    go_wp2_with (go_at_call 32; refine (HN.out _).mono ?_; rintro e w3 ⟨rfl, rfl⟩)
    go_ret
    exact ⟨rfl, HKW.out⟩
set_option maxHeartbeats 4000000 in
set_option maxRecDepth 100000 in
theorem rMay_4 (bk nm : ByteArray) (n : Nat) (pt : Int) (w : World) (bb oo z1 z2 z3 z4 p1 p2 r : Bool) (hb1 : bk.size ≤ maxLen) (hb2 : nm.size ≤ maxLen)
    (e0 : bktB bk.data.toList = bb) (e1 : bk.toList.isEmpty = z1) (e2 : nm.toList.isEmpty = z2) (e3 : decide ((200 : Int) < nm.size) = oo) (e4 : ((n : Int) != 0) = z3) (e5 : (pt == 0) = z4) (e6 : decide (1 ≤ pt) = p1) (e7 : decide (pt ≤ 1000) = p2)
    (hw : (z1 = true ∧ r = false) ∨ (z1 = false ∧ bb = false ∧ r = false) ∨ (z1 = false ∧ bb = true ∧ z2 = false ∧ r = false) ∨ (z1 = false ∧ bb = true ∧ z2 = true ∧ oo = false ∧ z4 = false ∧ r = false) ∨ (z1 = false ∧ bb = true ∧ z2 = true ∧ oo = false ∧ z4 = true ∧ r = true)) :
    Calls Try.prog 19 #[.agg #[.int .u8 4, .string bk, .string nm, .int .u64 (n : Nat), .int .i64 pt]] w fun e w' => e = .returned (.bool r) ∧ Kept w w' := by
  have HK := Lib.hid ((Kept.refl w).alloc (.cells #[.int .u8 4, .string bk, .string nm, .int .u64 (n : Nat), .int .i64 pt] 24))
  have HX := Lib.hid (KyAt.laid w 24 ⟨4, bk, nm, n, pt⟩)
  have HB : Hid (∀ W, Calls Try.prog 31 #[.int .u8 4] W fun e w' => e = .returned (.bool true) ∧ w' = W) := fun W => rHasB_any 4 W
  have HN : Hid (∀ W, Calls Try.prog 32 #[.int .u8 4] W fun e w' => e = .returned (.bool true) ∧ w' = W) := fun W => rHasN_any 4 W
  have HBK := Lib.hid (fun W => rBucket_any bk W hb1)
  rw [e0] at HBK
  unfold maxLen at hb2
  clear e0
  rcases hw with ⟨rfl, rfl⟩ | ⟨rfl, rfl, rfl⟩ | ⟨rfl, rfl, rfl, rfl⟩ | ⟨rfl, rfl, rfl, rfl, rfl, rfl⟩ | ⟨rfl, rfl, rfl, rfl, rfl, rfl⟩
  all_goals
    go_enter Try.func19, Try.ntmps19
    go_upto_region 1 with fail
    generalize w.alloc _ = w0 at *
    obtain ⟨c0, c1, c2, c3, c4, _, _, _, _, _⟩ := HX.out
    dsimp only at c0 c3
    go_upto_region 3 with fail
    refine wp_quietN (C := fun W => Kept w0 W) (by kernel_rfl) (by kernel_rfl) ((Kept.refl w0).drew) ?_
    have HCL : Hid (∀ W, Kept w0 W → W.cell? ⟨w.heap.size, 0, none⟩ = some (.int .u8 4) ∧ W.cell? ⟨w.heap.size, 1, none⟩ = some (.string bk) ∧ W.cell? ⟨w.heap.size, 2, none⟩ = some (.string nm) ∧ W.cell? ⟨w.heap.size, 3, none⟩ = some (.int .u64 (n : Nat)) ∧ W.cell? ⟨w.heap.size, 4, none⟩ = some (.int .i64 pt)) := fun W k => ⟨(HX.out.kept k).c0, (HX.out.kept k).c1, (HX.out.kept k).c2, (HX.out.kept k).c3, (HX.out.kept k).c4⟩
    clear c0 c1 c2 c3 c4
    repeat (first
      | go_big_quiet_skip
      | (go_big_quiet_want
         refine ⟨_, fun W hW => by
           obtain ⟨c0, c1, c2, c3, c4⟩ := HCL.out W hW
           unfold Oper.quietAt
           go_simp
           first
             | (go_at_call 31; (with_reducible refine (HB.out W).mono ?_); exact fun e w' h => ⟨h.1, by rw [h.2]; exact hW⟩)
             | (go_at_call 15; (with_reducible refine (HBK.out W).mono ?_); exact fun e w' h => ⟨h.1, by rw [h.2]; exact hW⟩)
             | exact rfl, ?_⟩
         go_simp
         go_big_quiet_on))
    refine wpQuiet_nil ?_
    intro W hW
    have HKW := Lib.hid (HK.out.trans hW)
    obtain ⟨c0, c1, c2, c3, c4⟩ := HCL.out W hW
    clear hW
    go_wp2_with (go_at_call 32; refine (HN.out _).mono ?_; rintro e w3 ⟨rfl, rfl⟩)
    go_ret
    exact ⟨rfl, HKW.out⟩
set_option maxHeartbeats 4000000 in
set_option maxRecDepth 100000 in
theorem rMay_5 (bk nm : ByteArray) (n : Nat) (pt : Int) (w : World) (bb oo z1 z2 z3 z4 p1 p2 r : Bool) (hb1 : bk.size ≤ maxLen) (hb2 : nm.size ≤ maxLen)
    (e0 : bktB bk.data.toList = bb) (e1 : bk.toList.isEmpty = z1) (e2 : nm.toList.isEmpty = z2) (e3 : decide ((200 : Int) < nm.size) = oo) (e4 : ((n : Int) != 0) = z3) (e5 : (pt == 0) = z4) (e6 : decide (1 ≤ pt) = p1) (e7 : decide (pt ≤ 1000) = p2)
    (hw : (z1 = true ∧ r = false) ∨ (z1 = false ∧ bb = false ∧ r = false) ∨ (z1 = false ∧ bb = true ∧ z2 = false ∧ r = false) ∨ (z1 = false ∧ bb = true ∧ z2 = true ∧ oo = false ∧ p1 = false ∧ r = false) ∨ (z1 = false ∧ bb = true ∧ z2 = true ∧ oo = false ∧ p1 = true ∧ p2 = false ∧ r = false) ∨ (z1 = false ∧ bb = true ∧ z2 = true ∧ oo = false ∧ p1 = true ∧ p2 = true ∧ r = true)) :
    Calls Try.prog 19 #[.agg #[.int .u8 5, .string bk, .string nm, .int .u64 (n : Nat), .int .i64 pt]] w fun e w' => e = .returned (.bool r) ∧ Kept w w' := by
  have HK := Lib.hid ((Kept.refl w).alloc (.cells #[.int .u8 5, .string bk, .string nm, .int .u64 (n : Nat), .int .i64 pt] 24))
  have HX := Lib.hid (KyAt.laid w 24 ⟨5, bk, nm, n, pt⟩)
  have HB : Hid (∀ W, Calls Try.prog 31 #[.int .u8 5] W fun e w' => e = .returned (.bool true) ∧ w' = W) := fun W => rHasB_any 5 W
  have HN : Hid (∀ W, Calls Try.prog 32 #[.int .u8 5] W fun e w' => e = .returned (.bool true) ∧ w' = W) := fun W => rHasN_any 5 W
  have HBK := Lib.hid (fun W => rBucket_any bk W hb1)
  rw [e0] at HBK
  unfold maxLen at hb2
  clear e0
  rcases hw with ⟨rfl, rfl⟩ | ⟨rfl, rfl, rfl⟩ | ⟨rfl, rfl, rfl, rfl⟩ | ⟨rfl, rfl, rfl, rfl, rfl, rfl⟩ | ⟨rfl, rfl, rfl, rfl, rfl, rfl, rfl⟩ | ⟨rfl, rfl, rfl, rfl, rfl, rfl, rfl⟩
  all_goals
    go_enter Try.func19, Try.ntmps19
    go_upto_region 1 with fail
    generalize w.alloc _ = w0 at *
    obtain ⟨c0, c1, c2, c3, c4, _, _, _, _, _⟩ := HX.out
    dsimp only at c0 c3
    go_upto_region 3 with fail
    refine wp_quietN (C := fun W => Kept w0 W) (by kernel_rfl) (by kernel_rfl) ((Kept.refl w0).drew) ?_
    have HCL : Hid (∀ W, Kept w0 W → W.cell? ⟨w.heap.size, 0, none⟩ = some (.int .u8 5) ∧ W.cell? ⟨w.heap.size, 1, none⟩ = some (.string bk) ∧ W.cell? ⟨w.heap.size, 2, none⟩ = some (.string nm) ∧ W.cell? ⟨w.heap.size, 3, none⟩ = some (.int .u64 (n : Nat)) ∧ W.cell? ⟨w.heap.size, 4, none⟩ = some (.int .i64 pt)) := fun W k => ⟨(HX.out.kept k).c0, (HX.out.kept k).c1, (HX.out.kept k).c2, (HX.out.kept k).c3, (HX.out.kept k).c4⟩
    clear c0 c1 c2 c3 c4
    repeat (first
      | go_big_quiet_skip
      | (go_big_quiet_want
         refine ⟨_, fun W hW => by
           obtain ⟨c0, c1, c2, c3, c4⟩ := HCL.out W hW
           unfold Oper.quietAt
           go_simp
           first
             | (go_at_call 31; (with_reducible refine (HB.out W).mono ?_); exact fun e w' h => ⟨h.1, by rw [h.2]; exact hW⟩)
             | (go_at_call 15; (with_reducible refine (HBK.out W).mono ?_); exact fun e w' h => ⟨h.1, by rw [h.2]; exact hW⟩)
             | exact rfl, ?_⟩
         go_simp
         go_big_quiet_on))
    refine wpQuiet_nil ?_
    intro W hW
    have HKW := Lib.hid (HK.out.trans hW)
    obtain ⟨c0, c1, c2, c3, c4⟩ := HCL.out W hW
    clear hW
    go_wp2_with (go_at_call 32; refine (HN.out _).mono ?_; rintro e w3 ⟨rfl, rfl⟩)
    go_ret
    exact ⟨rfl, HKW.out⟩
set_option maxHeartbeats 4000000 in
set_option maxRecDepth 100000 in
theorem rMay_6 (bk nm : ByteArray) (n : Nat) (pt : Int) (w : World) (bb oo z1 z2 z3 z4 p1 p2 r : Bool) (hb1 : bk.size ≤ maxLen) (hb2 : nm.size ≤ maxLen)
    (e0 : bktB bk.data.toList = bb) (e1 : bk.toList.isEmpty = z1) (e2 : nm.toList.isEmpty = z2) (e3 : decide ((200 : Int) < nm.size) = oo) (e4 : ((n : Int) != 0) = z3) (e5 : (pt == 0) = z4) (e6 : decide (1 ≤ pt) = p1) (e7 : decide (pt ≤ 1000) = p2)
    (hw : (z1 = false ∧ r = false) ∨ (z1 = true ∧ z2 = false ∧ r = false) ∨ (z1 = true ∧ z2 = true ∧ oo = false ∧ z4 = false ∧ r = false) ∨ (z1 = true ∧ z2 = true ∧ oo = false ∧ z4 = true ∧ r = true)) :
    Calls Try.prog 19 #[.agg #[.int .u8 6, .string bk, .string nm, .int .u64 (n : Nat), .int .i64 pt]] w fun e w' => e = .returned (.bool r) ∧ Kept w w' := by
  have HK := Lib.hid ((Kept.refl w).alloc (.cells #[.int .u8 6, .string bk, .string nm, .int .u64 (n : Nat), .int .i64 pt] 24))
  have HX := Lib.hid (KyAt.laid w 24 ⟨6, bk, nm, n, pt⟩)
  have HB : Hid (∀ W, Calls Try.prog 31 #[.int .u8 6] W fun e w' => e = .returned (.bool false) ∧ w' = W) := fun W => rHasB_any 6 W
  have HN : Hid (∀ W, Calls Try.prog 32 #[.int .u8 6] W fun e w' => e = .returned (.bool true) ∧ w' = W) := fun W => rHasN_any 6 W
  have HBK := Lib.hid (fun W => rBucket_any bk W hb1)
  rw [e0] at HBK
  unfold maxLen at hb2
  clear e0
  rcases hw with ⟨rfl, rfl⟩ | ⟨rfl, rfl, rfl⟩ | ⟨rfl, rfl, rfl, rfl, rfl⟩ | ⟨rfl, rfl, rfl, rfl, rfl⟩
  all_goals
    go_enter Try.func19, Try.ntmps19
    go_upto_region 1 with fail
    generalize w.alloc _ = w0 at *
    obtain ⟨c0, c1, c2, c3, c4, _, _, _, _, _⟩ := HX.out
    dsimp only at c0 c3
    go_upto_region 3 with fail
    refine wp_quietN (C := fun W => Kept w0 W) (by kernel_rfl) (by kernel_rfl) ((Kept.refl w0).drew) ?_
    have HCL : Hid (∀ W, Kept w0 W → W.cell? ⟨w.heap.size, 0, none⟩ = some (.int .u8 6) ∧ W.cell? ⟨w.heap.size, 1, none⟩ = some (.string bk) ∧ W.cell? ⟨w.heap.size, 2, none⟩ = some (.string nm) ∧ W.cell? ⟨w.heap.size, 3, none⟩ = some (.int .u64 (n : Nat)) ∧ W.cell? ⟨w.heap.size, 4, none⟩ = some (.int .i64 pt)) := fun W k => ⟨(HX.out.kept k).c0, (HX.out.kept k).c1, (HX.out.kept k).c2, (HX.out.kept k).c3, (HX.out.kept k).c4⟩
    clear c0 c1 c2 c3 c4
    repeat (first
      | go_big_quiet_skip
      | (go_big_quiet_want
         refine ⟨_, fun W hW => by
           obtain ⟨c0, c1, c2, c3, c4⟩ := HCL.out W hW
           unfold Oper.quietAt
           go_simp
           first
             | (go_at_call 31; (with_reducible refine (HB.out W).mono ?_); exact fun e w' h => ⟨h.1, by rw [h.2]; exact hW⟩)
             | (go_at_call 15; (with_reducible refine (HBK.out W).mono ?_); exact fun e w' h => ⟨h.1, by rw [h.2]; exact hW⟩)
             | exact rfl, ?_⟩
         go_simp
         go_big_quiet_on))
    refine wpQuiet_nil ?_
    intro W hW
    have HKW := Lib.hid (HK.out.trans hW)
    obtain ⟨c0, c1, c2, c3, c4⟩ := HCL.out W hW
    clear hW
    go_wp2_with (go_at_call 32; refine (HN.out _).mono ?_; rintro e w3 ⟨rfl, rfl⟩)
    go_ret
    exact ⟨rfl, HKW.out⟩
end Go.Proofs.Ytccpbgkaeldlaaa
