/- SlotBytes's walk. -/
import Derived.Test.YtoekaabngjjefaaPart24
import Derived.Test.YtoekaabngjjefaaPart22
namespace Go.Proofs.Ytoekaabngjjefaa
open Go.RowKit Sm Wr _root_.Go.Proofs.Ytoekaabngjjefaa.Nm
set_option linter.unusedVariables false
set_option maxHeartbeats 4000000 in
set_option maxRecDepth 100000 in
theorem slotBytes_walk (x : Rt) (s : ByteArray) (w : World) (w0 : x.Wf) (w1 : s.size ≤ maxLen) :
    Calls Try.prog 3 #[x.val, .string s] w fun e w' => e = .returned (.bool true) ∧ Kept w w' := by
  have HAL := Lib.hid (fun W => alive_any W)
  have HE1 := Lib.hid (fun W => pEncode_any x W)
  have HE2 := Lib.hid (fun W => rEncode_any x W)
  have HD1 := Lib.hid (fun W => pDecode_any s W w1)
  have HD2 := Lib.hid (fun W => rDecode_any s W w1)
  have K := Lib.hid ((Kept.refl w).alloc (.cells #[.int .u64 (x.gen : Nat), .int .u64 (x.nxt : Nat), .int .i64 x.row, .int .u64 (x.st : Nat), .int .i64 x.len] 26))
  have X2 := Lib.hid (RtAt.laid w 26 x)
  have hs64 : (s.size : Int) ≤ 9223372036854775807 := by unfold maxLen at w1; omega
  have HEQ1 : Hid (pencV x = encV x) := rfl
  rw [HEQ1.out] at HE1
  clear HEQ1
  by_cases hbig : 1024 < s.size
  · have b1 : decide ((1024 : Int) < (s.size : Int)) = true := decide_eq_true (by omega)
    clear HE1 HE2 HD1 HD2 X2
    unfold Rt.val
    go_enter Try.func3, Try.ntmps3
    go_upto_region 1 with fail
    generalize w.alloc (.cells #[.int .u64 (x.gen : Nat), .int .u64 (x.nxt : Nat), .int .i64 x.row, .int .u64 (x.st : Nat), .int .i64 x.len] 26) = u0 at *
    go_wp2_with fail
    refine (HAL.out _).mono ?_
    rintro e u1 ⟨rfl, hk⟩
    replace K := Lib.hid (K.out.trans hk)
    clear hk
    go_wp2_with fail
    go_ret
    exact ⟨rfl, K.out⟩
  have b1 : decide ((1024 : Int) < (s.size : Int)) = false := decide_eq_false (by omega)
  by_cases hm : x.may = true
  · skip
    have hev : encV x = .tuple #[.string x.txt, .int .i64 0] := if_pos hm
    have HD3 := Lib.hid (fun W => pDecode_any x.txt W (by rw [Rt.txt_size hm]; decide))
    rw [Rt.txt_list, decR_raw hm] at HD3
    unfold decV at HD3
    rw [hev] at HE1 HE2
    generalize x.txt = tx at *
    clear hm hev
    cases hd : decR s.data.toList with
    | none =>
      rw [hd] at HD1 HD2
      unfold decV at HD1 HD2
      clear hd
      unfold Rt.val at *
      dsimp only [Rt.none] at HD1 HD2
      go_enter Try.func3, Try.ntmps3
      go_upto_region 1 with fail
      generalize w.alloc (.cells #[.int .u64 (x.gen : Nat), .int .u64 (x.nxt : Nat), .int .i64 x.row, .int .u64 (x.st : Nat), .int .i64 x.len] 26) = u0 at *
      have X2c0 := X2.out.c0
      have X2c1 := X2.out.c1
      have X2c2 := X2.out.c2
      have X2c3 := X2.out.c3
      have X2c4 := X2.out.c4
      go_wp2_with fail
      refine (HE1.out _).mono ?_
      rintro e u1 ⟨rfl, hk⟩
      replace K := Lib.hid (K.out.trans hk)
      replace X2 := Lib.hid (X2.out.kept hk)
      clear hk
      clear X2c0 X2c1 X2c2 X2c3 X2c4
      have X2c0 := X2.out.c0
      have X2c1 := X2.out.c1
      have X2c2 := X2.out.c2
      have X2c3 := X2.out.c3
      have X2c4 := X2.out.c4
      go_wp2_with fail
      refine (HE2.out _).mono ?_
      rintro e u2 ⟨rfl, hk⟩
      replace K := Lib.hid (K.out.trans hk)
      replace X2 := Lib.hid (X2.out.kept hk)
      clear hk
      clear X2c0 X2c1 X2c2 X2c3 X2c4
      go_wp2_with fail
      refine (HD1.out _).mono ?_
      rintro e u3 ⟨rfl, hk⟩
      replace K := Lib.hid (K.out.trans hk)
      replace X2 := Lib.hid (X2.out.kept hk)
      clear hk
      go_upto_region 6 with fail
      have hk : Kept u3 (u3.alloc (.cells #[.int .u64 0, .int .u64 0, .int .i64 0, .int .u64 0, .int .i64 0] 26)) := (Kept.refl _).alloc _
      have X9n : Hid (RtAt (u3.alloc (.cells #[.int .u64 0, .int .u64 0, .int .i64 0, .int .u64 0, .int .i64 0] 26)) u3.heap.size Rt.none) := RtAt.laid u3 26 Rt.none
      replace K := Lib.hid (K.out.trans hk)
      replace X2 := Lib.hid (X2.out.kept hk)
      clear hk
      have X9 := X9n
      clear X9n
      generalize u3.alloc (.cells #[.int .u64 0, .int .u64 0, .int .i64 0, .int .u64 0, .int .i64 0] 26) = u4 at *
      generalize u3.heap.size = X9B at *
      go_wp2_with fail
      refine (HD2.out _).mono ?_
      rintro e u5 ⟨rfl, hk⟩
      replace K := Lib.hid (K.out.trans hk)
      replace X2 := Lib.hid (X2.out.kept hk)
      replace X9 := Lib.hid (X9.out.kept hk)
      clear hk
      go_upto_region 7 with fail
      have hk : Kept u5 (u5.alloc (.cells #[.int .u64 0, .int .u64 0, .int .i64 0, .int .u64 0, .int .i64 0] 26)) := (Kept.refl _).alloc _
      have X11n : Hid (RtAt (u5.alloc (.cells #[.int .u64 0, .int .u64 0, .int .i64 0, .int .u64 0, .int .i64 0] 26)) u5.heap.size Rt.none) := RtAt.laid u5 26 Rt.none
      replace K := Lib.hid (K.out.trans hk)
      replace X2 := Lib.hid (X2.out.kept hk)
      replace X9 := Lib.hid (X9.out.kept hk)
      clear hk
      have X11 := X11n
      clear X11n
      generalize u5.alloc (.cells #[.int .u64 0, .int .u64 0, .int .i64 0, .int .u64 0, .int .i64 0] 26) = u6 at *
      generalize u5.heap.size = X11B at *
      have hbt : (tx.toList == tx.toList) = true := by simp
      have X9c0 := X9.out.c0
      have X9c1 := X9.out.c1
      have X9c2 := X9.out.c2
      have X9c3 := X9.out.c3
      have X9c4 := X9.out.c4
      dsimp only [Rt.none] at X9c0 X9c1 X9c2 X9c3 X9c4
      have X11c0 := X11.out.c0
      have X11c1 := X11.out.c1
      have X11c2 := X11.out.c2
      have X11c3 := X11.out.c3
      have X11c4 := X11.out.c4
      dsimp only [Rt.none] at X11c0 X11c1 X11c2 X11c3 X11c4
      go_upto_region 10 with fail
      clear X9c0 X9c1 X9c2 X9c3 X9c4 X11c0 X11c1 X11c2 X11c3 X11c4
      go_wp2_with fail
      refine (HD3.out _).mono ?_
      rintro e u7 ⟨rfl, hk⟩
      replace K := Lib.hid (K.out.trans hk)
      replace X2 := Lib.hid (X2.out.kept hk)
      replace X9 := Lib.hid (X9.out.kept hk)
      replace X11 := Lib.hid (X11.out.kept hk)
      clear hk
      go_upto_region 11 with fail
      have hk : Kept u7 (u7.alloc (.cells #[.int .u64 (x.gen : Nat), .int .u64 (x.nxt : Nat), .int .i64 x.row, .int .u64 (x.st : Nat), .int .i64 x.len] 26)) := (Kept.refl _).alloc _
      have X13n : Hid (RtAt (u7.alloc (.cells #[.int .u64 (x.gen : Nat), .int .u64 (x.nxt : Nat), .int .i64 x.row, .int .u64 (x.st : Nat), .int .i64 x.len] 26)) u7.heap.size x) := RtAt.laid u7 26 x
      replace K := Lib.hid (K.out.trans hk)
      replace X2 := Lib.hid (X2.out.kept hk)
      replace X9 := Lib.hid (X9.out.kept hk)
      replace X11 := Lib.hid (X11.out.kept hk)
      clear hk
      have X13 := X13n
      clear X13n
      generalize u7.alloc (.cells #[.int .u64 (x.gen : Nat), .int .u64 (x.nxt : Nat), .int .i64 x.row, .int .u64 (x.st : Nat), .int .i64 x.len] 26) = u8 at *
      generalize u7.heap.size = X13B at *
      have X13c0 := X13.out.c0
      have X13c1 := X13.out.c1
      have X13c2 := X13.out.c2
      have X13c3 := X13.out.c3
      have X13c4 := X13.out.c4
      have X2c0 := X2.out.c0
      have X2c1 := X2.out.c1
      have X2c2 := X2.out.c2
      have X2c3 := X2.out.c3
      have X2c4 := X2.out.c4
      go_wp2_with fail
      refine (HAL.out _).mono ?_
      rintro e u9 ⟨rfl, hk⟩
      replace K := Lib.hid (K.out.trans hk)
      clear hk
      go_wp2_with fail
      go_ret
      exact ⟨rfl, K.out⟩
    | some c =>
      rw [hd] at HD1 HD2
      unfold decV at HD1 HD2
      obtain ⟨hcm, hcr⟩ := decR_some hd
      have HE3 := Lib.hid (fun W => pEncode_any c W)
      have hec : pencV c = .tuple #[.string s, .int .i64 0] := by
        have hts : c.txt = s := str_ext (by rw [Rt.txt_list, hcr])
        unfold pencV
        rw [if_pos hcm, hts]
      rw [hec] at HE3
      clear hd hcm hcr hec
      unfold Rt.val at *
      go_enter Try.func3, Try.ntmps3
      go_upto_region 1 with fail
      generalize w.alloc (.cells #[.int .u64 (x.gen : Nat), .int .u64 (x.nxt : Nat), .int .i64 x.row, .int .u64 (x.st : Nat), .int .i64 x.len] 26) = u0 at *
      have X2c0 := X2.out.c0
      have X2c1 := X2.out.c1
      have X2c2 := X2.out.c2
      have X2c3 := X2.out.c3
      have X2c4 := X2.out.c4
      go_wp2_with fail
      refine (HE1.out _).mono ?_
      rintro e u1 ⟨rfl, hk⟩
      replace K := Lib.hid (K.out.trans hk)
      replace X2 := Lib.hid (X2.out.kept hk)
      clear hk
      clear X2c0 X2c1 X2c2 X2c3 X2c4
      have X2c0 := X2.out.c0
      have X2c1 := X2.out.c1
      have X2c2 := X2.out.c2
      have X2c3 := X2.out.c3
      have X2c4 := X2.out.c4
      go_wp2_with fail
      refine (HE2.out _).mono ?_
      rintro e u2 ⟨rfl, hk⟩
      replace K := Lib.hid (K.out.trans hk)
      replace X2 := Lib.hid (X2.out.kept hk)
      clear hk
      clear X2c0 X2c1 X2c2 X2c3 X2c4
      go_wp2_with fail
      refine (HD1.out _).mono ?_
      rintro e u3 ⟨rfl, hk⟩
      replace K := Lib.hid (K.out.trans hk)
      replace X2 := Lib.hid (X2.out.kept hk)
      clear hk
      go_upto_region 6 with fail
      have hk : Kept u3 (u3.alloc (.cells #[.int .u64 (c.gen : Nat), .int .u64 (c.nxt : Nat), .int .i64 c.row, .int .u64 (c.st : Nat), .int .i64 c.len] 26)) := (Kept.refl _).alloc _
      have X9n : Hid (RtAt (u3.alloc (.cells #[.int .u64 (c.gen : Nat), .int .u64 (c.nxt : Nat), .int .i64 c.row, .int .u64 (c.st : Nat), .int .i64 c.len] 26)) u3.heap.size c) := RtAt.laid u3 26 c
      replace K := Lib.hid (K.out.trans hk)
      replace X2 := Lib.hid (X2.out.kept hk)
      clear hk
      have X9 := X9n
      clear X9n
      generalize u3.alloc (.cells #[.int .u64 (c.gen : Nat), .int .u64 (c.nxt : Nat), .int .i64 c.row, .int .u64 (c.st : Nat), .int .i64 c.len] 26) = u4 at *
      generalize u3.heap.size = X9B at *
      go_wp2_with fail
      refine (HD2.out _).mono ?_
      rintro e u5 ⟨rfl, hk⟩
      replace K := Lib.hid (K.out.trans hk)
      replace X2 := Lib.hid (X2.out.kept hk)
      replace X9 := Lib.hid (X9.out.kept hk)
      clear hk
      go_upto_region 7 with fail
      have hk : Kept u5 (u5.alloc (.cells #[.int .u64 (c.gen : Nat), .int .u64 (c.nxt : Nat), .int .i64 c.row, .int .u64 (c.st : Nat), .int .i64 c.len] 26)) := (Kept.refl _).alloc _
      have X11n : Hid (RtAt (u5.alloc (.cells #[.int .u64 (c.gen : Nat), .int .u64 (c.nxt : Nat), .int .i64 c.row, .int .u64 (c.st : Nat), .int .i64 c.len] 26)) u5.heap.size c) := RtAt.laid u5 26 c
      replace K := Lib.hid (K.out.trans hk)
      replace X2 := Lib.hid (X2.out.kept hk)
      replace X9 := Lib.hid (X9.out.kept hk)
      clear hk
      have X11 := X11n
      clear X11n
      generalize u5.alloc (.cells #[.int .u64 (c.gen : Nat), .int .u64 (c.nxt : Nat), .int .i64 c.row, .int .u64 (c.st : Nat), .int .i64 c.len] 26) = u6 at *
      generalize u5.heap.size = X11B at *
      have hbt : (tx.toList == tx.toList) = true := by simp
      have X9c0 := X9.out.c0
      have X9c1 := X9.out.c1
      have X9c2 := X9.out.c2
      have X9c3 := X9.out.c3
      have X9c4 := X9.out.c4
      have X11c0 := X11.out.c0
      have X11c1 := X11.out.c1
      have X11c2 := X11.out.c2
      have X11c3 := X11.out.c3
      have X11c4 := X11.out.c4
      go_upto_region 10 with fail
      clear X9c0 X9c1 X9c2 X9c3 X9c4 X11c0 X11c1 X11c2 X11c3 X11c4
      go_wp2_with fail
      refine (HD3.out _).mono ?_
      rintro e u7 ⟨rfl, hk⟩
      replace K := Lib.hid (K.out.trans hk)
      replace X2 := Lib.hid (X2.out.kept hk)
      replace X9 := Lib.hid (X9.out.kept hk)
      replace X11 := Lib.hid (X11.out.kept hk)
      clear hk
      go_upto_region 11 with fail
      have hk : Kept u7 (u7.alloc (.cells #[.int .u64 (x.gen : Nat), .int .u64 (x.nxt : Nat), .int .i64 x.row, .int .u64 (x.st : Nat), .int .i64 x.len] 26)) := (Kept.refl _).alloc _
      have X13n : Hid (RtAt (u7.alloc (.cells #[.int .u64 (x.gen : Nat), .int .u64 (x.nxt : Nat), .int .i64 x.row, .int .u64 (x.st : Nat), .int .i64 x.len] 26)) u7.heap.size x) := RtAt.laid u7 26 x
      replace K := Lib.hid (K.out.trans hk)
      replace X2 := Lib.hid (X2.out.kept hk)
      replace X9 := Lib.hid (X9.out.kept hk)
      replace X11 := Lib.hid (X11.out.kept hk)
      clear hk
      have X13 := X13n
      clear X13n
      generalize u7.alloc (.cells #[.int .u64 (x.gen : Nat), .int .u64 (x.nxt : Nat), .int .i64 x.row, .int .u64 (x.st : Nat), .int .i64 x.len] 26) = u8 at *
      generalize u7.heap.size = X13B at *
      have X13c0 := X13.out.c0
      have X13c1 := X13.out.c1
      have X13c2 := X13.out.c2
      have X13c3 := X13.out.c3
      have X13c4 := X13.out.c4
      have X2c0 := X2.out.c0
      have X2c1 := X2.out.c1
      have X2c2 := X2.out.c2
      have X2c3 := X2.out.c3
      have X2c4 := X2.out.c4
      go_upto_region 14 with fail
      clear X13c0 X13c1 X13c2 X13c3 X13c4 X2c0 X2c1 X2c2 X2c3 X2c4
      have X9c0 := X9.out.c0
      have X9c1 := X9.out.c1
      have X9c2 := X9.out.c2
      have X9c3 := X9.out.c3
      have X9c4 := X9.out.c4
      go_wp2_with fail
      refine (HE3.out _).mono ?_
      rintro e u9 ⟨rfl, hk⟩
      replace K := Lib.hid (K.out.trans hk)
      replace X2 := Lib.hid (X2.out.kept hk)
      replace X9 := Lib.hid (X9.out.kept hk)
      replace X11 := Lib.hid (X11.out.kept hk)
      replace X13 := Lib.hid (X13.out.kept hk)
      clear hk
      clear X9c0 X9c1 X9c2 X9c3 X9c4
      have hbs : (s.toList == s.toList) = true := by simp
      go_wp2_with fail
      refine (HAL.out _).mono ?_
      rintro e u10 ⟨rfl, hk⟩
      replace K := Lib.hid (K.out.trans hk)
      clear hk
      go_wp2_with fail
      go_ret
      exact ⟨rfl, K.out⟩
  · skip
    have hev : encV x = .tuple #[.string ⟨#[]⟩, .int .i64 2] := if_neg hm
    rw [hev] at HE1 HE2
    clear hm hev
    cases hd : decR s.data.toList with
    | none =>
      rw [hd] at HD1 HD2
      unfold decV at HD1 HD2
      clear hd
      unfold Rt.val at *
      dsimp only [Rt.none] at HD1 HD2
      go_enter Try.func3, Try.ntmps3
      go_upto_region 1 with fail
      generalize w.alloc (.cells #[.int .u64 (x.gen : Nat), .int .u64 (x.nxt : Nat), .int .i64 x.row, .int .u64 (x.st : Nat), .int .i64 x.len] 26) = u0 at *
      have X2c0 := X2.out.c0
      have X2c1 := X2.out.c1
      have X2c2 := X2.out.c2
      have X2c3 := X2.out.c3
      have X2c4 := X2.out.c4
      go_wp2_with fail
      refine (HE1.out _).mono ?_
      rintro e u1 ⟨rfl, hk⟩
      replace K := Lib.hid (K.out.trans hk)
      replace X2 := Lib.hid (X2.out.kept hk)
      clear hk
      clear X2c0 X2c1 X2c2 X2c3 X2c4
      have X2c0 := X2.out.c0
      have X2c1 := X2.out.c1
      have X2c2 := X2.out.c2
      have X2c3 := X2.out.c3
      have X2c4 := X2.out.c4
      go_wp2_with fail
      refine (HE2.out _).mono ?_
      rintro e u2 ⟨rfl, hk⟩
      replace K := Lib.hid (K.out.trans hk)
      replace X2 := Lib.hid (X2.out.kept hk)
      clear hk
      clear X2c0 X2c1 X2c2 X2c3 X2c4
      go_wp2_with fail
      refine (HD1.out _).mono ?_
      rintro e u3 ⟨rfl, hk⟩
      replace K := Lib.hid (K.out.trans hk)
      replace X2 := Lib.hid (X2.out.kept hk)
      clear hk
      go_upto_region 6 with fail
      have hk : Kept u3 (u3.alloc (.cells #[.int .u64 0, .int .u64 0, .int .i64 0, .int .u64 0, .int .i64 0] 26)) := (Kept.refl _).alloc _
      have X9n : Hid (RtAt (u3.alloc (.cells #[.int .u64 0, .int .u64 0, .int .i64 0, .int .u64 0, .int .i64 0] 26)) u3.heap.size Rt.none) := RtAt.laid u3 26 Rt.none
      replace K := Lib.hid (K.out.trans hk)
      replace X2 := Lib.hid (X2.out.kept hk)
      clear hk
      have X9 := X9n
      clear X9n
      generalize u3.alloc (.cells #[.int .u64 0, .int .u64 0, .int .i64 0, .int .u64 0, .int .i64 0] 26) = u4 at *
      generalize u3.heap.size = X9B at *
      go_wp2_with fail
      refine (HD2.out _).mono ?_
      rintro e u5 ⟨rfl, hk⟩
      replace K := Lib.hid (K.out.trans hk)
      replace X2 := Lib.hid (X2.out.kept hk)
      replace X9 := Lib.hid (X9.out.kept hk)
      clear hk
      go_upto_region 7 with fail
      have hk : Kept u5 (u5.alloc (.cells #[.int .u64 0, .int .u64 0, .int .i64 0, .int .u64 0, .int .i64 0] 26)) := (Kept.refl _).alloc _
      have X11n : Hid (RtAt (u5.alloc (.cells #[.int .u64 0, .int .u64 0, .int .i64 0, .int .u64 0, .int .i64 0] 26)) u5.heap.size Rt.none) := RtAt.laid u5 26 Rt.none
      replace K := Lib.hid (K.out.trans hk)
      replace X2 := Lib.hid (X2.out.kept hk)
      replace X9 := Lib.hid (X9.out.kept hk)
      clear hk
      have X11 := X11n
      clear X11n
      generalize u5.alloc (.cells #[.int .u64 0, .int .u64 0, .int .i64 0, .int .u64 0, .int .i64 0] 26) = u6 at *
      generalize u5.heap.size = X11B at *
      skip
      have X9c0 := X9.out.c0
      have X9c1 := X9.out.c1
      have X9c2 := X9.out.c2
      have X9c3 := X9.out.c3
      have X9c4 := X9.out.c4
      dsimp only [Rt.none] at X9c0 X9c1 X9c2 X9c3 X9c4
      have X11c0 := X11.out.c0
      have X11c1 := X11.out.c1
      have X11c2 := X11.out.c2
      have X11c3 := X11.out.c3
      have X11c4 := X11.out.c4
      dsimp only [Rt.none] at X11c0 X11c1 X11c2 X11c3 X11c4
      go_wp2_with fail
      refine (HAL.out _).mono ?_
      rintro e u7 ⟨rfl, hk⟩
      replace K := Lib.hid (K.out.trans hk)
      clear hk
      go_wp2_with fail
      go_ret
      exact ⟨rfl, K.out⟩
    | some c =>
      rw [hd] at HD1 HD2
      unfold decV at HD1 HD2
      obtain ⟨hcm, hcr⟩ := decR_some hd
      have HE3 := Lib.hid (fun W => pEncode_any c W)
      have hec : pencV c = .tuple #[.string s, .int .i64 0] := by
        have hts : c.txt = s := str_ext (by rw [Rt.txt_list, hcr])
        unfold pencV
        rw [if_pos hcm, hts]
      rw [hec] at HE3
      clear hd hcm hcr hec
      unfold Rt.val at *
      go_enter Try.func3, Try.ntmps3
      go_upto_region 1 with fail
      generalize w.alloc (.cells #[.int .u64 (x.gen : Nat), .int .u64 (x.nxt : Nat), .int .i64 x.row, .int .u64 (x.st : Nat), .int .i64 x.len] 26) = u0 at *
      have X2c0 := X2.out.c0
      have X2c1 := X2.out.c1
      have X2c2 := X2.out.c2
      have X2c3 := X2.out.c3
      have X2c4 := X2.out.c4
      go_wp2_with fail
      refine (HE1.out _).mono ?_
      rintro e u1 ⟨rfl, hk⟩
      replace K := Lib.hid (K.out.trans hk)
      replace X2 := Lib.hid (X2.out.kept hk)
      clear hk
      clear X2c0 X2c1 X2c2 X2c3 X2c4
      have X2c0 := X2.out.c0
      have X2c1 := X2.out.c1
      have X2c2 := X2.out.c2
      have X2c3 := X2.out.c3
      have X2c4 := X2.out.c4
      go_wp2_with fail
      refine (HE2.out _).mono ?_
      rintro e u2 ⟨rfl, hk⟩
      replace K := Lib.hid (K.out.trans hk)
      replace X2 := Lib.hid (X2.out.kept hk)
      clear hk
      clear X2c0 X2c1 X2c2 X2c3 X2c4
      go_wp2_with fail
      refine (HD1.out _).mono ?_
      rintro e u3 ⟨rfl, hk⟩
      replace K := Lib.hid (K.out.trans hk)
      replace X2 := Lib.hid (X2.out.kept hk)
      clear hk
      go_upto_region 6 with fail
      have hk : Kept u3 (u3.alloc (.cells #[.int .u64 (c.gen : Nat), .int .u64 (c.nxt : Nat), .int .i64 c.row, .int .u64 (c.st : Nat), .int .i64 c.len] 26)) := (Kept.refl _).alloc _
      have X9n : Hid (RtAt (u3.alloc (.cells #[.int .u64 (c.gen : Nat), .int .u64 (c.nxt : Nat), .int .i64 c.row, .int .u64 (c.st : Nat), .int .i64 c.len] 26)) u3.heap.size c) := RtAt.laid u3 26 c
      replace K := Lib.hid (K.out.trans hk)
      replace X2 := Lib.hid (X2.out.kept hk)
      clear hk
      have X9 := X9n
      clear X9n
      generalize u3.alloc (.cells #[.int .u64 (c.gen : Nat), .int .u64 (c.nxt : Nat), .int .i64 c.row, .int .u64 (c.st : Nat), .int .i64 c.len] 26) = u4 at *
      generalize u3.heap.size = X9B at *
      go_wp2_with fail
      refine (HD2.out _).mono ?_
      rintro e u5 ⟨rfl, hk⟩
      replace K := Lib.hid (K.out.trans hk)
      replace X2 := Lib.hid (X2.out.kept hk)
      replace X9 := Lib.hid (X9.out.kept hk)
      clear hk
      go_upto_region 7 with fail
      have hk : Kept u5 (u5.alloc (.cells #[.int .u64 (c.gen : Nat), .int .u64 (c.nxt : Nat), .int .i64 c.row, .int .u64 (c.st : Nat), .int .i64 c.len] 26)) := (Kept.refl _).alloc _
      have X11n : Hid (RtAt (u5.alloc (.cells #[.int .u64 (c.gen : Nat), .int .u64 (c.nxt : Nat), .int .i64 c.row, .int .u64 (c.st : Nat), .int .i64 c.len] 26)) u5.heap.size c) := RtAt.laid u5 26 c
      replace K := Lib.hid (K.out.trans hk)
      replace X2 := Lib.hid (X2.out.kept hk)
      replace X9 := Lib.hid (X9.out.kept hk)
      clear hk
      have X11 := X11n
      clear X11n
      generalize u5.alloc (.cells #[.int .u64 (c.gen : Nat), .int .u64 (c.nxt : Nat), .int .i64 c.row, .int .u64 (c.st : Nat), .int .i64 c.len] 26) = u6 at *
      generalize u5.heap.size = X11B at *
      skip
      have X9c0 := X9.out.c0
      have X9c1 := X9.out.c1
      have X9c2 := X9.out.c2
      have X9c3 := X9.out.c3
      have X9c4 := X9.out.c4
      have X11c0 := X11.out.c0
      have X11c1 := X11.out.c1
      have X11c2 := X11.out.c2
      have X11c3 := X11.out.c3
      have X11c4 := X11.out.c4
      go_upto_region 14 with fail
      clear X9c0 X9c1 X9c2 X9c3 X9c4 X11c0 X11c1 X11c2 X11c3 X11c4
      have X9c0 := X9.out.c0
      have X9c1 := X9.out.c1
      have X9c2 := X9.out.c2
      have X9c3 := X9.out.c3
      have X9c4 := X9.out.c4
      go_wp2_with fail
      refine (HE3.out _).mono ?_
      rintro e u7 ⟨rfl, hk⟩
      replace K := Lib.hid (K.out.trans hk)
      replace X2 := Lib.hid (X2.out.kept hk)
      replace X9 := Lib.hid (X9.out.kept hk)
      replace X11 := Lib.hid (X11.out.kept hk)
      clear hk
      clear X9c0 X9c1 X9c2 X9c3 X9c4
      have hbs : (s.toList == s.toList) = true := by simp
      go_wp2_with fail
      refine (HAL.out _).mono ?_
      rintro e u8 ⟨rfl, hk⟩
      replace K := Lib.hid (K.out.trans hk)
      clear hk
      go_wp2_with fail
      go_ret
      exact ⟨rfl, K.out⟩
end Go.Proofs.Ytoekaabngjjefaa
