/- ShardNil's walk. -/
import Derived.Test.YtdpkmonlkdegjaaDoorPart26
namespace Go.Proofs.YtdpkmonlkdegjaaDoor
open Go.RowKit Sm Wr _root_.Go.Proofs.YtdpkmonlkdegjaaDoor.Nm
set_option linter.unusedVariables false
set_option maxHeartbeats 4000000 in
set_option maxRecDepth 100000 in
theorem shardNil_walk (x : Shd) (a1 a2 : Int) (w : World) (w0 : x.Wf ∧ x.t.size ≤ maxLen) (w1 : (Lit.int .i64 a1).wf = true) (w2 : (Lit.int .i64 a2).wf = true) :
    Calls Tryd.prog 4 #[x.val, .int .i64 a1, .int .i64 a2] w fun e w' => e = .returned (.bool true) ∧ Kept w w' := by
  obtain ⟨d1, d2⟩ := bounds_i64 w1
  obtain ⟨i1, i2⟩ := bounds_i64 w2
  obtain ⟨hx, hs⟩ := w0
  clear w1 w2
  have hs2 : x.t.size ≤ 9223372036854775807 := by unfold maxLen at hs; exact hs
  have HMY := Lib.hid (fun W => refMay_any x W)
  have HRD := Lib.hid (fun W => shRead_nil a1 a2 d1 d2 i1 i2 W)
  have HCL := Lib.hid (fun W => shClear_nil a1 a2 d1 d2 i1 i2 W)
  have HWR := Lib.hid (fun h W => shWrite_nil a1 a2 d1 d2 i1 i2 x hx h W)
  unfold readV at HRD
  dsimp only at HRD
  rw [shN_val] at HRD
  cases hm : x.may with
  | true =>
    have h10 : decide ((1024 : Int) < (x.t.size : Int)) = false := decide_eq_false (by have := (Shd.may_iff hm).2.2.2.2.2.2; omega)
    replace HWR := Lib.hid (HWR.out hm)
    rw [hm] at HMY
    obtain ⟨st, ix, tt, t⟩ := x
    unfold Shd.val at *
    dsimp only at *
    clear hx hs hm
    have K0 : Hid (Kept w (w.alloc (.cells #[.int .u64 (st : Nat), .int .i64 ix, .int .i64 tt, .string t] 24))) := (Kept.refl _).alloc _
    have X0 := Lib.hid (ShAt.laid w 24 ⟨st, ix, tt, t⟩)
    have HB : Hid (w.heap.size ≤ w.heap.size) := Nat.le_refl _
    go_enter Tryd.func4, Tryd.ntmps4
    go_wp2_with fail
    refine (HMY.out _).mono ?_
    rintro e u1 ⟨rfl, hk⟩
    have K1 : Hid (Kept w u1) := K0.out.trans hk
    have X1 := Lib.hid (X0.out.kept hk)
    clear hk X0 K0 HMY
    (try dsimp only at X1)
    go_wp2_with fail
    refine (HRD.out _).mono ?_
    rintro e u2 ⟨rfl, hk⟩
    have K2 : Hid (Kept w u2) := K1.out.trans hk
    have X2 := Lib.hid (X1.out.kept hk)
    clear hk X1 K1 HRD
    go_upto_region 5 with fail
    have K3 : Hid (Kept w (u2.alloc (.cells #[.int .u64 0, .int .i64 0, .int .i64 0, .string ⟨#[]⟩] 24))) := K2.out.alloc _
    have X3 := Lib.hid (X2.out.kept ((Kept.refl u2).alloc (.cells #[.int .u64 0, .int .i64 0, .int .i64 0, .string ⟨#[]⟩] 24)))
    clear X2 K2
    generalize u2.alloc (.cells #[.int .u64 0, .int .i64 0, .int .i64 0, .string ⟨#[]⟩] 24) = u3 at *
    have x0 := X3.out.c0
    have x1 := X3.out.c1
    have x2 := X3.out.c2
    have x3 := X3.out.c3
    dsimp only at x0 x1 x2 x3
    go_wp2_with fail
    refine (HWR.out _).mono ?_
    rintro e u4 ⟨rfl, hk⟩
    have K4 : Hid (Kept w u4) := K3.out.trans hk
    clear hk K3 HWR x0 x1 x2 x3 X3
    go_wp2_with fail
    refine (HCL.out _).mono ?_
    rintro e u5 ⟨rfl, hk⟩
    have K5 : Hid (Kept w u5) := K4.out.trans hk
    clear hk K4 HCL
    go_wp2_with fail
    refine (shAlive_any _).mono ?_
    rintro e u6 ⟨rfl, hk⟩
    have K6 : Hid (Kept w u6) := K5.out.trans hk
    clear hk K5
    go_wp2_with fail
    go_ret
    exact ⟨rfl, K6.out⟩
  | false =>
    clear HRD HCL HWR
    rw [hm] at HMY
    obtain ⟨st, ix, tt, t⟩ := x
    unfold Shd.val at *
    dsimp only at *
    clear hx hs hm
    have K0 : Hid (Kept w (w.alloc (.cells #[.int .u64 (st : Nat), .int .i64 ix, .int .i64 tt, .string t] 24))) := (Kept.refl _).alloc _
    by_cases hb : (1024 : Int) < (t.size : Int)
    · have h10 : decide ((1024 : Int) < (t.size : Int)) = true := decide_eq_true hb
      clear hb
      go_enter Tryd.func4, Tryd.ntmps4
      go_wp2_with fail
      refine (shAlive_any _).mono ?_
      rintro e u6 ⟨rfl, hk⟩
      have K6 : Hid (Kept w u6) := K0.out.trans hk
      clear hk K0
      go_wp2_with fail
      go_ret
      exact ⟨rfl, K6.out⟩
    · have h10 : decide ((1024 : Int) < (t.size : Int)) = false := decide_eq_false hb
      clear hb
      go_enter Tryd.func4, Tryd.ntmps4
      go_wp2_with fail
      refine (HMY.out _).mono ?_
      rintro e u1 ⟨rfl, hk⟩
      have K1 : Hid (Kept w u1) := K0.out.trans hk
      clear hk K0 HMY
      go_wp2_with fail
      refine (shAlive_any _).mono ?_
      rintro e u6 ⟨rfl, hk⟩
      have K6 : Hid (Kept w u6) := K1.out.trans hk
      clear hk K1
      go_wp2_with fail
      go_ret
      exact ⟨rfl, K6.out⟩
end Go.Proofs.YtdpkmonlkdegjaaDoor
