/- NameApart's walk. -/
import Derived.Test.YtccpbgkaeldlaaaNyLaw
namespace Go.Proofs.Ytccpbgkaeldlaaa
open Go.RowKit _root_.Go.Proofs.Ytccpbgkaeldlaaa.Nm Ny
set_option linter.unusedVariables false
set_option linter.unusedSimpArgs false
set_option maxHeartbeats 2000000 in
set_option maxRecDepth 100000 in
theorem nameApart_walk (a b : Key) (w : World) (wa : a.Wf) (wb : b.Wf) :
    Calls Try.prog 6 #[a.val, b.val] w fun e w' => e = .returned (.bool true) ∧ Kept w w' := by
  have HWA := Lib.hid wa
  have HWB := Lib.hid wb
  have HX := Lib.hid ((KyAt.laid w 24 a).kept ((Kept.refl _).alloc (.cells #[.int .u8 (b.kd : Nat), .string b.bk, .string b.nm, .int .u64 (b.n : Nat), .int .i64 b.pt] 24)))
  have HY := Lib.hid (KyAt.laid (w.alloc (.cells #[.int .u8 (a.kd : Nat), .string a.bk, .string a.nm, .int .u64 (a.n : Nat), .int .i64 a.pt] 24)) 24 b)
  clear wa wb
  unfold Key.val
  go_enter Try.func6, Try.ntmps6
  have HE : Hid ((w.alloc (.cells #[.int .u8 (a.kd : Nat), .string a.bk, .string a.nm, .int .u64 (a.n : Nat), .int .i64 a.pt] 24)).heap.size = w.heap.size + 1) := by show _ = _; simp
  rw [HE.out] at HY
  have HK : Hid (Kept w ((w.alloc (.cells #[.int .u8 (a.kd : Nat), .string a.bk, .string a.nm, .int .u64 (a.n : Nat), .int .i64 a.pt] 24)).alloc (.cells #[.int .u8 (b.kd : Nat), .string b.bk, .string b.nm, .int .u64 (b.n : Nat), .int .i64 b.pt] 24))) := ((Kept.refl _).alloc _).alloc _
  clear HE
  go_upto_region 1 with fail
  have X1 := Lib.hid HX.out
  have Y1 := Lib.hid HY.out
  have K1 := Lib.hid HK.out
  clear HX HY HK
  have HLW : Hid (w.heap.size + 1 < ((w.alloc (.cells #[.int .u8 (a.kd : Nat), .string a.bk, .string a.nm, .int .u64 (a.n : Nat), .int .i64 a.pt] 24)).alloc (.cells #[.int .u8 (b.kd : Nat), .string b.bk, .string b.nm, .int .u64 (b.n : Nat), .int .i64 b.pt] 24)).heap.size) := Y1.out.lt
  generalize (w.alloc (.cells #[.int .u8 (a.kd : Nat), .string a.bk, .string a.nm, .int .u64 (a.n : Nat), .int .i64 a.pt] 24)).alloc (.cells #[.int .u8 (b.kd : Nat), .string b.bk, .string b.nm, .int .u64 (b.n : Nat), .int .i64 b.pt] 24) = w1 at *
  generalize w.heap.size = ga at *
  obtain ⟨c0, c1, c2, c3, c4, _, _, _, _, _⟩ := X1.out
  obtain ⟨d0, d1, d2, d3, d4, _, _, _, _, _⟩ := Y1.out
  go_wp2_with fail
  refine (long_4 a.bk a.nm b.bk b.nm _ _ HWA.out.bk HWA.out.nm HWB.out.bk HWB.out.nm).mono ?_
  rintro e u ⟨rfl, hu⟩
  have HKD := Lib.hid (((Kept.refl w1).alloc (.cells #[.string a.bk, .string a.nm, .string b.bk, .string b.nm] 9)))
  rw [← hu] at HKD
  clear hu c0 c1 c2 c3 c4 d0 d1 d2 d3 d4
  have K2 := Lib.hid (K1.out.trans HKD.out)
  have X2 := Lib.hid (X1.out.kept HKD.out)
  have Y2 := Lib.hid (Y1.out.kept HKD.out)
  clear X1 Y1 K1 HKD HLW
  have HLL := Lib.hid (fun h => longB_all (l := [a.bk, a.nm, b.bk, b.nm]) (n := 0) h)
  generalize longB [a.bk, a.nm, b.bk, b.nm] 0 = lb at *
  cases lb
  case true =>
    go_wp2_with fail
    refine (works_any _).mono ?_
    rintro e v ⟨rfl, hv⟩
    have K3 := Lib.hid (K2.out.trans hv)
    clear hv
    go_wp2_with fail
    go_ret
    exact ⟨rfl, K3.out⟩
  obtain ⟨c0, c1, c2, c3, c4, _, _, _, _, _⟩ := X2.out
  have hea := pEncode_any a
  have heb := pEncode_any b
  rw [encV_eq] at hea heb
  have HEA := Lib.hid (fun W => hea W HWA.out)
  have HEB := Lib.hid (fun W => heb W HWB.out)
  clear hea heb
  go_wp2_with fail
  refine (HEA.out _).mono ?_
  rintro e w3 ⟨rfl, hk⟩
  have K3 := Lib.hid (K2.out.trans hk)
  have X3 := Lib.hid (X2.out.kept hk)
  have Y3 := Lib.hid (Y2.out.kept hk)
  clear c0 c1 c2 c3 c4 hk K2 X2 Y2 HEA
  obtain ⟨d0, d1, d2, d3, d4, _, _, _, _, _⟩ := Y3.out
  go_wp2_with fail
  refine (HEB.out _).mono ?_
  rintro e w4 ⟨rfl, hk⟩
  have K4 := Lib.hid (K3.out.trans hk)
  have X4 := Lib.hid (X3.out.kept hk)
  have Y4 := Lib.hid (Y3.out.kept hk)
  clear d0 d1 d2 d3 d4 hk K3 X3 Y3 HEB
  obtain ⟨c0, c1, c2, c3, c4, _, _, _, _, _⟩ := X4.out
  obtain ⟨d0, d1, d2, d3, d4, _, _, _, _, _⟩ := Y4.out
  obtain ⟨sb, hEQ, hsb⟩ := eql_key a b
  have HSB := Lib.hid hsb
  clear hsb
  by_cases ha : mayK a = true
  case neg =>
    rw [encE_no ha]
    clear ha
    go_wp2_with fail
    refine (works_any _).mono ?_
    rintro e v ⟨rfl, hv⟩
    have K5 := Lib.hid (K4.out.trans hv)
    clear hv
    go_wp2_with fail
    go_ret
    exact ⟨rfl, K5.out⟩
  by_cases hb : mayK b = true
  case neg =>
    rw [encE_ok ha, encE_no hb]
    clear ha hb
    go_wp2_with fail
    refine (works_any _).mono ?_
    rintro e v ⟨rfl, hv⟩
    have K5 := Lib.hid (K4.out.trans hv)
    clear hv
    go_wp2_with fail
    go_ret
    exact ⟨rfl, K5.out⟩
  rw [encE_ok ha, encE_ok hb]
  cases sb
  case true =>
    clear ha hb
    go_wp2_with fail
    refine (works_any _).mono ?_
    rintro e v ⟨rfl, hv⟩
    have K5 := Lib.hid (K4.out.trans hv)
    clear hv
    go_wp2_with fail
    go_ret
    exact ⟨rfl, K5.out⟩
  have HAP : Hid (∀ n, n = (encB a).size ∨ n = (encB b).size → (encB a).data.toList.take n ≠ (encB b).data.toList.take n) := fun n hn => by
    rw [← list_size, ← list_size] at hn
    refine apart_min ?_ n hn
    rw [encB_list ha, encB_list hb]
    exact tri_apart HWA.out HWB.out ha hb (fun h => by have := HSB.out.2 h; cases this)
  have hsa := encB_len a (HLL.out (by first | trivial | rfl) a.bk (by simp)) (HLL.out (by first | trivial | rfl) a.nm (by simp))
  have hsb := encB_len b (HLL.out (by first | trivial | rfl) b.bk (by simp)) (HLL.out (by first | trivial | rfl) b.nm (by simp))
  clear ha hb HLL HSB
  generalize encB a = x at *
  generalize encB b = y at *
  go_upto_region 8 with fail
  obtain ⟨m, hmn, hm1, hm2, hmz⟩ : ∃ m : Nat, (min (x.size : Int) (y.size : Int)) = (m : Int) ∧ m ≤ x.size ∧ m ≤ y.size ∧ (m = x.size ∨ m = y.size) := by
    rcases Nat.le_total x.size y.size with h | h
    · exact ⟨x.size, by omega, Nat.le_refl _, h, .inl rfl⟩
    · exact ⟨y.size, by omega, h, Nat.le_refl _, .inr rfl⟩
  rw [hmn]
  have hne : ((x.extract 0 m).toList == (y.extract 0 m).toList) = false := by
    rw [Bool.eq_false_iff]
    intro h
    rw [bytes_eq, ext_take, ext_take] at h
    exact HAP.out m hmz (by have := congrArg (fun b : ByteArray => b.data.toList) h; simpa using this)
  clear HAP hmn hmz
  refine wp_quietN (C := fun W => Kept w4 W) (by kernel_rfl) (by kernel_rfl) ((Kept.refl w4).drew) ?_
  have HW := Lib.hid (fun W => works_any W)
  repeat (first
    | go_big_quiet_skip
    | (go_big_quiet_want
       refine ⟨_, fun W hW => by
         unfold Oper.quietAt
         go_simp
         first
           | (go_at_call 8; (with_reducible refine (HW.out W).mono ?_); exact fun e w' h => ⟨h.1, hW.trans h.2⟩)
           | exact rfl, ?_⟩
       go_simp
       go_big_quiet_on))
  refine wpQuiet_nil ?_
  intro W hW
  have K5 := Lib.hid (K4.out.trans hW)
  clear hW
  go_wp2_with fail
  go_ret
  exact ⟨rfl, K5.out⟩
end Go.Proofs.Ytccpbgkaeldlaaa
