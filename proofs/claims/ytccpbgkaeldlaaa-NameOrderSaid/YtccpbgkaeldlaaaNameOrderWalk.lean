/- NameOrder's walk. -/
import Derived.Test.YtccpbgkaeldlaaaNyLaw
import Derived.Test.YtccpbgkaeldlaaaNyCmp2
namespace Go.Proofs.Ytccpbgkaeldlaaa
open Go.RowKit _root_.Go.Proofs.Ytccpbgkaeldlaaa.Nm Ny
set_option linter.unusedVariables false
set_option linter.unusedSimpArgs false
/-- How the bytes of two keys stand, and how the keys. -/
theorem order_tri {a b : Key} (wa : a.Wf) (wb : b.Wf) (ha : mayK a = true) (hb : mayK b = true) :
    (a = b ∧ Op.bytesLess (encB a).toList (encB b).toList = false ∧ ((encB a).toList == (encB b).toList) = true ∧ cmpK a b = 0 ∧ cmpK b a = 0) ∨
    (a ≠ b ∧ Op.bytesLess (encB a).toList (encB b).toList = true ∧ ((encB a).toList == (encB b).toList) = false ∧ cmpK a b = -1 ∧ cmpK b a = 1) ∨
    (a ≠ b ∧ Op.bytesLess (encB a).toList (encB b).toList = false ∧ ((encB a).toList == (encB b).toList) = false ∧ cmpK a b = 1 ∧ cmpK b a = -1) := by
  have ea : (encB a).toList = encL a := by rw [ByteArray.toList_eq, encB_list ha]
  have eb : (encB b).toList = encL b := by rw [ByteArray.toList_eq, encB_list hb]
  rw [ea, eb]
  rcases key_tri wa wb ha hb with ⟨rfl, h2, h3⟩ | ⟨h1, h2, h3, h4⟩ | ⟨h1, h2, h3, h4⟩
  · exact .inl ⟨rfl, less_self _, by simp, h2, h3⟩
  · obtain ⟨l1, l2⟩ := less_of h2
    refine .inr (.inl ⟨h1, l1, ?_, h3, h4⟩)
    rw [Bool.eq_false_iff]
    intro e
    rw [beq_iff_eq] at e
    rw [e, less_self] at l1
    cases l1
  · obtain ⟨l1, l2⟩ := less_of h2
    refine .inr (.inr ⟨h1, l2, ?_, h3, h4⟩)
    rw [Bool.eq_false_iff]
    intro e
    rw [beq_iff_eq] at e
    rw [e, less_self] at l1
    cases l1
set_option maxHeartbeats 2000000 in
set_option maxRecDepth 100000 in
theorem nameOrder_walk (a b : Key) (w : World) (wa : a.Wf) (wb : b.Wf) :
    Calls Try.prog 4 #[a.val, b.val] w fun e w' => e = .returned (.bool true) ∧ Kept w w' := by
  have HWA := Lib.hid wa
  have HWB := Lib.hid wb
  have HX := Lib.hid ((KyAt.laid w 24 a).kept ((Kept.refl _).alloc (.cells #[.int .u8 (b.kd : Nat), .string b.bk, .string b.nm, .int .u64 (b.n : Nat), .int .i64 b.pt] 24)))
  have HY := Lib.hid (KyAt.laid (w.alloc (.cells #[.int .u8 (a.kd : Nat), .string a.bk, .string a.nm, .int .u64 (a.n : Nat), .int .i64 a.pt] 24)) 24 b)
  clear wa wb
  unfold Key.val
  go_enter Try.func4, Try.ntmps4
  have HE : Hid ((w.alloc (.cells #[.int .u8 (a.kd : Nat), .string a.bk, .string a.nm, .int .u64 (a.n : Nat), .int .i64 a.pt] 24)).heap.size = w.heap.size + 1) := by show _ = _; simp
  rw [HE.out] at HY
  have HK : Hid (Kept w ((w.alloc (.cells #[.int .u8 (a.kd : Nat), .string a.bk, .string a.nm, .int .u64 (a.n : Nat), .int .i64 a.pt] 24)).alloc (.cells #[.int .u8 (b.kd : Nat), .string b.bk, .string b.nm, .int .u64 (b.n : Nat), .int .i64 b.pt] 24))) := ((Kept.refl _).alloc _).alloc _
  clear HE
  go_upto_region 1 with fail
  have X1 := Lib.hid HX.out
  have Y1 := Lib.hid HY.out
  have K1 := Lib.hid HK.out
  clear HX HY HK
  have HLW : Hid (w.heap.size + 1 < ((w.alloc (.cells #[.int .u8 (a.kd : Nat), .string a.bk, .string a.nm, .int .u64 (a.n : Nat), .int .i64 a.pt] 24)).alloc (.cells #[.int .u8 (b.kd : Nat), .string b.bk, .string b.nm, .int .u64 (b.n : Nat), .int .i64 b.pt] 24)).heap.size) := Y1.out.lt
  generalize (w.alloc (.cells #[.int .u8 (a.kd : Nat), .string a.bk, .string a.nm, .int .u64 (a.n : Nat), .int .i64 a.pt] 24)).alloc (.cells #[.int .u8 (b.kd : Nat), .string b.bk, .string b.nm, .int .u64 (b.n : Nat), .int .i64 b.pt] 24) = w1 at *
  generalize w.heap.size = ga at *
  obtain ⟨c0, c1, c2, c3, c4, _, _, _, _, _⟩ := X1.out
  obtain ⟨d0, d1, d2, d3, d4, _, _, _, _, _⟩ := Y1.out
  go_wp2_with fail
  refine (long_4 a.bk a.nm b.bk b.nm _ _ HWA.out.bk HWA.out.nm HWB.out.bk HWB.out.nm).mono ?_
  rintro e u ⟨rfl, hu⟩
  have HKD := Lib.hid (((Kept.refl w1).alloc (.cells #[.string a.bk, .string a.nm, .string b.bk, .string b.nm] 9)))
  rw [← hu] at HKD
  clear hu c0 c1 c2 c3 c4 d0 d1 d2 d3 d4
  have K2 := Lib.hid (K1.out.trans HKD.out)
  have X2 := Lib.hid (X1.out.kept HKD.out)
  have Y2 := Lib.hid (Y1.out.kept HKD.out)
  clear X1 Y1 K1 HKD HLW
  have HLL := Lib.hid (fun h => longB_all (l := [a.bk, a.nm, b.bk, b.nm]) (n := 0) h)
  generalize longB [a.bk, a.nm, b.bk, b.nm] 0 = lb at *
  cases lb
  case true =>
    go_wp2_with fail
    refine (works_any _).mono ?_
    rintro e v ⟨rfl, hv⟩
    have K3 := Lib.hid (K2.out.trans hv)
    clear hv
    go_wp2_with fail
    go_ret
    exact ⟨rfl, K3.out⟩
  obtain ⟨c0, c1, c2, c3, c4, _, _, _, _, _⟩ := X2.out
  have hea := pEncode_any a
  have heb := pEncode_any b
  rw [encV_eq] at hea heb
  have HEA := Lib.hid (fun W => hea W HWA.out)
  have HEB := Lib.hid (fun W => heb W HWB.out)
  clear hea heb
  go_wp2_with fail
  refine (HEA.out _).mono ?_
  rintro e w3 ⟨rfl, hk⟩
  have K3 := Lib.hid (K2.out.trans hk)
  have X3 := Lib.hid (X2.out.kept hk)
  have Y3 := Lib.hid (Y2.out.kept hk)
  clear c0 c1 c2 c3 c4 hk K2 X2 Y2 HEA
  obtain ⟨d0, d1, d2, d3, d4, _, _, _, _, _⟩ := Y3.out
  go_wp2_with fail
  refine (HEB.out _).mono ?_
  rintro e w4 ⟨rfl, hk⟩
  have K4 := Lib.hid (K3.out.trans hk)
  have X4 := Lib.hid (X3.out.kept hk)
  have Y4 := Lib.hid (Y3.out.kept hk)
  clear d0 d1 d2 d3 d4 hk K3 X3 Y3 HEB
  by_cases ha : mayK a = true
  case neg =>
    rw [encE_no ha]
    clear ha
    go_wp2_with fail
    refine (works_any _).mono ?_
    rintro e v ⟨rfl, hv⟩
    have K5 := Lib.hid (K4.out.trans hv)
    clear hv
    go_wp2_with fail
    go_ret
    exact ⟨rfl, K5.out⟩
  by_cases hb : mayK b = true
  case neg =>
    rw [encE_ok ha, encE_no hb]
    clear ha hb
    go_wp2_with fail
    refine (works_any _).mono ?_
    rintro e v ⟨rfl, hv⟩
    have K5 := Lib.hid (K4.out.trans hv)
    clear hv
    go_wp2_with fail
    go_ret
    exact ⟨rfl, K5.out⟩
  rw [encE_ok ha, encE_ok hb]
  have HDA := Lib.hid (fun W => pDecode_any (encB a) W (Nat.le_trans (encB_len a (HLL.out (by first | trivial | rfl) a.bk (by simp)) (HLL.out (by first | trivial | rfl) a.nm (by simp))) (by decide)))
  rw [encB_list ha, decV_some (decO_some (⟨HWA.out, ha, rfl⟩ : Dec (encL a) a))] at HDA
  have HC1 := Lib.hid (fun W => pCompare_any a b W HWA.out HWB.out)
  have HC2 := Lib.hid (fun W => pCompare_any b a W HWB.out HWA.out)
  have HTR := Lib.hid (order_tri HWA.out HWB.out ha hb)
  generalize encB a = x at *
  generalize encB b = y at *
  generalize cmpK a b = c at *
  generalize cmpK b a = d at *
  clear ha hb HLL
  go_wp2_with fail
  refine (HDA.out _).mono ?_
  rintro e w5 ⟨rfl, hk⟩
  have K5 := Lib.hid (K4.out.trans hk)
  have X5 := Lib.hid (X4.out.kept hk)
  have Y5 := Lib.hid (Y4.out.kept hk)
  clear hk K4 X4 Y4 HDA
  unfold Key.val
  go_upto_region 8 with fail
  have Z6 := Lib.hid (KyAt.laid w5 24 a)
  have HKD := Lib.hid ((Kept.refl w5).alloc (.cells #[.int .u8 (a.kd : Nat), .string a.bk, .string a.nm, .int .u64 (a.n : Nat), .int .i64 a.pt] 24))
  have K6 := Lib.hid (K5.out.trans HKD.out)
  have X6 := Lib.hid (X5.out.kept HKD.out)
  have Y6 := Lib.hid (Y5.out.kept HKD.out)
  clear K5 X5 Y5 HKD
  generalize w5.alloc (.cells #[.int .u8 (a.kd : Nat), .string a.bk, .string a.nm, .int .u64 (a.n : Nat), .int .i64 a.pt] 24) = w6 at *
  generalize w5.heap.size = gz at *
  obtain ⟨sa, hEA, hsa⟩ := eql_key a a
  obtain rfl := hsa.2 rfl
  obtain ⟨sb, hEB, hsb⟩ := eql_key a b
  have hx0 := X6.out.c0
  have hx1 := X6.out.c1
  have hx2 := X6.out.c2
  have hx3 := X6.out.c3
  have hx4 := X6.out.c4
  have hy0 := Y6.out.c0
  have hy1 := Y6.out.c1
  have hy2 := Y6.out.c2
  have hy3 := Y6.out.c3
  have hy4 := Y6.out.c4
  go_wp2_with fail
  unfold Key.val at HC1 HC2
  refine (HC1.out _).mono ?_
  rintro e w7 ⟨rfl, hk⟩
  have K7 := Lib.hid (K6.out.trans hk)
  have X7 := Lib.hid (X6.out.kept hk)
  have Y7 := Lib.hid (Y6.out.kept hk)
  have Z7 := Lib.hid (Z6.out.kept hk)
  clear hk K6 X6 Y6 Z6 HC1 hx0 hx1 hx2 hx3 hx4 hy0 hy1 hy2 hy3 hy4
  have hx0 := X7.out.c0
  have hx1 := X7.out.c1
  have hx2 := X7.out.c2
  have hx3 := X7.out.c3
  have hx4 := X7.out.c4
  have hy0 := Y7.out.c0
  have hy1 := Y7.out.c1
  have hy2 := Y7.out.c2
  have hy3 := Y7.out.c3
  have hy4 := Y7.out.c4
  have hz0 := Z7.out.c0
  have hz1 := Z7.out.c1
  have hz2 := Z7.out.c2
  have hz3 := Z7.out.c3
  have hz4 := Z7.out.c4
  have key : ∃ l q : Bool, Op.bytesLess x.toList y.toList = l ∧ (x.toList == y.toList) = q ∧ ((l = false ∧ q = true ∧ c = 0 ∧ d = 0 ∧ sb = true) ∨ (l = true ∧ q = false ∧ c = -1 ∧ d = 1 ∧ sb = false) ∨ (l = false ∧ q = false ∧ c = 1 ∧ d = -1 ∧ sb = false)) := by
    refine ⟨_, _, rfl, rfl, ?_⟩
    rcases HTR.out with ⟨h1, h2, h3, h4, h5⟩ | ⟨h1, h2, h3, h4, h5⟩ | ⟨h1, h2, h3, h4, h5⟩
    · exact .inl ⟨h2, h3, h4, h5, hsb.2 h1⟩
    · exact .inr (.inl ⟨h2, h3, h4, h5, Bool.eq_false_iff.2 fun h => h1 (hsb.1 h)⟩)
    · exact .inr (.inr ⟨h2, h3, h4, h5, Bool.eq_false_iff.2 fun h => h1 (hsb.1 h)⟩)
  obtain ⟨l, q, hl, hq, key⟩ := key
  clear hsa hsb HTR
  rcases key with ⟨rfl, rfl, rfl, rfl, rfl⟩ | ⟨rfl, rfl, rfl, rfl, rfl⟩ | ⟨rfl, rfl, rfl, rfl, rfl⟩
  all_goals
    go_wp2_with fail
    refine (HC2.out _).mono ?_
    rintro e w8 ⟨rfl, hk⟩
    have K8 := Lib.hid (K7.out.trans hk)
    clear hk K7 X7 Y7 Z7
    go_wp2_with fail
    refine (works_any _).mono ?_
    rintro e w9 ⟨rfl, hk⟩
    have K9 := Lib.hid (K8.out.trans hk)
    clear hk K8
    go_wp2_with fail
    go_ret
    exact ⟨rfl, K9.out⟩
end Go.Proofs.Ytccpbgkaeldlaaa
