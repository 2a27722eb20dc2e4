/- What the program's Decode answers. -/
import Derived.Test.YtccpbgkaeldlaaaNyRead
namespace Go.Proofs.Ytccpbgkaeldlaaa
open Go.RowKit _root_.Go.Proofs.Ytccpbgkaeldlaaa.Nm Ny
set_option linter.unusedVariables false
set_option linter.unusedSimpArgs false
/-- What Decode answers. -/
noncomputable def decV (l : List UInt8) : Value :=
  match decO l with
  | none => .tuple #[Key.none.val, .int .i64 8]
  | some k => .tuple #[k.val, .int .i64 0]
theorem decV_none {l : List UInt8} (h : decO l = none) : decV l = .tuple #[Key.none.val, .int .i64 8] := by unfold decV; rw [h]
theorem decV_some {l : List UInt8} {k : Key} (h : decO l = some k) : decV l = .tuple #[k.val, .int .i64 0] := by unfold decV; rw [h]
theorem decO_nil : decO [] = none := decO_none fun k h => by have := h.2.2; unfold encL at this; cases this
/-- What read answers, whatever came in. -/
def GotR2 (l : List UInt8) (e : Ending) : Prop := ∃ k b, e = .returned (.tuple #[Key.val k, .bool b]) ∧ k.Wf ∧ decV l = if (b && mayK k) = true then .tuple #[k.val, .int .i64 0] else .tuple #[Key.none.val, .int .i64 8]
theorem pRead2_any (s : ByteArray) (w : World) (hs : s.size ≤ 1000000) :
    Calls Try.prog 30 #[.string s] w fun e w' => GotR2 s.data.toList e ∧ Kept w w' := by
  refine (pRead_any s w hs).mono fun e w' h => ⟨?_, h.2⟩
  rcases h.1 with ⟨h0, h1⟩ | ⟨k, R, b, h1, h2⟩
  · refine ⟨Key.none, false, h1, ⟨by decide, by unfold maxLen; decide, by unfold maxLen; decide, by decide, by decide, by decide⟩, ?_⟩
    rw [if_neg (by simp)]
    exact decV_none (by rw [ba_nil h0]; exact decO_nil)
  · refine ⟨k, b && decide (R = []), h1, h2.wf, ?_⟩
    by_cases hh : (b && decide (R = []) && mayK k) = true
    · rw [if_pos hh]
      simp only [Bool.and_eq_true, decide_eq_true_eq] at hh
      obtain ⟨⟨rfl, rfl⟩, hm⟩ := hh
      exact decV_some (h2.end_yes hm)
    · rw [if_neg hh]
      refine decV_none (h2.end_no fun h => hh ?_)
      simp only [Bool.and_eq_true, decide_eq_true_eq]
      exact ⟨⟨h.1, h.2.1⟩, h.2.2⟩
set_option maxHeartbeats 2000000 in
set_option maxRecDepth 100000 in
theorem pDecode_any (s : ByteArray) (w : World) (hs : s.size ≤ 1000000) :
    Calls Try.prog 10 #[.string s] w fun e w' => e = .returned (decV s.data.toList) ∧ Kept w w' := by
  have HN := Lib.hid (KyAt.new w 24)
  have HK := Lib.hid ((Kept.refl w).alloc (.cells #[.int .u8 0, .string ⟨#[]⟩, .string ⟨#[]⟩, .int .u64 0, .int .i64 0] 24))
  have HR := Lib.hid (fun W => pRead2_any s W hs)
  have HKX : Hid (∀ (W : World) (k : Key), Kept W (W.alloc (.cells #[.int .u8 (k.kd : Nat), .string k.bk, .string k.nm, .int .u64 (k.n : Nat), .int .i64 k.pt] 24))) := fun W k => (Kept.refl _).alloc _
  have HLX := Lib.hid (fun W k => KyAt.laid W 24 k)
  have HMY := Lib.hid (fun W k hk => pMay_any k W hk)
  go_enter Try.func10, Try.ntmps10
  go_upto_region 1 with fail
  generalize w.alloc (.cells #[.int .u8 0, .string ⟨#[]⟩, .string ⟨#[]⟩, .int .u64 0, .int .i64 0] 24) = w0 at *
  go_wp2_with fail
  refine (HR.out _).mono ?_
  rintro e w1 ⟨⟨k, b, rfl, hw, hv⟩, hk⟩
  have HV := Lib.hid hv
  have HN1 := Lib.hid (HN.out.kept hk)
  have HK1 := Lib.hid (HK.out.trans hk)
  have HM := Lib.hid (fun W => HMY.out W k hw)
  clear hv hk HN HK HR HMY hw
  have HLK := Lib.hid (HLX.out w1 k)
  have HKK := Lib.hid (HKX.out w1 k)
  have HFK := Lib.hid (fun W (h : KyAt W w1.heap.size k) => h)
  clear HKX HLX
  obtain ⟨dv, hdv⟩ : ∃ d, decV s.data.toList = d := ⟨_, rfl⟩
  have HDV := Lib.hid hdv
  rw [hdv] at HV
  clear hdv
  generalize mayK k = mk at *
  obtain ⟨kd, bk, nm, n, pt⟩ := k
  unfold Key.val at *
  dsimp only at *
  go_upto_region 2 with fail
  have HN2 := Lib.hid (HN1.out.kept HKK.out)
  have HK2 := Lib.hid (HK1.out.trans HKK.out)
  have HNE : Hid (w1.heap.size ≠ w.heap.size) := by show _ ≠ _; have := HN1.out.lt; omega
  clear HN1 HK1 HKK
  generalize w1.alloc (.cells #[.int .u8 (kd : Nat), .string bk, .string nm, .int .u64 (n : Nat), .int .i64 pt] 24) = w2 at *
  generalize w1.heap.size = G at *
  cases b
  · have HV2 : Hid (dv = .tuple #[Key.none.val, .int .i64 8]) := by show _ = _; rw [HV.out]; rfl
    have HP := Lib.hid (HN2.out.put Key.none)
    have HKP := Lib.hid (putKy_kept HK2.out w.heap.size Key.none (Nat.le_refl _))
    unfold putKy at HP HKP
    obtain ⟨p0, p1, p2, p3, p4, f0, f1, f2, f3, f4⟩ := HN2.out
    dsimp only [Key.none] at HP HKP p0 p1 p2 p3 p4
    clear HV HN2 HK2 HLK HM HNE
    go_wp2_with fail
    rw [HDV.out, HV2.out]
    exact bodyPost_ret (v := .tuple #[Key.none.val, .int .i64 8]) (by have q0 := HP.out.c0; have q1 := HP.out.c1; have q2 := HP.out.c2; have q3 := HP.out.c3; have q4 := HP.out.c4; (try simp at q0 q1 q2 q3 q4); simp [results, Try.results10, go_sem, Key.val, Key.none, q0, q1, q2, q3, q4]) rfl ⟨rfl, HKP.out⟩
  · obtain ⟨c0, c1, c2, c3, c4, _, _, _, _, _⟩ := HLK.out
    dsimp only at c0 c3
    have hne := HNE.out
    have hoff : ∀ (W : World) o o' v, (W.setCell ⟨w.heap.size, o', none⟩ v).cell? ⟨G, o, none⟩ = W.cell? ⟨G, o, none⟩ := fun W o o' v => World.cell?_setCell_other _ _ _ _ (by intro e; injection e with e; exact hne e.symm)
    cases mk
    · have HV2 : Hid (dv = .tuple #[Key.none.val, .int .i64 8]) := by show _ = _; rw [HV.out]; rfl
      go_wp2_with (go_at_call 18; refine (HM.out _).mono ?_; rintro e w3 ⟨rfl, hk⟩; have HN3 := Lib.hid (HN2.out.kept hk); have HK3 := Lib.hid (HK2.out.trans hk); clear hk c0 c1 c2 c3 c4; have HP := Lib.hid (HN3.out.put Key.none); have HKP := Lib.hid (putKy_kept HK3.out w.heap.size Key.none (Nat.le_refl _)); unfold putKy at HP HKP; obtain ⟨p0, p1, p2, p3, p4, f0, f1, f2, f3, f4⟩ := HN3.out; dsimp only [Key.none] at HP HKP p0 p1 p2 p3 p4)
      rw [HDV.out, HV2.out]
      exact bodyPost_ret (v := .tuple #[Key.none.val, .int .i64 8]) (by have q0 := HP.out.c0; have q1 := HP.out.c1; have q2 := HP.out.c2; have q3 := HP.out.c3; have q4 := HP.out.c4; (try simp at q0 q1 q2 q3 q4); simp [results, Try.results10, go_sem, Key.val, Key.none, q0, q1, q2, q3, q4]) rfl ⟨rfl, HKP.out⟩
    · have HV2 : Hid (dv = .tuple #[.agg #[.int .u8 (kd : Nat), .string bk, .string nm, .int .u64 (n : Nat), .int .i64 pt], .int .i64 0]) := by show _ = _; rw [HV.out]; rfl
      go_wp2_with (go_at_call 18; refine (HM.out _).mono ?_; rintro e w3 ⟨rfl, hk⟩; have HN3 := Lib.hid (HN2.out.kept hk); have HK3 := Lib.hid (HK2.out.trans hk); have HL3 := Lib.hid (HLK.out.kept hk); clear hk c0 c1 c2 c3 c4; have HP := Lib.hid (HN3.out.put ⟨kd, bk, nm, n, pt⟩); have HKP := Lib.hid (putKy_kept HK3.out w.heap.size ⟨kd, bk, nm, n, pt⟩ (Nat.le_refl _)); unfold putKy at HP HKP; obtain ⟨p0, p1, p2, p3, p4, f0, f1, f2, f3, f4⟩ := HN3.out; obtain ⟨c0, c1, c2, c3, c4, _, _, _, _, _⟩ := HL3.out; dsimp only [Key.none] at HP HKP p0 p1 p2 p3 p4 c0 c3)
      rw [HDV.out, HV2.out]
      exact bodyPost_ret (v := .tuple #[.agg #[.int .u8 (kd : Nat), .string bk, .string nm, .int .u64 (n : Nat), .int .i64 pt], .int .i64 0]) (by have q0 := HP.out.c0; have q1 := HP.out.c1; have q2 := HP.out.c2; have q3 := HP.out.c3; have q4 := HP.out.c4; (try simp at q0 q1 q2 q3 q4); simp [results, Try.results10, go_sem, q0, q1, q2, q3, q4]) rfl ⟨rfl, HKP.out⟩
end Go.Proofs.Ytccpbgkaeldlaaa
