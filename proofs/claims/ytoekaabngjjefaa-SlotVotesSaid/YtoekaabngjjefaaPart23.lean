/- SlotPEnc, SlotPDec, SlotPDec2, SlotPAt, SlotPCl, SlotPWr, SlotPRts, SlotPRoots, SlotRun, SlotPNew, SlotPNew2, SlotGatB. -/
import Derived.Test.YtoekaabngjjefaaPart22
import Derived.Test.YtoekaabngjjefaaPart20
import Derived.Test.YtoekaabngjjefaaPart14
import Derived.Test.YtoekaabngjjefaaPart10
import Derived.Lib.LazyBuf
import Derived.Test.YtoekaabngjjefaaPart19
import Derived.Deep.LoopGhost
import Derived.Test.YtoekaabngjjefaaPart21
import Derived.ChangeKeysEq
import Derived.Test.YtoekaabngjjefaaKept
import Derived.Test.YtoekaabngjjefaaPart2
import Derived.OwnWalk
import Derived.Deep.RegionLaw
import Derived.Deep.OwnRows
/- The program's Encode. -/
namespace Go.Proofs.Ytoekaabngjjefaa
open Go.RowKit Sm Wr _root_.Go.Proofs.Ytoekaabngjjefaa.Nm
set_option linter.unusedVariables false
def pencV (x : Rt) : Value := if x.may = true then .tuple #[.string x.txt, .int .i64 0] else .tuple #[.string ⟨#[]⟩, .int .i64 2]
theorem BytL.setCells {g : Nat} {l : List UInt8} {w : World} (h : BytL g l w) (o : Nat) (m : List UInt8) (hm : o + m.length ≤ l.length) :
    BytL g (l.take o ++ (m ++ l.drop (o + m.length))) (w.setCells g o (m.map fun x => Value.int .u8 (x.toNat : Int))) := by
  have hl : (l.take o ++ (m ++ l.drop (o + m.length))).length = l.length := by simp; omega
  refine ⟨fun j hj => ?_, fun j hj => by rw [World.frozen?_setCells]; exact h.free j (by omega)⟩
  have hjl : j < l.length := by omega
  by_cases h1 : j < o
  · rw [World.cell?_setCells_out _ _ _ _ _ (fun _ _ => .inl h1), h.cell j hjl, List.getElem_append_left (by simp; omega), List.getElem_take]
  · by_cases h2 : j < o + m.length
    · have e := World.cell?_setCells_in g (m.map fun x => Value.int .u8 (x.toNat : Int)) o w (fun q hq => by rw [List.length_map] at hq; rw [h.cell (o + q) (by omega)]; rfl) (j - o) (by rw [List.length_map]; omega)
      rw [show o + (j - o) = j from by omega] at e
      rw [e, List.getElem_map, List.getElem_append_right (by simp; omega), List.getElem_append_left (by simp; omega)]
      simp only [List.length_take, Nat.min_eq_left (show o ≤ l.length by omega)]
    · rw [World.cell?_setCells_out _ _ _ _ _ (fun _ _ => .inr (by rw [List.length_map]; show _ ≤ j; omega)), h.cell j hjl, List.getElem_append_right (by simp; omega), List.getElem_append_right (by simp; omega), List.getElem_drop]
      have hi : o + m.length + (j - (l.take o).length - m.length) = j := by rw [List.length_take, Nat.min_eq_left (by omega)]; omega
      simp only [hi]
theorem zero64_byt (w : World) (T : TypeId) : BytL w.heap.size (List.replicate 64 0) (w.alloc (.cells #[.int .u8 0, .int .u8 0, .int .u8 0, .int .u8 0, .int .u8 0, .int .u8 0, .int .u8 0, .int .u8 0, .int .u8 0, .int .u8 0, .int .u8 0, .int .u8 0, .int .u8 0, .int .u8 0, .int .u8 0, .int .u8 0, .int .u8 0, .int .u8 0, .int .u8 0, .int .u8 0, .int .u8 0, .int .u8 0, .int .u8 0, .int .u8 0, .int .u8 0, .int .u8 0, .int .u8 0, .int .u8 0, .int .u8 0, .int .u8 0, .int .u8 0, .int .u8 0, .int .u8 0, .int .u8 0, .int .u8 0, .int .u8 0, .int .u8 0, .int .u8 0, .int .u8 0, .int .u8 0, .int .u8 0, .int .u8 0, .int .u8 0, .int .u8 0, .int .u8 0, .int .u8 0, .int .u8 0, .int .u8 0, .int .u8 0, .int .u8 0, .int .u8 0, .int .u8 0, .int .u8 0, .int .u8 0, .int .u8 0, .int .u8 0, .int .u8 0, .int .u8 0, .int .u8 0, .int .u8 0, .int .u8 0, .int .u8 0, .int .u8 0, .int .u8 0] T)) := by
  have e : (#[.int .u8 0, .int .u8 0, .int .u8 0, .int .u8 0, .int .u8 0, .int .u8 0, .int .u8 0, .int .u8 0, .int .u8 0, .int .u8 0, .int .u8 0, .int .u8 0, .int .u8 0, .int .u8 0, .int .u8 0, .int .u8 0, .int .u8 0, .int .u8 0, .int .u8 0, .int .u8 0, .int .u8 0, .int .u8 0, .int .u8 0, .int .u8 0, .int .u8 0, .int .u8 0, .int .u8 0, .int .u8 0, .int .u8 0, .int .u8 0, .int .u8 0, .int .u8 0, .int .u8 0, .int .u8 0, .int .u8 0, .int .u8 0, .int .u8 0, .int .u8 0, .int .u8 0, .int .u8 0, .int .u8 0, .int .u8 0, .int .u8 0, .int .u8 0, .int .u8 0, .int .u8 0, .int .u8 0, .int .u8 0, .int .u8 0, .int .u8 0, .int .u8 0, .int .u8 0, .int .u8 0, .int .u8 0, .int .u8 0, .int .u8 0, .int .u8 0, .int .u8 0, .int .u8 0, .int .u8 0, .int .u8 0, .int .u8 0, .int .u8 0, .int .u8 0] : Array Value) = (List.replicate 64 (Value.int .u8 0)).toArray := rfl
  refine ⟨fun j hj => ?_, fun j hj => ?_⟩
  · rw [World.cell?_alloc_mark, e, List.getElem?_toArray, List.getElem?_replicate, if_pos (by simpa using hj), List.getElem_replicate]
    rfl
  · rw [World.frozen?_alloc_mark]
    simp
theorem setCells_kept {w0 w : World} (h : Kept w0 w) (g : Nat) (hg : w0.heap.size ≤ g) : ∀ (l : List Value) (o : Nat), Kept w0 (w.setCells g o l) := by
  intro l
  induction l generalizing w with
  | nil => intro o; exact h
  | cons v r ih => intro o; exact ih (h.setCell (p := ⟨g, o, none⟩) hg v) (o + 1)
theorem u64s_five (w : World) (a b c d l : Nat) (t : TypeId) (ha : a ≤ 281474976710656) (hb : b ≤ 281474976710656) (hc : c ≤ 281474976710656) (hd : d ≤ 281474976710656) (hl : l ≤ 281474976710656) :
    U64s (w.alloc (.cells #[.int .u64 (a : Nat), .int .u64 (b : Nat), .int .u64 (c : Nat), .int .u64 (d : Nat), .int .u64 (l : Nat)] t)) (some ⟨w.heap.size, 0, none⟩) [a, b, c, d, l] := by
  refine u64s_new w _ t _ (fun i hi => ?_) (fun x hx => ?_)
  · simp only [List.length_cons, List.length_nil] at hi
    rcases i with _ | _ | _ | _ | _ | i
    all_goals first | rfl | omega
  · simp only [List.mem_cons, List.not_mem_nil, or_false] at hx
    omega
set_option maxHeartbeats 1000000 in
set_option maxRecDepth 100000 in
theorem pEncode_any (x : Rt) (w : World) :
    Calls Try.prog 9 #[x.val] w fun e w' => e = .returned (pencV x) ∧ Kept w w' := by
  have HM := Lib.hid (fun W => pMay_any x W)
  have HE : Hid (pencV x = if x.may = true then .tuple #[.string x.txt, .int .i64 0] else .tuple #[.string ⟨#[]⟩, .int .i64 2]) := rfl
  have X0 := Lib.hid (RtAt.laid w 26 x)
  generalize pencV x = ev at *
  unfold Rt.val at *
  by_cases hm : x.may = true
  · rw [hm] at HM HE
    have HTX : Hid (x.txt.data.toList = x.raw) := rfl
    have HRL : Hid (x.raw.length = 64) := Rt.raw_length hm
    have HRT : Hid (x.raw = UInt8.ofNat (sealL x.said).length :: sealL x.said ++ List.replicate (64 - ((sealL x.said).length + 1)) 0) := rfl
    have HSD : Hid (x.said = nums [x.gen, x.nxt, x.row.toNat, x.st, x.len.toNat]) := rfl
    have HSL := Lib.hid (Rt.said_length hm)
    obtain ⟨m1, m2, m3, m4, m5, m6, m7, m8, m9⟩ := Rt.may_iff hm
    clear hm
    obtain ⟨a, b, c, d, l⟩ := x
    dsimp only at *
    obtain ⟨c, rfl⟩ := Int.eq_ofNat_of_zero_le m5
    obtain ⟨l, rfl⟩ := Int.eq_ofNat_of_zero_le m8
    rw [Int.toNat_natCast, Int.toNat_natCast] at HSD
    generalize Rt.txt ⟨a, b, (c : Nat), d, (l : Nat)⟩ = tx at *
    generalize Rt.raw ⟨a, b, (c : Nat), d, (l : Nat)⟩ = rw' at *
    generalize Rt.said ⟨a, b, (c : Nat), d, (l : Nat)⟩ = sd at *
    have hw1 : IntKind.u64.wrap (c : Int) = (c : Int) := IntWalk.u64_in _ (by omega)
    have hw2 : IntKind.u64.wrap (l : Int) = (l : Int) := IntWalk.u64_in _ (by omega)
    have HNU := Lib.hid (fun W => (nums_any (some ⟨W.heap.size, 0, none⟩) 5 [a, b, c, d, l] (W.alloc (.cells #[.int .u64 (a : Nat), .int .u64 (b : Nat), .int .u64 (c : Nat), .int .u64 (d : Nat), .int .u64 (l : Nat)] 22)) (u64s_five W a b c d l _ (by omega) (by omega) (by omega) (by omega) (by omega)) (by simp)))
    obtain ⟨y, hy⟩ : ∃ y : ByteArray, y = ⟨(nums [a, b, c, d, l]).toArray⟩ := ⟨_, rfl⟩
    rw [← hy] at HNU
    have HY : Hid (y.data.toList = sd) := by show _ = _; rw [hy, HSD.out]
    have hyl : y.size ≤ 45 := by rw [← data_len, HY.out]; exact HSL.out
    have HSE := Lib.hid (fun W => seal_any y W (by omega))
    clear hy HSD HSL
    go_enter Try.func9, Try.ntmps9
    go_wp2_with fail
    refine (HM.out _).mono ?_
    rintro e w1 ⟨rfl, hk⟩
    have K1 : Hid (Kept w w1) := ((Kept.refl _).alloc _).trans hk
    have X1 := Lib.hid (X0.out.kept hk)
    have x0 := X1.out.c0
    have x1 := X1.out.c1
    have x2 := X1.out.c2
    have x3 := X1.out.c3
    have x4 := X1.out.c4
    dsimp only at x0 x1 x2 x3 x4
    clear hk HM X0
    go_wp2_with fail
    refine (HNU.out _).mono ?_
    rintro e w2 ⟨rfl, hk⟩
    have K2 : Hid (Kept w w2) := K1.out.trans (((Kept.refl _).alloc _).trans hk)
    clear hk HNU K1 X1 x0 x1 x2 x3 x4
    go_wp2_with fail
    refine (HSE.out _).mono ?_
    rintro e w3 ⟨⟨r, rfl, hr, hrz⟩, hk⟩
    have K3 : Hid (Kept w w3) := K2.out.trans hk
    have hr49 : r.size ≤ 49 := by omega
    have HRZ : Hid ((sealL sd).length = r.size) := by show _ = _; rw [← HY.out, ← hr.out, data_len]
    have HRR : Hid (r.data.toList = sealL sd) := by show _ = _; rw [hr.out, HY.out]
    clear hk HSE K2 hrz hr HY hyl hw1 hw2
    generalize sealL sd = se at *
    go_upto_region 5 with fail
    have B0 := Lib.hid (zero64_byt w3 63)
    have K4 : Hid (Kept w (w3.alloc (.cells #[.int .u8 0, .int .u8 0, .int .u8 0, .int .u8 0, .int .u8 0, .int .u8 0, .int .u8 0, .int .u8 0, .int .u8 0, .int .u8 0, .int .u8 0, .int .u8 0, .int .u8 0, .int .u8 0, .int .u8 0, .int .u8 0, .int .u8 0, .int .u8 0, .int .u8 0, .int .u8 0, .int .u8 0, .int .u8 0, .int .u8 0, .int .u8 0, .int .u8 0, .int .u8 0, .int .u8 0, .int .u8 0, .int .u8 0, .int .u8 0, .int .u8 0, .int .u8 0, .int .u8 0, .int .u8 0, .int .u8 0, .int .u8 0, .int .u8 0, .int .u8 0, .int .u8 0, .int .u8 0, .int .u8 0, .int .u8 0, .int .u8 0, .int .u8 0, .int .u8 0, .int .u8 0, .int .u8 0, .int .u8 0, .int .u8 0, .int .u8 0, .int .u8 0, .int .u8 0, .int .u8 0, .int .u8 0, .int .u8 0, .int .u8 0, .int .u8 0, .int .u8 0, .int .u8 0, .int .u8 0, .int .u8 0, .int .u8 0, .int .u8 0, .int .u8 0] 63))) := K3.out.trans ((Kept.refl _).alloc _)
    generalize w3.alloc (.cells #[.int .u8 0, .int .u8 0, .int .u8 0, .int .u8 0, .int .u8 0, .int .u8 0, .int .u8 0, .int .u8 0, .int .u8 0, .int .u8 0, .int .u8 0, .int .u8 0, .int .u8 0, .int .u8 0, .int .u8 0, .int .u8 0, .int .u8 0, .int .u8 0, .int .u8 0, .int .u8 0, .int .u8 0, .int .u8 0, .int .u8 0, .int .u8 0, .int .u8 0, .int .u8 0, .int .u8 0, .int .u8 0, .int .u8 0, .int .u8 0, .int .u8 0, .int .u8 0, .int .u8 0, .int .u8 0, .int .u8 0, .int .u8 0, .int .u8 0, .int .u8 0, .int .u8 0, .int .u8 0, .int .u8 0, .int .u8 0, .int .u8 0, .int .u8 0, .int .u8 0, .int .u8 0, .int .u8 0, .int .u8 0, .int .u8 0, .int .u8 0, .int .u8 0, .int .u8 0, .int .u8 0, .int .u8 0, .int .u8 0, .int .u8 0, .int .u8 0, .int .u8 0, .int .u8 0, .int .u8 0, .int .u8 0, .int .u8 0, .int .u8 0, .int .u8 0] 63) = W0 at *
    have HG : Hid (w.heap.size ≤ w3.heap.size) := K3.out.size
    generalize w3.heap.size = G at *
    have c0 := B0.out.cell 0 (by decide)
    have f0 := B0.out.free 0 (by decide)
    have hw8 : IntKind.u8.wrap (r.size : Int) = (r.size : Int) := IntWalk.u8_in _ (by omega)
    have hv : (((UInt8.ofNat r.size).toNat : Nat) : Int) = (r.size : Int) := by rw [UInt8.toNat_ofNat']; omega
    have B1 := B0.out.set 0 (by decide) (UInt8.ofNat r.size)
    rw [hv] at B1
    replace B1 := Lib.hid B1
    have K5 : Hid (Kept w (W0.setCell ⟨G, 0, none⟩ (.int .u8 (r.size : Int)))) := K4.out.setCell (p := ⟨G, 0, none⟩) HG.out _
    clear B0 K4 K3 hv
    go_upto_region 6 with fail
    generalize W0.setCell ⟨G, 0, none⟩ (.int .u8 (r.size : Int)) = W1 at *
    clear c0 f0 hw8
    have hcp : ∀ ty, (Builtin.copy_ #[38, 9] ty #[.slice (some ⟨G, 1, none⟩) 63 63, .string r]).run Try.prog W1 = .ok (goInt r.size) (W1.setCells G 1 (r.data.toList.map fun x => Value.int .u8 (x.toNat : Int))) := fun ty =>
      run_copy_string _ 38 9 ty 5 G 1 63 63 r Try.underlying38 Try.sizeOf5 (by omega) (fun j hj => by rw [B1.out.cell (1 + j) (by rw [List.length_set, List.length_replicate]; omega)]; rfl) (fun j hj => B1.out.free (1 + j) (by rw [List.length_set, List.length_replicate]; omega))
    have hdl : r.data.toList.length = r.size := by simp
    have B2 := B1.out.setCells 1 r.data.toList (by rw [List.length_set, List.length_replicate]; omega)
    have K6 : Hid (Kept w (W1.setCells G 1 (r.data.toList.map fun x => Value.int .u8 (x.toNat : Int)))) := setCells_kept K5.out G HG.out _ _
    generalize W1.setCells G 1 (r.data.toList.map fun x => Value.int .u8 (x.toNat : Int)) = W2 at *
    have hl2 : (((List.replicate 64 (0 : UInt8)).set 0 (UInt8.ofNat r.size)).take 1 ++ (r.data.toList ++ ((List.replicate 64 (0 : UInt8)).set 0 (UInt8.ofNat r.size)).drop (1 + r.data.toList.length))) = tx.data.toList := by
      rw [HTX.out, HRT.out, hdl, HRR.out, HRZ.out, show List.replicate 64 (0 : UInt8) = 0 :: List.replicate 63 0 from rfl, List.set_cons_zero, Nat.add_comm 1 r.size, List.drop_succ_cons, List.drop_replicate, show 64 - (r.size + 1) = 63 - r.size from by omega]
      rfl
    rw [hl2] at B2
    have hcv := B2.text 0 64 64 (by rw [HTX.out, HRL.out]; decide)
    have htx : (⟨((tx.data.toList.drop 0).take 64).toArray⟩ : ByteArray) = tx := by
      apply str_ext
      rw [List.drop_zero, List.take_of_length_le (by rw [HTX.out, HRL.out]; decide)]
    rw [htx] at hcv
    have HE2 : Hid (ev = .tuple #[.string tx, .int .i64 0]) := by show _ = _; rw [HE.out, if_pos trivial]
    clear htx hl2 B1 B2 hdl HE HRT HRZ HRR HRL HTX K5
    go_wp2_with fail
    exact bodyPost_ret (v := .tuple #[.string tx, .int .i64 0]) (by simp [results, Try.results9, go_sem]) rfl ⟨by rw [HE2.out], K6.out⟩
  · have hm2 : x.may = false := by simpa using hm
    rw [hm2] at HM HE
    have HE2 : Hid (ev = .tuple #[.string ⟨#[]⟩, .int .i64 2]) := by show _ = _; rw [HE.out, if_neg (by decide)]
    clear HE X0 hm hm2
    obtain ⟨a, b, c, d, l⟩ := x
    dsimp only at *
    go_enter Try.func9, Try.ntmps9
    go_wp2_with fail
    refine (HM.out _).mono ?_
    rintro e w1 ⟨rfl, hk⟩
    have K1 : Hid (Kept w w1) := ((Kept.refl _).alloc _).trans hk
    clear hk HM
    go_wp2_with fail
    exact bodyPost_ret (v := .tuple #[.string ⟨#[]⟩, .int .i64 2]) (by simp [results, Try.results9, go_sem]) rfl ⟨by rw [HE2.out], K1.out⟩
end Go.Proofs.Ytoekaabngjjefaa

/- The program's Decode. -/
namespace Go.Proofs.Ytoekaabngjjefaa
open Go.RowKit Sm Wr _root_.Go.Proofs.Ytoekaabngjjefaa.Nm
set_option linter.unusedVariables false
/-- The first five numbers, whatever stands behind them. -/
theorem rdQ_rest (x : Rt) (h : x.may = true) (r : List UInt8) : (rdQ 281474976710656 281474976710656 281474976710656 281474976710656 281474976710656 (x.said ++ r)).1 = x := by
  obtain ⟨c1, c2, c3, c4, c5, c6, c7, c8, c9⟩ := Rt.may_iff h
  have e : x.said ++ r = up x.gen ++ (up x.nxt ++ (up x.row.toNat ++ (up x.st ++ (up x.len.toNat ++ r)))) := by unfold Rt.said nums; simp
  unfold rdQ
  rw [e]
  dsimp only
  rw [qm_up _ x.gen _ (by omega) (by omega)]
  dsimp only
  rw [qm_up _ x.nxt _ (by omega) (by omega)]
  dsimp only
  rw [qm_up _ x.row.toNat _ (by omega) (by omega)]
  dsimp only
  rw [qm_up _ x.st _ (by omega) (by omega)]
  dsimp only
  rw [qm_up _ x.len.toNat _ (by omega) (by omega)]
  dsimp only
  rw [Int.toNat_of_nonneg c5, Int.toNat_of_nonneg c8]
def numsR (l : List UInt8) : Rt := (rdQ 281474976710656 281474976710656 281474976710656 281474976710656 281474976710656 l).1
theorem decR_nums (l : List UInt8) (hl : l.length = 64) : decR l = if (numsR (l.drop 1)).may = true ∧ (numsR (l.drop 1)).raw = l then some (numsR (l.drop 1)) else .none := by
  split
  · rename_i c
    exact (decR_iff _ _).2 c
  · rename_i c
    cases hd : decR l with
    | none => rfl
    | some x =>
      obtain ⟨a, b⟩ := decR_some hd
      exfalso
      apply c
      have e : l.drop 1 = x.said ++ ((sealL x.said).drop x.said.length ++ List.replicate (64 - x.root.length) 0) := by
        rw [← b]
        unfold Rt.raw Rt.root
        rw [List.cons_append, List.drop_succ_cons, List.drop_zero, ← List.append_assoc]
        congr 1
        unfold sealL
        rw [List.drop_left]
      have : numsR (l.drop 1) = x := by rw [e]; exact rdQ_rest x a _
      rw [this]
      exact ⟨a, b⟩
theorem next_any (b : Nat) (s : St) (q : Addr) (w : World) (hq : w.cell? q = some (.pointer (some ⟨b, 0, none⟩))) (hR : WrAt w b s) :
    Calls Try.prog 55 #[.pointer (some q)] w fun e w' => e = .returned (.int .u64 ((qNum 281474976710656 s).1 : Nat)) ∧ WrAt w' b (qNum 281474976710656 s).2 ∧ But b w w' := by
  have HN := Lib.hid (num_any b s 281474976710656 w hR (by decide) (by decide))
  go_enter Try.func55, Try.ntmps55
  go_wp2_with fail
  refine HN.out.mono ?_
  rintro e w1 ⟨rfl, h⟩
  go_wp2_with fail
  go_ret
  exact ⟨rfl, h⟩
set_option maxHeartbeats 1000000 in
set_option maxRecDepth 100000 in
theorem numbers_any (s : ByteArray) (w : World) (hs : s.size ≤ 281474976710656) :
    Calls Try.prog 28 #[.string s] w fun e w' => e = .returned (numsR s.data.toList).val ∧ Kept w w' := by
  have HNEW := Lib.hid (fun W => new_any s W hs)
  have K0 : Hid (Kept w (w.alloc (.cells #[.int .u64 0, .int .u64 0, .int .i64 0, .int .u64 0, .int .i64 0] 26))) := (Kept.refl _).alloc _
  have S0 := Lib.hid (RtAt.new w 26)
  go_enter Try.func28, Try.ntmps28
  go_wp2_with fail
  refine (HNEW.out _).mono ?_
  rintro e w1 ⟨b, rfl, hb, hR, hk⟩
  have K1 : Hid (Kept w w1) := K0.out.trans hk
  have S1 := Lib.hid (S0.out.kept hk)
  have R1 := Lib.hid hR
  clear hk hR HNEW S0 K0
  have hb1 : w.heap.size < b := by rw [size_alloc] at hb; omega
  clear hb
  obtain ⟨G, hG⟩ : ∃ G, G = w1.heap.size := ⟨_, rfl⟩
  have hbG : b < G := by rw [hG]; exact R1.out.lt
  have HQ : Hid ((w1.alloc (.cells #[.pointer (some ⟨b, 0, none⟩)] 109)).cell? ⟨w1.heap.size, 0, none⟩ = some (.pointer (some ⟨b, 0, none⟩))) := by show _ = _; rw [World.cell?_alloc_mark]; rfl
  have k2 : Kept w1 (w1.alloc (.cells #[.pointer (some ⟨b, 0, none⟩)] 109)) := (Kept.refl _).alloc _
  have hL : G < (w1.alloc (.cells #[.pointer (some ⟨b, 0, none⟩)] 109)).heap.size := by rw [size_alloc]; omega
  have K2 : Hid (Kept w (w1.alloc (.cells #[.pointer (some ⟨b, 0, none⟩)] 109))) := K1.out.trans k2
  have S2 := Lib.hid (S1.out.kept k2)
  have R2 := Lib.hid (R1.out.kept k2)
  clear k2 K1 S1 R1
  have HNX := Lib.hid (fun q S W h1 h2 => next_any b S q W h1 h2)
  obtain ⟨q0, hq0⟩ : ∃ q, q = qNum 281474976710656 ⟨s.data.toList, 0⟩ := ⟨_, rfl⟩
  obtain ⟨q1, hq1⟩ : ∃ q, q = qNum 281474976710656 q0.2 := ⟨_, rfl⟩
  obtain ⟨q2, hq2⟩ : ∃ q, q = qNum 281474976710656 q1.2 := ⟨_, rfl⟩
  obtain ⟨q3, hq3⟩ : ∃ q, q = qNum 281474976710656 q2.2 := ⟨_, rfl⟩
  obtain ⟨q4, hq4⟩ : ∃ q, q = qNum 281474976710656 q3.2 := ⟨_, rfl⟩
  have HRES : Hid (numsR s.data.toList = ⟨q0.1, q1.1, (q2.1 : Nat), q3.1, (q4.1 : Nat)⟩) := by show _ = _; rw [hq4, hq3, hq2, hq1, hq0]; rfl
  have l2 : q2.1 ≤ 281474976710656 := by rw [hq2]; exact qn_leR _ _
  have l4 : q4.1 ≤ 281474976710656 := by rw [hq4]; exact qn_leR _ _
  have hw2 : IntKind.i64.wrap (q2.1 : Int) = (q2.1 : Int) := IntWalk.i64_in _ (by omega)
  have hw4 : IntKind.i64.wrap (q4.1 : Int) = (q4.1 : Int) := IntWalk.i64_in _ (by omega)
  have HQ0 := Lib.hid hq0
  have HQ1 := Lib.hid hq1
  have HQ2 := Lib.hid hq2
  have HQ3 := Lib.hid hq3
  have HQ4 := Lib.hid hq4
  clear hq0 hq1 hq2 hq3 hq4 l2 l4
  go_upto_region 3 with fail
  generalize w1.alloc (.cells #[.pointer (some ⟨b, 0, none⟩)] 109) = u2 at *
  rw [← hG] at *
  clear hG
  go_wp2_with fail
  refine (HNX.out ⟨G, 0, none⟩ _ _ HQ.out R2.out).mono ?_
  rintro e u3 ⟨rfl, hr, hbt⟩
  rw [← HQ0.out] at hr ⊢
  have R3 := Lib.hid hr
  have S3 := Lib.hid (S2.out.but hbt (by omega))
  have K3 : Hid (Kept w u3) := But.kept K2.out (by omega) hbt
  have HQ' : Hid (u3.cell? ⟨G, 0, none⟩ = some (.pointer (some ⟨b, 0, none⟩))) := by show _ = _; rw [hbt.cell (p := ⟨G, 0, none⟩) hL (by show G ≠ b; omega)]; exact HQ.out
  have hL' : G < u3.heap.size := Nat.lt_of_lt_of_le hL hbt.size
  clear hr hbt R2 S2 K2 HQ hL HQ0
  have HQ := HQ'
  have hL := hL'
  clear HQ' hL'
  go_wp2_with fail
  refine (HNX.out ⟨G, 0, none⟩ _ _ HQ.out R3.out).mono ?_
  rintro e u4 ⟨rfl, hr, hbt⟩
  rw [← HQ1.out] at hr ⊢
  have R4 := Lib.hid hr
  have S4 := Lib.hid (S3.out.but hbt (by omega))
  have K4 : Hid (Kept w u4) := But.kept K3.out (by omega) hbt
  have HQ' : Hid (u4.cell? ⟨G, 0, none⟩ = some (.pointer (some ⟨b, 0, none⟩))) := by show _ = _; rw [hbt.cell (p := ⟨G, 0, none⟩) hL (by show G ≠ b; omega)]; exact HQ.out
  have hL' : G < u4.heap.size := Nat.lt_of_lt_of_le hL hbt.size
  clear hr hbt R3 S3 K3 HQ hL HQ1
  have HQ := HQ'
  have hL := hL'
  clear HQ' hL'
  go_wp2_with fail
  refine (HNX.out ⟨G, 0, none⟩ _ _ HQ.out R4.out).mono ?_
  rintro e u5 ⟨rfl, hr, hbt⟩
  rw [← HQ2.out] at hr ⊢
  have R5 := Lib.hid hr
  have S5 := Lib.hid (S4.out.but hbt (by omega))
  have K5 : Hid (Kept w u5) := But.kept K4.out (by omega) hbt
  have HQ' : Hid (u5.cell? ⟨G, 0, none⟩ = some (.pointer (some ⟨b, 0, none⟩))) := by show _ = _; rw [hbt.cell (p := ⟨G, 0, none⟩) hL (by show G ≠ b; omega)]; exact HQ.out
  have hL' : G < u5.heap.size := Nat.lt_of_lt_of_le hL hbt.size
  clear hr hbt R4 S4 K4 HQ hL HQ2
  have HQ := HQ'
  have hL := hL'
  clear HQ' hL'
  go_wp2_with fail
  refine (HNX.out ⟨G, 0, none⟩ _ _ HQ.out R5.out).mono ?_
  rintro e u6 ⟨rfl, hr, hbt⟩
  rw [← HQ3.out] at hr ⊢
  have R6 := Lib.hid hr
  have S6 := Lib.hid (S5.out.but hbt (by omega))
  have K6 : Hid (Kept w u6) := But.kept K5.out (by omega) hbt
  have HQ' : Hid (u6.cell? ⟨G, 0, none⟩ = some (.pointer (some ⟨b, 0, none⟩))) := by show _ = _; rw [hbt.cell (p := ⟨G, 0, none⟩) hL (by show G ≠ b; omega)]; exact HQ.out
  have hL' : G < u6.heap.size := Nat.lt_of_lt_of_le hL hbt.size
  clear hr hbt R5 S5 K5 HQ hL HQ3
  have HQ := HQ'
  have hL := hL'
  clear HQ' hL'
  go_wp2_with fail
  refine (HNX.out ⟨G, 0, none⟩ _ _ HQ.out R6.out).mono ?_
  rintro e u7 ⟨rfl, hr, hbt⟩
  rw [← HQ4.out] at hr ⊢
  have R7 := Lib.hid hr
  have S7 := Lib.hid (S6.out.but hbt (by omega))
  have K7 : Hid (Kept w u7) := But.kept K6.out (by omega) hbt
  have HQ' : Hid (u7.cell? ⟨G, 0, none⟩ = some (.pointer (some ⟨b, 0, none⟩))) := by show _ = _; rw [hbt.cell (p := ⟨G, 0, none⟩) hL (by show G ≠ b; omega)]; exact HQ.out
  have hL' : G < u7.heap.size := Nat.lt_of_lt_of_le hL hbt.size
  clear hr hbt R6 S6 K6 HQ hL HQ4
  have HQ := HQ'
  have hL := hL'
  clear HQ' hL'
  clear HQ hL R7 HNX
  have HP := Lib.hid (S7.out.put ⟨q0.1, q1.1, (q2.1 : Nat), q3.1, (q4.1 : Nat)⟩)
  have HKP := Lib.hid (putRt_kept K7.out w.heap.size ⟨q0.1, q1.1, (q2.1 : Nat), q3.1, (q4.1 : Nat)⟩ (Nat.le_refl _))
  obtain ⟨p0, p1, p2, p3, p4, f0, f1, f2, f3, f4⟩ := S7.out
  unfold putRt at HP HKP
  dsimp only [Rt.none] at HP HKP p0 p1 p2 p3 p4
  go_wp2_with fail
  rw [HRES.out]
  exact bodyPost_ret (v := Rt.val ⟨q0.1, q1.1, (q2.1 : Nat), q3.1, (q4.1 : Nat)⟩) (by have q0' := HP.out.c0; have q1' := HP.out.c1; have q2' := HP.out.c2; have q3' := HP.out.c3; have q4' := HP.out.c4; (try simp at q0' q1' q2' q3' q4'); simp [results, Try.results28, go_sem, Rt.val, q0', q1', q2', q3', q4']) rfl ⟨rfl, HKP.out⟩
end Go.Proofs.Ytoekaabngjjefaa

/- The program's Decode. -/
namespace Go.Proofs.Ytoekaabngjjefaa
open Go.RowKit Sm Wr _root_.Go.Proofs.Ytoekaabngjjefaa.Nm
set_option linter.unusedVariables false
set_option maxHeartbeats 1000000 in
set_option maxRecDepth 100000 in
theorem pDecode_any (s : ByteArray) (w : World) (hs : s.size ≤ maxLen) :
    Calls Try.prog 11 #[.string s] w fun e w' => e = .returned (decV (decR s.data.toList)) ∧ Kept w w' := by
  have K0 : Hid (Kept w (w.alloc (.cells #[.int .u64 0, .int .u64 0, .int .i64 0, .int .u64 0, .int .i64 0] 26))) := (Kept.refl _).alloc _
  have S0 := Lib.hid (RtAt.new w 26)
  have hdl : s.data.toList.length = s.size := by simp
  by_cases h64 : s.size = 64
  · have hn64 : ((s.size : Int) != 64) = false := by rw [h64]; rfl
    have HDR := Lib.hid (decR_nums s.data.toList (by omega))
    obtain ⟨y, hy⟩ : ∃ y : ByteArray, y = s.extract 1 s.size := ⟨_, rfl⟩
    have hyl : y.data.toList = s.data.toList.drop 1 := by
      rw [hy]
      simp [h64]
      rw [List.take_of_length_le]
      simp; omega
    have hyz : y.size = 63 := by rw [← data_len, hyl, List.length_drop, hdl, h64]
    have HNU := Lib.hid (fun W => numbers_any y W (by omega))
    rw [hyl] at HNU
    generalize numsR (s.data.toList.drop 1) = x at *
    have HEN := Lib.hid (fun W => pEncode_any x W)
    have HEV : Hid (pencV x = if x.may = true then .tuple #[.string x.txt, .int .i64 0] else .tuple #[.string ⟨#[]⟩, .int .i64 2]) := rfl
    have HTX : Hid (x.txt = s ↔ x.raw = s.data.toList) := ⟨fun h => by rw [← h]; rfl, fun h => str_ext (by rw [← h]; rfl)⟩
    have HLX := Lib.hid (fun W => RtAt.laid W 26 x)
    have HKX : Hid (∀ W : World, Kept W (W.alloc (.cells #[.int .u64 (x.gen : Nat), .int .u64 (x.nxt : Nat), .int .i64 x.row, .int .u64 (x.st : Nat), .int .i64 x.len] 26))) := fun W => (Kept.refl _).alloc _
    rw [h64] at hy
    subst hy
    unfold Rt.val at HNU HEN
    generalize pencV x = ev at *
    clear hyl hyz hdl
    go_enter Try.func11, Try.ntmps11
    go_upto_region 1 with fail
    generalize w.alloc (.cells #[.int .u64 0, .int .u64 0, .int .i64 0, .int .u64 0, .int .i64 0] 26) = w0 at *
    go_wp2_with fail
    refine (HNU.out _).mono ?_
    rintro e w1 ⟨rfl, hk⟩
    have K1 : Hid (Kept w w1) := K0.out.trans hk
    have S1 := Lib.hid (S0.out.kept hk)
    clear hk K0 S0 HNU
    go_upto_region 4 with fail
    have K2 : Hid (Kept w (w1.alloc (.cells #[.int .u64 (x.gen : Nat), .int .u64 (x.nxt : Nat), .int .i64 x.row, .int .u64 (x.st : Nat), .int .i64 x.len] 26))) := K1.out.trans (HKX.out w1)
    have S2 := Lib.hid (S1.out.kept (HKX.out w1))
    have X2 := Lib.hid (HLX.out w1)
    have hne : w.heap.size ≠ w1.heap.size := by have := S1.out.lt; omega
    have HNE := Lib.hid hne
    clear K1 S1 HKX HLX hne
    generalize w1.alloc (.cells #[.int .u64 (x.gen : Nat), .int .u64 (x.nxt : Nat), .int .i64 x.row, .int .u64 (x.st : Nat), .int .i64 x.len] 26) = w2 at *
    generalize w1.heap.size = G at *
    have x0 := X2.out.c0
    have x1 := X2.out.c1
    have x2 := X2.out.c2
    have x3 := X2.out.c3
    have x4 := X2.out.c4
    go_wp2_with fail
    refine (HEN.out _).mono ?_
    rintro e w3 ⟨rfl, hk⟩
    have K3 : Hid (Kept w w3) := K2.out.trans hk
    have S3 := Lib.hid (S2.out.kept hk)
    have X3 := Lib.hid (X2.out.kept hk)
    clear hk K2 S2 X2 x0 x1 x2 x3 x4 HEN
    obtain ⟨p0, p1, p2, p3, p4, f0, f1, f2, f3, f4⟩ := S3.out
    by_cases hg : x.may = true ∧ x.txt = s
    · have HE : Hid (decR s.data.toList = some x) := by show _ = _; rw [HDR.out, if_pos ⟨hg.1, HTX.out.1 hg.2⟩]
      have hev : ev = .tuple #[.string s, .int .i64 0] := by rw [HEV.out, if_pos hg.1, hg.2]
      subst hev
      clear HEV HTX HDR hg
      have HP := Lib.hid (S3.out.put x)
      have HKP := Lib.hid (putRt_kept K3.out w.heap.size x (Nat.le_refl _))
      unfold putRt at HP HKP
      obtain ⟨x0, x1, x2, x3, x4, _, _, _, _, _⟩ := X3.out
      dsimp only [Rt.none] at p0 p1 p2 p3 p4
      clear S3 K3 X3
      have hbe : (s.toList == s.toList) = true := by simp
      have hne := HNE.out
      have hoff : ∀ (W : World) o o' v, (W.setCell ⟨w.heap.size, o', none⟩ v).cell? ⟨G, o, none⟩ = W.cell? ⟨G, o, none⟩ := fun W o o' v => World.cell?_setCell_other _ _ _ _ (by intro e; injection e with e; exact hne e)
      go_wp2_with fail
      rw [HE.out]
      exact bodyPost_ret (v := decV (some x)) (by have q0 := HP.out.c0; have q1 := HP.out.c1; have q2 := HP.out.c2; have q3 := HP.out.c3; have q4 := HP.out.c4; (try simp at q0 q1 q2 q3 q4); simp [results, Try.results11, go_sem, decV, Rt.val, q0, q1, q2, q3, q4]) rfl ⟨rfl, HKP.out⟩
    · have HE : Hid (decR s.data.toList = .none) := by show _ = _; rw [HDR.out, if_neg (fun h => hg ⟨h.1, HTX.out.2 h.2⟩)]
      have HP := Lib.hid (S3.out.put Rt.none)
      have HKP := Lib.hid (putRt_kept K3.out w.heap.size Rt.none (Nat.le_refl _))
      unfold putRt at HP HKP
      dsimp only [Rt.none] at HP HKP p0 p1 p2 p3 p4
      clear S3 K3 X3 HDR HTX
      have HFIN : Hid (∀ v : Value, v = .tuple #[Rt.none.val, .int .i64 8] → v = decV (decR s.data.toList)) := fun v hv => by rw [HE.out]; exact hv
      by_cases hm : x.may = true
      · have hne : ¬ x.txt = s := fun h => hg ⟨hm, h⟩
        have hev : ev = .tuple #[.string x.txt, .int .i64 0] := by rw [HEV.out, if_pos hm]
        subst hev
        generalize x.txt = tx at *
        clear HEV hg HE hm
        have hbe : (tx.toList == s.toList) = false := by rw [txt_same]; exact decide_eq_false (fun h => hne (str_ext h))
        go_wp2_with fail
        exact bodyPost_ret (v := .tuple #[Rt.none.val, .int .i64 8]) (by have q0 := HP.out.c0; have q1 := HP.out.c1; have q2 := HP.out.c2; have q3 := HP.out.c3; have q4 := HP.out.c4; (try simp at q0 q1 q2 q3 q4); simp [results, Try.results11, go_sem, Rt.val, Rt.none, q0, q1, q2, q3, q4]) rfl ⟨congrArg Ending.returned (HFIN.out _ rfl), HKP.out⟩
      · have hev : ev = .tuple #[.string ⟨#[]⟩, .int .i64 2] := by rw [HEV.out, if_neg hm]
        subst hev
        clear HEV hg HE hm
        go_wp2_with fail
        exact bodyPost_ret (v := .tuple #[Rt.none.val, .int .i64 8]) (by have q0 := HP.out.c0; have q1 := HP.out.c1; have q2 := HP.out.c2; have q3 := HP.out.c3; have q4 := HP.out.c4; (try simp at q0 q1 q2 q3 q4); simp [results, Try.results11, go_sem, Rt.val, Rt.none, q0, q1, q2, q3, q4]) rfl ⟨congrArg Ending.returned (HFIN.out _ rfl), HKP.out⟩
  · have HE : Hid (decR s.data.toList = .none) := decR_long (.inl (by omega))
    have hn64 : ((s.size : Int) != 64) = true := by rw [bne_iff_ne]; omega
    obtain ⟨p0, p1, p2, p3, p4, f0, f1, f2, f3, f4⟩ := S0.out
    have HP := Lib.hid (S0.out.put Rt.none)
    have HKP := Lib.hid (putRt_kept K0.out w.heap.size Rt.none (Nat.le_refl _))
    unfold putRt at HP HKP
    dsimp only [Rt.none] at HP HKP p0 p1 p2 p3 p4
    clear h64 S0 K0 hdl
    go_enter Try.func11, Try.ntmps11
    go_upto_region 1 with fail
    generalize w.alloc (.cells #[.int .u64 0, .int .u64 0, .int .i64 0, .int .u64 0, .int .i64 0] 26) = w0 at *
    go_wp2_with fail
    rw [HE.out]
    exact bodyPost_ret (v := decV .none) (by have q0 := HP.out.c0; have q1 := HP.out.c1; have q2 := HP.out.c2; have q3 := HP.out.c3; have q4 := HP.out.c4; (try simp at q0 q1 q2 q3 q4); simp [results, Try.results11, go_sem, decV, Rt.val, Rt.none, q0, q1, q2, q3, q4]) rfl ⟨rfl, HKP.out⟩
end Go.Proofs.Ytoekaabngjjefaa

/- The program's: the root in a drive's slot. -/
namespace Go.Proofs.Ytoekaabngjjefaa
open Go.RowKit Sm Wr _root_.Go.Proofs.Ytoekaabngjjefaa.Nm
set_option linter.unusedVariables false
set_option linter.unusedSimpArgs false
def atR (s : RSt) (d k : Nat) : Rt := if s.readE d k = 0 then rtAt (s.readT d k).data.toList k else Rt.none
def atV (s : RSt) (d k : Nat) : Value := .tuple #[(atR s d k).val, .int .i64 (s.readE d k : Nat)]
set_option maxHeartbeats 1000000 in
set_option maxRecDepth 100000 in
theorem rootAt_any (g : Nat) (s : RSt) (d k : Nat) (hd : d ≤ 1000) (hk : k < 2) (w : World) (hR : RackAt g s w) :
    Calls Try.prog 61 #[.pointer (some ⟨g + 1, 0, none⟩), .int .i64 (d : Nat), .int .i64 (k : Nat)] w fun e w' => e = .returned (atV s d k) ∧ Kept w w' := by
  have K0 : Hid (Kept w (w.alloc (.cells #[.int .u64 0, .int .u64 0, .int .i64 0, .int .u64 0, .int .i64 0] 26))) := (Kept.refl _).alloc _
  have S0 := Lib.hid (RtAt.new w 26)
  have HRD := Lib.hid (fun W h => read_any g s d k (by omega) (by omega) (by omega) (by omega) W h)
  have HR := Lib.hid (hR.kept K0.out)
  have H64 : Hid (s.readE d k = 0 → (s.readT d k).size = 64) := fun h => readT_64 s hR.wf d k h
  have HAV : Hid (atV s d k = .tuple #[(if s.readE d k = 0 then rtAt (s.readT d k).data.toList k else Rt.none).val, .int .i64 (s.readE d k : Nat)]) := rfl
  clear hR hd
  generalize atV s d k = av at *
  generalize s.readE d k = E at *
  generalize s.readT d k = T at *
  go_enter Try.func61, Try.ntmps61
  go_upto_region 1 with fail
  generalize w.alloc (.cells #[.int .u64 0, .int .u64 0, .int .i64 0, .int .u64 0, .int .i64 0] 26) = w0 at *
  go_wp2_with fail
  refine (HRD.out _ HR.out).mono ?_
  rintro e w1 ⟨rfl, hk1⟩
  have K1 : Hid (Kept w w1) := K0.out.trans hk1
  have S1 := Lib.hid (S0.out.kept hk1)
  clear hk1 K0 S0 HR HRD
  by_cases hE : E = 0
  · subst hE
    have HAV2 : Hid (av = .tuple #[(rtAt T.data.toList k).val, .int .i64 0]) := HAV.out
    have HDC := Lib.hid (fun W => pDecode_any T W (by rw [H64.out rfl]; decide))
    clear HAV H64
    go_wp2_with fail
    refine (HDC.out _).mono ?_
    rintro e w2 ⟨rfl, hk2⟩
    have K2 : Hid (Kept w w2) := K1.out.trans hk2
    have S2 := Lib.hid (S1.out.kept hk2)
    clear hk2 K1 S1 HDC
    cases hdc : decR T.data.toList with
    | none =>
      have HFIN : Hid (∀ v : Value, v = .tuple #[Rt.none.val, .int .i64 0] → v = av) := fun v hv => by rw [HAV2.out, hv]; unfold rtAt; rw [hdc]
      clear HAV2 hdc
      unfold decV Rt.val
      have kx : Kept w2 (w2.alloc (.cells #[.int .u64 0, .int .u64 0, .int .i64 0, .int .u64 0, .int .i64 0] 26)) := (Kept.refl _).alloc _
      have K3 : Hid (Kept w (w2.alloc (.cells #[.int .u64 0, .int .u64 0, .int .i64 0, .int .u64 0, .int .i64 0] 26))) := K2.out.trans kx
      have S3 := Lib.hid (S2.out.kept kx)
      clear kx K2 S2
      dsimp only [Rt.none]
      go_upto_region 5 with fail
      generalize w2.alloc (.cells #[.int .u64 0, .int .u64 0, .int .i64 0, .int .u64 0, .int .i64 0] 26) = w3 at *
      generalize w2.heap.size = G at *
      have HP := Lib.hid (S3.out.put Rt.none)
      have HKP := Lib.hid (putRt_kept K3.out w.heap.size Rt.none (Nat.le_refl _))
      obtain ⟨p0, p1, p2, p3, p4, f0, f1, f2, f3, f4⟩ := S3.out
      unfold putRt at HP HKP
      dsimp only [Rt.none] at HP HKP p0 p1 p2 p3 p4
      clear S3 K3
      go_wp2_with fail
      exact bodyPost_ret (v := .tuple #[Rt.none.val, .int .i64 0]) (by have q0 := HP.out.c0; have q1 := HP.out.c1; have q2 := HP.out.c2; have q3 := HP.out.c3; have q4 := HP.out.c4; (try simp at q0 q1 q2 q3 q4); simp [results, Try.results61, go_sem, Rt.val, Rt.none, q0, q1, q2, q3, q4]) rfl ⟨congrArg Ending.returned (HFIN.out _ rfl), HKP.out⟩
    | some x =>
      have HAV3 : Hid (av = .tuple #[(if x.me = k then x else Rt.none).val, .int .i64 0]) := by
        show _ = _
        rw [HAV2.out]
        unfold rtAt
        rw [hdc]
        rfl
      have HSO := Lib.hid (fun W => slotOf_any x W)
      have kx : Kept w2 (w2.alloc (.cells #[.int .u64 (x.gen : Nat), .int .u64 (x.nxt : Nat), .int .i64 x.row, .int .u64 (x.st : Nat), .int .i64 x.len] 26)) := (Kept.refl _).alloc _
      have X3 := Lib.hid (RtAt.laid w2 26 x)
      have K3 : Hid (Kept w (w2.alloc (.cells #[.int .u64 (x.gen : Nat), .int .u64 (x.nxt : Nat), .int .i64 x.row, .int .u64 (x.st : Nat), .int .i64 x.len] 26))) := K2.out.trans kx
      have S3 := Lib.hid (S2.out.kept kx)
      have hne : w.heap.size ≠ w2.heap.size := by have := S2.out.lt; omega
      have HNE := Lib.hid hne
      have hme := x.me_lt
      clear kx K2 S2 HAV2 hdc hne
      unfold decV
      unfold Rt.val at HSO ⊢
      dsimp only
      go_upto_region 5 with fail
      generalize w2.alloc (.cells #[.int .u64 (x.gen : Nat), .int .u64 (x.nxt : Nat), .int .i64 x.row, .int .u64 (x.st : Nat), .int .i64 x.len] 26) = w3 at *
      generalize w2.heap.size = G at *
      have x0 := X3.out.c0
      have x1 := X3.out.c1
      have x2 := X3.out.c2
      have x3 := X3.out.c3
      have x4 := X3.out.c4
      go_wp2_with fail
      refine (HSO.out _).mono ?_
      rintro e w4 ⟨rfl, hk4⟩
      have K4 : Hid (Kept w w4) := K3.out.trans hk4
      have S4 := Lib.hid (S3.out.kept hk4)
      have X4 := Lib.hid (X3.out.kept hk4)
      clear hk4 K3 S3 X3 x0 x1 x2 x3 x4 HSO
      by_cases hm : x.me = k
      · have e1 : ((x.me : Int) != (k : Int)) = false := by rw [hm]; simp
        have HFIN : Hid (∀ v : Value, v = .tuple #[x.val, .int .i64 0] → v = av) := fun v hv => by rw [HAV3.out, hv, if_pos hm]
        have HP := Lib.hid (S4.out.put x)
        have HKP := Lib.hid (putRt_kept K4.out w.heap.size x (Nat.le_refl _))
        obtain ⟨p0, p1, p2, p3, p4, f0, f1, f2, f3, f4⟩ := S4.out
        unfold putRt at HP HKP
        obtain ⟨x0, x1, x2, x3, x4, _, _, _, _, _⟩ := X4.out
        dsimp only [Rt.none] at p0 p1 p2 p3 p4
        clear S4 K4 X4 HAV3 hm
        have hne := HNE.out
        have hoff : ∀ (W : World) o o' v, (W.setCell ⟨w.heap.size, o', none⟩ v).cell? ⟨G, o, none⟩ = W.cell? ⟨G, o, none⟩ := fun W o o' v => World.cell?_setCell_other _ _ _ _ (by intro e; injection e with e; exact hne e)
        go_wp2_with fail
        exact bodyPost_ret (v := .tuple #[x.val, .int .i64 0]) (by have q0 := HP.out.c0; have q1 := HP.out.c1; have q2 := HP.out.c2; have q3 := HP.out.c3; have q4 := HP.out.c4; (try simp at q0 q1 q2 q3 q4); simp [results, Try.results61, go_sem, Rt.val, Rt.none, q0, q1, q2, q3, q4]) rfl ⟨congrArg Ending.returned (HFIN.out _ rfl), HKP.out⟩
      · have e1 : ((x.me : Int) != (k : Int)) = true := by rw [bne_iff_ne]; omega
        have HFIN : Hid (∀ v : Value, v = .tuple #[Rt.none.val, .int .i64 0] → v = av) := fun v hv => by rw [HAV3.out, hv, if_neg hm]
        have HP := Lib.hid (S4.out.put Rt.none)
        have HKP := Lib.hid (putRt_kept K4.out w.heap.size Rt.none (Nat.le_refl _))
        obtain ⟨p0, p1, p2, p3, p4, f0, f1, f2, f3, f4⟩ := S4.out
        unfold putRt at HP HKP
        dsimp only [Rt.none] at HP HKP p0 p1 p2 p3 p4
        clear S4 K4 X4 HAV3 hm
        go_wp2_with fail
        exact bodyPost_ret (v := .tuple #[Rt.none.val, .int .i64 0]) (by have q0 := HP.out.c0; have q1 := HP.out.c1; have q2 := HP.out.c2; have q3 := HP.out.c3; have q4 := HP.out.c4; (try simp at q0 q1 q2 q3 q4); simp [results, Try.results61, go_sem, Rt.val, Rt.none, q0, q1, q2, q3, q4]) rfl ⟨congrArg Ending.returned (HFIN.out _ rfl), HKP.out⟩
  · have HFIN : Hid (∀ v : Value, v = .tuple #[Rt.none.val, .int .i64 (E : Nat)] → v = av) := fun v hv => by rw [HAV.out, hv, if_neg hE]
    have e1 : ((E : Int) != 0) = true := by rw [bne_iff_ne]; omega
    have HP := Lib.hid (S1.out.put Rt.none)
    have HKP := Lib.hid (putRt_kept K1.out w.heap.size Rt.none (Nat.le_refl _))
    obtain ⟨p0, p1, p2, p3, p4, f0, f1, f2, f3, f4⟩ := S1.out
    unfold putRt at HP HKP
    dsimp only [Rt.none] at HP HKP p0 p1 p2 p3 p4
    clear S1 K1 HAV H64 hE
    go_wp2_with fail
    exact bodyPost_ret (v := .tuple #[Rt.none.val, .int .i64 (E : Nat)]) (by have q0 := HP.out.c0; have q1 := HP.out.c1; have q2 := HP.out.c2; have q3 := HP.out.c3; have q4 := HP.out.c4; (try simp at q0 q1 q2 q3 q4); simp [results, Try.results61, go_sem, Rt.val, Rt.none, q0, q1, q2, q3, q4]) rfl ⟨congrArg Ending.returned (HFIN.out _ rfl), HKP.out⟩
end Go.Proofs.Ytoekaabngjjefaa

/- The program's: a newer root in the other slot is cleared. -/
namespace Go.Proofs.Ytoekaabngjjefaa
open Go.RowKit Sm Wr _root_.Go.Proofs.Ytoekaabngjjefaa.Nm
set_option linter.unusedVariables false
def clR (s : RSt) (x : Rt) (d : Nat) : Nat × RSt :=
  if s.readE d x.oth = 71 then (71, s)
  else if x.gen < (atR s d x.oth).gen then (s.writeE d x.oth ⟨#[]⟩, s.writeS d x.oth ⟨#[]⟩)
  else (0, s)
theorem newer_iff (s : RSt) (x : Rt) (d : Nat) : newer s x d = true ↔ x.gen < (atR s d x.oth).gen := by
  unfold newer atR newR rtAt
  by_cases h : s.readE d x.oth = 0
  · rw [if_pos h, decide_eq_true h, Bool.true_and]
    cases decR (s.readT d x.oth).data.toList with
    | none => simp [Rt.none]
    | some y =>
      dsimp only
      by_cases h2 : y.gen % 2 = x.oth
      · rw [if_pos h2]; simp [h2]
      · rw [if_neg h2]; simp [h2, Rt.none]
  · rw [if_neg h]; simp [h, Rt.none]
theorem wrD_cl (s : RSt) (x : Rt) (d : Nat) : wrD s x d = if (clR s x d).1 = 0 then ((clR s x d).2.writeE d x.me x.txt, (clR s x d).2.writeS d x.me x.txt) else clR s x d := by
  unfold wrD clR
  by_cases h : s.readE d x.oth = 71
  · rw [if_pos h, if_pos h, if_neg (by simp)]
  · rw [if_neg h, if_neg h]
    by_cases h2 : x.gen < (atR s d x.oth).gen
    · rw [if_pos ((newer_iff s x d).2 h2), if_pos h2]
      by_cases h3 : s.writeE d x.oth ⟨#[]⟩ = 0
      · rw [if_neg (by simpa using h3), if_pos h3]
      · rw [if_pos h3, if_neg h3]
    · rw [if_neg (fun h3 => h2 ((newer_iff s x d).1 h3)), if_neg h2, if_pos rfl]
theorem clR_n (s : RSt) (x : Rt) (d : Nat) : (clR s x d).2.n = s.n ∧ (clR s x d).2.m = s.m := by
  unfold clR
  split
  · exact ⟨rfl, rfl⟩
  · split
    · exact wrS_same _ _ _ _
    · exact ⟨rfl, rfl⟩
set_option maxHeartbeats 1000000 in
set_option maxRecDepth 100000 in
theorem clear_any (g : Nat) (s : RSt) (d : Nat) (x : Rt) (hd : d ≤ 1000) (w : World) (hR : RackAt g s w) :
    Calls Try.prog 33 #[.pointer (some ⟨g + 1, 0, none⟩), .int .i64 (d : Nat), x.val] w fun e w' => e = .returned (.int .i64 ((clR s x d).1 : Nat)) ∧ RackAt g (clR s x d).2 w' ∧ Only g (g + 2 + s.n) w w' := by
  have HSO := Lib.hid (fun W => slotOf_any x W)
  have X0 := Lib.hid (RtAt.laid w 26 x)
  have K0 : Hid (Kept w (w.alloc (.cells #[.int .u64 (x.gen : Nat), .int .u64 (x.nxt : Nat), .int .i64 x.row, .int .u64 (x.st : Nat), .int .i64 x.len] 26))) := (Kept.refl _).alloc _
  have HRA := Lib.hid (fun W h => rootAt_any g s d x.oth hd x.oth_lt W h)
  have HWR := Lib.hid (fun W h => write_any g s d x.oth (by omega) (by omega) (by have := x.oth_lt; omega) (by have := x.oth_lt; omega) ⟨#[]⟩ (by decide) W h)
  have HCL : Hid (clR s x d = if s.readE d x.oth = 71 then (71, s) else if x.gen < (atR s d x.oth).gen then (s.writeE d x.oth ⟨#[]⟩, s.writeS d x.oth ⟨#[]⟩) else (0, s)) := rfl
  have hml := x.me_lt
  have hoth : (1 : Int) - (x.me : Nat) = (x.oth : Nat) := by have := x.me_lt; unfold Rt.oth Rt.me at *; omega
  replace hR := Lib.hid hR
  generalize clR s x d = cl at *
  unfold atV at HRA
  unfold Rt.val at HSO ⊢
  go_enter Try.func33, Try.ntmps33
  go_upto_region 1 with fail
  have R0 := Lib.hid (hR.out.kept K0.out)
  clear hR
  generalize w.alloc (.cells #[.int .u64 (x.gen : Nat), .int .u64 (x.nxt : Nat), .int .i64 x.row, .int .u64 (x.st : Nat), .int .i64 x.len] 26) = w0 at *
  have x0 := X0.out.c0
  have x1 := X0.out.c1
  have x2 := X0.out.c2
  have x3 := X0.out.c3
  have x4 := X0.out.c4
  go_wp2_with fail
  refine (HSO.out _).mono ?_
  rintro e w1 ⟨rfl, hk⟩
  have K1 : Hid (Kept w w1) := K0.out.trans hk
  have X1 := Lib.hid (X0.out.kept hk)
  have R1 := Lib.hid (R0.out.kept hk)
  clear hk K0 X0 R0 x0 x1 x2 x3 x4 HSO
  go_wp2_with fail
  refine (HRA.out _ R1.out).mono ?_
  rintro e w2 ⟨rfl, hk⟩
  have K2 : Hid (Kept w w2) := K1.out.trans hk
  have X2 := Lib.hid (X1.out.kept hk)
  have R2 := Lib.hid (R1.out.kept hk)
  clear hk K1 X1 R1 HRA
  generalize atR s d x.oth = y at *
  generalize s.readE d x.oth = E at *
  have HLY := Lib.hid (RtAt.laid w2 26 y)
  have kx : Kept w2 (w2.alloc (.cells #[.int .u64 (y.gen : Nat), .int .u64 (y.nxt : Nat), .int .i64 y.row, .int .u64 (y.st : Nat), .int .i64 y.len] 26)) := (Kept.refl _).alloc _
  have K3 : Hid (Kept w (w2.alloc (.cells #[.int .u64 (y.gen : Nat), .int .u64 (y.nxt : Nat), .int .i64 y.row, .int .u64 (y.st : Nat), .int .i64 y.len] 26))) := K2.out.trans kx
  have X3 := Lib.hid (X2.out.kept kx)
  have R3 := Lib.hid (R2.out.kept kx)
  unfold Rt.val
  clear kx K2 X2 R2
  go_upto_region 3 with fail
  generalize w2.alloc (.cells #[.int .u64 (y.gen : Nat), .int .u64 (y.nxt : Nat), .int .i64 y.row, .int .u64 (y.st : Nat), .int .i64 y.len] 26) = w3 at *
  generalize w2.heap.size = G at *
  have x0 := X3.out.c0
  have y0 := HLY.out.c0
  clear HLY X3
  by_cases h71 : E = 71
  · subst h71
    have hcl : cl = (71, s) := HCL.out
    clear HCL
    go_wp2_with fail
    go_ret
    rw [hcl]
    exact ⟨rfl, R3.out, K3.out.only _ _⟩
  · have e1 : ((E : Int) == 71) = false := by rw [beq_eq_false_iff_ne]; omega
    rw [if_neg h71] at HCL
    by_cases hg : x.gen < y.gen
    · have hcl : Hid (cl = (s.writeE d x.oth ⟨#[]⟩, s.writeS d x.oth ⟨#[]⟩)) := by show _ = _; rw [HCL.out, if_pos hg]
      have b1 : decide ((x.gen : Int) < (y.gen : Int)) = true := decide_eq_true (by omega)
      clear HCL
      go_wp2_with fail
      refine (HWR.out _ R3.out).mono ?_
      rintro e w4 ⟨rfl, hR4, hO4⟩
      have R4 := Lib.hid hR4
      have O4 : Hid (Only g (g + 2 + s.n) w w4) := (K3.out.only _ _).trans hO4
      clear hR4 hO4 R3 K3 HWR
      go_wp2_with fail
      go_ret
      rw [hcl.out]
      exact ⟨rfl, R4.out, O4.out⟩
    · have hcl : cl = (0, s) := by rw [HCL.out, if_neg hg]
      have b1 : decide ((x.gen : Int) < (y.gen : Int)) = false := decide_eq_false (by omega)
      clear HCL
      go_wp2_with fail
      go_ret
      rw [hcl]
      exact ⟨rfl, R3.out, K3.out.only _ _⟩
end Go.Proofs.Ytoekaabngjjefaa

/- The program's Write of a root. -/
namespace Go.Proofs.Ytoekaabngjjefaa
open Go.RowKit Sm Wr _root_.Go.Proofs.Ytoekaabngjjefaa.Nm
set_option linter.unusedVariables false
set_option maxHeartbeats 4000000 in
set_option maxRecDepth 100000 in
theorem pWriteR_any (g : Nat) (s : RSt) (q : Geo) (x : Rt) (w : World) (hR : RackAt g s w) :
    Calls Try.prog 14 #[.pointer (some ⟨g + 1, 0, none⟩), q.val, x.val] w fun r w' => r = .returned (.int .i64 ((docW s q x).1 : Nat)) ∧ RackAt g (docW s q x).2 w' ∧ Only g (g + 2 + s.n) w w' := by
  have HFI := Lib.hid (fun W h => fits_any g s q W h)
  have HEN := Lib.hid (fun W => pEncode_any x W)
  have G0 := Lib.hid (GeoAt.laid w 41 q)
  have HW1 : Hid (Kept w (w.alloc (.cells #[.int .i64 q.n, .int .i64 q.p, .int .i64 q.m, .int .i64 q.t] 41))) := (Kept.refl _).alloc _
  have HW2 : Hid (∀ W : World, Kept W (W.alloc (.cells #[.int .u64 (x.gen : Nat), .int .u64 (x.nxt : Nat), .int .i64 x.row, .int .u64 (x.st : Nat), .int .i64 x.len] 26))) := fun W => (Kept.refl _).alloc _
  have hHI : g + 2 + s.n ≤ w.heap.size := hR.lt
  have HHI := Lib.hid hHI
  replace hR := Lib.hid hR
  have HDO : Hid (docW s q x = if q.fits s = true ∧ x.may = true then wrTo s x s.n else (2, s)) := rfl
  have HEV : Hid (pencV x = if x.may = true then .tuple #[.string x.txt, .int .i64 0] else .tuple #[.string ⟨#[]⟩, .int .i64 2]) := rfl
  have HFE : Hid (fitE s q = if q.fits s = true then 0 else 2) := rfl
  clear hHI
  have HX0 : Hid (RtAt ((w.alloc (.cells #[.int .i64 q.n, .int .i64 q.p, .int .i64 q.m, .int .i64 q.t] 41)).alloc (.cells #[.int .u64 (x.gen : Nat), .int .u64 (x.nxt : Nat), .int .i64 x.row, .int .u64 (x.st : Nat), .int .i64 x.len] 26)) (w.heap.size + 1) x) := by
    have := RtAt.laid (w.alloc (.cells #[.int .i64 q.n, .int .i64 q.p, .int .i64 q.m, .int .i64 q.t] 41)) 26 x
    rw [size_alloc] at this
    exact this
  unfold Geo.val Rt.val at *
  generalize docW s q x = rs at *
  generalize pencV x = ev at *
  generalize fitE s q = fe at *
  have K0 : Hid (Kept w ((w.alloc (.cells #[.int .i64 q.n, .int .i64 q.p, .int .i64 q.m, .int .i64 q.t] 41)).alloc (.cells #[.int .u64 (x.gen : Nat), .int .u64 (x.nxt : Nat), .int .i64 x.row, .int .u64 (x.st : Nat), .int .i64 x.len] 26))) := HW1.out.trans (HW2.out _)
  have G0 := Lib.hid (G0.out.kept (HW2.out _))
  have R0 := Lib.hid (hR.out.kept K0.out)
  clear hR HW1 HW2
  go_enter Try.func14, Try.ntmps14
  go_upto_region 1 with fail
  generalize (w.alloc (.cells #[.int .i64 q.n, .int .i64 q.p, .int .i64 q.m, .int .i64 q.t] 41)).alloc (.cells #[.int .u64 (x.gen : Nat), .int .u64 (x.nxt : Nat), .int .i64 x.row, .int .u64 (x.st : Nat), .int .i64 x.len] 26) = w0 at *
  have g0 := G0.out.c0
  have g1 := G0.out.c1
  have g2 := G0.out.c2
  have g3 := G0.out.c3
  go_wp2_with fail
  refine (HFI.out _ R0.out).mono ?_
  rintro e u1 ⟨rfl, hk⟩
  have K1 : Hid (Kept w u1) := K0.out.trans hk
  have G1 := Lib.hid (G0.out.kept hk)
  have X1 := Lib.hid (HX0.out.kept hk)
  have R1 := Lib.hid (R0.out.kept hk)
  clear hk HFI G0 HX0 K0 R0 g0 g1 g2 g3
  cases hf : q.fits s with
  | false =>
    have hrs : rs = (2, s) := by rw [HDO.out, hf, if_neg]; simp
    have hfe : fe = 2 := by rw [HFE.out, hf]; rfl
    subst hfe
    clear HDO HFE HEV HEN hf G1 X1
    go_wp2_with fail
    go_ret
    rw [hrs]
    exact ⟨rfl, R1.out, K1.out.only _ _⟩
  | true =>
    rw [hf] at HDO
    have hfe : fe = 0 := by rw [HFE.out, hf]; rfl
    subst hfe
    have hgn : (s.n : Int) = q.n := by
      unfold Geo.fits at hf
      simp only [Bool.and_eq_true, decide_eq_true_eq] at hf
      exact hf.1.2
    have hn12 : s.n ≤ 12 := R1.out.wf.n2
    have x0 := X1.out.c0
    have x1 := X1.out.c1
    have x2 := X1.out.c2
    have x3 := X1.out.c3
    have x4 := X1.out.c4
    clear hf HFE
    go_wp2_with fail
    refine (HEN.out _).mono ?_
    rintro e u2 ⟨rfl, hk⟩
    have K2 : Hid (Kept w u2) := K1.out.trans hk
    have G2 := Lib.hid (G1.out.kept hk)
    have X2 := Lib.hid (X1.out.kept hk)
    have R2 := Lib.hid (R1.out.kept hk)
    clear hk K1 G1 X1 R1 HEN x0 x1 x2 x3 x4
    cases hm : x.may with
    | false =>
      have hrs : rs = (2, s) := by rw [HDO.out, hm, if_neg]; simp
      have hev : ev = .tuple #[.string ⟨#[]⟩, .int .i64 2] := by rw [HEV.out, hm, if_neg (by decide)]
      subst hev
      clear HDO HEV hm G2 X2
      go_wp2_with fail
      go_ret
      rw [hrs]
      exact ⟨rfl, R2.out, K2.out.only _ _⟩
    | true =>
      have HRS : Hid (rs = wrTo s x s.n) := by show _ = _; rw [HDO.out, hm, if_pos (by simp)]
      have hev : ev = .tuple #[.string x.txt, .int .i64 0] := by rw [HEV.out, hm, if_pos rfl]
      subst hev
      have HTZ : Hid (x.txt.size = 64) := Rt.txt_size hm
      have HSO := Lib.hid (fun W => slotOf_any x W)
      unfold Rt.val at HSO
      have g0 := G2.out.c0
      have hdn : ∀ d, (wrTo s x d).2.n = s.n := fun d => (wrTo_n s x d).1
      have HDN := Lib.hid hdn
      clear HDO HEV hm hdn
      go_upto_region 8 with fail
      go_loopw [29] (fun i wr => ∃ d : Nat, d ≤ s.n ∧ i = .int .i64 d ∧ Hid ((wrTo s x d).1 = 0 ∧ Only g (g + 2 + s.n) w wr ∧ RackAt g (wrTo s x d).2 wr ∧ RtAt wr (w.heap.size + 1) x)) (fun i _ => s.n - (intOf i).toNat)
      case atStart => exact ⟨0, Nat.zero_le _, rfl, ⟨rfl, K2.out.only _ _, R2.out, X2.out⟩⟩
      case round =>
        obtain ⟨d, hd, rfl, HI⟩ := hrel
        by_cases hlt : d < s.n
        · have b1 : decide ((d : Int) < q.n) = true := decide_eq_true (by omega)
          have hST : wrTo s x (d + 1) = wrD (wrTo s x d).2 x d := if_pos HI.out.1
          have HER : Hid ((wrTo s x (d + 1)).1 ≠ 0 → rs = wrTo s x (d + 1)) := fun h => by rw [HRS.out]; exact wrTo_err s x (d + 1) h s.n (by omega)
          have hSn := HDN.out d
          rw [wrD_cl] at hST
          have HST := Lib.hid hST
          have HCA := Lib.hid (fun W h => clear_any g (wrTo s x d).2 d x (by omega) W h)
          have O1 := Lib.hid HI.out.2.1
          have R3 := Lib.hid HI.out.2.2.1
          have X3 := Lib.hid HI.out.2.2.2
          have hCn := (clR_n (wrTo s x d).2 x d).1
          rw [hSn] at HCA hCn
          clear HI hST hSn
          obtain ⟨rn, hrn⟩ : ∃ rn, rn = wrTo s x (d + 1) := ⟨_, rfl⟩
          rw [← hrn] at HST HER
          have HN := Lib.hid hrn
          have HLT := Lib.hid hlt
          clear hrn
          generalize (wrTo s x d).2 = S at *
          generalize clR S x d = cl at *
          obtain ⟨ce, cs⟩ := cl
          dsimp only at HST HCA hCn
          have x0 := X3.out.c0
          have x1 := X3.out.c1
          have x2 := X3.out.c2
          have x3 := X3.out.c3
          have x4 := X3.out.c4
          unfold Rt.val at HCA
          go_wp2_with fail
          refine (HCA.out _ R3.out).mono ?_
          rintro e v1 ⟨rfl, hR4, hO4⟩
          have R4 := Lib.hid hR4
          have O4 : Hid (Only g (g + 2 + s.n) w v1) := O1.out.trans hO4
          have X4 := Lib.hid (X3.out.only hO4 (by have := HHI.out; omega))
          clear hR4 hO4 O1 R3 X3 HCA x0 x1 x2 x3 x4
          by_cases hc : ce = 0
          · subst hc
            rw [if_pos rfl] at HST
            have HWR := Lib.hid (fun W h => write_any g cs d x.me (by omega) (by omega) (by have := x.me_lt; omega) (by have := x.me_lt; omega) x.txt (by rw [HTZ.out]; decide) W h)
            rw [hCn] at HWR
            generalize cs.writeE d x.me x.txt = E at *
            generalize cs.writeS d x.me x.txt = S2 at *
            have hst := HST.out
            subst hst
            have x0 := X4.out.c0
            have x1 := X4.out.c1
            have x2 := X4.out.c2
            have x3 := X4.out.c3
            have x4 := X4.out.c4
            go_wp2_with fail
            refine (HSO.out _).mono ?_
            rintro e v2 ⟨rfl, hk⟩
            have O5 : Hid (Only g (g + 2 + s.n) w v2) := O4.out.trans (hk.only _ _)
            have X5 := Lib.hid (X4.out.kept hk)
            have R5 := Lib.hid (R4.out.kept hk)
            clear hk O4 X4 R4 x0 x1 x2 x3 x4
            go_wp2_with fail
            refine (HWR.out _ R5.out).mono ?_
            rintro e v3 ⟨rfl, hR6, hO6⟩
            have R6 := Lib.hid hR6
            have O6 : Hid (Only g (g + 2 + s.n) w v3) := O5.out.trans hO6
            have X6 := Lib.hid (X5.out.only hO6 (by have := HHI.out; omega))
            clear hR6 hO6 O5 X5 R5 HWR
            by_cases h2 : E = 0
            · subst h2
              have HF : Hid ((wrTo s x (d + 1)).1 = 0 ∧ Only g (g + 2 + s.n) w v3 ∧ RackAt g (wrTo s x (d + 1)).2 v3 ∧ RtAt v3 (w.heap.size + 1) x) := ⟨by rw [← HN.out], O6.out, by rw [← HN.out]; exact R6.out, X6.out⟩
              clear HN HER R6 O6 X6 HST
              go_wp2_with fail
              exact ⟨⟨d + 1, by have := HLT.out; omega, by go_num, HF.out⟩, by have := HLT.out; simp [intOf]; omega⟩
            · have e5 : ((E : Int) != 0) = true := by rw [bne_iff_ne]; omega
              have hrs := HER.out h2
              clear HER HST h2
              go_wp2_with fail
              go_ret
              rw [hrs]
              exact ⟨rfl, R6.out, O6.out⟩
          · have e1 : ((ce : Int) != 0) = true := by rw [bne_iff_ne]; omega
            rw [if_neg hc] at HST
            have hst := HST.out
            subst hst
            have hrs := HER.out hc
            clear HST HER hc
            go_wp2_with fail
            go_ret
            rw [hrs]
            exact ⟨rfl, R4.out, O4.out⟩
        · have b1 : decide ((d : Int) < q.n) = false := decide_eq_false (by omega)
          obtain rfl : d = s.n := by omega
          go_wp2_with fail
          go_ret
          rw [HRS.out, HI.out.1]
          exact ⟨rfl, HI.out.2.2.1, HI.out.2.1⟩
end Go.Proofs.Ytoekaabngjjefaa

/- Pairs of roots, one behind the other. -/
namespace Go.Proofs.Ytoekaabngjjefaa
open Go.RowKit Sm Wr _root_.Go.Proofs.Ytoekaabngjjefaa.Nm
set_option linter.unusedVariables false
structure RtsAt (w : World) (q n : Nat) (f : Nat → Rt × Rt) : Prop where
  lo : ∀ d, d < n → RtIn w q (d * 10) (f d).1
  hi : ∀ d, d < n → RtIn w q (d * 10 + 5) (f d).2
  fr : ∀ o, o < n * 10 → w.frozen? ⟨q, o, none⟩ = false
theorem RtsAt.kept {w w' : World} {q n : Nat} {f : Nat → Rt × Rt} (h : RtsAt w q n f) (k : Kept w w') : RtsAt w' q n f :=
  ⟨fun d hd => (h.lo d hd).kept k, fun d hd => (h.hi d hd).kept k, fun o ho => by rw [Below.frozen k (p := ⟨q, o, none⟩) (h.lo 0 (by omega)).lt]; exact h.fr o ho⟩
theorem RtsAt.but {w w' : World} {q n b : Nat} {f : Nat → Rt × Rt} (h : RtsAt w q n f) (k : But b w w') (hq : q ≠ b) : RtsAt w' q n f :=
  ⟨fun d hd => (h.lo d hd).but k hq, fun d hd => (h.hi d hd).but k hq, fun o ho => by rw [k.frozen (p := ⟨q, o, none⟩) (h.lo 0 (by omega)).lt hq]; exact h.fr o ho⟩
theorem RtsAt.congr {w : World} {q n : Nat} {f f' : Nat → Rt × Rt} (h : RtsAt w q n f) (e : ∀ d, d < n → f' d = f d) : RtsAt w q n f' :=
  ⟨fun d hd => by rw [e d hd]; exact h.lo d hd, fun d hd => by rw [e d hd]; exact h.hi d hd, h.fr⟩
def putAt (w : World) (q o : Nat) (x : Rt) : World := ((((w.setCell ⟨q, o, none⟩ (.int .u64 (x.gen : Nat))).setCell ⟨q, o + 1, none⟩ (.int .u64 (x.nxt : Nat))).setCell ⟨q, o + 2, none⟩ (.int .i64 x.row)).setCell ⟨q, o + 3, none⟩ (.int .u64 (x.st : Nat))).setCell ⟨q, o + 4, none⟩ (.int .i64 x.len)
theorem putAt_frozen (w : World) (q o : Nat) (x : Rt) (a : Addr) : (putAt w q o x).frozen? a = w.frozen? a := by
  unfold putAt
  simp only [World.frozen?_setCell]
theorem putAt_off (w : World) (q o : Nat) (x : Rt) (j : Nat) (h : j < o ∨ o + 5 ≤ j) : (putAt w q o x).cell? ⟨q, j, none⟩ = w.cell? ⟨q, j, none⟩ := by
  unfold putAt
  rw [rt_off _ _ _ _ _ (by omega), rt_off _ _ _ _ _ (by omega), rt_off _ _ _ _ _ (by omega), rt_off _ _ _ _ _ (by omega), rt_off _ _ _ _ _ (by omega)]
theorem RtIn.put_off {w : World} {q o : Nat} {y : Rt} (h : RtIn w q o y) (o' : Nat) (x : Rt) (ho : o + 5 ≤ o' ∨ o' + 5 ≤ o) : RtIn (putAt w q o' x) q o y :=
  ⟨by rw [putAt_off _ _ _ _ _ (by omega)]; exact h.c0, by rw [putAt_off _ _ _ _ _ (by omega)]; exact h.c1, by rw [putAt_off _ _ _ _ _ (by omega)]; exact h.c2, by rw [putAt_off _ _ _ _ _ (by omega)]; exact h.c3, by rw [putAt_off _ _ _ _ _ (by omega)]; exact h.c4⟩
theorem RtIn.put {w : World} {q o : Nat} {y : Rt} (h : RtIn w q o y) (x : Rt) : RtIn (putAt w q o x) q o x := by
  unfold putAt
  refine ⟨?_, ?_, ?_, ?_, ?_⟩
  · rw [rt_off _ _ _ _ _ (by omega), rt_off _ _ _ _ _ (by omega), rt_off _ _ _ _ _ (by omega), rt_off _ _ _ _ _ (by omega)]
    exact World.cell?_setCell_same _ _ _ h.c0
  · rw [rt_off _ _ _ _ _ (by omega), rt_off _ _ _ _ _ (by omega), rt_off _ _ _ _ _ (by omega)]
    exact World.cell?_setCell_same _ _ _ (by rw [rt_off _ _ _ _ _ (by omega)]; exact h.c1)
  · rw [rt_off _ _ _ _ _ (by omega), rt_off _ _ _ _ _ (by omega)]
    exact World.cell?_setCell_same _ _ _ (by rw [rt_off _ _ _ _ _ (by omega), rt_off _ _ _ _ _ (by omega)]; exact h.c2)
  · rw [rt_off _ _ _ _ _ (by omega)]
    exact World.cell?_setCell_same _ _ _ (by rw [rt_off _ _ _ _ _ (by omega), rt_off _ _ _ _ _ (by omega), rt_off _ _ _ _ _ (by omega)]; exact h.c3)
  · exact World.cell?_setCell_same _ _ _ (by rw [rt_off _ _ _ _ _ (by omega), rt_off _ _ _ _ _ (by omega), rt_off _ _ _ _ _ (by omega), rt_off _ _ _ _ _ (by omega)]; exact h.c4)
theorem putAt_but (w : World) (q o : Nat) (x : Rt) : But q w (putAt w q o x) := (((((But.refl q w).setCell o _).setCell (o + 1) _).setCell (o + 2) _).setCell (o + 3) _).setCell (o + 4) _
theorem RtsAt.putLo {w : World} {q n : Nat} {f : Nat → Rt × Rt} (h : RtsAt w q n f) (d : Nat) (hd : d < n) (a : Rt) : RtsAt (putAt w q (d * 10) a) q n (fun j => if j = d then (a, (f j).2) else f j) := by
  refine ⟨fun j hj => ?_, fun j hj => ?_, fun o ho => by rw [putAt_frozen]; exact h.fr o ho⟩
  · by_cases e : j = d
    · subst e
      rw [if_pos rfl]
      exact (h.lo j hj).put a
    · rw [if_neg e]
      exact (h.lo j hj).put_off _ _ (by omega)
  · have : (if j = d then (a, (f j).2) else f j).2 = (f j).2 := by split <;> rfl
    rw [this]
    exact (h.hi j hj).put_off _ _ (by omega)
theorem RtsAt.putHi {w : World} {q n : Nat} {f : Nat → Rt × Rt} (h : RtsAt w q n f) (d : Nat) (hd : d < n) (b : Rt) : RtsAt (putAt w q (d * 10 + 5) b) q n (fun j => if j = d then ((f j).1, b) else f j) := by
  refine ⟨fun j hj => ?_, fun j hj => ?_, fun o ho => by rw [putAt_frozen]; exact h.fr o ho⟩
  · have : (if j = d then ((f j).1, b) else f j).1 = (f j).1 := by split <;> rfl
    rw [this]
    exact (h.lo j hj).put_off _ _ (by omega)
  · by_cases e : j = d
    · subst e
      rw [if_pos rfl]
      exact (h.hi j hj).put b
    · rw [if_neg e]
      exact (h.hi j hj).put_off _ _ (by omega)
def two0 : Array Value := #[.int .u64 0, .int .u64 0, .int .i64 0, .int .u64 0, .int .i64 0, .int .u64 0, .int .u64 0, .int .i64 0, .int .u64 0, .int .i64 0]
theorem infoR_roots : (Try.prog.info? 94).map (fun i => (i.zero, i.size, i.bytes)) = some (some (.agg #[.int .u64 0, .int .u64 0, .int .i64 0, .int .u64 0, .int .i64 0, .int .u64 0, .int .u64 0, .int .i64 0, .int .u64 0, .int .i64 0]), 10, 80) := by kernel_rfl
theorem RtsAt.one (w : World) (T : TypeId) : RtsAt (w.alloc (.cells #[.int .u64 0, .int .u64 0, .int .i64 0, .int .u64 0, .int .i64 0, .int .u64 0, .int .u64 0, .int .i64 0, .int .u64 0, .int .i64 0] T)) w.heap.size 1 (fun _ => (Rt.none, Rt.none)) := by
  refine ⟨fun d hd => ?_, fun d hd => ?_, fun o ho => ?_⟩
  · obtain rfl : d = 0 := by omega
    constructor <;> (rw [World.cell?_alloc_mark]; rfl)
  · obtain rfl : d = 0 := by omega
    constructor <;> (rw [World.cell?_alloc_mark]; rfl)
  · rw [World.frozen?_alloc_mark]; simp
theorem make_roots (n : Nat) (hn : n ≤ 1000) (W : World) : (Instr.makeSlice 89 (.int .i64 (n : Int)) (.int .i64 (n : Int))).run Try.prog W = .ok (.slice (some ⟨W.heap.size, 0, none⟩) n n) (W.alloc (.cells (madeCells two0 (n * 10)) 94)) := by
  obtain ⟨i0, hi, hzz⟩ := Option.map_eq_some_iff.1 infoR_roots
  simp only [Prod.mk.injEq] at hzz
  have h := run_make (P := Try.prog) W 89 94 i0 _ Try.underlying89 hi hzz.1 .i64 .i64 (n : Int) (n : Int) (by omega) (by omega) (by rw [hzz.2.2]; omega) (by omega)
  rw [hzz.2.1, Int.toNat_natCast] at h
  exact h
theorem RtsAt.made (n : Nat) (w : World) (T : TypeId) : RtsAt (w.alloc (.cells (madeCells two0 (n * 10)) T)) w.heap.size n (fun _ => (Rt.none, Rt.none)) := by
  have hc : ∀ d j, d < n → j < 10 → (w.alloc (.cells (madeCells two0 (n * 10)) T)).cell? ⟨w.heap.size, d * 10 + j, none⟩ = two0[j]? := fun d j hd hj => by
    rw [World.cell?_alloc_mark]
    exact made_get two0 n d j hd hj
  refine ⟨fun d hd => ?_, fun d hd => ?_, fun o ho => ?_⟩
  · exact ⟨hc d 0 hd (by decide), hc d 1 hd (by decide), hc d 2 hd (by decide), hc d 3 hd (by decide), hc d 4 hd (by decide)⟩
  · exact ⟨hc d 5 hd (by decide), hc d 6 hd (by decide), hc d 7 hd (by decide), hc d 8 hd (by decide), hc d 9 hd (by decide)⟩
  · rw [World.frozen?_alloc_mark]; simp
end Go.Proofs.Ytoekaabngjjefaa

/- The program's: all drives' roots. -/
namespace Go.Proofs.Ytoekaabngjjefaa
open Go.RowKit Sm Wr _root_.Go.Proofs.Ytoekaabngjjefaa.Nm
set_option linter.unusedVariables false
/-- A drive's roots; none, where one of its slots can't be read. -/
def slR (s : RSt) (d : Nat) : Rt × Rt := (slotsR s d).getD (Rt.none, Rt.none)
def RootsOut (s : RSt) (n : Nat) (B : Nat) (v : Value) (w' : World) : Prop :=
  (s.down = true → v = .tuple #[.slice none 0 0, .int .i64 71]) ∧ (s.down = false → ∃ q, v = .tuple #[.slice (some ⟨q, 0, none⟩) n n, .int .i64 0] ∧ B ≤ q ∧ RtsAt w' q n (slR s))
set_option maxHeartbeats 4000000 in
set_option maxRecDepth 100000 in
theorem rootsOf_any (g : Nat) (s : RSt) (n : Nat) (h1 : 1 ≤ n) (hn : n ≤ 12) (w : World) (hR : RackAt g s w) :
    Calls Try.prog 43 #[.pointer (some ⟨g + 1, 0, none⟩), .int .i64 (n : Nat)] w fun e w' => (∃ v, e = .returned v ∧ RootsOut s n w.heap.size v w') ∧ Kept w w' := by
  have HMK := make_roots n (by omega) w
  have HALL := Lib.hid (RtsAt.made n w 94)
  have K0 : Hid (Kept w (w.alloc (.cells (madeCells two0 (n * 10)) 94))) := (Kept.refl _).alloc _
  have HRA := Lib.hid (fun d k (hd : d ≤ 12) (hk : k < 2) W h => rootAt_any g s d k (by omega) hk W h)
  have R0 := Lib.hid (hR.kept K0.out)
  have HR := Lib.hid hR
  clear hR
  go_enter Try.func43, Try.ntmps43
  go_wp2_with fail
  go_step3
  go_wp2_with fail
  have HQL : Hid (w.heap.size < (w.alloc (.cells (madeCells two0 (n * 10)) 94)).heap.size) := by show _ < _; rw [size_alloc]; omega
  generalize w.alloc (.cells (madeCells two0 (n * 10)) 94) = w0 at *
  go_step3
  go_wp2_with fail
  clear HMK
  go_loopg [16] n (fun gh i wr => ∃ d : Nat, d + gh = n ∧ i = .int .i64 d ∧ Hid (Kept w wr ∧ RtsAt wr w.heap.size n (fun j => if j < d then slR s j else (Rt.none, Rt.none)) ∧ (0 < d → s.down = false)))
  case atStart => exact ⟨0, by omega, rfl, K0.out, HALL.out.congr (fun d hd => by simp), fun h => absurd h (by omega)⟩
  case round =>
    obtain ⟨d, hd, rfl, HI⟩ := hrel
    cases gk with
    | succ gh =>
      have b1 : decide ((d : Int) < (n : Int)) = true := decide_eq_true (by omega)
      have b0 : decide (d < n) = true := decide_eq_true (by omega)
      have kx : Kept wr (wr.alloc (.cells #[.int .u64 0, .int .u64 0, .int .i64 0, .int .u64 0, .int .i64 0, .int .u64 0, .int .u64 0, .int .i64 0, .int .u64 0, .int .i64 0] 94)) := (Kept.refl _).alloc _
      have F0 := Lib.hid (RtsAt.one wr 94)
      have K1 : Hid (Kept w (wr.alloc (.cells #[.int .u64 0, .int .u64 0, .int .i64 0, .int .u64 0, .int .i64 0, .int .u64 0, .int .u64 0, .int .i64 0, .int .u64 0, .int .i64 0] 94))) := HI.out.1.trans kx
      have A1 := Lib.hid (HI.out.2.1.kept kx)
      have HD0 := Lib.hid HI.out.2.2
      have hpq : w.heap.size < wr.heap.size := (HI.out.2.1.lo 0 (by omega)).lt
      clear kx HI
      go_upto_region 6 with fail
      generalize wr.alloc (.cells #[.int .u64 0, .int .u64 0, .int .i64 0, .int .u64 0, .int .i64 0, .int .u64 0, .int .u64 0, .int .i64 0, .int .u64 0, .int .i64 0] 94) = w1 at *
      generalize hp : wr.heap.size = p at *
      clear hp
      go_wp2_with fail
      go_loopg [19] 2 (fun g2 i wy => ∃ k : Nat, k + g2 = 2 ∧ i = .int .i64 k ∧ Hid (Kept w wy ∧ RtsAt wy w.heap.size n (fun j => if j < d then slR s j else (Rt.none, Rt.none)) ∧ RtsAt wy p 1 (fun _ => (if 0 < k then atR s d 0 else Rt.none, if 1 < k then atR s d 1 else Rt.none)) ∧ ∀ i, i < k → s.readE d i = 0))
      case atStart => exact ⟨0, by omega, rfl, K1.out, A1.out, F0.out, fun i h => absurd h (by omega)⟩
      case round =>
        obtain ⟨k, hk, rfl, HJ⟩ := hrel
        cases gk with
        | succ g2 =>
          have b2 : decide ((k : Int) < 2) = true := decide_eq_true (by omega)
          have HCALL := Lib.hid (HRA.out d k (by omega) (by omega) wr (HR.out.kept HJ.out.1))
          have HK := Lib.hid HJ.out.1
          have HA := Lib.hid HJ.out.2.1
          have HF := Lib.hid HJ.out.2.2.1
          have HZ := Lib.hid HJ.out.2.2.2
          have HX : Hid (atR s d k = atR s d k) := rfl
          have HE71 : Hid (s.readE d k = 71 ↔ s.down = true) := readE_71 s d k
          unfold atV at HCALL
          clear HJ
          go_wp2_with fail
          refine HCALL.out.mono ?_
          rintro e v1 ⟨rfl, hk1⟩
          have HXX : Hid (∀ v, v = atR s d k → v = atR s d k) := fun v h => h
          obtain ⟨x, hx⟩ : ∃ x, x = atR s d k := ⟨_, rfl⟩
          obtain ⟨E, hE⟩ : ∃ E, E = s.readE d k := ⟨_, rfl⟩
          have HDE := Lib.hid hE
          have HDX := Lib.hid hx
          rw [← hx, ← hE]
          rw [← hE] at HE71
          clear hx hE HCALL HX HXX
          have kx : Kept v1 (v1.alloc (.cells #[.int .u64 (x.gen : Nat), .int .u64 (x.nxt : Nat), .int .i64 x.row, .int .u64 (x.st : Nat), .int .i64 x.len] 26)) := (Kept.refl _).alloc _
          have K2 : Hid (Kept w (v1.alloc (.cells #[.int .u64 (x.gen : Nat), .int .u64 (x.nxt : Nat), .int .i64 x.row, .int .u64 (x.st : Nat), .int .i64 x.len] 26))) := (HK.out.trans hk1).trans kx
          have A2 := Lib.hid ((HA.out.kept hk1).kept kx)
          have F2 := Lib.hid ((HF.out.kept hk1).kept kx)
          have X2 := Lib.hid (RtAt.laid v1 26 x)
          have hpv : p < v1.heap.size := ((HF.out.kept hk1).lo 0 (by decide)).lt
          unfold Rt.val
          clear kx hk1 HK HA HF
          go_upto_region 10 with fail
          generalize v1.alloc (.cells #[.int .u64 (x.gen : Nat), .int .u64 (x.nxt : Nat), .int .i64 x.row, .int .u64 (x.st : Nat), .int .i64 x.len] 26) = v2 at *
          generalize v1.heap.size = G at *
          by_cases h0 : E = 0
          · subst h0
            have x0 := X2.out.c0
            have x1 := X2.out.c1
            have x2 := X2.out.c2
            have x3 := X2.out.c3
            have x4 := X2.out.c4
            have c0 : RtIn v2 p 0 _ := F2.out.lo 0 (by decide)
            have c5 : RtIn v2 p 5 _ := F2.out.hi 0 (by decide)
            have fr := F2.out.fr
            rcases (show k = 0 ∨ k = 1 by omega) with rfl | rfl
            · obtain ⟨p0, p1, p2, p3, p4⟩ := c0
              have f0 := fr 0 (by decide)
              have f1 := fr 1 (by decide)
              have f2 := fr 2 (by decide)
              have f3 := fr 3 (by decide)
              have f4 := fr 4 (by decide)
              have F3 : Hid (RtsAt (putAt v2 p 0 x) p 1 (fun _ => (if 0 < 0 + 1 then atR s d 0 else Rt.none, if 1 < 0 + 1 then atR s d 1 else Rt.none))) := (F2.out.putLo 0 (by decide) x).congr (fun j hj => by
                obtain rfl : j = 0 := by omega
                rw [if_pos rfl, HDX.out]
                rfl)
              have K3 : Hid (Kept w (putAt v2 p 0 x)) := But.kept K2.out (by omega) (putAt_but _ _ _ _)
              have A3 : Hid (RtsAt (putAt v2 p 0 x) w.heap.size n (fun j => if j < d then slR s j else (Rt.none, Rt.none))) := A2.out.but (putAt_but _ _ _ _) (by omega)
              unfold putAt at F3 K3 A3
              clear fr c5 F2 K2 A2
              go_wp2_with fail
              go_roundg g2
              case measure => omega
              case rel => exact ⟨0 + 1, by omega, by go_num, K3.out, A3.out, F3.out, fun i hi => (show i = 0 by omega) ▸ HDE.out.symm⟩
            · obtain ⟨p0, p1, p2, p3, p4⟩ := c5
              have f0 := fr 5 (by decide)
              have f1 := fr 6 (by decide)
              have f2 := fr 7 (by decide)
              have f3 := fr 8 (by decide)
              have f4 := fr 9 (by decide)
              have F3 : Hid (RtsAt (putAt v2 p 5 x) p 1 (fun _ => (if 0 < 1 + 1 then atR s d 0 else Rt.none, if 1 < 1 + 1 then atR s d 1 else Rt.none))) := (F2.out.putHi 0 (by decide) x).congr (fun j hj => by
                obtain rfl : j = 0 := by omega
                rw [if_pos rfl, HDX.out]
                rfl)
              have K3 : Hid (Kept w (putAt v2 p 5 x)) := But.kept K2.out (by omega) (putAt_but _ _ _ _)
              have A3 : Hid (RtsAt (putAt v2 p 5 x) w.heap.size n (fun j => if j < d then slR s j else (Rt.none, Rt.none))) := A2.out.but (putAt_but _ _ _ _) (by omega)
              unfold putAt at F3 K3 A3
              clear fr c0 F2 K2 A2
              go_wp2_with fail
              go_roundg g2
              case measure => omega
              case rel => exact ⟨1 + 1, by omega, by go_num, K3.out, A3.out, F3.out, fun i hi => (show i = 0 ∨ i = 1 by omega).elim (fun h => h ▸ HZ.out 0 (by decide)) (fun h => h ▸ HDE.out.symm)⟩
          · have e1 : ((E : Int) == 0) = false := by rw [beq_eq_false_iff_ne]; omega
            by_cases h71 : E = 71
            · subst h71
              have hdn := HE71.out.1 rfl
              go_wp2_with fail
              (try rw [Exit.noGoto_ret])
              exact bodyPost_ret (v := .tuple #[.slice none 0 0, .int .i64 71]) (by simp [results, Try.results43, go_sem]) rfl ⟨⟨_, rfl, fun _ => rfl, fun h => by rw [hdn] at h; cases h⟩, K2.out⟩
            · have e2 : ((E : Int) == 71) = false := by rw [beq_eq_false_iff_ne]; omega
              have hsl : slR s d = (Rt.none, Rt.none) := by
                have hno : slotsR s d = .none := by
                  unfold slotsR
                  refine if_neg (fun h => ?_)
                  rcases (show k = 0 ∨ k = 1 by omega) with rfl | rfl
                  · exact h0 (HDE.out.trans h.1)
                  · exact h0 (HDE.out.trans h.2)
                unfold slR
                rw [hno]
                rfl
              have hdn : s.down = false := by
                cases h : s.down
                · rfl
                · exact absurd (HE71.out.2 h) h71
              have A3 : Hid (RtsAt v2 w.heap.size n (fun j => if j < d + 1 then slR s j else (Rt.none, Rt.none))) := A2.out.congr (fun j hj => by
                by_cases hjd : j < d
                · rw [if_pos (by omega), if_pos hjd]
                · by_cases hje : j = d
                  · subst hje; rw [if_pos (by omega), hsl, if_neg (by omega)]
                  · rw [if_neg (by omega), if_neg hjd])
              go_wp2_with fail
              go_roundg gh
              case measure => omega
              case rel => exact ⟨d + 1, by omega, by go_num, K2.out, A3.out, fun _ => hdn⟩
        | zero =>
          obtain rfl : k = 2 := by omega
          have K2 := Lib.hid HJ.out.1
          have A2 := Lib.hid HJ.out.2.1
          have F2 := Lib.hid HJ.out.2.2.1
          have hz0 := HJ.out.2.2.2 0 (by decide)
          have hz1 := HJ.out.2.2.2 1 (by decide)
          have hsl : slR s d = (atR s d 0, atR s d 1) := by
            unfold slR slotsR
            have h0 : s.readE d (0 : Nat) = 0 := hz0
            have h1 : s.readE d (1 : Nat) = 0 := hz1
            rw [if_pos ⟨h0, h1⟩]
            unfold atR
            rw [if_pos h0, if_pos h1]
            rfl
          have hdn : s.down = false := by
            cases h : s.down
            · rfl
            · have := (readE_71 s d (0 : Nat)).2 h
              rw [hz0] at this
              cases this
          have HSL := Lib.hid hsl
          have HDN := Lib.hid hdn
          obtain ⟨p0, p1, p2, p3, p4⟩ : RtIn wr p 0 (atR s d 0) := F2.out.lo 0 (by decide)
          obtain ⟨p5, p6, p7, p8, p9⟩ : RtIn wr p 5 (atR s d 1) := F2.out.hi 0 (by decide)
          obtain ⟨q0, q1, q2, q3, q4⟩ := A2.out.lo d (by omega)
          obtain ⟨q5, q6, q7, q8, q9⟩ := A2.out.hi d (by omega)
          have fr := A2.out.fr
          have f0 := fr (d * 10) (by omega)
          have f1 := fr (d * 10 + 1) (by omega)
          have f2 := fr (d * 10 + 2) (by omega)
          have f3 := fr (d * 10 + 3) (by omega)
          have f4 := fr (d * 10 + 4) (by omega)
          have f5 := fr (d * 10 + 5) (by omega)
          have f6 := fr (d * 10 + 6) (by omega)
          have f7 := fr (d * 10 + 7) (by omega)
          have f8 := fr (d * 10 + 8) (by omega)
          have f9 := fr (d * 10 + 9) (by omega)
          clear HJ hsl hdn hz0 hz1 fr
          generalize atR s d 0 = x at *
          generalize atR s d 1 = y at *
          have A3 := Lib.hid (((A2.out.putLo d (by omega) x).putHi d (by omega) y).congr (f' := fun j => if j < d + 1 then slR s j else (Rt.none, Rt.none)) (fun j hj => by
            by_cases hje : j = d
            · subst hje
              rw [if_pos (by omega), if_pos rfl, if_pos rfl, HSL.out]
            · rw [if_neg hje, if_neg hje]
              by_cases hjd : j < d
              · rw [if_pos (by omega), if_pos hjd]
              · rw [if_neg (by omega), if_neg hjd]))
          have K3 : Hid (Kept w (putAt (putAt wr w.heap.size (d * 10) x) w.heap.size (d * 10 + 5) y)) := But.kept (But.kept K2.out (Nat.le_refl _) (putAt_but _ _ _ _)) (Nat.le_refl _) (putAt_but _ _ _ _)
          unfold putAt at A3 K3
          clear A2 K2 F2
          go_wp2_with fail
          go_roundg gh
          case measure => omega
          case rel => exact ⟨d + 1, by omega, by go_num, K3.out, A3.out, fun _ => HDN.out⟩
    | zero =>
      have b1 : decide ((d : Int) < (n : Int)) = false := decide_eq_false (by omega)
      obtain rfl : d = n := by omega
      have hdn := HI.out.2.2 (by omega)
      go_wp2_with fail
      (try rw [Exit.noGoto_ret])
      refine bodyPost_ret (v := .tuple #[.slice (some ⟨w.heap.size, 0, none⟩) d d, .int .i64 0]) (by simp [results, Try.results43, go_sem]) rfl ?_
      refine ⟨⟨_, rfl, fun h => ?_, fun _ => ⟨_, rfl, Nat.le_refl _, HI.out.2.1.congr (fun j hj => by rw [if_pos hj])⟩⟩, HI.out.1⟩
      rw [hdn] at h
      cases h
end Go.Proofs.Ytoekaabngjjefaa

/- Writes of roots over a rack, cut or not: what is there then. -/
namespace Go.Proofs.Ytoekaabngjjefaa
open Go.RowKit Sm Wr _root_.Go.Proofs.Ytoekaabngjjefaa.Nm
set_option linter.unusedVariables false
/-- The first k drives have been written. -/
def wrK (s : RSt) (x : Rt) (k : Nat) : RSt :=
  { s with
    T := fun d i => if d < k ∧ i = x.me then x.raw else s.T d i
    bad := fun d i => if d < k ∧ i = x.me then false else s.bad d i
    cnt := fun d => if d < k then (s.cnt d + 1) % 18446744073709551616 else s.cnt d
    left := if s.cut then s.left - k else s.left }
theorem wrK_zero (s : RSt) (x : Rt) : wrK s x 0 = s := by
  unfold wrK
  cases s with
  | mk n m T bad cnt cut left => cases cut <;> simp
theorem padL_txt {x : Rt} (h : x.may = true) : padL x.txt = x.raw := by
  unfold padL
  rw [Rt.txt_list, Rt.txt_size h]
  simp
theorem wrK_down (s : RSt) (x : Rt) (k : Nat) (h : s.cut = true → k < s.left) : (wrK s x k).down = false := by
  unfold RSt.down wrK
  dsimp only
  cases hc : s.cut
  · rfl
  · have := h hc
    simp only [Bool.true_and, if_true]
    rw [beq_eq_false_iff_ne]
    omega
theorem wrK_next (s : RSt) (x : Rt) (k : Nat) : (wrK s x k).wr k x.me x.raw = wrK s x (k + 1) := by
  unfold wrK RSt.wr RSt.put RSt.inc RSt.lim up2
  dsimp only
  congr 1
  · funext d i
    by_cases h1 : d = k ∧ i = x.me
    · rw [if_pos h1, if_pos ⟨by omega, h1.2⟩]
    · rw [if_neg h1]
      by_cases h2 : d < k ∧ i = x.me
      · rw [if_pos h2, if_pos ⟨by omega, h2.2⟩]
      · rw [if_neg h2, if_neg]; omega
  · funext d i
    by_cases h1 : d = k ∧ i = x.me
    · rw [if_pos h1, if_pos ⟨by omega, h1.2⟩]
    · rw [if_neg h1]
      by_cases h2 : d < k ∧ i = x.me
      · rw [if_pos h2, if_pos ⟨by omega, h2.2⟩]
      · rw [if_neg h2, if_neg]; omega
  · funext d
    by_cases h1 : d = k
    · rw [if_pos h1, if_neg (by omega), if_pos (by omega), h1]
    · rw [if_neg h1]
      by_cases h2 : d < k
      · rw [if_pos h2, if_pos (by omega)]
      · rw [if_neg h2, if_neg (by omega)]
  · cases s.cut
    · rfl
    · simp only [if_true]; omega
theorem there_lt (s : RSt) {d i : Nat} (hd : d < s.n) (hi : i < s.m) : s.there d i = true := decide_eq_true (by omega)
theorem me_oth (x : Rt) : x.oth ≠ x.me := by unfold Rt.oth Rt.me; omega
theorem wrK_readE (s : RSt) (x : Rt) (k d i : Nat) (hi : ¬ (d < k ∧ i = x.me)) (h1 : (wrK s x k).down = false) (h2 : s.down = false) : (wrK s x k).readE d i = s.readE d i := by
  unfold RSt.readE
  rw [h1, h2]
  show (if false = true then 71 else if s.there d i = false then 70 else if (if ((d : Int)).toNat < k ∧ ((i : Int)).toNat = x.me then false else s.bad (d : Int).toNat (i : Int).toNat) = true then 72 else 0) = _
  rw [Int.toNat_natCast, Int.toNat_natCast, if_neg hi]
theorem wrK_readT (s : RSt) (x : Rt) (k d i : Nat) (hi : ¬ (d < k ∧ i = x.me)) (h1 : (wrK s x k).down = false) (h2 : s.down = false) : (wrK s x k).readT d i = s.readT d i := by
  unfold RSt.readT
  rw [wrK_readE s x k d i hi h1 h2]
  show (if s.readE d i = 0 then (⟨(if ((d : Int)).toNat < k ∧ ((i : Int)).toNat = x.me then x.raw else s.T (d : Int).toNat (i : Int).toNat).toArray⟩ : ByteArray) else _) = _
  rw [Int.toNat_natCast, Int.toNat_natCast, if_neg hi]
/-- As long as the rack lasts, and no newer root stands in the other slots, drive after drive has the root. -/
theorem wrTo_run (s : RSt) (x : Rt) (hx : x.may = true) (hm : 2 ≤ s.m) (hnew : ∀ d, d < s.n → newer s x d = false) : ∀ k, k ≤ s.n → (s.cut = true → k ≤ s.left) → wrTo s x k = (0, wrK s x k) := by
  intro k
  induction k with
  | zero => intro _ _; show (0, s) = _; rw [wrK_zero]
  | succ k ih =>
    intro hk hL
    have hi := ih (by omega) (fun h => by have := hL h; omega)
    have hd1 : (wrK s x k).down = false := wrK_down s x k (fun h => by have := hL h; omega)
    have hd0 : s.down = false := by have := wrK_down s x 0 (fun h => by have := hL h; omega); rwa [wrK_zero] at this
    show (if (wrTo s x k).1 = 0 then wrD (wrTo s x k).2 x k else wrTo s x k) = _
    rw [hi, if_pos rfl]
    dsimp only
    have hno : ¬ (k < k ∧ x.oth = x.me) := fun h => absurd h.1 (Nat.lt_irrefl k)
    have hn : newer (wrK s x k) x k = false := by
      have := hnew k (by omega)
      unfold newer at this ⊢
      rw [wrK_readE s x k k x.oth hno hd1 hd0, wrK_readT s x k k x.oth hno hd1 hd0]
      exact this
    have h71 : (wrK s x k).readE k x.oth ≠ 71 := fun h => by rw [readE_71, hd1] at h; cases h
    unfold wrD
    rw [if_neg h71, hn, if_neg (by decide)]
    have hth : (wrK s x k).there k x.me = true := there_lt (wrK s x k) (show k < s.n by omega) (show x.me < s.m by have := x.me_lt; omega)
    have hwe : (wrK s x k).writeE k x.me x.txt = 0 := by
      unfold RSt.writeE
      rw [hth, if_neg (by decide), if_neg (by rw [Rt.txt_size hx]; decide), hd1, if_neg (by decide)]
    have hws : (wrK s x k).writeS k x.me x.txt = wrK s x (k + 1) := by
      unfold RSt.writeS
      rw [if_pos hwe, Int.toNat_natCast, Int.toNat_natCast, padL_txt hx, wrK_next]
    rw [hwe, hws]
/-- Behind so many writes a cut rack is down: what was written stays. -/
theorem wrTo_cut (s : RSt) (x : Rt) (hx : x.may = true) (hm : 2 ≤ s.m) (hnew : ∀ d, d < s.n → newer s x d = false) (hc : s.cut = true) (hl : s.left < s.n) : wrTo s x s.n = (71, wrK s x s.left) := by
  have h := wrTo_run s x hx hm hnew s.left (by omega) (fun _ => Nat.le_refl _)
  have hdn : (wrK s x s.left).down = true := by
    unfold RSt.down wrK
    dsimp only
    rw [hc]
    simp
  have h1 : wrTo s x (s.left + 1) = (71, wrK s x s.left) := by
    show (if (wrTo s x s.left).1 = 0 then wrD (wrTo s x s.left).2 x s.left else wrTo s x s.left) = _
    rw [h, if_pos rfl]
    dsimp only
    unfold wrD
    rw [if_pos ((readE_71 _ _ _).2 hdn)]
  rw [wrTo_err s x (s.left + 1) (by rw [h1]; exact (show (71 : Nat) ≠ 0 by decide)) s.n (by omega), h1]
/-- A root that one of the first k drives shows. -/
def Seen (s : RSt) (k : Nat) (r : Rt) : Prop := ∃ d a b, d < k ∧ slotsR s d = some (a, b) ∧ (r = a ∨ r = b)
theorem Seen.mono {s : RSt} {k m : Nat} {r : Rt} (h : Seen s k r) (hk : k ≤ m) : Seen s m r := by
  obtain ⟨d, a, b, h1, h2, h3⟩ := h
  exact ⟨d, a, b, by omega, h2, h3⟩
theorem bestR_ge (x a : Rt) : x.gen ≤ (bestR x a).gen ∧ a.gen ≤ (bestR x a).gen := by unfold bestR; split <;> omega
theorem bestR_one (x a : Rt) : bestR x a = x ∨ bestR x a = a := by unfold bestR; split <;> simp
/-- What is told is one that is shown, and no shown one is newer. -/
theorem vTo_best (s : RSt) (k : Nat) : ((vTo s k).1 = Rt.none ∨ Seen s k (vTo s k).1) ∧ ∀ r, Seen s k r → r.gen ≤ (vTo s k).1.gen := by
  induction k with
  | zero => exact ⟨.inl rfl, fun r ⟨d, _, _, h, _⟩ => absurd h (by omega)⟩
  | succ k ih =>
    obtain ⟨i1, i2⟩ := ih
    have e : vTo s (k + 1) = vStep (vTo s k) (slotsR s k) := rfl
    cases hs : slotsR s k with
    | none =>
      have e1 : (vTo s (k + 1)).1 = (vTo s k).1 := by rw [e, hs]; rfl
      rw [e1]
      refine ⟨i1.imp id (fun h => h.mono (by omega)), fun r ⟨d, a, b, h1, h2, h3⟩ => ?_⟩
      by_cases hd : d = k
      · rw [hd, hs] at h2; cases h2
      · exact i2 r ⟨d, a, b, by omega, h2, h3⟩
    | some ab =>
      obtain ⟨a, b⟩ := ab
      have e1 : (vTo s (k + 1)).1 = bestR (bestR (vTo s k).1 a) b := by rw [e, hs]; rfl
      rw [e1]
      have g1 := bestR_ge (vTo s k).1 a
      have g2 := bestR_ge (bestR (vTo s k).1 a) b
      constructor
      · rcases bestR_one (bestR (vTo s k).1 a) b with h | h
        · rw [h]
          rcases bestR_one (vTo s k).1 a with h' | h'
          · rw [h']; exact i1.imp id (fun h => h.mono (by omega))
          · rw [h']; exact .inr ⟨k, a, b, by omega, hs, .inl rfl⟩
        · rw [h]; exact .inr ⟨k, a, b, by omega, hs, .inr rfl⟩
      · rintro r ⟨d, a', b', h1, h2, h3⟩
        by_cases hd : d = k
        · rw [hd, hs] at h2
          injection h2 with h2
          injection h2 with h4 h5
          subst h4 h5
          rcases h3 with rfl | rfl <;> omega
        · have := i2 r ⟨d, a', b', by omega, h2, h3⟩
          omega
/-- Has a drive no root? -/
def noR (s : RSt) (d : Nat) : Bool := match slotsR s d with
  | .none => true
  | some ab => decide (ab.1.gen = 0 ∧ ab.2.gen = 0)
/-- How many have none. -/
theorem vTo_none (s : RSt) (k : Nat) : (vTo s k).2 = ((List.range k).filter (noR s)).length := by
  induction k with
  | zero => rfl
  | succ k ih =>
    have e : vTo s (k + 1) = vStep (vTo s k) (slotsR s k) := rfl
    rw [List.range_succ, List.filter_append, List.length_append, ← ih, e]
    unfold noR
    cases hs : slotsR s k with
    | none => simp [vStep, hs]
    | some ab =>
      by_cases h : ab.1.gen = 0 ∧ ab.2.gen = 0
      · simp [vStep, hs, h]
      · have h' : ab.1.gen = 0 → ¬ ab.2.gen = 0 := fun a b => h ⟨a, b⟩
        simp [vStep, hs, h]
end Go.Proofs.Ytoekaabngjjefaa

/- The program's: the newest root of all drives, and how many have none. -/
namespace Go.Proofs.Ytoekaabngjjefaa
open Go.RowKit Sm Wr _root_.Go.Proofs.Ytoekaabngjjefaa.Nm
set_option linter.unusedVariables false
theorem chain_root {α : Type} (x y : Rt) (r f : α) : (if (x.gen : Int) = (y.gen : Int) then if (x.nxt : Int) = (y.nxt : Int) then if x.row = y.row then if (x.st : Int) = (y.st : Int) then if x.len = y.len then r else f else f else f else f else f) = if x.same y = true then r else f := by
  unfold Rt.same
  simp only [show ((x.gen : Int) = (y.gen : Int)) ↔ x.gen = y.gen from by omega, show ((x.nxt : Int) = (y.nxt : Int)) ↔ x.nxt = y.nxt from by omega, show ((x.st : Int) = (y.st : Int)) ↔ x.st = y.st from by omega]
  by_cases h0 : x.gen = y.gen <;> by_cases h1 : x.nxt = y.nxt <;> by_cases h2 : x.row = y.row <;> by_cases h3 : x.st = y.st <;> by_cases h4 : x.len = y.len <;> simp [h0, h1, h2, h3, h4]
theorem eq_root (d : Nat) (x y : Rt) (W : World) : (Op.equalIn (d + 1 + 1 + 1) 26 (.agg #[.int .u64 (x.gen : Nat), .int .u64 (x.nxt : Nat), .int .i64 x.row, .int .u64 (x.st : Nat), .int .i64 x.len]) (.agg #[.int .u64 (y.gen : Nat), .int .u64 (y.nxt : Nat), .int .i64 y.row, .int .u64 (y.st : Nat), .int .i64 y.len])).run Try.prog W = .ok (x.same y) W := by
  go_simp
  rw [chain_root]
  cases x.same y <;> rfl
theorem eql_root (x y : Rt) (W : World) : (binOp .eql 26 (.agg #[.int .u64 (x.gen : Nat), .int .u64 (x.nxt : Nat), .int .i64 x.row, .int .u64 (x.st : Nat), .int .i64 x.len]) (.agg #[.int .u64 (y.gen : Nat), .int .u64 (y.nxt : Nat), .int .i64 y.row, .int .u64 (y.st : Nat), .int .i64 y.len])).run Try.prog W = .ok (.bool (x.same y)) W := by
  rw [run_eql_struct]
  have h := eq_root 9997 x y W
  rw [show 9997 + 1 + 1 + 1 = 10000 from rfl] at h
  rw [h]
  rfl
theorem info_root : ∃ i, Try.prog.info? 26 = some i := Option.isSome_iff_exists.1 (by kernel_rfl)
theorem cells_root : Try.prog.cellsOf 26 = 5 := by kernel_rfl
theorem eq_ten (d : Nat) (x y x' y' : Rt) (W : World) : (Op.equalIn (d + 1 + 1 + 1 + 1) 94 (.agg #[.int .u64 (x.gen : Nat), .int .u64 (x.nxt : Nat), .int .i64 x.row, .int .u64 (x.st : Nat), .int .i64 x.len, .int .u64 (y.gen : Nat), .int .u64 (y.nxt : Nat), .int .i64 y.row, .int .u64 (y.st : Nat), .int .i64 y.len]) (.agg #[.int .u64 (x'.gen : Nat), .int .u64 (x'.nxt : Nat), .int .i64 x'.row, .int .u64 (x'.st : Nat), .int .i64 x'.len, .int .u64 (y'.gen : Nat), .int .u64 (y'.nxt : Nat), .int .i64 y'.row, .int .u64 (y'.st : Nat), .int .i64 y'.len])).run Try.prog W = .ok (x.same x' && y.same y') W := by
  obtain ⟨i, hi⟩ := info_root
  have hu : Try.prog.underlying 94 = some (.array 2 26) := by kernel_rfl
  rw [run_equalIn_array W (d + 1 + 1 + 1) _ _ hu hi, cells_root, show List.range 2 = [0, 1] from rfl]
  simp only [Op.eqItems]
  go_simp
  rw [chain_root, chain_root]
  cases x.same x' <;> cases y.same y' <;> rfl
theorem eqi_ten (x y : Rt) (W : World) : (Op.equalIn 10000 94 (.agg #[.int .u64 (x.gen : Nat), .int .u64 (x.nxt : Nat), .int .i64 x.row, .int .u64 (x.st : Nat), .int .i64 x.len, .int .u64 (y.gen : Nat), .int .u64 (y.nxt : Nat), .int .i64 y.row, .int .u64 (y.st : Nat), .int .i64 y.len]) (.agg #[.int .u64 0, .int .u64 0, .int .i64 0, .int .u64 0, .int .i64 0, .int .u64 0, .int .u64 0, .int .i64 0, .int .u64 0, .int .i64 0])).run Try.prog W = .ok (x.same Rt.none && y.same Rt.none) W := eq_ten 9996 x y Rt.none Rt.none W
theorem eqi_root (x y : Rt) (W : World) : (Op.equalIn 10000 26 (.agg #[.int .u64 (x.gen : Nat), .int .u64 (x.nxt : Nat), .int .i64 x.row, .int .u64 (x.st : Nat), .int .i64 x.len]) (.agg #[.int .u64 (y.gen : Nat), .int .u64 (y.nxt : Nat), .int .i64 y.row, .int .u64 (y.st : Nat), .int .i64 y.len])).run Try.prog W = .ok (x.same y) W := eq_root 9997 x y W
theorem idx_ten (x y : Rt) (W : World) : (Instr.index 94 (.agg #[.int .u64 (x.gen : Nat), .int .u64 (x.nxt : Nat), .int .i64 x.row, .int .u64 (x.st : Nat), .int .i64 x.len, .int .u64 (y.gen : Nat), .int .u64 (y.nxt : Nat), .int .i64 y.row, .int .u64 (y.st : Nat), .int .i64 y.len]) (.int .i64 0)).run Try.prog W = .ok (.agg #[.int .u64 (x.gen : Nat), .int .u64 (x.nxt : Nat), .int .i64 x.row, .int .u64 (x.st : Nat), .int .i64 x.len]) W ∧ (Instr.index 94 (.agg #[.int .u64 (x.gen : Nat), .int .u64 (x.nxt : Nat), .int .i64 x.row, .int .u64 (x.st : Nat), .int .i64 x.len, .int .u64 (y.gen : Nat), .int .u64 (y.nxt : Nat), .int .i64 y.row, .int .u64 (y.st : Nat), .int .i64 y.len]) (.int .i64 1)).run Try.prog W = .ok (.agg #[.int .u64 (y.gen : Nat), .int .u64 (y.nxt : Nat), .int .i64 y.row, .int .u64 (y.st : Nat), .int .i64 y.len]) W := by
  have hu : Try.prog.underlying 94 = some (.array 2 26) := by kernel_rfl
  constructor
  · simp only [Instr.index, Sem.run_bind, run_underlying hu, Result.andThen_ok, asIntOf, Sem.run_pure]
    go_simp
  · simp only [Instr.index, Sem.run_bind, run_underlying hu, Result.andThen_ok, asIntOf, Sem.run_pure]
    go_simp
/-- What newest tells of the first k pairs. -/
def nTo (f : Nat → Rt × Rt) : Nat → Rt × Nat
  | 0 => (Rt.none, 0)
  | k + 1 => (bestR (bestR (nTo f k).1 (f k).1) (f k).2, if ((f k).1.same Rt.none && (f k).2.same Rt.none) = true then (nTo f k).2 + 1 else (nTo f k).2)
theorem nTo_le (f : Nat → Rt × Rt) (k : Nat) : (nTo f k).2 ≤ k := by
  induction k with
  | zero => exact Nat.le_refl _
  | succ k ih =>
    show (if ((f k).1.same Rt.none && (f k).2.same Rt.none) = true then (nTo f k).2 + 1 else (nTo f k).2) ≤ k + 1
    split
    · exact Nat.succ_le_succ ih
    · exact Nat.le_succ_of_le ih
theorem rtAt_zero_gen (l : List UInt8) (k : Nat) : (rtAt l k).same Rt.none = true ↔ (rtAt l k).gen = 0 := by
  rw [Rt.same_iff]
  constructor
  · intro h; rw [h]; rfl
  · unfold rtAt
    cases hd : decR l with
    | none => intro _; rfl
    | some x =>
      dsimp only
      split
      · intro h
        have := (Rt.may_iff (decR_some hd).1).1
        omega
      · intro _; rfl
theorem nTo_vTo (s : RSt) (k : Nat) : nTo (slR s) k = vTo s k := by
  induction k with
  | zero => rfl
  | succ k ih =>
    show (bestR (bestR (nTo (slR s) k).1 (slR s k).1) (slR s k).2, if ((slR s k).1.same Rt.none && (slR s k).2.same Rt.none) = true then (nTo (slR s) k).2 + 1 else (nTo (slR s) k).2) = vStep (vTo s k) (slotsR s k)
    rw [ih]
    unfold slR slotsR vStep
    by_cases h : s.readE k 0 = 0 ∧ s.readE k 1 = 0
    · rw [if_pos h]
      dsimp only [Option.getD]
      congr 1
      have h1 := rtAt_zero_gen (s.readT k 0).data.toList 0
      have h2 := rtAt_zero_gen (s.readT k 1).data.toList 1
      simp only [Bool.and_eq_true, h1, h2]
    · rw [if_neg h]
      dsimp only [Option.getD]
      congr 1
theorem vTo_gen (s : RSt) (k : Nat) : (vTo s k).2 = k ∨ 0 < (vTo s k).1.gen := by
  induction k with
  | zero => exact .inl rfl
  | succ k ih =>
    show (vStep (vTo s k) (slotsR s k)).2 = k + 1 ∨ 0 < (vStep (vTo s k) (slotsR s k)).1.gen
    unfold vStep
    split
    · rcases ih with h | h
      · left; dsimp only; omega
      · right; exact h
    · rename_i ab _
      have h1 := bestR_ge (vTo s k).1 ab.1
      have h2 := bestR_ge (bestR (vTo s k).1 ab.1) ab.2
      dsimp only
      by_cases hz : ab.1.gen = 0 ∧ ab.2.gen = 0
      · rw [if_pos hz]
        rcases ih with h | h
        · left; omega
        · right; omega
      · right; omega
end Go.Proofs.Ytoekaabngjjefaa

/- The program's: the newest root of all drives, and how many have none: the walk. -/
namespace Go.Proofs.Ytoekaabngjjefaa
open Go.RowKit Sm Wr _root_.Go.Proofs.Ytoekaabngjjefaa.Nm
set_option linter.unusedVariables false
def nK (p a b : Rt) : Nat → Rt
  | 0 => p
  | 1 => bestR p a
  | _ => bestR (bestR p a) b
set_option maxHeartbeats 4000000 in
set_option maxRecDepth 100000 in
theorem newest_any (q n : Nat) (f : Nat → Rt × Rt) (hn : n ≤ 12) (w : World) (hF : RtsAt w q n f) (h1 : 1 ≤ n) :
    Calls Try.prog 44 #[.slice (some ⟨q, 0, none⟩) n n] w fun e w' => e = .returned (.tuple #[(nTo f n).1.val, .int .i64 ((nTo f n).2 : Nat)]) ∧ Kept w w' := by
  have K0 : Hid (Kept w (w.alloc (.cells #[.int .u64 0, .int .u64 0, .int .i64 0, .int .u64 0, .int .i64 0] 26))) := (Kept.refl _).alloc _
  have S0 := Lib.hid (RtAt.new w 26)
  have F0 := Lib.hid (hF.kept K0.out)
  have hqw : q < w.heap.size := (hF.lo 0 (by omega)).lt
  clear hF
  go_enter Try.func44, Try.ntmps44
  go_upto_region 1 with fail
  generalize w.alloc (.cells #[.int .u64 0, .int .u64 0, .int .i64 0, .int .u64 0, .int .i64 0] 26) = w0 at *
  go_upto_region 2 with fail
  go_loopg [3, 10] n (fun gh c i wr => ∃ d : Nat, d + gh = n ∧ i = .int .i64 d ∧ c = .int .i64 ((nTo f d).2 : Nat) ∧ Hid (Kept w wr ∧ RtsAt wr q n f ∧ RtAt wr w.heap.size (nTo f d).1))
  case atStart => exact ⟨0, by omega, rfl, rfl, K0.out, F0.out, S0.out⟩
  case round =>
    obtain ⟨d, hd, rfl, rfl, HI⟩ := hrel
    cases gk with
    | succ gh =>
      have b1 : decide ((d : Int) < (n : Int)) = true := decide_eq_true (by omega)
      have b0 : decide (d < n) = true := decide_eq_true (by omega)
      have hdn : (d : Int) < (n : Int) := by omega
      have hc12 := nTo_le f d
      obtain ⟨a, ha⟩ : ∃ a, a = (f d).1 := ⟨_, rfl⟩
      obtain ⟨b, hb⟩ : ∃ b, b = (f d).2 := ⟨_, rfl⟩
      obtain ⟨c, hc⟩ : ∃ c, c = (nTo f d).2 := ⟨_, rfl⟩
      obtain ⟨p, hp⟩ : ∃ p, p = (nTo f d).1 := ⟨_, rfl⟩
      have HN : Hid (nTo f (d + 1) = (bestR (bestR p a) b, if (a.same Rt.none && b.same Rt.none) = true then c + 1 else c)) := by rw [ha, hb, hc, hp]; rfl
      obtain ⟨q0, q1, q2, q3, q4⟩ := HI.out.2.1.lo d (by omega)
      obtain ⟨q5, q6, q7, q8, q9⟩ := HI.out.2.1.hi d (by omega)
      rw [← ha] at q0 q1 q2 q3 q4
      rw [← hb] at q5 q6 q7 q8 q9
      rw [← hc] at hc12
      have K1 := Lib.hid HI.out.1
      have F1 := Lib.hid HI.out.2.1
      have S1 := Lib.hid HI.out.2.2
      rw [← hp] at S1
      rw [← hc]
      clear HI ha hb hc hp
      have kx : Kept wr (wr.alloc (.cells #[.int .u64 (a.gen : Nat), .int .u64 (a.nxt : Nat), .int .i64 a.row, .int .u64 (a.st : Nat), .int .i64 a.len, .int .u64 (b.gen : Nat), .int .u64 (b.nxt : Nat), .int .i64 b.row, .int .u64 (b.st : Nat), .int .i64 b.len] 94)) := (Kept.refl _).alloc _
      have K2 : Hid (Kept w (wr.alloc (.cells #[.int .u64 (a.gen : Nat), .int .u64 (a.nxt : Nat), .int .i64 a.row, .int .u64 (a.st : Nat), .int .i64 a.len, .int .u64 (b.gen : Nat), .int .u64 (b.nxt : Nat), .int .i64 b.row, .int .u64 (b.st : Nat), .int .i64 b.len] 94))) := K1.out.trans kx
      have F2 := Lib.hid (F1.out.kept kx)
      have S2 := Lib.hid (S1.out.kept kx)
      have hBG : w.heap.size < wr.heap.size := S1.out.lt
      have hten : ∀ j v, (#[.int .u64 (a.gen : Nat), .int .u64 (a.nxt : Nat), .int .i64 a.row, .int .u64 (a.st : Nat), .int .i64 a.len, .int .u64 (b.gen : Nat), .int .u64 (b.nxt : Nat), .int .i64 b.row, .int .u64 (b.st : Nat), .int .i64 b.len] : Array Value)[j]? = some v → (wr.alloc (.cells #[.int .u64 (a.gen : Nat), .int .u64 (a.nxt : Nat), .int .i64 a.row, .int .u64 (a.st : Nat), .int .i64 a.len, .int .u64 (b.gen : Nat), .int .u64 (b.nxt : Nat), .int .i64 b.row, .int .u64 (b.st : Nat), .int .i64 b.len] 94)).cell? ⟨wr.heap.size, j, none⟩ = some v := fun j v hv => by rw [World.cell?_alloc_mark]; exact hv
      have t0 := hten 0 _ rfl
      have t1 := hten 1 _ rfl
      have t2 := hten 2 _ rfl
      have t3 := hten 3 _ rfl
      have t4 := hten 4 _ rfl
      have t5 := hten 5 _ rfl
      have t6 := hten 6 _ rfl
      have t7 := hten 7 _ rfl
      have t8 := hten 8 _ rfl
      have t9 := hten 9 _ rfl
      clear kx K1 F1 S1 hten
      go_upto_region 4 with fail
      generalize wr.alloc (.cells #[.int .u64 (a.gen : Nat), .int .u64 (a.nxt : Nat), .int .i64 a.row, .int .u64 (a.st : Nat), .int .i64 a.len, .int .u64 (b.gen : Nat), .int .u64 (b.nxt : Nat), .int .i64 b.row, .int .u64 (b.st : Nat), .int .i64 b.len] 94) = w2 at *
      generalize wr.heap.size = G at *
      have heq := eqi_ten a b w2
      obtain ⟨c', hc', hcc⟩ : ∃ c', c' = (if (a.same Rt.none && b.same Rt.none) = true then c + 1 else c) ∧ c' ≤ 13 := ⟨_, rfl, by split <;> omega⟩
      rw [← hc'] at HN
      have HCC := Lib.hid hc'
      clear hc'
      generalize (a.same Rt.none && b.same Rt.none) = z at *
      have hcz : (if z = true then Value.int .i64 ((c + 1 : Nat) : Int) else Value.int .i64 (c : Int)) = Value.int .i64 (c' : Int) := by
        rw [HCC.out]
        split <;> rfl
      cases z with
      | false =>
        have hcc' : c' = c := by rw [HCC.out]; rfl
        subst hcc'
        clear HCC hcz
        go_upto_region 7 with fail
        (try rw [← hcc2])
        clear heq t0 t1 t2 t3 t4 t5 t6 t7 t8 t9 q0 q1 q2 q3 q4 q5 q6 q7 q8 q9
        go_loopg [20] 2 (fun g2 i wy => ∃ k : Nat, k + g2 = 2 ∧ i = .int .i64 k ∧ Hid (Kept w wy ∧ RtsAt wy q n f ∧ RtAt wy w.heap.size (nK p a b k)))
        case atStart => exact ⟨0, by omega, rfl, K2.out, F2.out, S2.out⟩
        case round =>
          obtain ⟨k, hk, rfl, HJ⟩ := hrel
          cases gk with
          | succ g2 =>
            have b2 : decide ((k : Int) < 2) = true := decide_eq_true (by omega)
            have b22 : decide (k < 2) = true := decide_eq_true (by omega)
            have K4 := Lib.hid HJ.out.1
            have F4 := Lib.hid HJ.out.2.1
            have S4 := Lib.hid HJ.out.2.2
            clear HJ K2 F2 S2
            rcases (show k = 0 ∨ k = 1 by omega) with rfl | rfl
            · have kx : Kept wr (wr.alloc (.cells #[.int .u64 (a.gen : Nat), .int .u64 (a.nxt : Nat), .int .i64 a.row, .int .u64 (a.st : Nat), .int .i64 a.len] 26)) := (Kept.refl _).alloc _
              have K5 : Hid (Kept w (wr.alloc (.cells #[.int .u64 (a.gen : Nat), .int .u64 (a.nxt : Nat), .int .i64 a.row, .int .u64 (a.st : Nat), .int .i64 a.len] 26))) := K4.out.trans kx
              have F5 := Lib.hid (F4.out.kept kx)
              have S5 := Lib.hid (S4.out.kept kx)
              have X5 := Lib.hid (RtAt.laid wr 26 a)
              have hBG2 : w.heap.size < wr.heap.size := S4.out.lt
              clear kx K4 F4 S4
              have hix0 := fun W => (idx_ten a b W).1
              have hix1 := fun W => (idx_ten a b W).2
              go_upto_region 9 with fail
              clear hix0 hix1
              generalize wr.alloc (.cells #[.int .u64 (a.gen : Nat), .int .u64 (a.nxt : Nat), .int .i64 a.row, .int .u64 (a.st : Nat), .int .i64 a.len] 26) = w5 at *
              generalize wr.heap.size = G2 at *
              have x0 := X5.out.c0
              have s0 := S5.out.c0
              by_cases hg : (nK p a b 0).gen < a.gen
              · have b3 : decide (((nK p a b 0).gen : Int) < (a.gen : Int)) = true := decide_eq_true (by omega)
                have b4 : decide ((nK p a b 0).gen < a.gen) = true := decide_eq_true hg
                have hnk : nK p a b (0 + 1) = a := if_pos hg
                have HP := Lib.hid (S5.out.put a)
                have HKP := Lib.hid (putRt_kept K5.out w.heap.size a (Nat.le_refl _))
                have HFP : Hid (RtsAt (putRt w5 w.heap.size a) q n f) := F5.out.but (putRt_but _ _ _) (by omega)
                obtain ⟨y0, y1, y2, y3, y4, f0, f1, f2, f3, f4⟩ := S5.out
                obtain ⟨x0, x1, x2, x3, x4, _, _, _, _, _⟩ := X5.out
                unfold putRt at HP HKP HFP
                clear K5 F5 S5 X5 s0
                generalize nK p a b 0 = pk at *
                have hne : w.heap.size ≠ G2 := by omega
                have hoff : ∀ (W : World) o o' v, (W.setCell ⟨w.heap.size, o', none⟩ v).cell? ⟨G2, o, none⟩ = W.cell? ⟨G2, o, none⟩ := fun W o o' v => World.cell?_setCell_other _ _ _ _ (by intro e; injection e with e; exact hne e)
                go_wp2_with fail
                go_roundg g2
                case measure => omega
                case rel => exact ⟨(0 + 1), by omega, by go_num, HKP.out, HFP.out, by rw [hnk]; exact HP.out⟩
              · have b3 : decide (((nK p a b 0).gen : Int) < (a.gen : Int)) = false := decide_eq_false (by omega)
                have b4 : decide ((nK p a b 0).gen < a.gen) = false := decide_eq_false hg
                have hnk : nK p a b (0 + 1) = nK p a b 0 := if_neg hg
                clear X5
                have HS : Hid (RtAt w5 w.heap.size (nK p a b (0 + 1))) := by show _; rw [hnk]; exact S5.out
                clear S5 hnk
                generalize nK p a b 0 = pk at *
                go_wp2_with fail
                go_roundg g2
                case measure => omega
                case rel => exact ⟨(0 + 1), by omega, by go_num, K5.out, F5.out, HS.out⟩
            · have kx : Kept wr (wr.alloc (.cells #[.int .u64 (b.gen : Nat), .int .u64 (b.nxt : Nat), .int .i64 b.row, .int .u64 (b.st : Nat), .int .i64 b.len] 26)) := (Kept.refl _).alloc _
              have K5 : Hid (Kept w (wr.alloc (.cells #[.int .u64 (b.gen : Nat), .int .u64 (b.nxt : Nat), .int .i64 b.row, .int .u64 (b.st : Nat), .int .i64 b.len] 26))) := K4.out.trans kx
              have F5 := Lib.hid (F4.out.kept kx)
              have S5 := Lib.hid (S4.out.kept kx)
              have X5 := Lib.hid (RtAt.laid wr 26 b)
              have hBG2 : w.heap.size < wr.heap.size := S4.out.lt
              clear kx K4 F4 S4
              have hix0 := fun W => (idx_ten a b W).1
              have hix1 := fun W => (idx_ten a b W).2
              go_upto_region 9 with fail
              clear hix0 hix1
              generalize wr.alloc (.cells #[.int .u64 (b.gen : Nat), .int .u64 (b.nxt : Nat), .int .i64 b.row, .int .u64 (b.st : Nat), .int .i64 b.len] 26) = w5 at *
              generalize wr.heap.size = G2 at *
              have x0 := X5.out.c0
              have s0 := S5.out.c0
              by_cases hg : (nK p a b 1).gen < b.gen
              · have b3 : decide (((nK p a b 1).gen : Int) < (b.gen : Int)) = true := decide_eq_true (by omega)
                have b4 : decide ((nK p a b 1).gen < b.gen) = true := decide_eq_true hg
                have hnk : nK p a b (1 + 1) = b := if_pos hg
                have HP := Lib.hid (S5.out.put b)
                have HKP := Lib.hid (putRt_kept K5.out w.heap.size b (Nat.le_refl _))
                have HFP : Hid (RtsAt (putRt w5 w.heap.size b) q n f) := F5.out.but (putRt_but _ _ _) (by omega)
                obtain ⟨y0, y1, y2, y3, y4, f0, f1, f2, f3, f4⟩ := S5.out
                obtain ⟨x0, x1, x2, x3, x4, _, _, _, _, _⟩ := X5.out
                unfold putRt at HP HKP HFP
                clear K5 F5 S5 X5 s0
                generalize nK p a b 1 = pk at *
                have hne : w.heap.size ≠ G2 := by omega
                have hoff : ∀ (W : World) o o' v, (W.setCell ⟨w.heap.size, o', none⟩ v).cell? ⟨G2, o, none⟩ = W.cell? ⟨G2, o, none⟩ := fun W o o' v => World.cell?_setCell_other _ _ _ _ (by intro e; injection e with e; exact hne e)
                go_wp2_with fail
                go_roundg g2
                case measure => omega
                case rel => exact ⟨(1 + 1), by omega, by go_num, HKP.out, HFP.out, by rw [hnk]; exact HP.out⟩
              · have b3 : decide (((nK p a b 1).gen : Int) < (b.gen : Int)) = false := decide_eq_false (by omega)
                have b4 : decide ((nK p a b 1).gen < b.gen) = false := decide_eq_false hg
                have hnk : nK p a b (1 + 1) = nK p a b 1 := if_neg hg
                clear X5
                have HS : Hid (RtAt w5 w.heap.size (nK p a b (1 + 1))) := by show _; rw [hnk]; exact S5.out
                clear S5 hnk
                generalize nK p a b 1 = pk at *
                go_wp2_with fail
                go_roundg g2
                case measure => omega
                case rel => exact ⟨(1 + 1), by omega, by go_num, K5.out, F5.out, HS.out⟩
          | zero =>
            obtain rfl : k = 2 := by omega
            have K4 := Lib.hid HJ.out.1
            have F4 := Lib.hid HJ.out.2.1
            have S4 : Hid (RtAt wr w.heap.size (nTo f (d + 1)).1) := by show _; rw [HN.out]; exact HJ.out.2.2
            have hn2 : (nTo f (d + 1)).2 = c' := by rw [HN.out]
            clear HJ
            go_wp2_with fail
            go_roundg gh
            case measure => omega
            case rel => exact ⟨d + 1, by omega, by go_num, by first | (rw [hn2]; done) | (rw [hn2]; rfl), K4.out, F4.out, S4.out⟩
      | true =>
        have hcc' : c' = c + 1 := by rw [HCC.out]; rfl
        have hcc2 : ((c + 1 : Nat) : Int) = (c : Int) + 1 := by omega
        subst hcc'
        clear HCC hcz
        go_upto_region 7 with fail
        (try rw [← hcc2])
        clear heq t0 t1 t2 t3 t4 t5 t6 t7 t8 t9 q0 q1 q2 q3 q4 q5 q6 q7 q8 q9
        go_loopg [20] 2 (fun g2 i wy => ∃ k : Nat, k + g2 = 2 ∧ i = .int .i64 k ∧ Hid (Kept w wy ∧ RtsAt wy q n f ∧ RtAt wy w.heap.size (nK p a b k)))
        case atStart => exact ⟨0, by omega, rfl, K2.out, F2.out, S2.out⟩
        case round =>
          obtain ⟨k, hk, rfl, HJ⟩ := hrel
          cases gk with
          | succ g2 =>
            have b2 : decide ((k : Int) < 2) = true := decide_eq_true (by omega)
            have b22 : decide (k < 2) = true := decide_eq_true (by omega)
            have K4 := Lib.hid HJ.out.1
            have F4 := Lib.hid HJ.out.2.1
            have S4 := Lib.hid HJ.out.2.2
            clear HJ K2 F2 S2
            rcases (show k = 0 ∨ k = 1 by omega) with rfl | rfl
            · have kx : Kept wr (wr.alloc (.cells #[.int .u64 (a.gen : Nat), .int .u64 (a.nxt : Nat), .int .i64 a.row, .int .u64 (a.st : Nat), .int .i64 a.len] 26)) := (Kept.refl _).alloc _
              have K5 : Hid (Kept w (wr.alloc (.cells #[.int .u64 (a.gen : Nat), .int .u64 (a.nxt : Nat), .int .i64 a.row, .int .u64 (a.st : Nat), .int .i64 a.len] 26))) := K4.out.trans kx
              have F5 := Lib.hid (F4.out.kept kx)
              have S5 := Lib.hid (S4.out.kept kx)
              have X5 := Lib.hid (RtAt.laid wr 26 a)
              have hBG2 : w.heap.size < wr.heap.size := S4.out.lt
              clear kx K4 F4 S4
              have hix0 := fun W => (idx_ten a b W).1
              have hix1 := fun W => (idx_ten a b W).2
              go_upto_region 9 with fail
              clear hix0 hix1
              generalize wr.alloc (.cells #[.int .u64 (a.gen : Nat), .int .u64 (a.nxt : Nat), .int .i64 a.row, .int .u64 (a.st : Nat), .int .i64 a.len] 26) = w5 at *
              generalize wr.heap.size = G2 at *
              have x0 := X5.out.c0
              have s0 := S5.out.c0
              by_cases hg : (nK p a b 0).gen < a.gen
              · have b3 : decide (((nK p a b 0).gen : Int) < (a.gen : Int)) = true := decide_eq_true (by omega)
                have b4 : decide ((nK p a b 0).gen < a.gen) = true := decide_eq_true hg
                have hnk : nK p a b (0 + 1) = a := if_pos hg
                have HP := Lib.hid (S5.out.put a)
                have HKP := Lib.hid (putRt_kept K5.out w.heap.size a (Nat.le_refl _))
                have HFP : Hid (RtsAt (putRt w5 w.heap.size a) q n f) := F5.out.but (putRt_but _ _ _) (by omega)
                obtain ⟨y0, y1, y2, y3, y4, f0, f1, f2, f3, f4⟩ := S5.out
                obtain ⟨x0, x1, x2, x3, x4, _, _, _, _, _⟩ := X5.out
                unfold putRt at HP HKP HFP
                clear K5 F5 S5 X5 s0
                generalize nK p a b 0 = pk at *
                have hne : w.heap.size ≠ G2 := by omega
                have hoff : ∀ (W : World) o o' v, (W.setCell ⟨w.heap.size, o', none⟩ v).cell? ⟨G2, o, none⟩ = W.cell? ⟨G2, o, none⟩ := fun W o o' v => World.cell?_setCell_other _ _ _ _ (by intro e; injection e with e; exact hne e)
                go_wp2_with fail
                go_roundg g2
                case measure => omega
                case rel => exact ⟨(0 + 1), by omega, by go_num, HKP.out, HFP.out, by rw [hnk]; exact HP.out⟩
              · have b3 : decide (((nK p a b 0).gen : Int) < (a.gen : Int)) = false := decide_eq_false (by omega)
                have b4 : decide ((nK p a b 0).gen < a.gen) = false := decide_eq_false hg
                have hnk : nK p a b (0 + 1) = nK p a b 0 := if_neg hg
                clear X5
                have HS : Hid (RtAt w5 w.heap.size (nK p a b (0 + 1))) := by show _; rw [hnk]; exact S5.out
                clear S5 hnk
                generalize nK p a b 0 = pk at *
                go_wp2_with fail
                go_roundg g2
                case measure => omega
                case rel => exact ⟨(0 + 1), by omega, by go_num, K5.out, F5.out, HS.out⟩
            · have kx : Kept wr (wr.alloc (.cells #[.int .u64 (b.gen : Nat), .int .u64 (b.nxt : Nat), .int .i64 b.row, .int .u64 (b.st : Nat), .int .i64 b.len] 26)) := (Kept.refl _).alloc _
              have K5 : Hid (Kept w (wr.alloc (.cells #[.int .u64 (b.gen : Nat), .int .u64 (b.nxt : Nat), .int .i64 b.row, .int .u64 (b.st : Nat), .int .i64 b.len] 26))) := K4.out.trans kx
              have F5 := Lib.hid (F4.out.kept kx)
              have S5 := Lib.hid (S4.out.kept kx)
              have X5 := Lib.hid (RtAt.laid wr 26 b)
              have hBG2 : w.heap.size < wr.heap.size := S4.out.lt
              clear kx K4 F4 S4
              have hix0 := fun W => (idx_ten a b W).1
              have hix1 := fun W => (idx_ten a b W).2
              go_upto_region 9 with fail
              clear hix0 hix1
              generalize wr.alloc (.cells #[.int .u64 (b.gen : Nat), .int .u64 (b.nxt : Nat), .int .i64 b.row, .int .u64 (b.st : Nat), .int .i64 b.len] 26) = w5 at *
              generalize wr.heap.size = G2 at *
              have x0 := X5.out.c0
              have s0 := S5.out.c0
              by_cases hg : (nK p a b 1).gen < b.gen
              · have b3 : decide (((nK p a b 1).gen : Int) < (b.gen : Int)) = true := decide_eq_true (by omega)
                have b4 : decide ((nK p a b 1).gen < b.gen) = true := decide_eq_true hg
                have hnk : nK p a b (1 + 1) = b := if_pos hg
                have HP := Lib.hid (S5.out.put b)
                have HKP := Lib.hid (putRt_kept K5.out w.heap.size b (Nat.le_refl _))
                have HFP : Hid (RtsAt (putRt w5 w.heap.size b) q n f) := F5.out.but (putRt_but _ _ _) (by omega)
                obtain ⟨y0, y1, y2, y3, y4, f0, f1, f2, f3, f4⟩ := S5.out
                obtain ⟨x0, x1, x2, x3, x4, _, _, _, _, _⟩ := X5.out
                unfold putRt at HP HKP HFP
                clear K5 F5 S5 X5 s0
                generalize nK p a b 1 = pk at *
                have hne : w.heap.size ≠ G2 := by omega
                have hoff : ∀ (W : World) o o' v, (W.setCell ⟨w.heap.size, o', none⟩ v).cell? ⟨G2, o, none⟩ = W.cell? ⟨G2, o, none⟩ := fun W o o' v => World.cell?_setCell_other _ _ _ _ (by intro e; injection e with e; exact hne e)
                go_wp2_with fail
                go_roundg g2
                case measure => omega
                case rel => exact ⟨(1 + 1), by omega, by go_num, HKP.out, HFP.out, by rw [hnk]; exact HP.out⟩
              · have b3 : decide (((nK p a b 1).gen : Int) < (b.gen : Int)) = false := decide_eq_false (by omega)
                have b4 : decide ((nK p a b 1).gen < b.gen) = false := decide_eq_false hg
                have hnk : nK p a b (1 + 1) = nK p a b 1 := if_neg hg
                clear X5
                have HS : Hid (RtAt w5 w.heap.size (nK p a b (1 + 1))) := by show _; rw [hnk]; exact S5.out
                clear S5 hnk
                generalize nK p a b 1 = pk at *
                go_wp2_with fail
                go_roundg g2
                case measure => omega
                case rel => exact ⟨(1 + 1), by omega, by go_num, K5.out, F5.out, HS.out⟩
          | zero =>
            obtain rfl : k = 2 := by omega
            have K4 := Lib.hid HJ.out.1
            have F4 := Lib.hid HJ.out.2.1
            have S4 : Hid (RtAt wr w.heap.size (nTo f (d + 1)).1) := by show _; rw [HN.out]; exact HJ.out.2.2
            have hn2 : (nTo f (d + 1)).2 = c + 1 := by rw [HN.out]
            clear HJ
            go_wp2_with fail
            go_roundg gh
            case measure => omega
            case rel => exact ⟨d + 1, by omega, by go_num, by first | (rw [hn2]; done) | (rw [hn2]; rfl), K4.out, F4.out, S4.out⟩
    | zero =>
      have b1 : decide ((d : Int) < (n : Int)) = false := decide_eq_false (by omega)
      obtain rfl : d = n := by omega
      have HP := Lib.hid (HI.out.2.2.put (nTo f d).1)
      have HKP := Lib.hid (putRt_kept HI.out.1 w.heap.size (nTo f d).1 (Nat.le_refl _))
      obtain ⟨p0, p1, p2, p3, p4, f0, f1, f2, f3, f4⟩ := HI.out.2.2
      unfold putRt at HP HKP
      clear HI
      go_wp2_with fail
      exact bodyPost_ret (v := .tuple #[(nTo f d).1.val, .int .i64 ((nTo f d).2 : Nat)]) (by have q0 := HP.out.c0; have q1 := HP.out.c1; have q2 := HP.out.c2; have q3 := HP.out.c3; have q4 := HP.out.c4; (try simp at q0 q1 q2 q3 q4); simp [results, Try.results44, go_sem, Rt.val, q0, q1, q2, q3, q4]) rfl ⟨rfl, HKP.out⟩
end Go.Proofs.Ytoekaabngjjefaa

/- A slice of Bools that the call itself has gathered, by append. -/
namespace Go.Proofs.Ytoekaabngjjefaa
open Go.RowKit
set_option linter.unusedVariables false
/-- A list of Bools, nil or somewhere. -/
def Bls (v : Value) (l : List Bool) (w : World) : Prop := ∃ a c, v = .slice a l.length c ∧ (0 < l.length → ∃ q, a = some ⟨q, 0, none⟩ ∧ ∀ j, j < l.length → w.cell? ⟨q, j, none⟩ = some (.bool (l.getD j false)))
theorem Bls.kept {v : Value} {l : List Bool} {w w' : World} (h : Bls v l w) (k : Kept w w') : Bls v l w' := by
  obtain ⟨a, c, rfl, h⟩ := h
  refine ⟨a, c, rfl, fun h0 => ?_⟩
  obtain ⟨q, rfl, hc⟩ := h h0
  exact ⟨q, rfl, fun j hj => by rw [Below.cell k (p := ⟨q, j, none⟩) (block_lt_of_cell (hc j hj))]; exact hc j hj⟩
theorem Bls.nil (w : World) : Bls (.slice none 0 0) [] w := ⟨none, 0, rfl, fun h => absurd h (by decide)⟩
def GatB (B : Nat) (v : Value) (rs : List Bool) (w : World) : Prop := w.ownsRow B 4 1 v rs.length (rs.map Value.bool)
theorem GatB.nil (B : Nat) (w : World) : GatB B (.slice none 0 0) [] w := World.ownsRow_nil _ _ _ _
theorem GatB.kept {B : Nat} {v : Value} {rs : List Bool} {w w' : World} (h : GatB B v rs w) (k : Kept w w') : GatB B v rs w' := by
  obtain ⟨h1, h2⟩ := h
  refine ⟨h1, ?_⟩
  rcases h2 with h2 | ⟨g, cap, cur, h2, h3, h4, h5⟩
  · exact .inl h2
  · exact .inr ⟨g, cap, cur, h2, h3, by rw [k.block g (Array.getElem?_eq_some_iff.1 h4).1]; exact h4, h5⟩
theorem GatB.but {B b : Nat} {v : Value} {rs : List Bool} {w w' : World} (h : GatB B v rs w) (k : But b w w') (hb : b < B) : GatB B v rs w' := by
  obtain ⟨h1, h2⟩ := h
  refine ⟨h1, ?_⟩
  rcases h2 with h2 | ⟨g, cap, cur, h2, h3, h4, h5⟩
  · exact .inl h2
  · exact .inr ⟨g, cap, cur, h2, h3, by rw [k.block g (Array.getElem?_eq_some_iff.1 h4).1 (by omega)]; exact h4, h5⟩
theorem GatB.only {B lo hi : Nat} {v : Value} {rs : List Bool} {w w' : World} (h : GatB B v rs w) (k : Only lo hi w w') (hb : hi ≤ B) : GatB B v rs w' := by
  obtain ⟨h1, h2⟩ := h
  refine ⟨h1, ?_⟩
  rcases h2 with h2 | ⟨g, cap, cur, h2, h3, h4, h5⟩
  · exact .inl h2
  · exact .inr ⟨g, cap, cur, h2, h3, by rw [k.block g (Array.getElem?_eq_some_iff.1 h4).1 (.inr (by omega))]; exact h4, h5⟩
theorem GatB.lower {B B' : Nat} {v : Value} {rs : List Bool} {w : World} (h : GatB B v rs w) (hb : B' ≤ B) : GatB B' v rs w := by
  obtain ⟨h1, h2⟩ := h
  refine ⟨h1, ?_⟩
  rcases h2 with h2 | ⟨g, cap, cur, h2, h3, h4, h5⟩
  · exact .inl h2
  · exact .inr ⟨g, cap, cur, h2, by omega, h4, h5⟩
theorem GatB.bls {B : Nat} {v : Value} {rs : List Bool} {w : World} (h : GatB B v rs w) : Bls v rs w := by
  obtain ⟨h1, h2⟩ := h
  rcases h2 with ⟨rfl, h2⟩ | ⟨g, cap, cur, rfl, h3, h4, h5, h6, h7, h8⟩
  · have : rs = [] := List.length_eq_zero_iff.1 h2
    subst this
    exact Bls.nil w
  · refine ⟨_, cap, rfl, fun _ => ⟨g, rfl, fun j hj => ?_⟩⟩
    rw [cell_of_row _ _ j _ _ _ h4]
    have e : (cur.toList.take (rs.length * 1))[j]? = (rs.map Value.bool)[j]? := by rw [h8]
    rw [List.getElem?_take_of_lt (by omega)] at e
    rw [← Array.getElem?_toList, e, List.getElem?_map, List.getElem?_eq_getElem hj, List.getD_eq_getElem?_getD, List.getElem?_eq_getElem hj]
    rfl
theorem info_boolB : (Try.prog.info? 4).map (fun i => (i.zero, i.size, i.bytes)) = some (some (.bool false), 1, 1) := by kernel_rfl
theorem cell_boolB (W : World) (g : Nat) (r : Bool) (h : W.cell? ⟨g, 0, none⟩ = some (.bool r)) : ∀ j u, [Value.bool r][j]? = some u → W.cell? ((⟨g, 0, none⟩ : Addr).add j) = some u := by
  intro j u hj
  match j, hj with
  | 0, hj =>
    simp at hj
    subst hj
    rw [add_at]
    exact h
/-- An append of one Bool, at a step of a region that draws its order. -/
theorem step_gatb {ops : Array Oper} {o : Oper} {a : Act} {K : Act → World → Prop} {Q : Exit → Act → World → Prop} {E : Prop} {W : World} (hgd : o.guard = none) (s x : Operand)
    (ho : o.op = .call { callee := .builtin .append, args := #[s, x], argTypes := #[46, 46] })
    (w0 : World) (v : Value) (rs : List Bool) (hs : a.eval s = v) (hG : GatB w0.heap.size v rs W) (hK : Kept w0 W) (r : Bool) (g : Nat) (hx : a.eval x = .slice (some ⟨g, 0, none⟩) 1 1) (hc : W.cell? ⟨g, 0, none⟩ = some (.bool r)) (hl : rs.length ≤ 1000000000)
    (h : ∀ v' w', GatB w0.heap.size v' (rs ++ [r]) w' → Kept w0 w' → W.heap.size ≤ w'.heap.size → (∀ b, b < W.heap.size → v.ownBlock ≠ some b → w'.heap[b]? = W.heap[b]?) → K (a.put o.dst v') w') : if Region.wanted o (yielded ops a.tmps) = true then Oper.wp Try.prog o a W K Q else E := by
  have hw : Region.wanted o (yielded ops a.tmps) = true := by simp [Region.wanted, hgd]
  rw [if_pos hw]
  obtain ⟨i0, hi, hzz⟩ := Option.map_eq_some_iff.1 info_boolB
  simp only [Prod.mk.injEq] at hzz
  refine wp_append_own W s x 46 ho w0.heap.size 4 i0 (.bool false) 1 1 Try.underlying46 hi hzz.1 hzz.2.1 hzz.2.2 rfl (by decide) v rs.length (rs.map Value.bool) hs hG ⟨g, 0, none⟩ 1 1 [.bool r] hx rfl (cell_boolB W g r hc) (fun u hu => by simp at hu; subst hu; rfl) (by unfold maxLen; omega) (by omega) hK.size ?_
  intro v' w' h2 h3 _
  refine h v' w' ?_ (Below.grown hK h3 hK.size (fun k hk => (World.ownsRow.lt hG k hk).1)) h3.size (fun b hb hn => h3.block b hb (fun e => hn e.symm))
  unfold GatB
  rw [List.map_append, List.length_append]
  exact h2
end Go.Proofs.Ytoekaabngjjefaa

