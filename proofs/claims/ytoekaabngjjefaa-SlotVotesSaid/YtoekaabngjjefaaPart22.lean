/- SlotDoc, SlotAt, SlotDec, SlotEnc, SlotGeo, SlotPMay, SlotPGeo, SlotPFit. -/
import Derived.Test.YtoekaabngjjefaaPart21
import Derived.Test.YtoekaabngjjefaaPart11
import Derived.Test.YtoekaabngjjefaaPart20
import Derived.Deep.Quiet
import Derived.Deep.QuietTactic
import Derived.BigQuiet
/- The document's root: which may be. -/
namespace Go.Proofs.Ytoekaabngjjefaa
open Go.RowKit Sm Wr _root_.Go.Proofs.Ytoekaabngjjefaa.Nm
set_option linter.unusedVariables false
/-- A head is zero. -/
def headZ (a : Int) (b : Nat) (c : Int) : Bool := decide (a = 0 ∧ b = 0 ∧ c = 0)
theorem Rt.may_bool (x : Rt) : x.may = true ↔ (1 ≤ x.gen ∧ x.gen ≤ 281474976710656 ∧ 1 ≤ x.nxt ∧ x.nxt ≤ 281474976710656 ∧ ((x.row = 0 ∧ x.st = 0 ∧ x.len = 0) ∨ (0 ≤ x.row ∧ x.row ≤ 4096 ∧ 1 ≤ x.st ∧ x.st ≤ 281474976710656 ∧ 1 ≤ x.len ∧ x.len ≤ 5376))) := by
  unfold Rt.may Rt.headOk
  exact decide_eq_true_iff
set_option maxRecDepth 100000 in
theorem rMay_any (x : Rt) (w : World) :
    Calls Try.prog 26 #[x.val] w fun e w' => e = .returned (.bool x.may) ∧ Kept w w' := by
  have fin : ∀ r : Bool, (r = true ↔ x.may = true) → Ending.returned (.bool r) = Ending.returned (.bool x.may) := fun r h => by rw [Bool.eq_iff_iff.2 h]
  have HM := Lib.hid x.may_bool
  have HF := Lib.hid fin
  clear fin
  obtain ⟨a, b, c, d, e⟩ := x
  unfold Rt.val
  dsimp only at *
  generalize Rt.may ⟨a, b, c, d, e⟩ = mb at *
  go_enter Try.func26, Try.ntmps26
  go_wp2_with fail
  all_goals
    go_ret
    refine ⟨HF.out _ ?_, by first | exact ((Kept.refl _).alloc _).alloc _ | exact (Kept.refl _).alloc _⟩
    rw [HM.out]
    clear HF HM
    simp only [decide_eq_true_eq, Bool.false_eq_true, false_iff, true_iff]
    omega
theorem infoR_u8 : (Try.prog.info? 5).map (fun i => (i.zero, i.size, i.bytes)) = some (some (.int .u8 0), 1, 1) := by kernel_rfl
theorem mkR (n : Nat) (hn : n ≤ 4096) : ∃ M, (∀ W, (Instr.makeSlice 38 (.int .i64 (n : Int)) (.int .i64 (n : Int))).run Try.prog W = .ok (.slice (some ⟨W.heap.size, 0, none⟩) n n) (W.alloc (.cells M 5))) ∧
    ∀ W : World, (convert 38 9 (.slice (some ⟨W.heap.size, 0, none⟩) n n)).run Try.prog (W.alloc (.cells M 5)) = .ok (.string ⟨(List.replicate n (0 : UInt8)).toArray⟩) (W.alloc (.cells M 5)) := by
  obtain ⟨i0, hi, hzz⟩ := Option.map_eq_some_iff.1 infoR_u8
  simp only [Prod.mk.injEq] at hzz
  refine ⟨madeCells #[.int .u8 0] n, fun W => ?_, fun W => ?_⟩
  · have h := run_make (P := Try.prog) W 38 5 i0 _ Try.underlying38 hi hzz.1 .i64 .i64 (n : Int) (n : Int) (by omega) (by omega) (by rw [hzz.2.2]; omega) (by omega)
    rw [hzz.2.1, Int.toNat_natCast, Nat.mul_one] at h
    exact h
  · have hr := run_convert_bytes_back (P := Try.prog) (W.alloc (.cells (madeCells #[.int .u8 0] n) 5)) 38 9 5 ⟨W.heap.size, 0, none⟩ n (List.replicate n (0 : UInt8)) Try.underlying38 Try.underlying5 Try.underlying9 (fun j hj => by
      rw [add_zero_addr, World.cell?_alloc_mark]
      have hj1 : j < n := by rw [List.length_replicate] at hj; exact hj
      have h := made_get #[.int .u8 0] n j 0 hj1 (by decide)
      rw [show (#[Value.int .u8 0] : Array Value).size = 1 from rfl, Nat.mul_one, Nat.mul_one] at h
      rw [show j + 0 = j from rfl] at h
      rw [h, List.getElem_replicate]
      rfl)
    rw [List.length_replicate] at hr
    exact hr
theorem wantedR (o : Oper) (y : Nat → Option Bool) (h : o.guard = Option.none) : Region.wanted o y = true := by
  unfold Region.wanted; rw [h]
theorem oneR (w : World) (k : Nat) (hk : k < 256) : (convert 38 9 (.slice (some ⟨w.heap.size, 0, none⟩) 1 1)).run Try.prog (w.alloc (.cells #[.int .u8 (k : Int)] 5)) = .ok (.string ⟨#[UInt8.ofNat k]⟩) (w.alloc (.cells #[.int .u8 (k : Int)] 5)) := by
  have h := one_byte w (k : Int) (UInt8.ofNat k) (by rw [UInt8.toNat_ofNat']; omega)
  exact h
theorem cellR_kept {w w' : World} {a : Addr} {v : Value} (h : w.cell? a = some v) (k : Kept w w') : w'.cell? a = some v := by rw [Below.cell k (block_lt_of_cell h)]; exact h
theorem newR_cell (w : World) (cs : Array Value) (t : TypeId) (i : Nat) (v : Value) (h : cs[i]? = some v) : (w.alloc (.cells cs t)).cell? ⟨w.heap.size, i, none⟩ = some v := by rw [World.cell?_alloc_mark]; exact h
set_option maxHeartbeats 1000000 in
set_option maxRecDepth 100000 in
theorem rRaw_any (x : Rt) (w : World) (hm : x.may = true) :
    Calls Try.prog 27 #[x.val] w fun e w' => e = .returned (.string x.txt) ∧ Kept w w' := by
  obtain ⟨m1, m2, m3, m4, m5, m6, m7, m8, m9⟩ := Rt.may_iff hm
  have HSL := Lib.hid (Rt.said_length hm)
  obtain ⟨a, b, c, d, e⟩ := x
  dsimp only at m1 m2 m3 m4 m5 m6 m7 m8 m9
  obtain ⟨c, rfl⟩ := Int.eq_ofNat_of_zero_le m5
  obtain ⟨e, rfl⟩ := Int.eq_ofNat_of_zero_le m8
  unfold Rt.val
  dsimp only
  clear hm
  have hw1 : IntKind.u64.wrap (c : Int) = (c : Int) := IntWalk.u64_in _ (by omega)
  have hw2 : IntKind.u64.wrap (e : Int) = (e : Int) := IntWalk.u64_in _ (by omega)
  have HHD : Hid (Rt.root ⟨a, b, (c : Nat), d, (e : Nat)⟩ = UInt8.ofNat (sealL (nums [a, b, c, d, e])).length :: sealL (nums [a, b, c, d, e])) := rfl
  have HTX : Hid ((Rt.txt ⟨a, b, (c : Nat), d, (e : Nat)⟩).data.toList = Rt.root ⟨a, b, (c : Nat), d, (e : Nat)⟩ ++ List.replicate (64 - (Rt.root ⟨a, b, (c : Nat), d, (e : Nat)⟩).length) 0) := rfl
  have HSL : Hid ((nums [a, b, c, d, e]).length ≤ 45) := HSL.out
  generalize Rt.txt ⟨a, b, (c : Nat), d, (e : Nat)⟩ = tx at *
  generalize Rt.root ⟨a, b, (c : Nat), d, (e : Nat)⟩ = rt at *
  have HNU : Hid (∀ q : Nat, q ≤ 281474976710656 → ∃ u : ByteArray, u.data.toList = up q ∧ u.size ≤ 9 ∧ ∀ W, Calls Try.prog 53 #[.int .u64 (q : Nat)] W fun e w' => e = .returned (.string u) ∧ Kept W w') := fun q hq =>
    ⟨⟨(up q).toArray⟩, rfl, by rw [← data_len]; exact (up_length q).symm ▸ (by have := nb_le8 (x := q) (by omega); omega), fun W => refwnum_any q W (by omega) (by omega)⟩
  obtain ⟨u0, hu0, hz0, hn0⟩ := HNU.out a (by omega)
  obtain ⟨u1, hu1, hz1, hn1⟩ := HNU.out b (by omega)
  obtain ⟨u2, hu2, hz2, hn2⟩ := HNU.out c (by omega)
  obtain ⟨u3, hu3, hz3, hn3⟩ := HNU.out d (by omega)
  obtain ⟨u4, hu4, hz4, hn4⟩ := HNU.out e (by omega)
  have HU0 := Lib.hid hu0
  have HN0 := Lib.hid hn0
  have HU1 := Lib.hid hu1
  have HN1 := Lib.hid hn1
  have HU2 := Lib.hid hu2
  have HN2 := Lib.hid hn2
  have HU3 := Lib.hid hu3
  have HN3 := Lib.hid hn3
  have HU4 := Lib.hid hu4
  have HN4 := Lib.hid hn4
  have hq01 : ¬ 9223372036854775807 < u0.size + u1.size := by omega
  have hq02 : ¬ 9223372036854775807 < u0.size + u1.size + u2.size := by omega
  have hq03 : ¬ 9223372036854775807 < u0.size + u1.size + u2.size + u3.size := by omega
  have hq04 : ¬ 9223372036854775807 < u0.size + u1.size + u2.size + u3.size + u4.size := by omega
  clear hu0 hu1 hu2 hu3 hu4 hn0 hn1 hn2 hn3 hn4 hz0 hz1 hz2 hz3 hz4 HNU
  obtain ⟨y, hy⟩ : ∃ y : ByteArray, y = u0 ++ u1 ++ u2 ++ u3 ++ u4 := ⟨_, rfl⟩
  have HY : Hid (y.data.toList = nums [a, b, c, d, e]) := by
    show _ = _
    rw [hy]
    simp only [ByteArray.data_append, Array.toList_append]
    rw [HU0.out, HU1.out, HU2.out, HU3.out, HU4.out]
    unfold nums
    simp
  have hyl : y.size ≤ 45 := by rw [← data_len, HY.out]; exact HSL.out
  obtain ⟨r, hr, hrs, hsl⟩ : ∃ r : ByteArray, r.data.toList = sealL (nums [a, b, c, d, e]) ∧ r.size = y.size + 4 ∧ ∀ W, Calls Try.prog 52 #[.string y] W fun e w' => e = .returned (.string r) ∧ Kept W w' := by
    refine ⟨⟨(sealL (nums [a, b, c, d, e])).toArray⟩, rfl, by rw [mk_len, seal_len, ← HY.out, data_len], fun W => ?_⟩
    refine (refseal_any y W (by omega)).mono ?_
    rintro e w' ⟨⟨r, rfl, hr, _⟩, hk⟩
    refine ⟨?_, hk⟩
    have : r = ⟨(sealL (nums [a, b, c, d, e])).toArray⟩ := str_ext (by rw [hr.out, HY.out])
    rw [this]
  rw [hy] at hsl
  have HSE := Lib.hid hsl
  have HR := Lib.hid hr
  have hrl : r.size < 256 := by omega
  have hrl2 : r.size ≤ 49 := by omega
  clear hrs hsl hr hyl hy HU0 HU1 HU2 HU3 HU4 HSL
  go_enter Try.func27, Try.ntmps27
  go_wp2_with fail
  have HCL : Hid (∀ W, Kept (w.alloc (.cells #[.int .u64 (a : Nat), .int .u64 (b : Nat), .int .i64 (c : Nat), .int .u64 (d : Nat), .int .i64 (e : Nat)] 26)) W → W.cell? ⟨w.heap.size, 0, none⟩ = some (.int .u64 (a : Nat)) ∧ W.cell? ⟨w.heap.size, 1, none⟩ = some (.int .u64 (b : Nat)) ∧ W.cell? ⟨w.heap.size, 2, none⟩ = some (.int .i64 (c : Nat)) ∧ W.cell? ⟨w.heap.size, 3, none⟩ = some (.int .u64 (d : Nat)) ∧ W.cell? ⟨w.heap.size, 4, none⟩ = some (.int .i64 (e : Nat))) := fun W k =>
    ⟨cellR_kept (newR_cell w _ _ 0 _ rfl) k, cellR_kept (newR_cell w _ _ 1 _ rfl) k, cellR_kept (newR_cell w _ _ 2 _ rfl) k, cellR_kept (newR_cell w _ _ 3 _ rfl) k, cellR_kept (newR_cell w _ _ 4 _ rfl) k⟩
  have HK0 : Hid (Kept w (w.alloc (.cells #[.int .u64 (a : Nat), .int .u64 (b : Nat), .int .i64 (c : Nat), .int .u64 (d : Nat), .int .i64 (e : Nat)] 26))) := (Kept.refl _).alloc _
  generalize w.alloc (.cells #[.int .u64 (a : Nat), .int .u64 (b : Nat), .int .i64 (c : Nat), .int .u64 (d : Nat), .int .i64 (e : Nat)] 26) = w1 at *
  refine wp_region_quiet (C := fun W => Kept w1 W) (by kernel_rfl) (by kernel_rfl) ((Kept.refl w1).drew) ?_
  refine wpQuiet_step (fun K hK => ?_)
  rw [if_pos (wantedR _ _ rfl)]
  refine ⟨.pointer (some ⟨w.heap.size, 0, none⟩), fun W hW => ?_, hK _ ?_⟩
  · have hc := HCL.out W hW
    obtain ⟨c0, c1, c2, c3, c4⟩ := hc
    unfold Oper.quietAt
    go_simp
  clear hK K
  go_simp
  refine wpQuiet_step (fun K hK => ?_)
  rw [if_pos (wantedR _ _ rfl)]
  refine ⟨.int .u64 (a : Nat), fun W hW => ?_, hK _ ?_⟩
  · have hc := HCL.out W hW
    obtain ⟨c0, c1, c2, c3, c4⟩ := hc
    unfold Oper.quietAt
    go_simp
  clear hK K
  go_simp
  refine wpQuiet_step (fun K hK => ?_)
  rw [if_pos (wantedR _ _ rfl)]
  refine ⟨.string u0, fun W hW => ?_, hK _ ?_⟩
  · unfold Oper.quietAt
    go_simp
    exact (HN0.out W).mono fun e w' h => ⟨h.1, hW.trans h.2⟩
  clear hK K
  go_simp
  refine wpQuiet_step (fun K hK => ?_)
  rw [if_pos (wantedR _ _ rfl)]
  refine ⟨.pointer (some ⟨w.heap.size, 1, none⟩), fun W hW => ?_, hK _ ?_⟩
  · have hc := HCL.out W hW
    obtain ⟨c0, c1, c2, c3, c4⟩ := hc
    unfold Oper.quietAt
    go_simp
  clear hK K
  go_simp
  refine wpQuiet_step (fun K hK => ?_)
  rw [if_pos (wantedR _ _ rfl)]
  refine ⟨.int .u64 (b : Nat), fun W hW => ?_, hK _ ?_⟩
  · have hc := HCL.out W hW
    obtain ⟨c0, c1, c2, c3, c4⟩ := hc
    unfold Oper.quietAt
    go_simp
  clear hK K
  go_simp
  refine wpQuiet_step (fun K hK => ?_)
  rw [if_pos (wantedR _ _ rfl)]
  refine ⟨.string u1, fun W hW => ?_, hK _ ?_⟩
  · unfold Oper.quietAt
    go_simp
    exact (HN1.out W).mono fun e w' h => ⟨h.1, hW.trans h.2⟩
  clear hK K
  go_simp
  refine wpQuiet_step (fun K hK => ?_)
  rw [if_pos (wantedR _ _ rfl)]
  refine ⟨.string (u0 ++ u1), fun W hW => ?_, hK _ ?_⟩
  · have hc := HCL.out W hW
    obtain ⟨c0, c1, c2, c3, c4⟩ := hc
    unfold Oper.quietAt
    go_simp
  clear hK K
  go_simp
  refine wpQuiet_step (fun K hK => ?_)
  rw [if_pos (wantedR _ _ rfl)]
  refine ⟨.pointer (some ⟨w.heap.size, 2, none⟩), fun W hW => ?_, hK _ ?_⟩
  · have hc := HCL.out W hW
    obtain ⟨c0, c1, c2, c3, c4⟩ := hc
    unfold Oper.quietAt
    go_simp
  clear hK K
  go_simp
  refine wpQuiet_step (fun K hK => ?_)
  rw [if_pos (wantedR _ _ rfl)]
  refine ⟨.pointer (some ⟨w.heap.size, 2, none⟩), fun W hW => ?_, hK _ ?_⟩
  · have hc := HCL.out W hW
    obtain ⟨c0, c1, c2, c3, c4⟩ := hc
    unfold Oper.quietAt
    go_simp
  clear hK K
  go_simp
  refine wpQuiet_step (fun K hK => ?_)
  rw [if_pos (wantedR _ _ rfl)]
  refine ⟨.int .i64 (c : Nat), fun W hW => ?_, hK _ ?_⟩
  · have hc := HCL.out W hW
    obtain ⟨c0, c1, c2, c3, c4⟩ := hc
    unfold Oper.quietAt
    go_simp
  clear hK K
  go_simp
  refine wpQuiet_step (fun K hK => ?_)
  rw [if_pos (wantedR _ _ rfl)]
  refine ⟨.int .u64 (c : Nat), fun W hW => ?_, hK _ ?_⟩
  · have hc := HCL.out W hW
    obtain ⟨c0, c1, c2, c3, c4⟩ := hc
    unfold Oper.quietAt
    go_simp
  clear hK K
  go_simp
  refine wpQuiet_step (fun K hK => ?_)
  rw [if_pos (wantedR _ _ rfl)]
  refine ⟨.string u2, fun W hW => ?_, hK _ ?_⟩
  · unfold Oper.quietAt
    go_simp
    exact (HN2.out W).mono fun e w' h => ⟨h.1, hW.trans h.2⟩
  clear hK K
  go_simp
  refine wpQuiet_step (fun K hK => ?_)
  rw [if_pos (wantedR _ _ rfl)]
  refine ⟨.string (u0 ++ u1 ++ u2), fun W hW => ?_, hK _ ?_⟩
  · have hc := HCL.out W hW
    obtain ⟨c0, c1, c2, c3, c4⟩ := hc
    unfold Oper.quietAt
    go_simp
  clear hK K
  go_simp
  refine wpQuiet_step (fun K hK => ?_)
  rw [if_pos (wantedR _ _ rfl)]
  refine ⟨.pointer (some ⟨w.heap.size, 2, none⟩), fun W hW => ?_, hK _ ?_⟩
  · have hc := HCL.out W hW
    obtain ⟨c0, c1, c2, c3, c4⟩ := hc
    unfold Oper.quietAt
    go_simp
  clear hK K
  go_simp
  refine wpQuiet_step (fun K hK => ?_)
  rw [if_pos (wantedR _ _ rfl)]
  refine ⟨.pointer (some ⟨w.heap.size, 3, none⟩), fun W hW => ?_, hK _ ?_⟩
  · have hc := HCL.out W hW
    obtain ⟨c0, c1, c2, c3, c4⟩ := hc
    unfold Oper.quietAt
    go_simp
  clear hK K
  go_simp
  refine wpQuiet_step (fun K hK => ?_)
  rw [if_pos (wantedR _ _ rfl)]
  refine ⟨.int .u64 (d : Nat), fun W hW => ?_, hK _ ?_⟩
  · have hc := HCL.out W hW
    obtain ⟨c0, c1, c2, c3, c4⟩ := hc
    unfold Oper.quietAt
    go_simp
  clear hK K
  go_simp
  refine wpQuiet_step (fun K hK => ?_)
  rw [if_pos (wantedR _ _ rfl)]
  refine ⟨.string u3, fun W hW => ?_, hK _ ?_⟩
  · unfold Oper.quietAt
    go_simp
    exact (HN3.out W).mono fun e w' h => ⟨h.1, hW.trans h.2⟩
  clear hK K
  go_simp
  refine wpQuiet_step (fun K hK => ?_)
  rw [if_pos (wantedR _ _ rfl)]
  refine ⟨.string (u0 ++ u1 ++ u2 ++ u3), fun W hW => ?_, hK _ ?_⟩
  · have hc := HCL.out W hW
    obtain ⟨c0, c1, c2, c3, c4⟩ := hc
    unfold Oper.quietAt
    go_simp
  clear hK K
  go_simp
  refine wpQuiet_step (fun K hK => ?_)
  rw [if_pos (wantedR _ _ rfl)]
  refine ⟨.pointer (some ⟨w.heap.size, 2, none⟩), fun W hW => ?_, hK _ ?_⟩
  · have hc := HCL.out W hW
    obtain ⟨c0, c1, c2, c3, c4⟩ := hc
    unfold Oper.quietAt
    go_simp
  clear hK K
  go_simp
  refine wpQuiet_step (fun K hK => ?_)
  rw [if_pos (wantedR _ _ rfl)]
  refine ⟨.pointer (some ⟨w.heap.size, 4, none⟩), fun W hW => ?_, hK _ ?_⟩
  · have hc := HCL.out W hW
    obtain ⟨c0, c1, c2, c3, c4⟩ := hc
    unfold Oper.quietAt
    go_simp
  clear hK K
  go_simp
  refine wpQuiet_step (fun K hK => ?_)
  rw [if_pos (wantedR _ _ rfl)]
  refine ⟨.int .i64 (e : Nat), fun W hW => ?_, hK _ ?_⟩
  · have hc := HCL.out W hW
    obtain ⟨c0, c1, c2, c3, c4⟩ := hc
    unfold Oper.quietAt
    go_simp
  clear hK K
  go_simp
  refine wpQuiet_step (fun K hK => ?_)
  rw [if_pos (wantedR _ _ rfl)]
  refine ⟨.int .u64 (e : Nat), fun W hW => ?_, hK _ ?_⟩
  · have hc := HCL.out W hW
    obtain ⟨c0, c1, c2, c3, c4⟩ := hc
    unfold Oper.quietAt
    go_simp
  clear hK K
  go_simp
  refine wpQuiet_step (fun K hK => ?_)
  rw [if_pos (wantedR _ _ rfl)]
  refine ⟨.string u4, fun W hW => ?_, hK _ ?_⟩
  · unfold Oper.quietAt
    go_simp
    exact (HN4.out W).mono fun e w' h => ⟨h.1, hW.trans h.2⟩
  clear hK K
  go_simp
  refine wpQuiet_step (fun K hK => ?_)
  rw [if_pos (wantedR _ _ rfl)]
  refine ⟨.string (u0 ++ u1 ++ u2 ++ u3 ++ u4), fun W hW => ?_, hK _ ?_⟩
  · have hc := HCL.out W hW
    obtain ⟨c0, c1, c2, c3, c4⟩ := hc
    unfold Oper.quietAt
    go_simp
  clear hK K
  go_simp
  refine wpQuiet_step (fun K hK => ?_)
  rw [if_pos (wantedR _ _ rfl)]
  refine ⟨.string r, fun W hW => ?_, hK _ ?_⟩
  · unfold Oper.quietAt
    go_simp
    exact (HSE.out W).mono fun e w' h => ⟨h.1, hW.trans h.2⟩
  clear hK K
  go_simp
  refine wpQuiet_step (fun K hK => ?_)
  rw [if_pos (wantedR _ _ rfl)]
  refine ⟨.string r, fun W hW => ?_, hK _ ?_⟩
  · have hc := HCL.out W hW
    obtain ⟨c0, c1, c2, c3, c4⟩ := hc
    unfold Oper.quietAt
    go_simp
  clear hK K
  go_simp
  refine wpQuiet_nil ?_
  intro W hW
  have HKW : Hid (Kept w W) := HK0.out.trans hW
  clear hW
  have hcv := oneR W r.size hrl
  have hw8 : IntKind.u8.wrap (r.size : Int) = (r.size : Int) := IntWalk.u8_in _ (by omega)
  obtain ⟨m, hm⟩ : ∃ m, m = 63 - r.size := ⟨_, rfl⟩
  have hmi : 64 - (1 + (r.size : Int)) = (m : Int) := by omega
  have HM := Lib.hid hm
  have HRL := Lib.hid hrl2
  obtain ⟨M, hM, hMC⟩ := mkR m (by omega)
  have hMw := hM (W.alloc (.cells #[.int .u8 (r.size : Int)] 5))
  have hMcw := hMC (W.alloc (.cells #[.int .u8 (r.size : Int)] 5))
  rw [size_alloc] at hMw hMcw
  have hz1 : ¬ 9223372036854775807 < (⟨#[UInt8.ofNat r.size]⟩ : ByteArray).size + r.size := by rw [show (⟨#[UInt8.ofNat r.size]⟩ : ByteArray).size = 1 from rfl]; omega
  clear hM hMC hm
  go_wp2_with fail
  go_ret
  refine ⟨?_, (HKW.out.alloc _).alloc _⟩
  have he : (⟨#[UInt8.ofNat r.size]⟩ : ByteArray) ++ r ++ ⟨Array.replicate m 0⟩ = tx := by
    apply str_ext
    rw [HTX.out, HHD.out]
    have hl : (sealL (nums [a, b, c, d, e])).length = r.size := by rw [← HR.out, data_len]
    rw [hl, ← HR.out]
    simp only [ByteArray.data_append, Array.toList_append, List.length_cons, data_len]
    rw [show 64 - (r.size + 1) = m from by have := HM.out; omega]
    simp
  exact congrArg (fun q => Ending.returned (Value.string q)) he
end Go.Proofs.Ytoekaabngjjefaa

/- A root in a block of its own. -/
namespace Go.Proofs.Ytoekaabngjjefaa
open Go.RowKit Sm Wr _root_.Go.Proofs.Ytoekaabngjjefaa.Nm
set_option linter.unusedVariables false
/-- A root stands in block g. -/
structure RtAt (w : World) (g : Nat) (x : Rt) : Prop where
  c0 : w.cell? ⟨g, 0, none⟩ = some (.int .u64 (x.gen : Nat))
  c1 : w.cell? ⟨g, 1, none⟩ = some (.int .u64 (x.nxt : Nat))
  c2 : w.cell? ⟨g, 2, none⟩ = some (.int .i64 x.row)
  c3 : w.cell? ⟨g, 3, none⟩ = some (.int .u64 (x.st : Nat))
  c4 : w.cell? ⟨g, 4, none⟩ = some (.int .i64 x.len)
  f0 : w.frozen? ⟨g, 0, none⟩ = false
  f1 : w.frozen? ⟨g, 1, none⟩ = false
  f2 : w.frozen? ⟨g, 2, none⟩ = false
  f3 : w.frozen? ⟨g, 3, none⟩ = false
  f4 : w.frozen? ⟨g, 4, none⟩ = false
theorem RtAt.lt {w : World} {g : Nat} {x : Rt} (h : RtAt w g x) : g < w.heap.size := block_lt_of_cell h.c0
theorem RtAt.frame {w w' : World} {g : Nat} {x : Rt} (h : RtAt w g x) (e : w'.heap[g]? = w.heap[g]?) : RtAt w' g x := by
  have ce : ∀ o, w'.cell? ⟨g, o, none⟩ = w.cell? ⟨g, o, none⟩ := fun o => World.cell?_of_block (w := w) (a := ⟨g, o, none⟩) e
  have fe : ∀ o, w'.frozen? ⟨g, o, none⟩ = w.frozen? ⟨g, o, none⟩ := fun o => World.frozen?_of_block (w := w) (a := ⟨g, o, none⟩) e
  exact ⟨by rw [ce]; exact h.c0, by rw [ce]; exact h.c1, by rw [ce]; exact h.c2, by rw [ce]; exact h.c3, by rw [ce]; exact h.c4, by rw [fe]; exact h.f0, by rw [fe]; exact h.f1, by rw [fe]; exact h.f2, by rw [fe]; exact h.f3, by rw [fe]; exact h.f4⟩
theorem RtAt.kept {w w' : World} {g : Nat} {x : Rt} (h : RtAt w g x) (k : Kept w w') : RtAt w' g x := h.frame (k.block g h.lt)
theorem RtAt.but {w w' : World} {g b : Nat} {x : Rt} (h : RtAt w g x) (k : But b w w') (hg : g ≠ b) : RtAt w' g x := h.frame (k.block g h.lt hg)
theorem RtAt.laid (w : World) (T : TypeId) (x : Rt) : RtAt (w.alloc (.cells #[.int .u64 (x.gen : Nat), .int .u64 (x.nxt : Nat), .int .i64 x.row, .int .u64 (x.st : Nat), .int .i64 x.len] T)) w.heap.size x := by
  constructor
  all_goals first | (rw [World.cell?_alloc_mark]; rfl) | (rw [World.frozen?_alloc_mark]; rfl)
theorem RtAt.new (w : World) (T : TypeId) : RtAt (w.alloc (.cells #[.int .u64 0, .int .u64 0, .int .i64 0, .int .u64 0, .int .i64 0] T)) w.heap.size Rt.none := RtAt.laid w T Rt.none
theorem rt_off (W : World) (g o o' : Nat) (v : Value) (hne : o ≠ o') : (W.setCell ⟨g, o', none⟩ v).cell? ⟨g, o, none⟩ = W.cell? ⟨g, o, none⟩ := World.cell?_setCell_other _ _ _ _ (by intro e; injection e with _ e; exact hne e.symm)
theorem RtAt.set0 {w : World} {g : Nat} {x : Rt} (h : RtAt w g x) (v : Nat) : RtAt (w.setCell ⟨g, 0, none⟩ (.int .u64 (v : Nat))) g { x with gen := v } := by
  refine ⟨World.cell?_setCell_same _ _ _ h.c0, by rw [rt_off _ _ _ _ _ (by decide)]; exact h.c1, by rw [rt_off _ _ _ _ _ (by decide)]; exact h.c2, by rw [rt_off _ _ _ _ _ (by decide)]; exact h.c3, by rw [rt_off _ _ _ _ _ (by decide)]; exact h.c4, ?_, ?_, ?_, ?_, ?_⟩
  all_goals rw [World.frozen?_setCell]
  · exact h.f0
  · exact h.f1
  · exact h.f2
  · exact h.f3
  · exact h.f4
theorem RtAt.set1 {w : World} {g : Nat} {x : Rt} (h : RtAt w g x) (v : Nat) : RtAt (w.setCell ⟨g, 1, none⟩ (.int .u64 (v : Nat))) g { x with nxt := v } := by
  refine ⟨by rw [rt_off _ _ _ _ _ (by decide)]; exact h.c0, World.cell?_setCell_same _ _ _ h.c1, by rw [rt_off _ _ _ _ _ (by decide)]; exact h.c2, by rw [rt_off _ _ _ _ _ (by decide)]; exact h.c3, by rw [rt_off _ _ _ _ _ (by decide)]; exact h.c4, ?_, ?_, ?_, ?_, ?_⟩
  all_goals rw [World.frozen?_setCell]
  · exact h.f0
  · exact h.f1
  · exact h.f2
  · exact h.f3
  · exact h.f4
theorem RtAt.set2 {w : World} {g : Nat} {x : Rt} (h : RtAt w g x) (v : Int) : RtAt (w.setCell ⟨g, 2, none⟩ (.int .i64 v)) g { x with row := v } := by
  refine ⟨by rw [rt_off _ _ _ _ _ (by decide)]; exact h.c0, by rw [rt_off _ _ _ _ _ (by decide)]; exact h.c1, World.cell?_setCell_same _ _ _ h.c2, by rw [rt_off _ _ _ _ _ (by decide)]; exact h.c3, by rw [rt_off _ _ _ _ _ (by decide)]; exact h.c4, ?_, ?_, ?_, ?_, ?_⟩
  all_goals rw [World.frozen?_setCell]
  · exact h.f0
  · exact h.f1
  · exact h.f2
  · exact h.f3
  · exact h.f4
theorem RtAt.set3 {w : World} {g : Nat} {x : Rt} (h : RtAt w g x) (v : Nat) : RtAt (w.setCell ⟨g, 3, none⟩ (.int .u64 (v : Nat))) g { x with st := v } := by
  refine ⟨by rw [rt_off _ _ _ _ _ (by decide)]; exact h.c0, by rw [rt_off _ _ _ _ _ (by decide)]; exact h.c1, by rw [rt_off _ _ _ _ _ (by decide)]; exact h.c2, World.cell?_setCell_same _ _ _ h.c3, by rw [rt_off _ _ _ _ _ (by decide)]; exact h.c4, ?_, ?_, ?_, ?_, ?_⟩
  all_goals rw [World.frozen?_setCell]
  · exact h.f0
  · exact h.f1
  · exact h.f2
  · exact h.f3
  · exact h.f4
theorem RtAt.set4 {w : World} {g : Nat} {x : Rt} (h : RtAt w g x) (v : Int) : RtAt (w.setCell ⟨g, 4, none⟩ (.int .i64 v)) g { x with len := v } := by
  refine ⟨by rw [rt_off _ _ _ _ _ (by decide)]; exact h.c0, by rw [rt_off _ _ _ _ _ (by decide)]; exact h.c1, by rw [rt_off _ _ _ _ _ (by decide)]; exact h.c2, by rw [rt_off _ _ _ _ _ (by decide)]; exact h.c3, World.cell?_setCell_same _ _ _ h.c4, ?_, ?_, ?_, ?_, ?_⟩
  all_goals rw [World.frozen?_setCell]
  · exact h.f0
  · exact h.f1
  · exact h.f2
  · exact h.f3
  · exact h.f4
def putRt (w : World) (g : Nat) (x : Rt) : World := ((((w.setCell ⟨g, 0, none⟩ (.int .u64 (x.gen : Nat))).setCell ⟨g, 1, none⟩ (.int .u64 (x.nxt : Nat))).setCell ⟨g, 2, none⟩ (.int .i64 x.row)).setCell ⟨g, 3, none⟩ (.int .u64 (x.st : Nat))).setCell ⟨g, 4, none⟩ (.int .i64 x.len)
theorem RtAt.put {w : World} {g : Nat} {y : Rt} (h : RtAt w g y) (x : Rt) : RtAt (putRt w g x) g x := ((((h.set0 x.gen).set1 x.nxt).set2 x.row).set3 x.st).set4 x.len
theorem putRt_kept {w0 w : World} (h : Kept w0 w) (g : Nat) (x : Rt) (hg : w0.heap.size ≤ g) : Kept w0 (putRt w g x) :=
  ((((h.setCell (p := ⟨g, 0, none⟩) hg _).setCell (p := ⟨g, 1, none⟩) hg _).setCell (p := ⟨g, 2, none⟩) hg _).setCell (p := ⟨g, 3, none⟩) hg _).setCell (p := ⟨g, 4, none⟩) hg _
theorem putRt_but (w : World) (g : Nat) (x : Rt) : But g w (putRt w g x) := (((((But.refl g w).setCell 0 _).setCell 1 _).setCell 2 _).setCell 3 _).setCell 4 _
theorem But.ofSetR (w : World) (g o : Nat) (v : Value) : But g w (w.setCell ⟨g, o, none⟩ v) := (But.refl g w).setCell o v
theorem RdAt.newR (w : World) (t : ByteArray) (ht : t.size ≤ maxLen) (T : TypeId) : RdAt (w.alloc (.cells #[.string t, .int .i64 0] T)) w.heap.size ⟨t.data.toList, 0⟩ := by
  refine ⟨⟨t, by rw [World.cell?_alloc_mark]; rfl, rfl, ht⟩, by rw [World.cell?_alloc_mark]; rfl, by rw [World.frozen?_alloc_mark]; rfl, by rw [World.frozen?_alloc_mark]; rfl⟩
/-- A root stands in block q from cell o on. -/
structure RtIn (w : World) (q o : Nat) (x : Rt) : Prop where
  c0 : w.cell? ⟨q, o, none⟩ = some (.int .u64 (x.gen : Nat))
  c1 : w.cell? ⟨q, o + 1, none⟩ = some (.int .u64 (x.nxt : Nat))
  c2 : w.cell? ⟨q, o + 2, none⟩ = some (.int .i64 x.row)
  c3 : w.cell? ⟨q, o + 3, none⟩ = some (.int .u64 (x.st : Nat))
  c4 : w.cell? ⟨q, o + 4, none⟩ = some (.int .i64 x.len)
theorem RtIn.lt {w : World} {q o : Nat} {x : Rt} (h : RtIn w q o x) : q < w.heap.size := block_lt_of_cell h.c0
theorem RtIn.frame {w w' : World} {q o : Nat} {x : Rt} (h : RtIn w q o x) (e : w'.heap[q]? = w.heap[q]?) : RtIn w' q o x := by
  have ce : ∀ o, w'.cell? ⟨q, o, none⟩ = w.cell? ⟨q, o, none⟩ := fun o => World.cell?_of_block (w := w) (a := ⟨q, o, none⟩) e
  exact ⟨by rw [ce]; exact h.c0, by rw [ce]; exact h.c1, by rw [ce]; exact h.c2, by rw [ce]; exact h.c3, by rw [ce]; exact h.c4⟩
theorem RtIn.kept {w w' : World} {q o : Nat} {x : Rt} (h : RtIn w q o x) (k : Kept w w') : RtIn w' q o x := h.frame (k.block q h.lt)
theorem RtIn.but {w w' : World} {q o b : Nat} {x : Rt} (h : RtIn w q o x) (k : But b w w') (hq : q ≠ b) : RtIn w' q o x := h.frame (k.block q h.lt hq)
theorem qn_leR (m : Nat) (s : St) : (qNum m s).1 ≤ m := by
  unfold qNum
  split
  · exact Nat.zero_le _
  · split
    · exact Nat.zero_le _
    · split
      · exact Nat.zero_le _
      · dsimp only; omega
end Go.Proofs.Ytoekaabngjjefaa

/- The document's Decode. -/
namespace Go.Proofs.Ytoekaabngjjefaa
open Go.RowKit Sm Wr _root_.Go.Proofs.Ytoekaabngjjefaa.Nm
set_option linter.unusedVariables false
def decV : Option Rt → Value
  | .none => .tuple #[Rt.none.val, .int .i64 8]
  | some x => .tuple #[x.val, .int .i64 0]
theorem txt_same (a b : ByteArray) : (a.toList == b.toList) = decide (a.data.toList = b.data.toList) := by
  rw [ByteArray.toList_eq, ByteArray.toList_eq, Bool.eq_iff_iff]
  simp
theorem headR_get (s : ByteArray) (h : 0 < s.size) : (s.data.toList.headD 0) = s[0] := by
  have h0 : 0 < s.data.toList.length := by simpa using h
  rw [List.headD_eq_head?_getD, List.head?_eq_getElem?, List.getElem?_eq_getElem h0]
  rfl
theorem ext_midR (s : ByteArray) (a k : Nat) : (s.extract a (a + k)).data.toList = (s.data.toList.drop a).take k := by
  simp
set_option maxHeartbeats 2000000 in
set_option maxRecDepth 100000 in
theorem rDecode_any (s : ByteArray) (w : World) (hs : s.size ≤ maxLen) :
    Calls Try.prog 12 #[.string s] w fun e w' => e = .returned (decV (decR s.data.toList)) ∧ Kept w w' := by
  have HLS : Hid (s.data.toList.length = s.size) := by show _ = _; simp
  have K0 : Hid (Kept w (w.alloc (.cells #[.int .u64 0, .int .u64 0, .int .i64 0, .int .u64 0, .int .i64 0] 26))) := (Kept.refl _).alloc _
  have S0 := Lib.hid (RtAt.new w 26)
  by_cases h64 : s.size = 64
  · have hsz : (s.size : Int) = 64 := by omega
    obtain ⟨k, hk⟩ : ∃ k : Nat, k = s[0].toNat := ⟨_, rfl⟩
    have hk256 : k < 256 := by rw [hk]; exact s[0].toNat_lt
    have hkl : (s.data.toList.headD 0).toNat = k := by rw [headR_get s (by omega), hk]
    have hki : (s[0].toNat : Int) = k := by rw [hk]
    clear hk
    have HL := Lib.hid hkl
    have HLL : Hid (s.data.toList.length = 64) := by show _ = _; have := HLS.out; omega
    clear hkl
    by_cases h1 : 64 ≤ k
    · have HE : Hid (decR s.data.toList = .none) := decR_long (.inr (by rw [HL.out]; exact h1))
      have hb : decide ((64 : Int) ≤ (k : Int)) = true := decide_eq_true (by omega)
      obtain ⟨p0, p1, p2, p3, p4, f0, f1, f2, f3, f4⟩ := S0.out
      dsimp only [Rt.none] at p0 p1 p2 p3 p4
      go_enter Try.func12, Try.ntmps12
      go_wp2_with fail
      rw [HE.out]
      exact bodyPost_ret (v := decV .none) (by simp [results, Try.results12, go_sem, decV, Rt.val, Rt.none]) rfl ⟨rfl, K0.out⟩
    have hb : decide ((64 : Int) ≤ (k : Int)) = false := decide_eq_false (by omega)
    have hb2 : 1 + (k : Int) ≤ 64 := by omega
    obtain ⟨y, hy⟩ : ∃ y : ByteArray, y = s.extract 1 (1 + k) := ⟨_, rfl⟩
    have hyz : y.size ≤ 64 := by rw [hy, ByteArray.size_extract]; omega
    have hyl : y.data.toList = (s.data.toList.drop 1).take k := by rw [hy, ext_midR s 1 k]
    have hsl : ∀ W, (Instr.slice 9 (.string s) (some (.int .i64 1)) (some (.int .i64 (1 + (k : Int)))) none).run Try.prog W = .ok (.string y) W := fun W => by
      have h := run_slice_string (P := Try.prog) W 9 s .i64 .i64 1 (1 + (k : Int)) Try.underlying9 (by omega) (by omega) (by omega)
      rw [show (1 + (k : Int)).toNat = 1 + k from by omega, show (1 : Int).toNat = 1 from rfl, ← hy] at h
      exact h
    have HOP := Lib.hid (fun W => refopen_any y W (by omega))
    rw [hyl] at HOP
    have HBAD : Hid (isSealed ((s.data.toList.drop 1).take k) = false → decR s.data.toList = .none) := fun h => decR_bad (by rw [HL.out]; exact h)
    have HDEC : Hid (isSealed ((s.data.toList.drop 1).take k) = true → decR s.data.toList = if (rdQ 281474976710656 281474976710656 4096 281474976710656 5376 (opn ((s.data.toList.drop 1).take k))).2 = 0 ∧ (rdQ 281474976710656 281474976710656 4096 281474976710656 5376 (opn ((s.data.toList.drop 1).take k))).1.may = true ∧ (rdQ 281474976710656 281474976710656 4096 281474976710656 5376 (opn ((s.data.toList.drop 1).take k))).1.raw = s.data.toList then some (rdQ 281474976710656 281474976710656 4096 281474976710656 5376 (opn ((s.data.toList.drop 1).take k))).1 else .none) := fun h => by
      have := decR_of s.data.toList 281474976710656 281474976710656 4096 281474976710656 5376 (by omega) (by omega) (by omega) (by omega) (by omega) HLL.out (by rw [HL.out]; omega) (by rw [HL.out]; exact h)
      rw [HL.out] at this
      exact this
    have HOPN : Hid (isSealed ((s.data.toList.drop 1).take k) = true → (opened y).data.toList = opn ((s.data.toList.drop 1).take k) ∧ (opened y).size ≤ maxLen) := fun h => by
      rw [← hyl] at h ⊢
      rw [opened_yes y h]
      refine ⟨?_, by rw [ByteArray.size_extract]; unfold maxLen; omega⟩
      rw [ext_take]
      unfold opn
      simp
    generalize opened y = oy at *
    clear hy hyl hyz
    cases hsd : isSealed ((s.data.toList.drop 1).take k) with
    | false =>
      have HE := Lib.hid (HBAD.out hsd)
      rw [hsd] at HOP
      clear HDEC HBAD HOPN hsd
      go_enter Try.func12, Try.ntmps12
      go_wp2_with fail
      refine (HOP.out _).mono ?_
      rintro e u1 ⟨rfl, hk⟩
      have K1 : Hid (Kept w u1) := K0.out.trans hk
      have S1 := Lib.hid (S0.out.kept hk)
      clear hk K0 S0 HOP
      have HP := Lib.hid (S1.out.put Rt.none)
      have HKP := Lib.hid (putRt_kept K1.out w.heap.size Rt.none (Nat.le_refl _))
      obtain ⟨p0, p1, p2, p3, p4, f0, f1, f2, f3, f4⟩ := S1.out
      unfold putRt at HP HKP
      dsimp only [Rt.none] at HP HKP p0 p1 p2 p3 p4
      go_wp2_with fail
      rw [HE.out]
      exact bodyPost_ret (v := decV .none) (by have q0 := HP.out.c0; have q1 := HP.out.c1; have q2 := HP.out.c2; have q3 := HP.out.c3; have q4 := HP.out.c4; (try simp at q0 q1 q2 q3 q4); simp [results, Try.results12, go_sem, decV, Rt.val, Rt.none, q0, q1, q2, q3, q4]) rfl ⟨rfl, HKP.out⟩
    | true =>
      rw [hsd] at HOP
      obtain ⟨hol, hoz⟩ := HOPN.out hsd
      have HLK := Lib.hid (HDEC.out hsd)
      obtain ⟨Q, hQ⟩ : ∃ Q, Q = opn ((s.data.toList.drop 1).take k) := ⟨_, rfl⟩
      rw [← hQ] at hol HLK
      clear hQ HOPN hsd HDEC HBAD
      have HRN := Lib.hid (fun W => RdAt.newR W oy hoz 70)
      rw [hol] at HRN
      clear hol hoz
      obtain ⟨q0, hq0⟩ : ∃ q, q = qNum 281474976710656 ⟨Q, 0⟩ := ⟨_, rfl⟩
      obtain ⟨q1, hq1⟩ : ∃ q, q = qNum 281474976710656 q0.2 := ⟨_, rfl⟩
      obtain ⟨q2, hq2⟩ : ∃ q, q = qNum 4096 q1.2 := ⟨_, rfl⟩
      obtain ⟨q3, hq3⟩ : ∃ q, q = qNum 281474976710656 q2.2 := ⟨_, rfl⟩
      obtain ⟨q4, hq4⟩ : ∃ q, q = qNum 5376 q3.2 := ⟨_, rfl⟩
      have l0 : q0.1 ≤ 281474976710656 := by rw [hq0]; exact qn_leR _ _
      have l1 : q1.1 ≤ 281474976710656 := by rw [hq1]; exact qn_leR _ _
      have l2 : q2.1 ≤ 4096 := by rw [hq2]; exact qn_leR _ _
      have l3 : q3.1 ≤ 281474976710656 := by rw [hq3]; exact qn_leR _ _
      have l4 : q4.1 ≤ 5376 := by rw [hq4]; exact qn_leR _ _
      have HD : rdQ 281474976710656 281474976710656 4096 281474976710656 5376 Q = (⟨q0.1, q1.1, (q2.1 : Nat), q3.1, (q4.1 : Nat)⟩, (qEnd q4.2).1) := by rw [hq4, hq3, hq2, hq1, hq0]; rfl
      rw [HD] at HLK
      dsimp only at HLK
      have HN0 : Hid (∀ b W, RdAt W b ⟨Q, 0⟩ → Calls Try.prog 30 #[.pointer (some ⟨b, 0, none⟩), .int .u64 281474976710656] W fun e w' => e = .returned (.int .u64 (q0.1 : Nat)) ∧ RdAt w' b q0.2 ∧ But b W w') := fun b W h => by
        have := refnum_any b _ 281474976710656 W h (by decide) (by decide)
        rw [show (281474976710656 : Int).toNat = 281474976710656 from rfl, ← hq0] at this
        exact this
      have HN1 : Hid (∀ b W, RdAt W b q0.2 → Calls Try.prog 30 #[.pointer (some ⟨b, 0, none⟩), .int .u64 281474976710656] W fun e w' => e = .returned (.int .u64 (q1.1 : Nat)) ∧ RdAt w' b q1.2 ∧ But b W w') := fun b W h => by
        have := refnum_any b _ 281474976710656 W h (by decide) (by decide)
        rw [show (281474976710656 : Int).toNat = 281474976710656 from rfl, ← hq1] at this
        exact this
      have HN2 : Hid (∀ b W, RdAt W b q1.2 → Calls Try.prog 30 #[.pointer (some ⟨b, 0, none⟩), .int .u64 4096] W fun e w' => e = .returned (.int .u64 (q2.1 : Nat)) ∧ RdAt w' b q2.2 ∧ But b W w') := fun b W h => by
        have := refnum_any b _ 4096 W h (by decide) (by decide)
        rw [show (4096 : Int).toNat = 4096 from rfl, ← hq2] at this
        exact this
      have HN3 : Hid (∀ b W, RdAt W b q2.2 → Calls Try.prog 30 #[.pointer (some ⟨b, 0, none⟩), .int .u64 281474976710656] W fun e w' => e = .returned (.int .u64 (q3.1 : Nat)) ∧ RdAt w' b q3.2 ∧ But b W w') := fun b W h => by
        have := refnum_any b _ 281474976710656 W h (by decide) (by decide)
        rw [show (281474976710656 : Int).toNat = 281474976710656 from rfl, ← hq3] at this
        exact this
      have HN4 : Hid (∀ b W, RdAt W b q3.2 → Calls Try.prog 30 #[.pointer (some ⟨b, 0, none⟩), .int .u64 5376] W fun e w' => e = .returned (.int .u64 (q4.1 : Nat)) ∧ RdAt w' b q4.2 ∧ But b W w') := fun b W h => by
        have := refnum_any b _ 5376 W h (by decide) (by decide)
        rw [show (5376 : Int).toNat = 5376 from rfl, ← hq4] at this
        exact this
      have HEN := Lib.hid (fun b W h => refend_any b q4.2 W h)
      obtain ⟨re, hre⟩ : ∃ re, re = (qEnd q4.2).1 := ⟨_, rfl⟩
      rw [← hre] at HLK HEN
      generalize (qEnd q4.2).2 = qz at *
      clear hq0 hq1 hq2 hq3 hq4 HD hre
      generalize q0.1 = n0 at *
      generalize q1.1 = n1 at *
      generalize q2.1 = n2 at *
      generalize q3.1 = n3 at *
      generalize q4.1 = n4 at *
      generalize q0.2 = r0 at *
      generalize q1.2 = r1 at *
      generalize q2.2 = r2 at *
      generalize q3.2 = r3 at *
      generalize q4.2 = r4 at *
      go_enter Try.func12, Try.ntmps12
      go_wp2_with fail
      refine (HOP.out _).mono ?_
      rintro e u1 ⟨rfl, hk⟩
      have K1 : Hid (Kept w u1) := K0.out.trans hk
      have S1 := Lib.hid (S0.out.kept hk)
      clear hk K0 S0 HOP
      go_upto_region 7 with fail
      have R2 := HRN.out u1
      have HB : Hid (w.heap.size < u1.heap.size) := S1.out.lt
      have kb : Kept u1 (u1.alloc (.cells #[.string oy, .int .i64 0] 70)) := (Kept.refl _).alloc _
      have S2 := Lib.hid (S1.out.kept kb)
      have K2 : Hid (Kept w (u1.alloc (.cells #[.string oy, .int .i64 0] 70))) := K1.out.trans kb
      replace R2 := Lib.hid R2
      clear kb S1 K1 HRN
      generalize u1.alloc (.cells #[.string oy, .int .i64 0] 70) = u2 at *
      generalize u1.heap.size = b at *
      go_wp2_with fail
      refine (HN0.out b _ R2.out).mono ?_
      rintro e u3 ⟨rfl, hr, hbt⟩
      have R3 := Lib.hid hr
      have S3 := Lib.hid (S2.out.but hbt (by have := HB.out; omega))
      have K3 : Hid (Kept w u3) := But.kept K2.out (by have := HB.out; omega) hbt
      clear hr hbt R2 S2 K2 HN0
      go_upto_region 8 with fail
      have kb : Kept u3 (u3.alloc (.cells #[.int .u64 (n0 : Nat), .int .u64 0, .int .i64 0, .int .u64 0, .int .i64 0] 26)) := (Kept.refl _).alloc _
      have X4 : Hid (RtAt (u3.alloc (.cells #[.int .u64 (n0 : Nat), .int .u64 0, .int .i64 0, .int .u64 0, .int .i64 0] 26)) u3.heap.size ⟨n0, 0, 0, 0, 0⟩) := RtAt.laid u3 26 ⟨n0, 0, 0, 0, 0⟩
      have HC : Hid (b < u3.heap.size) := R3.out.lt
      have R4 := Lib.hid (R3.out.kept kb)
      have S4 := Lib.hid (S3.out.kept kb)
      have K4 : Hid (Kept w (u3.alloc (.cells #[.int .u64 (n0 : Nat), .int .u64 0, .int .i64 0, .int .u64 0, .int .i64 0] 26))) := K3.out.trans kb
      clear kb R3 S3 K3
      generalize u3.alloc (.cells #[.int .u64 (n0 : Nat), .int .u64 0, .int .i64 0, .int .u64 0, .int .i64 0] 26) = u4 at *
      generalize u3.heap.size = c at *
      have hbc := HC.out
      have hwb := HB.out
      go_wp2_with fail
      refine (HN1.out b _ R4.out).mono ?_
      rintro e v5 ⟨rfl, hr, hbt⟩
      have R5 := Lib.hid hr
      have S5 := Lib.hid (S4.out.but hbt (by omega))
      have X5 := Lib.hid (X4.out.but hbt (by omega))
      have K5 : Hid (Kept w v5) := But.kept K4.out (by omega) hbt
      clear hr hbt R4 S4 X4 K4 HN1
      have x1 := X5.out.c1
      have y1 := X5.out.f1
      (try dsimp only at x1)
      go_upto_region 9 with fail
      have bs := But.ofSetR v5 c 1 (.int .u64 (n1 : Nat))
      have R6 := Lib.hid (R5.out.but bs (by omega))
      have S6 := Lib.hid (S5.out.but bs (by omega))
      have X6 := Lib.hid (X5.out.set1 (n1 : Nat))
      have K6 : Hid (Kept w (v5.setCell ⟨c, 1, none⟩ (.int .u64 (n1 : Nat)))) := But.kept K5.out (by omega) bs
      clear bs R5 S5 X5 K5 x1 y1
      generalize v5.setCell ⟨c, 1, none⟩ (.int .u64 (n1 : Nat)) = v6 at *
      (try dsimp only at X6)
      go_wp2_with fail
      refine (HN2.out b _ R6.out).mono ?_
      rintro e v7 ⟨rfl, hr, hbt⟩
      have R7 := Lib.hid hr
      have S7 := Lib.hid (S6.out.but hbt (by omega))
      have X7 := Lib.hid (X6.out.but hbt (by omega))
      have K7 : Hid (Kept w v7) := But.kept K6.out (by omega) hbt
      clear hr hbt R6 S6 X6 K6 HN2
      have x1 := X7.out.c2
      have y1 := X7.out.f2
      (try dsimp only at x1)
      go_upto_region 10 with fail
      have bs := But.ofSetR v7 c 2 (.int .i64 (n2 : Nat))
      have R8 := Lib.hid (R7.out.but bs (by omega))
      have S8 := Lib.hid (S7.out.but bs (by omega))
      have X8 := Lib.hid (X7.out.set2 (n2 : Nat))
      have K8 : Hid (Kept w (v7.setCell ⟨c, 2, none⟩ (.int .i64 (n2 : Nat)))) := But.kept K7.out (by omega) bs
      clear bs R7 S7 X7 K7 x1 y1
      generalize v7.setCell ⟨c, 2, none⟩ (.int .i64 (n2 : Nat)) = v8 at *
      (try dsimp only at X8)
      go_wp2_with fail
      refine (HN3.out b _ R8.out).mono ?_
      rintro e v9 ⟨rfl, hr, hbt⟩
      have R9 := Lib.hid hr
      have S9 := Lib.hid (S8.out.but hbt (by omega))
      have X9 := Lib.hid (X8.out.but hbt (by omega))
      have K9 : Hid (Kept w v9) := But.kept K8.out (by omega) hbt
      clear hr hbt R8 S8 X8 K8 HN3
      have x1 := X9.out.c3
      have y1 := X9.out.f3
      (try dsimp only at x1)
      go_upto_region 11 with fail
      have bs := But.ofSetR v9 c 3 (.int .u64 (n3 : Nat))
      have R10 := Lib.hid (R9.out.but bs (by omega))
      have S10 := Lib.hid (S9.out.but bs (by omega))
      have X10 := Lib.hid (X9.out.set3 (n3 : Nat))
      have K10 : Hid (Kept w (v9.setCell ⟨c, 3, none⟩ (.int .u64 (n3 : Nat)))) := But.kept K9.out (by omega) bs
      clear bs R9 S9 X9 K9 x1 y1
      generalize v9.setCell ⟨c, 3, none⟩ (.int .u64 (n3 : Nat)) = v10 at *
      (try dsimp only at X10)
      go_wp2_with fail
      refine (HN4.out b _ R10.out).mono ?_
      rintro e v11 ⟨rfl, hr, hbt⟩
      have R11 := Lib.hid hr
      have S11 := Lib.hid (S10.out.but hbt (by omega))
      have X11 := Lib.hid (X10.out.but hbt (by omega))
      have K11 : Hid (Kept w v11) := But.kept K10.out (by omega) hbt
      clear hr hbt R10 S10 X10 K10 HN4
      have x1 := X11.out.c4
      have y1 := X11.out.f4
      (try dsimp only at x1)
      go_upto_region 12 with fail
      have bs := But.ofSetR v11 c 4 (.int .i64 (n4 : Nat))
      have R12 := Lib.hid (R11.out.but bs (by omega))
      have S12 := Lib.hid (S11.out.but bs (by omega))
      have X12 := Lib.hid (X11.out.set4 (n4 : Nat))
      have K12 : Hid (Kept w (v11.setCell ⟨c, 4, none⟩ (.int .i64 (n4 : Nat)))) := But.kept K11.out (by omega) bs
      clear bs R11 S11 X11 K11 x1 y1
      generalize v11.setCell ⟨c, 4, none⟩ (.int .i64 (n4 : Nat)) = v12 at *
      (try dsimp only at X12)
      go_wp2_with fail
      refine (HEN.out b _ R12.out).mono ?_
      rintro e z1 ⟨rfl, hr, hbt⟩
      have S := Lib.hid (S12.out.but hbt (by omega))
      have X := Lib.hid (X12.out.but hbt (by omega))
      have K : Hid (Kept w z1) := But.kept K12.out (by omega) hbt
      clear hr hbt R12 S12 X12 K12 HEN
      have HM : Hid (∀ W, Calls Try.prog 26 #[.agg #[.int .u64 (n0 : Nat), .int .u64 (n1 : Nat), .int .i64 (n2 : Nat), .int .u64 (n3 : Nat), .int .i64 (n4 : Nat)]] W fun e w' => e = .returned (.bool (Rt.may ⟨n0, n1, (n2 : Nat), n3, (n4 : Nat)⟩)) ∧ Kept W w') := fun W => rMay_any ⟨n0, n1, (n2 : Nat), n3, (n4 : Nat)⟩ W
      have HRW : Hid (Rt.may ⟨n0, n1, (n2 : Nat), n3, (n4 : Nat)⟩ = true → ∀ W, Calls Try.prog 27 #[.agg #[.int .u64 (n0 : Nat), .int .u64 (n1 : Nat), .int .i64 (n2 : Nat), .int .u64 (n3 : Nat), .int .i64 (n4 : Nat)]] W fun e w' => e = .returned (.string (Rt.txt ⟨n0, n1, (n2 : Nat), n3, (n4 : Nat)⟩)) ∧ Kept W w') := fun h W => rRaw_any ⟨n0, n1, (n2 : Nat), n3, (n4 : Nat)⟩ W h
      have x0 := X.out.c0
      have x1 := X.out.c1
      have x2 := X.out.c2
      have x3 := X.out.c3
      have x4 := X.out.c4
      (try dsimp only at x0 x1 x2 x3 x4)
      by_cases hre : re = 0
      · have d1 : ((re : Int) != 0) = false := by rw [hre]; rfl
        go_wp2_with fail
        refine (HM.out _).mono ?_
        rintro e z2 ⟨rfl, hk⟩
        have S2 := Lib.hid (S.out.kept hk)
        have X2 := Lib.hid (X.out.kept hk)
        have K2 : Hid (Kept w z2) := K.out.trans hk
        clear hk S X K x0 x1 x2 x3 x4
        cases hmy : Rt.may ⟨n0, n1, (n2 : Nat), n3, (n4 : Nat)⟩ with
        | false =>
          have HE : Hid (decR s.data.toList = .none) := by
            show _ = _
            rw [HLK.out, if_neg]
            rintro ⟨_, a, _⟩
            rw [hmy] at a
            cases a
          clear hmy HLK HRW
          have HP := Lib.hid (S2.out.put Rt.none)
          have HKP := Lib.hid (putRt_kept K2.out w.heap.size Rt.none (Nat.le_refl _))
          obtain ⟨p0, p1, p2, p3, p4, f0, f1, f2, f3, f4⟩ := S2.out
          unfold putRt at HP HKP
          dsimp only [Rt.none] at HP HKP p0 p1 p2 p3 p4
          go_wp2_with fail
          rw [HE.out]
          exact bodyPost_ret (v := decV .none) (by have q0 := HP.out.c0; have q1 := HP.out.c1; have q2 := HP.out.c2; have q3 := HP.out.c3; have q4 := HP.out.c4; (try simp at q0 q1 q2 q3 q4); simp [results, Try.results12, go_sem, decV, Rt.val, Rt.none, q0, q1, q2, q3, q4]) rfl ⟨rfl, HKP.out⟩
        | true =>
          have HRW2 := Lib.hid (HRW.out hmy)
          have x0 := X2.out.c0
          have x1 := X2.out.c1
          have x2 := X2.out.c2
          have x3 := X2.out.c3
          have x4 := X2.out.c4
          (try dsimp only at x0 x1 x2 x3 x4)
          go_wp2_with fail
          refine (HRW2.out _).mono ?_
          rintro e z3 ⟨rfl, hk⟩
          have S3 := Lib.hid (S2.out.kept hk)
          have X3 := Lib.hid (X2.out.kept hk)
          have K3 : Hid (Kept w z3) := K2.out.trans hk
          clear hk S2 X2 K2 x0 x1 x2 x3 x4 HRW2 HRW
          have HTE := Lib.hid (txt_same (Rt.txt ⟨n0, n1, (n2 : Nat), n3, (n4 : Nat)⟩) s)
          have hxr : (Rt.txt ⟨n0, n1, (n2 : Nat), n3, (n4 : Nat)⟩).data.toList = Rt.raw ⟨n0, n1, (n2 : Nat), n3, (n4 : Nat)⟩ := rfl
          rw [hxr] at HTE
          have hml : Rt.may ⟨n0, n1, (n2 : Nat), n3, (n4 : Nat)⟩ = true := hmy
          clear hxr
          by_cases hrw : Rt.raw ⟨n0, n1, (n2 : Nat), n3, (n4 : Nat)⟩ = s.data.toList
          · have e5 : ((Rt.txt ⟨n0, n1, (n2 : Nat), n3, (n4 : Nat)⟩).toList == s.toList) = true := by rw [HTE.out]; exact decide_eq_true hrw
            have HE : Hid (decR s.data.toList = some ⟨n0, n1, (n2 : Nat), n3, (n4 : Nat)⟩) := by
              show _ = _
              rw [HLK.out, if_pos ⟨hre, hml, hrw⟩]
            clear hrw hml HTE HLK
            have HP := Lib.hid (S3.out.put ⟨n0, n1, (n2 : Nat), n3, (n4 : Nat)⟩)
            have HKP := Lib.hid (putRt_kept K3.out w.heap.size ⟨n0, n1, (n2 : Nat), n3, (n4 : Nat)⟩ (Nat.le_refl _))
            obtain ⟨p0, p1, p2, p3, p4, f0, f1, f2, f3, f4⟩ := S3.out
            unfold putRt at HP HKP
            dsimp only [Rt.none] at HP HKP p0 p1 p2 p3 p4
            have x0 := X3.out.c0
            have x1 := X3.out.c1
            have x2 := X3.out.c2
            have x3 := X3.out.c3
            have x4 := X3.out.c4
            (try dsimp only at x0 x1 x2 x3 x4)
            go_wp2_with fail
            rw [HE.out]
            exact bodyPost_ret (v := decV (some ⟨n0, n1, (n2 : Nat), n3, (n4 : Nat)⟩)) (by have q0 := HP.out.c0; have q1 := HP.out.c1; have q2 := HP.out.c2; have q3 := HP.out.c3; have q4 := HP.out.c4; (try simp at q0 q1 q2 q3 q4); simp [results, Try.results12, go_sem, decV, Rt.val, q0, q1, q2, q3, q4]) rfl ⟨rfl, HKP.out⟩
          · have e5 : ((Rt.txt ⟨n0, n1, (n2 : Nat), n3, (n4 : Nat)⟩).toList == s.toList) = false := by rw [HTE.out]; exact decide_eq_false hrw
            have HE : Hid (decR s.data.toList = .none) := by
              show _ = _
              rw [HLK.out, if_neg]
              rintro ⟨_, _, a⟩
              exact hrw a
            clear hrw hml HTE HLK
            have HP := Lib.hid (S3.out.put Rt.none)
            have HKP := Lib.hid (putRt_kept K3.out w.heap.size Rt.none (Nat.le_refl _))
            obtain ⟨p0, p1, p2, p3, p4, f0, f1, f2, f3, f4⟩ := S3.out
            unfold putRt at HP HKP
            dsimp only [Rt.none] at HP HKP p0 p1 p2 p3 p4
            go_wp2_with fail
            rw [HE.out]
            exact bodyPost_ret (v := decV .none) (by have q0 := HP.out.c0; have q1 := HP.out.c1; have q2 := HP.out.c2; have q3 := HP.out.c3; have q4 := HP.out.c4; (try simp at q0 q1 q2 q3 q4); simp [results, Try.results12, go_sem, decV, Rt.val, Rt.none, q0, q1, q2, q3, q4]) rfl ⟨rfl, HKP.out⟩
      · have d1 : ((re : Int) != 0) = true := by rw [bne_iff_ne]; omega
        have HE : Hid (decR s.data.toList = .none) := by
          show _ = _
          rw [HLK.out, if_neg]
          rintro ⟨a, _⟩
          exact hre a
        clear HLK
        have HP := Lib.hid (S.out.put Rt.none)
        have HKP := Lib.hid (putRt_kept K.out w.heap.size Rt.none (Nat.le_refl _))
        obtain ⟨p0, p1, p2, p3, p4, f0, f1, f2, f3, f4⟩ := S.out
        unfold putRt at HP HKP
        dsimp only [Rt.none] at HP HKP p0 p1 p2 p3 p4
        go_wp2_with fail
        rw [HE.out]
        exact bodyPost_ret (v := decV .none) (by have q0 := HP.out.c0; have q1 := HP.out.c1; have q2 := HP.out.c2; have q3 := HP.out.c3; have q4 := HP.out.c4; (try simp at q0 q1 q2 q3 q4); simp [results, Try.results12, go_sem, decV, Rt.val, Rt.none, q0, q1, q2, q3, q4]) rfl ⟨rfl, HKP.out⟩
  · have HE := Lib.hid (decR_long (l := s.data.toList) (.inl (by have := HLS.out; omega)))
    have hb : ((s.size : Int) != 64) = true := by rw [bne_iff_ne]; omega
    clear h64
    obtain ⟨p0, p1, p2, p3, p4, f0, f1, f2, f3, f4⟩ := S0.out
    dsimp only [Rt.none] at p0 p1 p2 p3 p4
    go_enter Try.func12, Try.ntmps12
    go_wp2_with fail
    exact bodyPost_ret (v := decV .none) (by simp [results, Try.results12, go_sem, decV, Rt.val, Rt.none]) rfl ⟨by rw [HE.out], K0.out⟩
end Go.Proofs.Ytoekaabngjjefaa

/- The document's Encode. -/
namespace Go.Proofs.Ytoekaabngjjefaa
open Go.RowKit Sm Wr _root_.Go.Proofs.Ytoekaabngjjefaa.Nm
set_option linter.unusedVariables false
def encV (x : Rt) : Value := if x.may = true then .tuple #[.string x.txt, .int .i64 0] else .tuple #[.string ⟨#[]⟩, .int .i64 2]
set_option maxRecDepth 100000 in
theorem rEncode_any (x : Rt) (w : World) :
    Calls Try.prog 10 #[x.val] w fun e w' => e = .returned (encV x) ∧ Kept w w' := by
  have HM := Lib.hid (fun W => rMay_any x W)
  have HR := Lib.hid (fun W h => rRaw_any x W h)
  have HE : Hid (encV x = if x.may = true then .tuple #[.string x.txt, .int .i64 0] else .tuple #[.string ⟨#[]⟩, .int .i64 2]) := rfl
  have HV : Hid (x.val = .agg #[.int .u64 (x.gen : Nat), .int .u64 (x.nxt : Nat), .int .i64 x.row, .int .u64 (x.st : Nat), .int .i64 x.len]) := rfl
  rw [HV.out] at HM HR ⊢
  obtain ⟨a, ha⟩ : ∃ a, a = x.gen := ⟨_, rfl⟩
  obtain ⟨b, hb⟩ : ∃ a, a = x.nxt := ⟨_, rfl⟩
  obtain ⟨c, hc⟩ : ∃ a, a = x.row := ⟨_, rfl⟩
  obtain ⟨d, hd⟩ : ∃ a, a = x.st := ⟨_, rfl⟩
  obtain ⟨l, hl⟩ : ∃ a, a = x.len := ⟨_, rfl⟩
  rw [← ha, ← hb, ← hc, ← hd, ← hl] at HM HR ⊢
  clear ha hb hc hd hl HV
  generalize encV x = ev at *
  generalize x.txt = tx at *
  generalize x.may = m at *
  clear x
  go_enter Try.func10, Try.ntmps10
  go_wp2_with fail
  refine (HM.out _).mono ?_
  rintro e w1 ⟨rfl, hk⟩
  have K1 : Hid (Kept w w1) := ((Kept.refl _).alloc _).trans hk
  have X1 := Lib.hid ((RtAt.laid w 26 ⟨a, b, c, d, l⟩).kept hk)
  clear hk HM
  cases m with
  | false =>
    have HE2 : Hid (ev = .tuple #[.string ⟨#[]⟩, .int .i64 2]) := HE.out
    clear HE X1 HR
    go_wp2_with fail
    exact bodyPost_ret (v := .tuple #[.string ⟨#[]⟩, .int .i64 2]) (by simp [results, Try.results10, go_sem]) rfl ⟨by rw [HE2.out], K1.out⟩
  | true =>
    have HE2 : Hid (ev = .tuple #[.string tx, .int .i64 0]) := HE.out
    have HR2 := Lib.hid (fun W => HR.out W rfl)
    have x0 := X1.out.c0
    have x1 := X1.out.c1
    have x2 := X1.out.c2
    have x3 := X1.out.c3
    have x4 := X1.out.c4
    dsimp only at x0 x1 x2 x3 x4
    clear HE HR
    go_wp2_with fail
    refine (HR2.out _).mono ?_
    rintro e w2 ⟨rfl, hk⟩
    have K2 : Hid (Kept w w2) := K1.out.trans hk
    clear hk HR2 K1 x0 x1 x2 x3 x4 X1
    go_wp2_with fail
    exact bodyPost_ret (v := .tuple #[.string tx, .int .i64 0]) (by simp [results, Try.results10, go_sem]) rfl ⟨by rw [HE2.out], K2.out⟩
end Go.Proofs.Ytoekaabngjjefaa

/- A geo, plain: which may be; does a rack fit it; what Vote tells. -/
namespace Go.Proofs.Ytoekaabngjjefaa
open Go.RowKit Sm Wr _root_.Go.Proofs.Ytoekaabngjjefaa.Nm
set_option linter.unusedVariables false
/-- A geo: drives, parity, sectors, tail. -/
structure Geo where
  n : Int
  p : Int
  m : Int
  t : Int
namespace Geo
def val (g : Geo) : Value := .agg #[.int .i64 g.n, .int .i64 g.p, .int .i64 g.m, .int .i64 g.t]
structure Wf (g : Geo) : Prop where
  n1 : -9223372036854775808 ≤ g.n
  n2 : g.n ≤ 9223372036854775807
  p1 : -9223372036854775808 ≤ g.p
  p2 : g.p ≤ 9223372036854775807
  m1 : -9223372036854775808 ≤ g.m
  m2 : g.m ≤ 9223372036854775807
  t1 : -9223372036854775808 ≤ g.t
  t2 : g.t ≤ 9223372036854775807
def may (g : Geo) : Bool := decide (1 ≤ g.n ∧ g.n ≤ 12 ∧ 0 ≤ g.p ∧ g.p < g.n ∧ 2 ≤ g.t ∧ g.t ≤ 512 ∧ g.m ≤ 4096 ∧ 10 + 2 * g.t ≤ g.m)
theorem may_iff (g : Geo) : g.may = true ↔ 1 ≤ g.n ∧ g.n ≤ 12 ∧ 0 ≤ g.p ∧ g.p < g.n ∧ 2 ≤ g.t ∧ g.t ≤ 512 ∧ g.m ≤ 4096 ∧ 10 + 2 * g.t ≤ g.m := decide_eq_true_iff
/-- Does a rack fit? -/
def fits (g : Geo) (s : RSt) : Bool := g.may && decide ((s.n : Int) = g.n) && decide ((s.m : Int) = g.m)
end Geo
theorem RtAt.only {w w' : World} {g lo hi : Nat} {x : Rt} (h : RtAt w g x) (k : Only lo hi w w') (hb : hi ≤ g) : RtAt w' g x := h.frame (k.block g h.lt (.inr hb))
theorem readT_64 (s : RSt) (h : s.Wf) (d i : Int) (he : s.readE d i = 0) : (s.readT d i).size = 64 := by
  unfold RSt.readT
  rw [if_pos he]
  have ht : s.there d i = true := by
    unfold RSt.readE at he
    split at he
    · cases he
    · split at he
      · cases he
      · rename_i h2; cases hq : s.there d i
        · exact absurd hq h2
        · rfl
  obtain ⟨d', i', rfl, rfl, hd, hi⟩ := RSt.there_iff ht
  rw [Int.toNat_natCast, Int.toNat_natCast, mk_len]
  exact h.len d' i' hd hi
structure GeoAt (w : World) (b : Nat) (g : Geo) : Prop where
  c0 : w.cell? ⟨b, 0, none⟩ = some (.int .i64 g.n)
  c1 : w.cell? ⟨b, 1, none⟩ = some (.int .i64 g.p)
  c2 : w.cell? ⟨b, 2, none⟩ = some (.int .i64 g.m)
  c3 : w.cell? ⟨b, 3, none⟩ = some (.int .i64 g.t)
theorem GeoAt.frame {w w' : World} {b : Nat} {g : Geo} (h : GeoAt w b g) (e : w'.heap[b]? = w.heap[b]?) : GeoAt w' b g := by
  have ce : ∀ o, w'.cell? ⟨b, o, none⟩ = w.cell? ⟨b, o, none⟩ := fun o => World.cell?_of_block (w := w) (a := ⟨b, o, none⟩) e
  exact ⟨by rw [ce]; exact h.c0, by rw [ce]; exact h.c1, by rw [ce]; exact h.c2, by rw [ce]; exact h.c3⟩
theorem GeoAt.lt {w : World} {b : Nat} {g : Geo} (h : GeoAt w b g) : b < w.heap.size := block_lt_of_cell h.c0
theorem GeoAt.kept {w w' : World} {b : Nat} {g : Geo} (h : GeoAt w b g) (k : Kept w w') : GeoAt w' b g := h.frame (k.block b h.lt)
theorem GeoAt.only {w w' : World} {b lo hi : Nat} {g : Geo} (h : GeoAt w b g) (k : Only lo hi w w') (hb : hi ≤ b) : GeoAt w' b g := h.frame (k.block b h.lt (.inr hb))
theorem GeoAt.laid (w : World) (T : TypeId) (g : Geo) : GeoAt (w.alloc (.cells #[.int .i64 g.n, .int .i64 g.p, .int .i64 g.m, .int .i64 g.t] T)) w.heap.size g := by
  constructor
  all_goals (rw [World.cell?_alloc_mark]; rfl)
def voteR (s : RSt) (g : Geo) : Rt × List Bool × Nat :=
  if g.fits s = false then (Rt.none, [], 2)
  else if s.down = true then (Rt.none, [], 71)
  else if g.p < ((vTo s s.n).2 : Nat) then (Rt.none, [], 90)
  else ((vTo s s.n).1, (List.range s.n).map (fun d => hasR (vTo s s.n).1 (slotsR s d)), 0)
/-- What Write of a root answers and leaves. -/
def docW (s : RSt) (g : Geo) (x : Rt) : Nat × RSt := if g.fits s = true ∧ x.may = true then wrTo s x s.n else (2, s)
end Go.Proofs.Ytoekaabngjjefaa

/- The program's: which roots may be, which geos may be. -/
namespace Go.Proofs.Ytoekaabngjjefaa
open Go.RowKit Sm Wr _root_.Go.Proofs.Ytoekaabngjjefaa.Nm
set_option linter.unusedVariables false
def genB (n : Nat) : Bool := decide (1 ≤ n ∧ n ≤ 281474976710656)
theorem mayGen_any (n : Nat) (w : World) :
    Calls Try.prog 45 #[.int .u64 (n : Nat)] w fun e w' => e = .returned (.bool (genB n)) ∧ Kept w w' := by
  have HM : Hid (genB n = true ↔ 1 ≤ n ∧ n ≤ 281474976710656) := by show _; unfold genB; exact decide_eq_true_iff
  have fin : ∀ r : Bool, (r = true ↔ genB n = true) → Ending.returned (.bool r) = Ending.returned (.bool (genB n)) := fun r h => by rw [Bool.eq_iff_iff.2 h]
  have HF := Lib.hid fin
  clear fin
  generalize genB n = mb at *
  go_enter Try.func45, Try.ntmps45
  go_wp2_with fail
  all_goals
    go_ret
    refine ⟨HF.out _ ?_, Kept.refl _⟩
    rw [HM.out]
    clear HF HM
    simp only [decide_eq_true_eq, Bool.false_eq_true, false_iff]
    omega
def headB (a : Int) (b : Nat) (c : Int) : Bool := decide (0 ≤ a ∧ a ≤ 4096 ∧ (1 ≤ b ∧ b ≤ 281474976710656) ∧ 1 ≤ c ∧ c ≤ 5376)
set_option maxRecDepth 100000 in
theorem mayHead_any (a : Int) (b : Nat) (c : Int) (w : World) :
    Calls Try.prog 46 #[.agg #[.int .i64 a, .int .u64 (b : Nat), .int .i64 c]] w fun e w' => e = .returned (.bool (headB a b c)) ∧ Kept w w' := by
  have HM : Hid (headB a b c = true ↔ 0 ≤ a ∧ a ≤ 4096 ∧ (1 ≤ b ∧ b ≤ 281474976710656) ∧ 1 ≤ c ∧ c ≤ 5376) := by show _; unfold headB; exact decide_eq_true_iff
  have fin : ∀ r : Bool, (r = true ↔ headB a b c = true) → Ending.returned (.bool r) = Ending.returned (.bool (headB a b c)) := fun r h => by rw [Bool.eq_iff_iff.2 h]
  have HF := Lib.hid fin
  have HG := Lib.hid (fun W => mayGen_any b W)
  have HGB : Hid (genB b = true ↔ 1 ≤ b ∧ b ≤ 281474976710656) := by show _; unfold genB; exact decide_eq_true_iff
  clear fin
  generalize headB a b c = mb at *
  generalize genB b = gb at *
  have X0 : Hid ((w.alloc (.cells #[.int .i64 a, .int .u64 (b : Nat), .int .i64 c] 24)).cell? ⟨w.heap.size, 2, none⟩ = some (.int .i64 c)) := newR_cell w _ _ 2 _ rfl
  by_cases h1 : 0 ≤ a ∧ a ≤ 4096
  · obtain ⟨h1, h2⟩ := h1
    go_enter Try.func46, Try.ntmps46
    go_wp2_with fail
    refine (HG.out _).mono ?_
    rintro e w1 ⟨rfl, hk⟩
    have K1 : Hid (Kept w w1) := ((Kept.refl _).alloc _).trans hk
    have x2 := cellR_kept X0.out hk
    clear hk HG X0
    cases gb with
    | false =>
      go_wp2_with fail
      go_ret
      refine ⟨HF.out _ ?_, K1.out⟩
      rw [HM.out, ← HGB.out]
      simp
    | true =>
      go_wp2_with fail
      all_goals
        go_ret
        refine ⟨HF.out _ ?_, K1.out⟩
        have h3 := HGB.out.1 trivial
        rw [HM.out]
        clear HF HM HGB
        simp only [decide_eq_true_eq, Bool.false_eq_true, false_iff]
        omega
  · go_enter Try.func46, Try.ntmps46
    have hf : ∀ r, (r = true ↔ False) → Ending.returned (.bool r) = Ending.returned (.bool mb) := fun r hr => HF.out r (by rw [HM.out, hr]; exact ⟨False.elim, fun h => h1 ⟨h.1, h.2.1⟩⟩)
    have HFF := Lib.hid hf
    clear hf HG HGB HM HF
    rcases Int.lt_or_le a 0 with h2 | h2
    · go_wp2_with fail
      go_ret
      exact ⟨HFF.out _ (by decide), (Kept.refl _).alloc _⟩
    · have h3 : 4096 < a := by omega
      go_wp2_with fail
      go_ret
      exact ⟨HFF.out _ (by decide), (Kept.refl _).alloc _⟩
set_option maxRecDepth 100000 in
theorem pMay_any (x : Rt) (w : World) :
    Calls Try.prog 23 #[x.val] w fun e w' => e = .returned (.bool x.may) ∧ Kept w w' := by
  have fin : ∀ r : Bool, (r = true ↔ x.may = true) → Ending.returned (.bool r) = Ending.returned (.bool x.may) := fun r h => by rw [Bool.eq_iff_iff.2 h]
  have HF := Lib.hid fin
  have HM := Lib.hid x.may_bool
  have HG0 := Lib.hid (fun W => mayGen_any x.gen W)
  have HG1 := Lib.hid (fun W => mayGen_any x.nxt W)
  have HH := Lib.hid (fun W => mayHead_any x.row x.st x.len W)
  have B0 : Hid (genB x.gen = true ↔ 1 ≤ x.gen ∧ x.gen ≤ 281474976710656) := by show _; unfold genB; exact decide_eq_true_iff
  have B1 : Hid (genB x.nxt = true ↔ 1 ≤ x.nxt ∧ x.nxt ≤ 281474976710656) := by show _; unfold genB; exact decide_eq_true_iff
  have BH : Hid (headB x.row x.st x.len = true ↔ 0 ≤ x.row ∧ x.row ≤ 4096 ∧ (1 ≤ x.st ∧ x.st ≤ 281474976710656) ∧ 1 ≤ x.len ∧ x.len ≤ 5376) := by show _; unfold headB; exact decide_eq_true_iff
  have X0 := Lib.hid (RtAt.laid w 26 x)
  clear fin
  obtain ⟨a, b, c, d, l⟩ := x
  unfold Rt.val
  dsimp only at *
  generalize Rt.may ⟨a, b, c, d, l⟩ = mb at *
  generalize genB a = ga at *
  generalize genB b = gb at *
  generalize headB c d l = gh at *
  go_enter Try.func23, Try.ntmps23
  go_wp2_with fail
  refine (HG0.out _).mono ?_
  rintro e w1 ⟨rfl, hk⟩
  have K1 : Hid (Kept w w1) := ((Kept.refl _).alloc _).trans hk
  have X1 := Lib.hid (X0.out.kept hk)
  clear hk HG0 X0
  cases ga with
  | false =>
    go_wp2_with fail
    go_ret
    refine ⟨HF.out _ ?_, K1.out⟩
    rw [HM.out]
    have := B0.out
    clear HF HM
    simp at this ⊢
    omega
  | true =>
    have x1 := X1.out.c1
    dsimp only at x1
    go_wp2_with fail
    refine (HG1.out _).mono ?_
    rintro e w2 ⟨rfl, hk⟩
    have K2 : Hid (Kept w w2) := K1.out.trans hk
    have X2 := Lib.hid (X1.out.kept hk)
    clear hk HG1 X1 K1 x1
    cases gb with
    | false =>
      go_wp2_with fail
      go_ret
      refine ⟨HF.out _ ?_, K2.out⟩
      rw [HM.out]
      have := B1.out
      clear HF HM
      simp at this ⊢
      omega
    | true =>
      have x2 := X2.out.c2
      have x3 := X2.out.c3
      have x4 := X2.out.c4
      dsimp only at x2 x3 x4
      have h0 := B0.out.1 trivial
      have h1 := B1.out.1 rfl
      have HFIN : Hid (∀ r : Bool, (r = true ↔ (c = 0 ∧ d = 0 ∧ l = 0) ∨ gh = true) → Ending.returned (.bool r) = Ending.returned (.bool mb)) := fun r hr => HF.out r (by rw [HM.out, hr, BH.out]; omega)
      clear HF HM BH B0 B1 X2 h0 h1
      go_wp2_with fail
      all_goals first
        | (go_ret; exact ⟨HFIN.out _ (by simp [*]), K2.out⟩)
        | (subst_vars
           refine (HH.out _).mono ?_
           rintro e w3 ⟨rfl, hk⟩
           go_wp2_with fail
           go_ret
           exact ⟨HFIN.out _ (by simp [*]), K2.out.trans hk⟩)
end Go.Proofs.Ytoekaabngjjefaa

/- The program's: which geos may be; does a rack fit. -/
namespace Go.Proofs.Ytoekaabngjjefaa
open Go.RowKit Sm Wr _root_.Go.Proofs.Ytoekaabngjjefaa.Nm
set_option linter.unusedVariables false
theorem slotOf_any (x : Rt) (w : World) :
    Calls Try.prog 35 #[x.val] w fun e w' => e = .returned (.int .i64 (x.me : Nat)) ∧ Kept w w' := by
  have X0 := Lib.hid (RtAt.laid w 26 x)
  have ht1 : (x.gen : Int).tmod 2 = (x.me : Nat) := by unfold Rt.me; rw [Int.tmod_eq_emod_of_nonneg (by omega)]; omega
  have ht2 : IntKind.u64.wrap (x.me : Int) = (x.me : Int) := IntWalk.u64_in _ (by have := x.me_lt; omega)
  have ht3 : IntKind.i64.wrap (x.me : Int) = (x.me : Int) := IntWalk.i64_in _ (by have := x.me_lt; omega)
  unfold Rt.val
  go_enter Try.func35, Try.ntmps35
  go_wp2_with fail
  go_ret
  exact ⟨rfl, (Kept.refl _).alloc _⟩
theorem ahead_any (g : Geo) (w : World) (h1 : 2 ≤ g.t) (h2 : g.t ≤ 512) :
    Calls Try.prog 81 #[g.val] w fun e w' => e = .returned (.int .i64 (2 + 2 * g.t)) ∧ Kept w w' := by
  obtain ⟨a, b, c, d⟩ := g
  dsimp only at h1 h2 ⊢
  unfold Geo.val
  dsimp only
  go_enter Try.func81, Try.ntmps81
  go_wp2_with fail
  go_ret
  exact ⟨rfl, (Kept.refl _).alloc _⟩
theorem wp_quietG {P : Program} {C : World → Prop} {id : Nat} {Q : Exit → Act → World → Prop} {a : Act} {w : World} {l : List Oper} (hm : P.follows .mixedOrders = true) (hB : Region.lexB .any l.toArray = true) (hC : C w.drew)
    (h : wpQuiet P l.toArray C (fun a' => ∀ w', C w' → Q .normal a' w') l a) : (Code.region id l.toArray true).wp P Q a w :=
  wp_region_quiet (C := C) hm hB hC (by simpa using h)
set_option maxHeartbeats 2000000 in
set_option maxRecDepth 100000 in
theorem pGeo_any (g : Geo) (w : World) :
    Calls Try.prog 59 #[g.val] w fun e w' => e = .returned (.bool g.may) ∧ Kept w w' := by
  have fin : ∀ r : Bool, (r = true ↔ g.may = true) → Ending.returned (.bool r) = Ending.returned (.bool g.may) := fun r h => by rw [Bool.eq_iff_iff.2 h]
  have HM := Lib.hid g.may_iff
  have HF := Lib.hid fin
  have HA := Lib.hid (fun W h1 h2 => ahead_any g W h1 h2)
  have HG := Lib.hid (fun W k => (GeoAt.laid w 41 g).kept (w' := W) k)
  clear fin
  obtain ⟨a, b, c, d⟩ := g
  have HCL : Hid (∀ W, Kept (w.alloc (.cells #[.int .i64 a, .int .i64 b, .int .i64 c, .int .i64 d] 41)) W → W.cell? ⟨w.heap.size, 0, none⟩ = some (.int .i64 a) ∧ W.cell? ⟨w.heap.size, 1, none⟩ = some (.int .i64 b) ∧ W.cell? ⟨w.heap.size, 2, none⟩ = some (.int .i64 c) ∧ W.cell? ⟨w.heap.size, 3, none⟩ = some (.int .i64 d)) := fun W k => ⟨(HG.out W k).c0, (HG.out W k).c1, (HG.out W k).c2, (HG.out W k).c3⟩
  clear HG
  unfold Geo.val at *
  dsimp only at *
  generalize Geo.may ⟨a, b, c, d⟩ = mb at *
  have HK0 : Hid (Kept w (w.alloc (.cells #[.int .i64 a, .int .i64 b, .int .i64 c, .int .i64 d] 41))) := (Kept.refl _).alloc _
  by_cases h : 1 ≤ a ∧ a ≤ 12 ∧ 0 ≤ b ∧ b < a ∧ 2 ≤ d ∧ d ≤ 512
  · obtain ⟨h1, h2, h3, h4, h5, h6⟩ := h
    have HA2 := Lib.hid (fun W => HA.out W h5 h6)
    have b1 : decide (1 ≤ a) = true := decide_eq_true h1
    have b2 : decide (a ≤ 12) = true := decide_eq_true h2
    have b3 : decide (0 ≤ b) = true := decide_eq_true h3
    have b4 : decide (b < a) = true := decide_eq_true h4
    have b5 : decide (2 ≤ d) = true := decide_eq_true h5
    have b6 : decide (d ≤ 512) = true := decide_eq_true h6
    clear HA
    go_enter Try.func59, Try.ntmps59
    go_wp2_with fail
    generalize w.alloc (.cells #[.int .i64 a, .int .i64 b, .int .i64 c, .int .i64 d] 41) = w1 at *
    refine wp_quietG (C := fun W => Kept w1 W) (by kernel_rfl) (by kernel_rfl) ((Kept.refl w1).drew) ?_
    have hw : IntKind.i64.wrap (2 + 2 * d + 8) = 2 + 2 * d + 8 := IntWalk.i64_in _ (by omega)
    by_cases h7 : 2 + 2 * d + 8 ≤ c
    · have b7 : decide (2 + 2 * d + 8 ≤ c) = true := decide_eq_true h7
      repeat (first
        | go_big_quiet_skip
        | (go_big_quiet_want
           refine ⟨_, fun W hW => by
             obtain ⟨c0, c1, c2, c3⟩ := HCL.out W hW
             unfold Oper.quietAt
             go_simp
             first
               | exact rfl
               | exact (HA2.out W).mono fun e w' h => ⟨h.1, hW.trans h.2⟩, ?_⟩
           go_simp
           go_big_quiet_on))
      refine wpQuiet_nil ?_
      intro W hW
      have HKW : Hid (Kept w W) := HK0.out.trans hW
      clear hW
      go_wp2_with fail
      go_ret
      refine ⟨HF.out _ ?_, HKW.out⟩
      rw [HM.out]
      clear HF HM
      simp only [decide_eq_true_eq, h1, h2, h3, h4, h5, h6, true_and]
      omega
    · have b7 : decide (2 + 2 * d + 8 ≤ c) = false := decide_eq_false h7
      repeat (first
        | go_big_quiet_skip
        | (go_big_quiet_want
           refine ⟨_, fun W hW => by
             obtain ⟨c0, c1, c2, c3⟩ := HCL.out W hW
             unfold Oper.quietAt
             go_simp
             first
               | exact rfl
               | exact (HA2.out W).mono fun e w' h => ⟨h.1, hW.trans h.2⟩, ?_⟩
           go_simp
           go_big_quiet_on))
      refine wpQuiet_nil ?_
      intro W hW
      have HKW : Hid (Kept w W) := HK0.out.trans hW
      clear hW
      go_wp2_with fail
      go_ret
      refine ⟨HF.out _ ?_, HKW.out⟩
      rw [HM.out]
      clear HF HM
      simp only [Bool.false_eq_true, h1, h2, h3, h4, h5, h6, true_and, false_iff]
      omega
  · have hf : ∀ r, r = false → Ending.returned (.bool r) = Ending.returned (.bool mb) := fun r hr => HF.out r (by rw [HM.out, hr]; exact ⟨fun h => Bool.noConfusion h, fun hh => absurd ⟨hh.1, hh.2.1, hh.2.2.1, hh.2.2.2.1, hh.2.2.2.2.1, hh.2.2.2.2.2.1⟩ h⟩)
    have HFF := Lib.hid hf
    have key : decide (1 ≤ a) = false ∨ (decide (1 ≤ a) = true ∧ decide (a ≤ 12) = false) ∨ (decide (1 ≤ a) = true ∧ decide (a ≤ 12) = true ∧ decide (0 ≤ b) = false) ∨ (decide (1 ≤ a) = true ∧ decide (a ≤ 12) = true ∧ decide (0 ≤ b) = true ∧ decide (b < a) = false) ∨ (decide (1 ≤ a) = true ∧ decide (a ≤ 12) = true ∧ decide (0 ≤ b) = true ∧ decide (b < a) = true ∧ decide (2 ≤ d) = false) ∨ (decide (1 ≤ a) = true ∧ decide (a ≤ 12) = true ∧ decide (0 ≤ b) = true ∧ decide (b < a) = true ∧ decide (2 ≤ d) = true ∧ decide (d ≤ 512) = false) := by
      simp only [decide_eq_true_eq, decide_eq_false_iff_not]
      omega
    clear hf HM HF h HA
    go_enter Try.func59, Try.ntmps59
    go_wp2_with fail
    generalize w.alloc (.cells #[.int .i64 a, .int .i64 b, .int .i64 c, .int .i64 d] 41) = w1 at *
    refine wp_quietG (C := fun W => Kept w1 W) (by kernel_rfl) (by kernel_rfl) ((Kept.refl w1).drew) ?_
    rcases key with b1 | ⟨b1, b2⟩ | ⟨b1, b2, b3⟩ | ⟨b1, b2, b3, b4⟩ | ⟨b1, b2, b3, b4, b5⟩ | ⟨b1, b2, b3, b4, b5, b6⟩
    all_goals
      repeat (first
        | go_big_quiet_skip
        | (go_big_quiet_want
           refine ⟨_, fun W hW => by
             obtain ⟨c0, c1, c2, c3⟩ := HCL.out W hW
             unfold Oper.quietAt
             go_simp
             exact rfl, ?_⟩
           go_simp
           go_big_quiet_on))
      refine wpQuiet_nil ?_
      intro W hW
      have HKW : Hid (Kept w W) := HK0.out.trans hW
      clear hW
      go_wp2_with fail
      go_ret
      exact ⟨HFF.out _ rfl, HKW.out⟩
end Go.Proofs.Ytoekaabngjjefaa

/- The program's: does a rack fit a geo. -/
namespace Go.Proofs.Ytoekaabngjjefaa
open Go.RowKit Sm Wr _root_.Go.Proofs.Ytoekaabngjjefaa.Nm
set_option linter.unusedVariables false
def fitE (s : RSt) (g : Geo) : Nat := if g.fits s = true then 0 else 2
set_option maxHeartbeats 2000000 in
set_option maxRecDepth 100000 in
theorem fits_any (G : Nat) (s : RSt) (g : Geo) (w : World) (hR : RackAt G s w) :
    Calls Try.prog 32 #[.pointer (some ⟨G + 1, 0, none⟩), g.val] w fun e w' => e = .returned (.int .i64 (fitE s g : Nat)) ∧ Kept w w' := by
  have HM := Lib.hid (fun W => pGeo_any g W)
  have HE : Hid (fitE s g = if (g.may && decide ((s.n : Int) = g.n) && decide ((s.m : Int) = g.m)) = true then 0 else 2) := rfl
  have hn1 : 1 ≤ s.n := hR.wf.n1
  have HD := Lib.hid (fun W k => drives_any (some ⟨G + 1, 0, none⟩) s.n W (hR.kept (w' := W) k).has)
  have HS := Lib.hid (fun W k => sectors_any G s W (hR.kept (w' := W) k))
  have HG := Lib.hid (fun W k => (GeoAt.laid w 41 g).kept (w' := W) k)
  have hK0 := Lib.hid ((Kept.refl w).alloc (.cells #[.int .i64 g.n, .int .i64 g.p, .int .i64 g.m, .int .i64 g.t] 41))
  clear hR
  obtain ⟨a, b, c, d⟩ := g
  have HCL : Hid (∀ W, Kept (w.alloc (.cells #[.int .i64 a, .int .i64 b, .int .i64 c, .int .i64 d] 41)) W → W.cell? ⟨w.heap.size, 0, none⟩ = some (.int .i64 a) ∧ W.cell? ⟨w.heap.size, 1, none⟩ = some (.int .i64 b) ∧ W.cell? ⟨w.heap.size, 2, none⟩ = some (.int .i64 c) ∧ W.cell? ⟨w.heap.size, 3, none⟩ = some (.int .i64 d)) := fun W k => ⟨(HG.out W k).c0, (HG.out W k).c1, (HG.out W k).c2, (HG.out W k).c3⟩
  clear HG
  unfold Geo.val at *
  dsimp only at *
  generalize fitE s ⟨a, b, c, d⟩ = fb at *
  generalize Geo.may ⟨a, b, c, d⟩ = mb at *
  have hnz : ((s.n : Int) == 0) = false := by rw [beq_eq_false_iff_ne]; omega
  go_enter Try.func32, Try.ntmps32
  go_wp2_with fail
  refine (HD.out _ hK0.out).mono ?_
  rintro e w1 ⟨rfl, rfl⟩
  go_wp2_with fail
  generalize w.alloc (.cells #[.int .i64 a, .int .i64 b, .int .i64 c, .int .i64 d] 41) = w1 at *
  refine wp_quietG (C := fun W => Kept w1 W) (by kernel_rfl) (by kernel_rfl) ((Kept.refl w1).drew) ?_
  have key : (mb = false ∧ fb = 2) ∨ (mb = true ∧ ((s.n : Int) != a) = true ∧ fb = 2) ∨ (mb = true ∧ ((s.n : Int) != a) = false ∧ ((s.m : Int) != c) = true ∧ fb = 2) ∨ (mb = true ∧ ((s.n : Int) != a) = false ∧ ((s.m : Int) != c) = false ∧ fb = 0) := by
    rw [HE.out]
    cases mb
    · exact .inl ⟨rfl, rfl⟩
    · by_cases h1 : (s.n : Int) = a
      · by_cases h2 : (s.m : Int) = c
        · exact .inr (.inr (.inr ⟨rfl, by simp [h1], by simp [h2], by simp [h1, h2]⟩))
        · exact .inr (.inr (.inl ⟨rfl, by simp [h1], by simp [h2], by simp [h2]⟩))
      · exact .inr (.inl ⟨rfl, by simp [h1], by simp [h1]⟩)
  rcases key with ⟨rfl, rfl⟩ | ⟨rfl, e1, rfl⟩ | ⟨rfl, e1, e2, rfl⟩ | ⟨rfl, e1, e2, rfl⟩
  all_goals
    clear HE
    repeat (first
      | go_big_quiet_skip
      | (go_big_quiet_want
         refine ⟨_, fun W hW => by
           obtain ⟨c0, c1, c2, c3⟩ := HCL.out W hW
           unfold Oper.quietAt
           go_simp
           first
             | exact rfl
             | exact (HM.out W).mono fun e w' h => ⟨h.1, hW.trans h.2⟩
             | exact (HD.out W (hK0.out.trans hW)).mono fun e w' h => ⟨h.1, by rw [h.2]; exact hW⟩
             | exact (HS.out W (hK0.out.trans hW)).mono fun e w' h => ⟨h.1, hW.trans h.2⟩, ?_⟩
         go_simp
         go_big_quiet_on))
    refine wpQuiet_nil ?_
    intro W hW
    have HKW : Hid (Kept w W) := hK0.out.trans hW
    clear hW
    go_wp2_with fail
    go_ret
    exact ⟨rfl, HKW.out⟩
theorem fits_nil (g : Geo) (w : World) :
    Calls Try.prog 32 #[.pointer none, g.val] w fun e w' => e = .returned (.int .i64 1) ∧ Kept w w' := by
  have HD := Lib.hid (fun W => drives_any none 0 W (.inl ⟨rfl, rfl⟩))
  obtain ⟨a, b, c, d⟩ := g
  unfold Geo.val
  dsimp only
  go_enter Try.func32, Try.ntmps32
  go_wp2_with fail
  refine (HD.out _).mono ?_
  rintro e w1 ⟨rfl, rfl⟩
  go_wp2_with fail
  go_ret
  exact ⟨rfl, (Kept.refl _).alloc _⟩
end Go.Proofs.Ytoekaabngjjefaa

