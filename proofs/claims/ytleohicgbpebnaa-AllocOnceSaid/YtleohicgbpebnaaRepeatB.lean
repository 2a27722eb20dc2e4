/- slices.Repeat of one byte. -/
import Derived.Test.YtleohicgbpebnaaMul
import Derived.Test.YtleohicgbpebnaaRowOf
import Derived.Test.YtleohicgbpebnaaBut
import Derived.Deep.OwnRows
import Derived.Deep.RegionLaw
import Derived.Laws.CopyOwn
import Derived.IntWalk
import Derived.Deep.DeepCutAuto
namespace Go.Proofs.Ytleohicgbpebnaa
open Go.RowKit
set_option linter.unusedVariables false
theorem info_u8 : (Try.prog.info? 5).map (fun i => (i.zero, i.size, i.bytes)) = some (some (.int .u8 0), 1, 1) := by kernel_rfl
theorem size_u8 : (Try.prog.info? 5).map (·.size) = some 1 := by kernel_rfl
/-- The first k of n bytes are x, the others 0. -/
def repL (x : Int) (n k : Nat) : List Value := List.replicate k (.int .u8 x) ++ List.replicate (n - k) (.int .u8 0)
theorem repL_length (x : Int) (n k : Nat) (h : k ≤ n) : (repL x n k).length = n := by simp [repL]; omega
theorem repL_zero (x : Int) (n : Nat) : repL x n 0 = List.replicate n (.int .u8 0) := by simp [repL]
theorem repL_get (x : Int) (n k j : Nat) (h : j < k) (hk : k ≤ n) : (repL x n k)[j]? = some (.int .u8 x) := by
  unfold repL
  rw [List.getElem?_append_left (by simpa using h), List.getElem?_replicate, if_pos h]
theorem repL_splice (x : Int) (n k m : Nat) (h : k + m ≤ n) : splice (repL x n k) k (List.replicate m (.int .u8 x)) = repL x n (k + m) := by
  unfold splice repL
  rw [List.take_append_of_le_length (by simp), List.take_of_length_le (by simp), List.length_replicate, List.drop_append]
  simp
  rw [← List.append_assoc, List.replicate_append_replicate]
  congr 2
  omega
theorem made_rep (n : Nat) : madeCells #[Value.int .u8 0] n = (repL 0 n 0).toArray := by
  apply Array.ext'
  rw [toList_madeCells_one, repL_zero]
set_option maxHeartbeats 1000000 in
set_option maxRecDepth 100000 in
theorem repeat_any (p n : Nat) (x : Int) (hn : n ≤ 1000000) (w : World) (hp : w.cell? ⟨p, 0, none⟩ = some (.int .u8 x)) :
    Calls Try.prog 26 #[.slice (some ⟨p, 0, none⟩) 1 1, .int .i64 (n : Nat)] w fun e w' => e = .returned (.slice (some ⟨w.heap.size, 0, none⟩) n n) ∧ Kept w w' ∧ w'.heap[w.heap.size]? = some (.cells (repL x n n).toArray 5 (0, 0)) := by
  have hmul := mul_any 1 n (by decide) (by omega) w
  rw [show 1 * n / 18446744073709551616 = 0 by omega, show 1 * n % 18446744073709551616 = n by omega] at hmul
  have HMUL := Lib.hid hmul
  clear hmul
  have hmk := fun W => run_make_row' (P := Try.prog) 43 5 (.int .u8 0) 1 Try.underlying43 info_u8 rfl .i64 .i64 n (by omega) (by omega) W
  rw [show madeCells #[Value.int .u8 0] n = (repL x n 0).toArray by rw [made_rep, repL_zero, repL_zero]] at hmk
  have HG := Lib.hid (heap_alloc_last w (.cells (repL x n 0).toArray 5))
  have HCN : Hid ((List.replicate (Nat.min 1 n) (Value.int .u8 x)).length = Nat.min 1 n) := by show _ = _; simp
  have HM1 : Hid (Nat.min 1 n ≤ n ∧ (0 < n → 1 ≤ Nat.min 1 n) ∧ Nat.min 1 n ≤ 1) := ⟨Nat.min_le_right _ _, fun h => Nat.le_min.2 ⟨Nat.le_refl _, h⟩, Nat.min_le_left _ _⟩
  have HSP : Hid (splice (repL x n 0) 0 (List.replicate (Nat.min 1 n) (Value.int .u8 x)) = repL x n (Nat.min 1 n)) := by
    have h := repL_splice x n 0 (Nat.min 1 n) (by have := HM1.out.1; omega)
    rw [Nat.zero_add] at h
    exact h
  have HSRC : Hid (∀ j v, (List.replicate (Nat.min 1 n) (Value.int .u8 x))[j]? = some v → (w.alloc (.cells (repL x n 0).toArray 5)).cell? ((⟨p, 0, none⟩ : Addr).add j) = some v) := fun j v hv => by
    rw [List.getElem?_replicate] at hv
    split at hv
    · rename_i hj
      have := HM1.out.2.2
      obtain rfl : j = 0 := by omega
      injection hv with hv
      subst hv
      rw [add_at, Below.cell (p := ⟨p, 0, none⟩) (Kept.alloc (Kept.refl w) _) (block_lt_of_cell hp)]
      exact hp
    · cases hv
  have HALL : Hid (∀ m, ∀ v ∈ List.replicate m (Value.int .u8 x), v.oneCell' = true) := fun m v hv => by rw [List.eq_of_mem_replicate hv]; rfl
  obtain ⟨cs, hcs⟩ : ∃ cs, cs = List.replicate (Nat.min 1 n) (Value.int .u8 x) := ⟨_, rfl⟩
  have HALL0 := Lib.hid (HALL.out (Nat.min 1 n))
  rw [← hcs] at HCN HSP HSRC HALL0
  clear hcs
  have HLEN := Lib.hid (repL_length x n 0 (Nat.zero_le _))
  obtain ⟨m0, hm0⟩ : ∃ m0, cs.length = m0 := ⟨_, rfl⟩
  have HM0 : Hid (m0 ≤ n ∧ (0 < n → 1 ≤ m0) ∧ Nat.min 1 n = m0) := by rw [← hm0, HCN.out]; exact ⟨HM1.out.1, HM1.out.2.1, rfl⟩
  rw [HM0.out.2.2] at HSP
  have HML := Lib.hid hm0
  clear hm0
  have hb1 : decide ((n : Int) < 0) = false := decide_eq_false (by omega)
  have hb2 : decide (9223372036854775807 < (n : Int)) = false := decide_eq_false (by omega)
  go_enter Try.func26, Try.ntmps26
  go_wp2_with (first | (go_at_call 32; refine HMUL.out.mono ?_; rintro e w1 ⟨rfl, hw1⟩; replace hw1 := hw1.symm; subst hw1) | (refine wpList_copy_splice rfl (.tmp 31) (.tmp 32) 43 43 rfl 5 Try.underlying43 size_u8 (some ⟨w.heap.size, 0, none⟩) (some ⟨p, 0, none⟩) n n 1 1 rfl rfl w.heap.size 0 (repL x n 0) 5 HG.out cs HCN.out (fun _ => ⟨rfl, _, rfl, HSRC.out⟩) (by rw [HLEN.out, HCN.out]; have := HM1.out.1; omega) HALL0.out w.heap.size w (Kept.alloc (Kept.refl w) _) (Nat.le_refl _) ?_; intro w4 hg4 hb4; rw [HML.out]; clear hmk))
  have HG4 : Hid (w4.heap[w.heap.size]? = some (.cells (repL x n m0).toArray 5 (0, 0))) := by
    have h := hg4.out
    rw [HSP.out] at h
    exact h
  have HB4 := Lib.hid hb4
  clear hg4 hb4 HG HSP HSRC HCN HALL0 HLEN HML hp HMUL
  obtain ⟨G, hG⟩ : ∃ G, w.heap.size = G := ⟨_, rfl⟩
  have HGW : Hid (w.heap.size ≤ G) := by show _ ≤ _; omega
  have HGG := Lib.hid hG
  rw [hG] at HG4 ⊢
  clear hG
  go_loopw [8] (fun i wr => ∃ k : Nat, k ≤ n ∧ i = .int .i64 k ∧ Hid ((0 < n → 1 ≤ k) ∧ wr.heap[G]? = some (.cells (repL x n k).toArray 5 (0, 0)) ∧ Kept w wr)) (fun i _ => n - (intOf i).toNat)
  case atStart => exact ⟨m0, HM0.out.1, rfl, HM0.out.2.1, HG4.out, HB4.out⟩
  case round =>
    obtain ⟨k, hk, rfl, HI⟩ := hrel
    by_cases hlt : k < n
    · have h1 : 1 ≤ k := HI.out.1 (by omega)
      have hs1 : ∀ W, (Instr.slice 43 (.slice (some ⟨G, 0, none⟩) n n) (some (.int .i64 (k : Int))) none none).run Try.prog W = .ok (.slice (some ⟨G, k, none⟩) (n - k) (n - k)) W := fun W => by
        have h := run_slice_l (P := Try.prog) W 43 (some ⟨G, 0, none⟩) n n Try.underlying43 .i64 (k : Int) (by omega) (by omega)
        obtain ⟨i0, hi, hzz⟩ := Option.map_eq_some_iff.1 info_u8
        simp only [Prod.mk.injEq] at hzz
        rw [show Try.prog.elem 43 = 5 by kernel_rfl, show (Go.sizeOf 5).run Try.prog W = .ok 1 W by simp [Go.sizeOf, typeInfo, hi, hzz.2.1]] at h
        rw [h]
        simp only [Result.andThen, sliced, Int.toNat_natCast, Nat.mul_one]
        rw [if_neg (by omega)]
        show Result.ok (Value.slice (some ((⟨G, 0, none⟩ : Addr).add k)) _ _) W = _
        rw [add_at]
      have hs2 : ∀ W, (Instr.slice 43 (.slice (some ⟨G, 0, none⟩) n n) none (some (.int .i64 (k : Int))) none).run Try.prog W = .ok (.slice (some ⟨G, 0, none⟩) k n) W := fun W => by
        have h := run_slice_h (P := Try.prog) W 43 (some ⟨G, 0, none⟩) n n Try.underlying43 .i64 (k : Int) (by omega) (by omega)
        obtain ⟨i0, hi, hzz⟩ := Option.map_eq_some_iff.1 info_u8
        simp only [Prod.mk.injEq] at hzz
        rw [show Try.prog.elem 43 = 5 by kernel_rfl, show (Go.sizeOf 5).run Try.prog W = .ok 1 W by simp [Go.sizeOf, typeInfo, hi, hzz.2.1]] at h
        rw [h]
        simp [Result.andThen, sliced, Addr.add]
      obtain ⟨m, hm⟩ : ∃ m, Nat.min k (n - k) = m := ⟨_, rfl⟩
      have hml : 1 ≤ m ∧ k + m ≤ n := by
        have h1 : Nat.min k (n - k) ≤ n - k := Nat.min_le_right _ _
        have h2 : 1 ≤ Nat.min k (n - k) := Nat.le_min.2 ⟨by omega, by omega⟩
        omega
      have HL : Hid ((repL x n k).length = n) := repL_length x n k hk
      have HS : Hid (splice (repL x n k) k (List.replicate m (.int .u8 x)) = repL x n (k + m)) := repL_splice x n k m hml.2
      have HC : Hid ((List.replicate m (Value.int .u8 x)).length = m) := by show _ = _; simp
      have HGET : Hid (∀ j v, (List.replicate m (Value.int .u8 x))[j]? = some v → ∀ W : World, W.heap[G]? = some (.cells (repL x n k).toArray 5 (0, 0)) → W.cell? ((⟨G, 0, none⟩ : Addr).add j) = some v) := fun j v hv W hW => by
        rw [List.getElem?_replicate] at hv
        split at hv
        · rename_i hj
          injection hv with hv
          subst hv
          have h1 : Nat.min k (n - k) ≤ k := Nat.min_le_left _ _
          rw [add_at, cell_of_row _ _ j _ _ _ hW]
          simpa using repL_get x n k j (by omega) hk
        · cases hv
      have HA := Lib.hid (HALL.out m)
      obtain ⟨q, hq⟩ : ∃ q, n - k = q := ⟨_, rfl⟩
      rw [hq] at hs1 hm
      have HM := Lib.hid hm
      have HQ := Lib.hid hq
      clear hq
      have HR := Lib.hid HI.out.2.1
      have HK := Lib.hid HI.out.2.2
      clear hm HI
      generalize List.replicate m (Value.int .u8 x) = ds at *
      obtain ⟨d0, hd0⟩ : ∃ d0, ds.length = d0 := ⟨_, rfl⟩
      have HD0 : Hid (d0 = m) := by rw [← hd0]; exact HC.out
      have HDD := Lib.hid hd0
      clear hd0
      go_wp2_with fail
      have hwr : IntKind.i64.wrap ((k : Int) + (m : Int)) = ((k + m : Nat) : Int) := by rw [IntWalk.i64_in _ (by omega)]; omega
      go_region_law (refine step_copy_splice rfl (.tmp 41) (.tmp 44) 43 43 rfl 5 Try.underlying43 size_u8 (some ⟨G, k, none⟩) (some ⟨G, 0, none⟩) q q k n (by go_simp) (by go_simp) G k (repL x n k) 5 HR.out ds (by rw [HC.out, HM.out]) (fun _ => ⟨rfl, _, rfl, fun j v hv => HGET.out j v hv _ HR.out⟩) (by rw [HL.out, HC.out]; exact hml.2) HA.out w.heap.size w (Kept.drewN HK.out _) HGW.out ?_; intro w4 hg4 hb4; rw [HDD.out, HD0.out])
      have HF : Hid ((0 < n → 1 ≤ k + m) ∧ w4.heap[G]? = some (.cells (repL x n (k + m)).toArray 5 (0, 0)) ∧ Kept w w4) := by
        have h := hg4.out
        rw [HS.out] at h
        exact ⟨fun _ => by omega, h, hb4⟩
      clear hg4 hb4 hs1 hs2
      clear hwr
      go_simp
      go_roundw
      case rel =>
        (repeat apply Exists.intro)
        exact ⟨⟨k + m, by omega, by go_num, HF.out⟩, rfl⟩
      case measure => simp [intOf]; omega
    · obtain rfl : k = n := by omega
      have HEND := Lib.hid HI.out.2
      clear HI
      go_wp2_with fail
      go_ret
      rw [HGG.out]
      exact ⟨rfl, HEND.out.2, HEND.out.1⟩
end Go.Proofs.Ytleohicgbpebnaa
