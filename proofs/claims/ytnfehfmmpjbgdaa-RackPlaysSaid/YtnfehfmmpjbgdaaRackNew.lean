/- A new rack. -/
import Derived.Test.YtnfehfmmpjbgdaaRackCode4
import Derived.Laws.MakeOwn
import Derived.BigRegion
namespace Go.Proofs.Ytnfehfmmpjbgdaa
open Go.RowKit
set_option linter.unusedVariables false
theorem made_get (z : Array Value) (n i j : Nat) (hi : i < n) (hj : j < z.size) : (madeCells z (n * z.size))[i * z.size + j]? = z[j]? := by
  have hlt : i * z.size + j < n * z.size := by
    have h1 : (i + 1) * z.size ≤ n * z.size := Nat.mul_le_mul_right _ hi
    rw [Nat.add_mul, Nat.one_mul] at h1
    omega
  unfold madeCells
  rw [Array.getElem?_map]
  have hr : (Array.range (n * z.size))[i * z.size + j]? = some (i * z.size + j) := by
    rw [Array.getElem?_eq_getElem (by simpa using hlt)]
    simp
  rw [hr, Array.getElem?_eq_getElem hj]
  show some (z[(i * z.size + j) % z.size]!) = _
  have hm : (i * z.size + j) % z.size = j := by rw [Nat.mul_comm, Nat.mul_add_mod, Nat.mod_eq_of_lt hj]
  rw [hm, getElem!_pos z j hj]
theorem frozen_row {w : World} {b : Nat} {cs : Array Value} {t : TypeId} (h : w.heap[b]? = some (.cells cs t (0, 0))) (j : Nat) : w.frozen? ⟨b, j, none⟩ = false := by
  unfold World.frozen?
  rw [h]
  simp
def drv0 : Array Value := #[.slice none 0 0, .int .u64 0]
theorem info_drv : (Try.prog.info? 56).map (fun i => (i.zero, i.size, i.bytes)) = some (some (.agg drv0), 2, 32) := by kernel_rfl
theorem info_sec3 : (Try.prog.info? 82).map (fun i => (i.zero, i.size, i.bytes)) = some (some (.agg (secL zero64 false).toArray), 65, 65) := by kernel_rfl
theorem make_drv (n : Nat) (hn : n ≤ 12) (W : World) : (Instr.makeSlice 51 (.int .i64 (n : Int)) (.int .i64 (n : Int))).run Try.prog W = .ok (.slice (some ⟨W.heap.size, 0, none⟩) n n) (W.alloc (.cells (madeCells drv0 (n * 2)) 56)) := by
  obtain ⟨i0, hi, hzz⟩ := Option.map_eq_some_iff.1 info_drv
  simp only [Prod.mk.injEq] at hzz
  have h := run_make (P := Try.prog) W 51 56 i0 _ Try.underlying51 hi hzz.1 .i64 .i64 (n : Int) (n : Int) (by omega) (by omega) (by rw [hzz.2.2]; omega) (by omega)
  rw [hzz.2.1] at h
  simpa [Value.cells] using h
theorem make_sec (n : Nat) (hn : n ≤ 4096) (W : World) : (Instr.makeSlice 54 (.int .i64 (n : Int)) (.int .i64 (n : Int))).run Try.prog W = .ok (.slice (some ⟨W.heap.size, 0, none⟩) n n) (W.alloc (.cells (madeCells (secL zero64 false).toArray (n * 65)) 82)) := by
  obtain ⟨i0, hi, hzz⟩ := Option.map_eq_some_iff.1 info_sec3
  simp only [Prod.mk.injEq] at hzz
  have h := run_make (P := Try.prog) W 54 82 i0 _ Try.underlying54 hi hzz.1 .i64 .i64 (n : Int) (n : Int) (by omega) (by omega) (by rw [hzz.2.2]; omega) (by omega)
  rw [hzz.2.1, Int.toNat_natCast] at h
  exact h
/-- A rack of which nothing was written. -/
def rack0 (n m : Nat) : RSt := ⟨n, m, fun _ _ => zero64, fun _ _ => false, fun _ => 0, false, 0⟩
/-- A rack whose first k drives have their sectors. -/
structure NewAt (g n m k : Nat) (w : World) : Prop where
  size : w.heap.size = g + 2 + k
  c0 : w.cell? ⟨g + 1, 0, none⟩ = some (.slice (some ⟨g, 0, none⟩) n n)
  c1 : w.cell? ⟨g + 1, 1, none⟩ = some (.bool false)
  c2 : w.cell? ⟨g + 1, 2, none⟩ = some (.int .i64 (0 : Nat))
  f1 : w.frozen? ⟨g + 1, 1, none⟩ = false
  f2 : w.frozen? ⟨g + 1, 2, none⟩ = false
  ds : ∀ d, d < k → w.cell? ⟨g, d * 2, none⟩ = some (.slice (some ⟨g + 2 + d, 0, none⟩) m m)
  dn : ∀ d, d < n → ∃ v, w.cell? ⟨g, d * 2, none⟩ = some v
  dw : ∀ d, d < n → w.cell? ⟨g, d * 2 + 1, none⟩ = some (.int .u64 (0 : Nat))
  fw : ∀ j, w.frozen? ⟨g, j, none⟩ = false
  sr : ∀ d i, d < k → i < m → w.rangeAt (g + 2 + d) (i * 65) (secL zero64 false)
  st : ∀ d i, d < k → i < m → w.there (g + 2 + d) (i * 65) 65
theorem NewAt.rack {g n m : Nat} {w : World} (h : NewAt g n m n w) (hn1 : 1 ≤ n) (hn2 : n ≤ 12) (hm1 : 1 ≤ m) (hm2 : m ≤ 4096) : RackAt g (rack0 n m) w :=
  ⟨⟨hn1, hn2, hm1, hm2, fun _ _ _ _ => zero64_length, fun _ => by show 0 < _; decide, by show 0 ≤ _; decide⟩, h.c0, h.c1, h.c2, h.f1, h.f2, h.ds, h.dw, fun d _ => h.fw _, h.sr, h.st⟩
theorem NewAt.start (w : World) (n m : Nat) (T : TypeId) : NewAt w.heap.size n m 0 ((w.alloc (.cells (madeCells drv0 (n * 2)) 56)).alloc (.cells #[.slice (some ⟨w.heap.size, 0, none⟩) n n, .bool false, .int .i64 0] T)) := by
  have h2 := heap_alloc2_new w (.cells (madeCells drv0 (n * 2)) 56) (.cells #[.slice (some ⟨w.heap.size, 0, none⟩) n n, .bool false, .int .i64 0] T)
  have h1 := heap_alloc2_old w (.cells (madeCells drv0 (n * 2)) 56) (.cells #[.slice (some ⟨w.heap.size, 0, none⟩) n n, .bool false, .int .i64 0] T)
  refine ⟨by rw [size_alloc, size_alloc], ?_, ?_, ?_, ?_, ?_, fun d hd => absurd hd (by omega), fun d hd => ⟨.slice none 0 0, ?_⟩, fun d hd => ?_, fun j => ?_, fun d i hd => absurd hd (by omega), fun d i hd => absurd hd (by omega)⟩
  · rw [cell_of_row _ _ _ _ _ _ h2]; rfl
  · rw [cell_of_row _ _ _ _ _ _ h2]; rfl
  · rw [cell_of_row _ _ _ _ _ _ h2]; rfl
  · exact frozen_row h2 _
  · exact frozen_row h2 _
  · rw [cell_of_row _ _ _ _ _ _ h1]; exact made_get drv0 n d 0 hd (by decide)
  · rw [cell_of_row _ _ _ _ _ _ h1]; exact made_get drv0 n d 1 hd (by decide)
  · exact frozen_row h1 _
theorem NewAt.drewN {g n m k : Nat} {w : World} (h : NewAt g n m k w) (j : Nat) : NewAt g n m k (w.drewN j) := ⟨h.size, h.c0, h.c1, h.c2, h.f1, h.f2, h.ds, h.dn, h.dw, h.fw, h.sr, h.st⟩
theorem NewAt.next {g n m k : Nat} {w : World} (h : NewAt g n m k w) (hk : k < n) (hm : m ≤ 4096) :
    NewAt g n m (k + 1) ((w.alloc (.cells (madeCells (secL zero64 false).toArray (m * 65)) 82)).setCell ⟨g, k * 2, none⟩ (.slice (some ⟨w.heap.size, 0, none⟩) m m)) := by
  have hs := h.size
  have hnew := heap_alloc_new w (.cells (madeCells (secL zero64 false).toArray (m * 65)) 82)
  have co : ∀ b j, b < g + 2 + k → (w.alloc (.cells (madeCells (secL zero64 false).toArray (m * 65)) 82)).cell? ⟨b, j, none⟩ = w.cell? ⟨b, j, none⟩ := fun b j hb => World.cell?_alloc_lt _ _ ⟨b, j, none⟩ (by simp; omega)
  have fo : ∀ b j, b < g + 2 + k → (w.alloc (.cells (madeCells (secL zero64 false).toArray (m * 65)) 82)).frozen? ⟨b, j, none⟩ = w.frozen? ⟨b, j, none⟩ := fun b j hb => World.frozen?_alloc_past _ _ _ (by omega)
  have ce : ∀ (W : World) (v : Value) b j, (b ≠ g ∨ j ≠ k * 2) → (W.setCell ⟨g, k * 2, none⟩ v).cell? ⟨b, j, none⟩ = W.cell? ⟨b, j, none⟩ := fun W v b j hb =>
    World.cell?_setCell_other _ _ _ _ (fun e => by injection e with e1 e2; rcases hb with hb | hb; exact hb e1.symm; exact hb e2.symm)
  obtain ⟨v0, hv0⟩ := h.dn k hk
  refine ⟨?_, ?_, ?_, ?_, ?_, ?_, fun d hd => ?_, fun d hd => ?_, fun d hd => ?_, fun j => ?_, fun d i hd hi => fun j v hj => ?_, fun d i hd hi => fun j hj => ?_⟩
  · rw [World.size_setCell, size_alloc, hs]; omega
  · rw [ce _ _ _ _ (by omega), co _ _ (by omega)]; exact h.c0
  · rw [ce _ _ _ _ (by omega), co _ _ (by omega)]; exact h.c1
  · rw [ce _ _ _ _ (by omega), co _ _ (by omega)]; exact h.c2
  · rw [World.frozen?_setCell, fo _ _ (by omega)]; exact h.f1
  · rw [World.frozen?_setCell, fo _ _ (by omega)]; exact h.f2
  · by_cases e : d = k
    · subst e
      rw [World.cell?_setCell_same _ _ _ (by rw [co _ _ (by omega)]; exact hv0), hs]
    · rw [ce _ _ _ _ (by omega), co _ _ (by omega)]; exact h.ds d (by omega)
  · by_cases e : d = k
    · subst e
      exact ⟨_, World.cell?_setCell_same _ _ _ (by rw [co _ _ (by omega)]; exact hv0)⟩
    · rw [ce _ _ _ _ (by omega), co _ _ (by omega)]; exact h.dn d hd
  · rw [ce _ _ _ _ (by omega), co _ _ (by omega)]; exact h.dw d hd
  · rw [World.frozen?_setCell, fo _ _ (by omega)]; exact h.fw j
  · rw [ce _ _ _ _ (by omega)]
    have hj65 : j < 65 := by
      have := (List.getElem?_eq_some_iff.1 hj).1
      rw [secL_length _ _ zero64_length] at this; exact this
    by_cases e : d = k
    · subst e
      rw [← hs, cell_of_row _ _ _ _ _ _ hnew]
      have := made_get (secL zero64 false).toArray m i j hi (by rw [sec0_size]; exact hj65)
      rw [sec0_size] at this
      rw [this, List.getElem?_toArray, hj]
    · rw [co _ _ (by omega)]; exact h.sr d i (by omega) hi j v hj
  · rw [ce _ _ _ _ (by omega), World.frozen?_setCell]
    by_cases e : d = k
    · subst e
      rw [← hs, cell_of_row _ _ _ _ _ _ hnew]
      have := made_get (secL zero64 false).toArray m i j hi (by rw [sec0_size]; exact hj)
      rw [sec0_size] at this
      rw [this, Array.getElem?_eq_getElem (by rw [sec0_size]; exact hj)]
      exact ⟨rfl, frozen_row hnew _⟩
    · rw [co _ _ (by omega), fo _ _ (by omega)]; exact h.st d i (by omega) hi j hj
set_option maxHeartbeats 1000000 in
set_option maxRecDepth 100000 in
theorem pNew_ok (n m : Nat) (hn1 : 1 ≤ n) (hn2 : n ≤ 12) (hm1 : 1 ≤ m) (hm2 : m ≤ 4096) (w : World) :
    Calls Try.prog 9 #[.int .i64 (n : Nat), .int .i64 (m : Nat)] w fun r w' => r = .returned (.tuple #[.pointer (some ⟨w.heap.size + 1, 0, none⟩), .int .i64 0]) ∧ Kept w w' ∧ RackAt w.heap.size (rack0 n m) w' ∧ w'.heap.size = w.heap.size + 2 + n := by
  have b1 : decide ((n : Int) < 1) = false := decide_eq_false (by omega)
  have b2 : decide ((12 : Int) < n) = false := decide_eq_false (by omega)
  have b3 : decide ((m : Int) < 1) = false := decide_eq_false (by omega)
  have b4 : decide ((4096 : Int) < m) = false := decide_eq_false (by omega)
  have hmd := make_drv n hn2
  have HMS := Lib.hid (make_sec m hm2)
  obtain ⟨MD, hMD⟩ : ∃ MD, MD = madeCells drv0 (n * 2) := ⟨_, rfl⟩
  rw [← hMD] at hmd
  have HMD := Lib.hid hMD
  clear hMD
  go_enter Try.func9, Try.ntmps9
  go_wp2_with fail
  have hst : NewAt w.heap.size n m 0 ((w.alloc (.cells MD 56)).alloc (.cells #[.slice (some ⟨w.heap.size, 0, none⟩) n n, .bool false, .int .i64 0] 53)) := by rw [HMD.out]; exact NewAt.start w n m _
  have hkk : Kept w ((w.alloc (.cells MD 56)).alloc (.cells #[.slice (some ⟨w.heap.size, 0, none⟩) n n, .bool false, .int .i64 0] 53)) := ((Kept.refl _).alloc _).alloc _
  generalize hw0 : (w.alloc (.cells MD 56)).alloc (.cells #[.slice (some ⟨w.heap.size, 0, none⟩) n n, .bool false, .int .i64 0] 53) = w0 at *
  clear hw0 hmd
  go_loopw [31] (fun i wr => ∃ k : Nat, k ≤ n ∧ i = .int .i64 k ∧ Kept w wr ∧ NewAt w.heap.size n m k wr) (fun i _ => n - (intOf i).toNat)
  case atStart => exact ⟨0, Nat.zero_le _, rfl, hkk, hst⟩
  case round =>
    obtain ⟨k, hk, rfl, hK, hN⟩ := hrel
    by_cases hlt : k < n
    · have HN := Lib.hid hN
      have HK := Lib.hid hK
      have c0 := hN.c0
      have hsz := hN.size
      have HNX := Lib.hid (hN.next hlt hm2)
      obtain ⟨v0, hv0⟩ := hN.dn k hlt
      have hf := hN.fw (k * 2)
      have l0 : w.heap.size < wr.heap.size := by omega
      have l1 : w.heap.size + 1 < wr.heap.size := by omega
      have hms := HMS.out
      obtain ⟨MS, hMS⟩ : ∃ MS, MS = madeCells (secL zero64 false).toArray (m * 65) := ⟨_, rfl⟩
      rw [← hMS] at HNX hms
      have a0 : (wr.alloc (.cells MS 82)).cell? ⟨w.heap.size + 1, 0, none⟩ = some (.slice (some ⟨w.heap.size, 0, none⟩) n n) := by rw [World.cell?_alloc_lt _ _ _ (by simp; omega)]; exact c0
      have a1 : (wr.alloc (.cells MS 82)).cell? ⟨w.heap.size, k * 2, none⟩ = some v0 := by rw [World.cell?_alloc_lt _ _ _ (by simp; omega)]; exact hv0
      have a2 : (wr.alloc (.cells MS 82)).frozen? ⟨w.heap.size, k * 2, none⟩ = false := by rw [World.frozen?_alloc_past _ _ _ (by omega)]; exact hf
      have HKX : Hid (Kept w ((wr.alloc (.cells MS 82)).setCell ⟨w.heap.size, k * 2, none⟩ (.slice (some ⟨wr.heap.size, 0, none⟩) m m))) := (HK.out.alloc _).setCell (Nat.le_refl _) _
      rw [World.setCell_alloc_past _ _ _ _ l0] at HNX HKX
      clear hN hK hst hkk hMS hsz
      go_wp2_with fail
      go_region
      go_wp2_with fail
      exact ⟨⟨k + 1, by omega, by go_num, HKX.out.drew, HNX.out.drewN 1⟩, by simp [intOf]; omega⟩
    · obtain rfl : k = n := by omega
      go_wp2_with fail
      go_ret2
      exact ⟨rfl, hK, hN.rack hn1 hn2 hm1 hm2, hN.size⟩
set_option maxHeartbeats 1000000 in
set_option maxRecDepth 100000 in
theorem pNew_bad (n m : Int) (hn1 : -9223372036854775808 ≤ n) (hn2 : n ≤ 9223372036854775807) (hm1 : -9223372036854775808 ≤ m) (hm2 : m ≤ 9223372036854775807) (h : ¬ (1 ≤ n ∧ n ≤ 12 ∧ 1 ≤ m ∧ m ≤ 4096)) (w : World) :
    Calls Try.prog 9 #[.int .i64 n, .int .i64 m] w fun r w' => r = .returned (.tuple #[.pointer none, .int .i64 2]) ∧ Kept w w' := by
  by_cases h1 : n < 1
  · have b1 : decide (n < 1) = true := decide_eq_true h1
    go_enter Try.func9, Try.ntmps9
    go_wp2_with fail
    go_ret2
    exact ⟨rfl, Kept.refl _⟩
  · have b1 : decide (n < 1) = false := decide_eq_false h1
    by_cases h2 : 12 < n
    · have b2 : decide (12 < n) = true := decide_eq_true h2
      go_enter Try.func9, Try.ntmps9
      go_wp2_with fail
      go_ret2
      exact ⟨rfl, Kept.refl _⟩
    · have b2 : decide (12 < n) = false := decide_eq_false h2
      by_cases h3 : m < 1
      · have b3 : decide (m < 1) = true := decide_eq_true h3
        go_enter Try.func9, Try.ntmps9
        go_wp2_with fail
        go_ret2
        exact ⟨rfl, Kept.refl _⟩
      · have b3 : decide (m < 1) = false := decide_eq_false h3
        have b4 : decide (4096 < m) = true := decide_eq_true (by omega)
        go_enter Try.func9, Try.ntmps9
        go_wp2_with fail
        go_ret2
        exact ⟨rfl, Kept.refl _⟩
end Go.Proofs.Ytnfehfmmpjbgdaa
