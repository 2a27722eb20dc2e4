/- What byBytes answers: the sums of all bytes, in an array. -/
import Derived.Test.YtmgkkoajjdgmbaaGreatDoorPart7
import Derived.Test.YtmgkkoajjdgmbaaGreatDoorPart1
import Derived.Test.YtmgkkoajjdgmbaaGreatDoorPart2
import Derived.Test.YtmgkkoajjdgmbaaGreatDoorPart6
import Derived.BigRegion
set_option linter.unusedVariables false
set_option linter.unusedSimpArgs false
set_option linter.unusedSectionVars false
set_option linter.unnecessarySimpa false
set_option linter.deprecated false
namespace Go.Proofs.YtmgkkoajjdgmbaaGreatDoor
open Go.RowKit Sm
set_option linter.unusedVariables false
theorem zero_arr (w : World) : (zeroValue 124).run Tryz.prog w = .ok (.agg (row 256 fun _ => .int .u32 0)) w := by kernel_rfl
theorem info_arr : (Tryz.prog.info? 124).map (·.size) = some 256 := by kernel_rfl
theorem und_arr : Tryz.prog.underlying 124 = some (.array 256 22) := by kernel_rfl
/-- The table's cells, the first k of them filled. -/
def tabF (k j : Nat) : Value := if j < k then .int .u32 (steps 8 j : Nat) else .int .u32 0
theorem and_one (y : Nat) (h : y ≤ 4294967295) : bits BinOp.and IntKind.u32 (y : Int) 1 = ((y % 2 : Nat) : Int) := by
  have e := u32_and_nat y 1 (by omega) (by omega)
  rw [show ((1 : Nat) : Int) = 1 from rfl] at e
  rw [e, Nat.and_one_is_mod]
theorem xor_poly (y : Nat) (h : y ≤ 4294967295) : bits BinOp.xor IntKind.u32 ((y : Int) / 2) 3988292384 = ((y / 2 ^^^ poly : Nat) : Int) := by
  have e := u32_xor_nat (y / 2) poly (by omega) (by decide)
  rw [← e]
  rfl
theorem xor_none (y : Nat) (h : y ≤ 4294967295) : bits BinOp.xor IntKind.u32 ((y : Int) / 2) 0 = ((y / 2 : Nat) : Int) := by
  have e := u32_xor_nat (y / 2) 0 (by omega) (by decide)
  rw [Nat.xor_zero] at e
  rw [← e]
  rfl
theorem xor_le (y : Nat) (h : y ≤ 4294967295) : y / 2 ^^^ poly ≤ 4294967295 := by
  have : y / 2 ^^^ poly < 2 ^ 32 := Nat.xor_lt_two_pow (by omega) (by decide)
  omega
theorem step_half (y : Nat) (h : y % 2 = 0) : Sm.step y = y / 2 := by unfold Sm.step; rw [if_neg (by omega)]
theorem step_odd (y : Nat) (h : y % 2 = 1) : Sm.step y = y / 2 ^^^ poly := by unfold Sm.step; rw [if_pos h]
/-- The single bits' cells, those above b of them filled. -/
def isPow (j : Nat) : Bool := j == 1 || j == 2 || j == 4 || j == 8 || j == 16 || j == 32 || j == 64 || j == 128
def t1 (b j : Nat) : Nat := if isPow j && decide (b < j) then steps 8 j else 0
/-- All single bits, and the first k of the others. -/
def t2 (k j : Nat) : Nat := if decide (j < k) || isPow j then steps 8 j else 0
def bitAt (t : Nat) : Nat := 128 / 2 ^ t
theorem t1_all : ∀ t : Fin 8, 0 < bitAt t.val ∧ bitAt t.val < 256 ∧ bitAt t.val / 2 = bitAt (t.val + 1) ∧ steps (t.val + 1) 1 = steps 8 (bitAt t.val) ∧ ∀ j : Fin 256, t1 (bitAt (t.val + 1)) j.val = if j.val = bitAt t.val then steps 8 (bitAt t.val) else t1 (bitAt t.val) j.val := by decide +kernel
theorem t1_end : ∀ j : Fin 256, t1 (bitAt 8) j.val = t2 0 j.val := by decide +kernel
theorem t1_start : ∀ j : Fin 256, t1 (bitAt 0) j.val = 0 := by decide +kernel
/-- The lowest bit of k. -/
def low (k : Nat) : Nat := (bits BinOp.and IntKind.i64 (k : Int) (-(k : Int))).toNat
theorem low_all : ∀ k : Fin 256, bits BinOp.and IntKind.i64 (k.val : Int) (-(k.val : Int)) = ((low k.val : Nat) : Int) ∧ bits BinOp.xor IntKind.i64 (k.val : Int) ((low k.val : Nat) : Int) = ((k.val ^^^ low k.val : Nat) : Int) ∧ low k.val < 256 ∧ k.val ^^^ low k.val < 256 ∧ t2 k.val (low k.val) ^^^ t2 k.val (k.val ^^^ low k.val) = steps 8 k.val := by decide +kernel
theorem t2_next (k j : Nat) : t2 (k + 1) j = if j = k then steps 8 k else t2 k j := by
  unfold t2
  by_cases e : j = k
  · subst e; rw [if_pos rfl, if_pos (by simp)]
  · rw [if_neg e]
    by_cases h : j < k
    · rw [if_pos (by simp; omega), if_pos (by simp [h])]
    · have h2 : ¬ j < k + 1 := by omega
      simp only [h, h2, decide_false, Bool.false_or]
theorem t2_lt (k j : Nat) (h : j < 256) : t2 k j < 2 ^ 32 := by
  unfold t2
  split
  · exact steps_lt 8 j (by omega)
  · decide
theorem t2_end (j : Nat) (h : j < 256) : t2 256 j = steps 8 j := by unfold t2; rw [if_pos (by simp [h])]
/-- Where the table is made: its cells, and those of the result. -/
structure TabAt (w wr : World) (k : Nat) : Prop where
  kept : Kept w wr
  res : wr.heap[w.heap.size]? = some (.cells (row 256 fun _ => .int .u32 0) 124)
  tab : wr.heap[w.heap.size + 1]? = some (.cells (row 256 fun j => .int .u32 (t2 k j : Nat)) 124)
theorem TabAt.cell {w wr : World} {k : Nat} (h : TabAt w wr k) (j : Nat) (hj : j < 256) : wr.cell? ⟨w.heap.size + 1, j, none⟩ = some (.int .u32 (t2 k j : Nat)) := by
  rw [cell_of_row _ _ j _ _ _ h.tab, row_get _ _ j hj]
theorem TabAt.frozen {w wr : World} {k : Nat} (h : TabAt w wr k) (j : Nat) : wr.frozen? ⟨w.heap.size + 1, j, none⟩ = false := by
  simp [World.frozen?, h.tab]
theorem TabAt.step {w wr : World} {k : Nat} (h : TabAt w wr k) (hk : k < 256) : TabAt w (wr.setCell ⟨w.heap.size + 1, k, none⟩ (.int .u32 (steps 8 k : Nat))).drew (k + 1) := by
  have e := setCell_eq_setRow wr (w.heap.size + 1) k _ _ _ (.int .u32 (steps 8 k : Nat)) h.tab
  rw [row_set 256 _ (fun j => .int .u32 (t2 (k + 1) j : Nat)) k _ hk (fun j hj => by rw [t2_next]; by_cases e : j = k <;> simp [e])] at e
  refine ⟨(h.kept.setCell (by simp) _).drew, ?_, ?_⟩
  · show (wr.setCell _ _).heap[w.heap.size]? = _
    rw [e, setRow_other _ _ _ _ (by omega)]
    exact h.res
  · show (wr.setCell _ _).heap[w.heap.size + 1]? = _
    rw [e]
    exact setRow_heap _ _ _ _ _ _ h.tab
theorem tab_one : (row 256 (tabF 256)).all (·.oneCell') = true := by
  rw [row_congr 256 (tabF 256) (fun j => .int .u32 (steps 8 j : Nat)) (fun j hj => by unfold tabF; rw [if_pos hj])]
  exact row_one 256 .u32 _
set_option maxRecDepth 100000 in
theorem sums_any (w : World) :
    Calls Tryz.prog 68 #[] w fun e w' => e = .returned (.agg (row 256 (tabF 256))) ∧ Kept w w' := by
  have hz := zero_arr
  go_enter Tryz.func68, Tryz.ntmps68
  go_wp2_with fail
  clear hz
  go_loopw [2, 3] (fun x i wr => ∃ t : Nat, t ≤ 8 ∧ i = .int .i64 (bitAt t : Nat) ∧ x = .int .u32 (steps t 1 : Nat) ∧ wr = (w.alloc (.cells (row 256 fun _ => .int .u32 0) 124)).alloc (.cells (row 256 fun j => .int .u32 (t1 (bitAt t) j : Nat)) 124)) (fun _ i _ => (intOf i).toNat)
  case atStart => exact ⟨0, Nat.zero_le _, rfl, rfl, by rw [row_congr 256 (fun j => .int .u32 (t1 (bitAt 0) j : Nat)) (fun _ => .int .u32 0) (fun j hj => by rw [t1_start ⟨j, hj⟩]; rfl)]⟩
  case round =>
    obtain ⟨t, ht, rfl, rfl, rfl⟩ := hrel
    by_cases hlt : t < 8
    · obtain ⟨h1, h2, h3, h4, h5⟩ := t1_all ⟨t, hlt⟩
      have hy := steps_lt t 1 (by decide)
      have hs : steps (t + 1) 1 = Sm.step (steps t 1) := (step_steps t 1).symm
      simp only at h1 h2 h3 h4 h5
      have H5 := Lib.hid h5
      have H4 := Lib.hid h4
      have H3 := Lib.hid h3
      have HS := Lib.hid hs
      clear h3 h4 h5 hs
      generalize steps t 1 = y at *
      obtain ⟨y2, hy2⟩ : ∃ y2, steps (t + 1) 1 = y2 := ⟨_, rfl⟩
      obtain ⟨b2, hb2⟩ : ∃ b2, bitAt (t + 1) = b2 := ⟨_, rfl⟩
      rw [hy2] at H4 HS
      rw [hb2] at H3 H5
      have HT := Lib.hid hy2
      have HB := Lib.hid hb2
      clear hy2 hb2
      generalize bitAt t = b at *
      rcases Nat.mod_two_eq_zero_or_one y with hp | hp
      · have hb : bits BinOp.and IntKind.u32 (y : Int) 1 = 0 := by rw [and_one y (by omega), hp]; rfl
        have hget := row_get 256 (fun j => .int .u32 (t1 b j : Nat)) b h2
        go_wp2_with fail
        have hx : bits BinOp.xor IntKind.u32 ((y : Int) / 2) (bits BinOp.and IntKind.u32 3988292384 0) = (y2 : Nat) := by
          rw [show bits BinOp.and IntKind.u32 3988292384 0 = 0 from by decide +kernel, xor_none y (by omega), HS.out, step_half y hp]
        rw [hx]
        refine ⟨⟨t + 1, by omega, by rw [HB.out, ← H3.out]; go_num, by rw [HT.out], ?_⟩, by simp [intOf]; omega⟩
        rw [HB.out, row_set 256 _ (fun j => .int .u32 (t1 b2 j : Nat)) b _ h2 (fun j hj => by rw [H5.out ⟨j, hj⟩]; by_cases e : j = b <;> simp [e, H4.out])]
      · have hb : bits BinOp.and IntKind.u32 (y : Int) 1 = 1 := by rw [and_one y (by omega), hp]; rfl
        have hget := row_get 256 (fun j => .int .u32 (t1 b j : Nat)) b h2
        go_wp2_with fail
        have hx : bits BinOp.xor IntKind.u32 ((y : Int) / 2) (bits BinOp.and IntKind.u32 3988292384 4294967295) = (y2 : Nat) := by
          rw [show bits BinOp.and IntKind.u32 3988292384 4294967295 = 3988292384 from by decide +kernel, xor_poly y (by omega), HS.out, step_odd y hp]
        rw [hx]
        refine ⟨⟨t + 1, by omega, by rw [HB.out, ← H3.out]; go_num, by rw [HT.out], ?_⟩, by simp [intOf]; omega⟩
        rw [HB.out, row_set 256 _ (fun j => .int .u32 (t1 b2 j : Nat)) b _ h2 (fun j hj => by rw [H5.out ⟨j, hj⟩]; by_cases e : j = b <;> simp [e, H4.out])]
    · obtain rfl : t = 8 := by omega
      have h8 : bitAt 8 = 0 := by decide
      have hst := row_congr 256 (fun j => .int .u32 (t1 (bitAt 8) j : Nat)) (fun j => .int .u32 (t2 0 j : Nat)) (fun j hj => by rw [t1_end ⟨j, hj⟩])
      rw [hst, h8]
      clear hst h8
      go_wp2_with fail
      obtain ⟨wr0, hwr0⟩ : ∃ wr0, (w.alloc (.cells (row 256 fun _ => .int .u32 0) 124)).alloc (.cells (row 256 fun j => .int .u32 (t2 0 j : Nat)) 124) = wr0 := ⟨_, rfl⟩
      have htab : TabAt w wr0 0 := hwr0 ▸ ⟨((Kept.refl _).alloc _).alloc _, heap_alloc2_old w _ _, heap_alloc2_new w _ _⟩
      rw [hwr0]
      clear hwr0
      generalize hg : w.heap.size = g at *
      have HG := Lib.hid hg
      clear hg
      go_loopw [20] (fun i wr => ∃ k : Nat, k ≤ 256 ∧ i = .int .i64 k ∧ TabAt w wr k) (fun i _ => 256 - (intOf i).toNat)
      case atStart => exact ⟨0, Nat.zero_le _, rfl, htab⟩
      case round =>
        obtain ⟨k, hk, rfl, ht⟩ := hrel
        by_cases hlt : k < 256
        · obtain ⟨l1, l2, l3, l4, l5⟩ := low_all ⟨k, hlt⟩
          simp only at l1 l2 l3 l4 l5
          have L5 := Lib.hid l5
          clear l5
          have hg1 := ht.cell (low k) l3
          have hg2 := ht.cell (k ^^^ low k) l4
          have hg3 := ht.cell k hlt
          have hf := ht.frozen k
          rw [HG.out] at hg1 hg2 hg3 hf
          have hx := u32_xor_nat (t2 k (low k)) (t2 k (k ^^^ low k)) (t2_lt k _ l3) (t2_lt k _ l4)
          rw [L5.out] at hx
          generalize t2 k (low k) = u at *
          generalize t2 k (k ^^^ low k) = v at *
          generalize k ^^^ low k = m at *
          generalize low k = l at *
          have HT := Lib.hid (ht.step hlt)
          rw [HG.out] at HT
          clear ht
          go_wp2_with fail
          go_region
          go_wp2_with fail
          exact ⟨⟨k + 1, by omega, by go_num, HT.out⟩, by simp [intOf]; omega⟩
        · obtain rfl : k = 256 := by omega
          obtain ⟨hk1, hb0, hb1⟩ := ht
          rw [row_congr 256 (fun j => .int .u32 (t2 256 j : Nat)) (tabF 256) (fun j hj => by unfold tabF; rw [if_pos hj, t2_end j hj])] at hb1
          rw [HG.out] at hb0 hb1
          have HB1 := Lib.hid hb1
          have HB0 := Lib.hid hb0
          clear hb1 hb0 htab
          have hsz : (Tryz.prog.info? 124).map (·.size) = some (row 256 (tabF 256)).size := by rw [row_size]; exact info_arr
          have HSZ := Lib.hid hsz
          clear hsz
          have HOLD : (row 256 fun _ => Value.int .u32 0).size = (row 256 (tabF 256)).size := by rw [row_size, row_size]
          go_wp2_with (first | ((with_reducible refine wpList_load_row rfl 124 _ rfl (g + 1) rfl 124 (row 256 (tabF 256)) (0, 0) _ HB1.out und_arr rfl HSZ.out ?_)) | ((with_reducible refine wpList_store_row rfl 124 _ _ rfl g (row 256 (tabF 256)) rfl rfl 124 (row 256 fun _ => .int .u32 0) HB0.out HSZ.out HOLD tab_one ?_)))
          exact bodyPost_ret (results_cell_row rfl _ _ g 124 _ (0, 0) _ rfl (setRow_at _ _ _ _ _ HB0.out) und_arr rfl HSZ.out) rfl ⟨rfl, hk1.setRow _ _ (Nat.le_of_eq HG.out)⟩
theorem tab_at (q : Nat) (h : q < 256) : (row 256 (tabF 256))[q]? = some (.int .u32 (steps 8 q : Nat)) := by
  rw [row_get _ _ q h]
  unfold tabF
  rw [if_pos h]
theorem idx_at (x : Nat) (b : UInt8) : bits .xor .u8 ((x : Int) % 256) ((b.toNat : Nat) : Int) = (((x ^^^ b.toNat) % 256 : Nat) : Int) := by
  have hb := b.toNat_lt
  have e := u8_xor_nat (x % 256) b.toNat (by omega) hb
  rw [show ((x : Int) % 256) = ((x % 256 : Nat) : Int) from by omega, e]
  congr 1
  rw [show (256 : Nat) = 2 ^ 8 from rfl, Nat.xor_mod_two_pow, Nat.mod_eq_of_lt (show b.toNat < 2 ^ 8 from hb)]
theorem take_all (s : ByteArray) : s.data.toList.take s.size = s.data.toList := List.take_of_length_le (Nat.le_of_eq (by simp))
theorem xor_32 (z t : Nat) (hz : z ≤ 4294967295) (ht : t < 2 ^ 32) : bits .xor .u32 ((z : Int) / 256) ((t : Nat) : Int) = ((t ^^^ (z / 256) : Nat) : Int) := by
  have e := u32_xor_nat (z / 256) t (by omega) (by omega)
  rw [show ((z : Int) / 256) = ((z / 256 : Nat) : Int) from by omega, e, Nat.xor_comm]
theorem xor_32le (a b : Nat) (ha : a < 2 ^ 32) (hb : b < 2 ^ 32) : a ^^^ b ≤ 4294967295 := by
  have := Nat.xor_lt_two_pow ha hb
  omega
set_option maxRecDepth 100000 in
theorem of_any (a : Option Addr) (cap : Nat) (ss : List ByteArray) (w : World) (hS : Strs w a ss) (hlen : ss.length ≤ 100000000) (hsz : ∀ s ∈ ss, s.size ≤ maxLen) :
    Calls Tryz.prog 55 #[.slice a ss.length cap] w fun e w' => e = .returned (.int .u32 (crc (cat ss) : Nat)) ∧ Kept w w' := by
  obtain ⟨b, o, hc⟩ : ∃ b o, 0 < ss.length → a = some ⟨b, o, none⟩ ∧ ∀ i, i < ss.length → w.cell? ⟨b, o + i, none⟩ = some (.string (ss.getD i ByteArray.empty)) := by
    rcases hS with rfl | ⟨b, o, h1, h2⟩
    · exact ⟨0, 0, fun h => absurd h (by simp)⟩
    · exact ⟨b, o, fun _ => ⟨h1, h2⟩⟩
  have HS := Lib.hid hc
  have HZ := Lib.hid hsz
  clear hS hsz hc
  go_enter Tryz.func55, Tryz.ntmps55
  go_wp2_with fail
  refine (sums_any _).mono ?_
  rintro e w1 ⟨rfl, hk1⟩
  have hz := zero_arr
  have HB := Lib.hid (World.setRow_alloc_new w1 (row 256 fun _ => .int .u32 0) (row 256 (tabF 256)) 124)
  have HG := Lib.hid (heap_alloc_last w1 (.cells (row 256 fun _ => .int .u32 0) 124))
  have hsz : (Tryz.prog.info? 124).map (·.size) = some (row 256 (tabF 256)).size := by rw [row_size]; exact info_arr
  have HSZ := Lib.hid hsz
  clear hsz
  have HOLD : (row 256 fun _ => Value.int .u32 0).size = (row 256 (tabF 256)).size := by rw [row_size, row_size]
  go_wp2_with (first | ((with_reducible refine wpList_store_row rfl 124 _ _ rfl w1.heap.size (row 256 (tabF 256)) rfl rfl 124 (row 256 fun _ => .int .u32 0) HG.out HSZ.out HOLD tab_one ?_); rw [HB.out]; clear hz HB HG HSZ HOLD))
  have hk2 : Kept w (w1.alloc (.cells (row 256 (tabF 256)) 124)) := hk1.alloc _
  have htab : ∀ q, q < 256 → (w1.alloc (.cells (row 256 (tabF 256)) 124)).cell? ⟨w1.heap.size, q, none⟩ = some (.int .u32 (steps 8 q : Nat)) := fun q hq => by rw [World.cell?_alloc_mark, tab_at q hq]
  generalize w1.alloc (.cells (row 256 (tabF 256)) 124) = w2 at *
  generalize w1.heap.size = g at *
  have HT := Lib.hid htab
  clear htab hk1
  go_loop [4, 11] (fun x i => ∃ k y : Nat, k ≤ ss.length ∧ i = .int .i64 k ∧ x = .int .u32 (y : Nat) ∧ y ≤ 4294967295 ∧ Hid (y = reg (cat (ss.take k)))) (fun _ i => ss.length - (intOf i).toNat)
  case atStart => exact ⟨0, 4294967295, Nat.zero_le _, rfl, rfl, Nat.le_refl _, rfl⟩
  case round =>
    obtain ⟨k, y, hk, rfl, rfl, hy, HY⟩ := hrel
    by_cases hlt : k < ss.length
    · obtain ⟨ha, hc⟩ := HS.out (by omega)
      have hck : w2.cell? ⟨b, o + k, none⟩ = some (.string ss[k]) := by
        have h := hc k hlt
        rw [Below.cell hk2 (block_lt_of_cell h), h, List.getD_eq_getElem?_getD, List.getElem?_eq_getElem hlt]
        rfl
      have hsk : ss[k].size ≤ maxLen := HZ.out _ (List.getElem_mem hlt)
      have HC := Lib.hid (cat_take ss k hlt)
      rw [ha]
      generalize ss[k] = p at *
      unfold maxLen at hsk
      clear hc
      go_wp2_with fail
      go_loop [4, 17] (fun x i => ∃ j z : Nat, j ≤ p.size ∧ i = .int .i64 j ∧ x = .int .u32 (z : Nat) ∧ z ≤ 4294967295 ∧ Hid (z = reg (cat (ss.take k) ++ p.data.toList.take j))) (fun _ i => p.size - (intOf i).toNat)
      case atStart => exact ⟨0, y, Nat.zero_le _, rfl, rfl, hy, by rw [List.take_zero, List.append_nil]; exact HY⟩
      case round =>
        obtain ⟨j, z, hj, rfl, rfl, hz, HZZ⟩ := hrel
        by_cases hlj : j < p.size
        · obtain ⟨q, hq⟩ : ∃ q, (z ^^^ p[j].toNat) % 256 = q := ⟨_, rfl⟩
          have hq256 : q < 256 := by omega
          have hidx := idx_at z p[j]
          rw [hq] at hidx
          have hcq := HT.out q hq256
          have HQ := Lib.hid hq
          have HN : Hid (steps 8 q ^^^ (z / 256) = reg (cat (ss.take k) ++ p.data.toList.take (j + 1))) := by
            show _ = _
            rw [take_snoc p j hlj, ← List.append_assoc, reg_snoc, ← HZZ.out, byte_table, hq]
          clear hq
          have hs8 := steps_lt 8 q (by omega)
          go_wp2_with fail
          exact ⟨⟨j + 1, steps 8 q ^^^ (z / 256), by omega, by go_num, by rw [xor_32 z _ hz hs8], xor_32le _ _ hs8 (by omega), HN⟩, by simp [intOf]; omega⟩
        · obtain rfl : j = p.size := by omega
          go_wp2_with fail
          exact ⟨⟨k + 1, z, by omega, by go_num, rfl, hz, (show z = reg (cat (ss.take (k + 1))) by rw [HC.out, HZZ.out, take_all])⟩, by simp [intOf]; omega⟩
    · obtain rfl : k = ss.length := by omega
      go_wp2_with fail
      go_ret
      refine ⟨?_, hk2⟩
      have e : bits .xor .u32 IntKind.u32.max (y : Int) = ((4294967295 ^^^ y : Nat) : Int) := by
        have e1 := u32_xor_nat 4294967295 y (by omega) (by omega)
        rw [← e1]
        rfl
      rw [cat_all] at HY
      have hy2 : y = reg (cat ss) := HY
      show Ending.returned (Value.int _ (bits .xor .u32 IntKind.u32.max (y : Int))) = _
      rw [e, hy2]
      rfl
end Go.Proofs.YtmgkkoajjdgmbaaGreatDoor
