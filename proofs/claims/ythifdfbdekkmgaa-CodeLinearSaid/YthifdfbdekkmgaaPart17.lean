/- SCodeSplit, SConcatT, SCodeSpread, SCodeRows. -/
import Derived.Test.YthifdfbdekkmgaaPart16
import Derived.Lib.LazyBuf
import Derived.Lib.AppendZerosOnto
import Derived.Deep.DeepMust
set_option linter.unusedVariables false
set_option linter.unusedSimpArgs false
set_option linter.unusedSectionVars false
set_option linter.unnecessarySimpa false
set_option linter.deprecated false
/- The text, cut into pieces of as many bytes each. -/
namespace Go.Proofs.Ythifdfbdekkmgaa
open Go.RowKit Gf Go.Lib
set_option linter.unusedVariables false
/-- A text copied to bytes, which may be fewer. -/
theorem run_copy_text (w : World) (dT sT ty : TypeId) (b n cap : Nat) (t : ByteArray)
    (hu : Seq.prog.underlying dT = some (.slice 5)) (hc : ∀ j, j < n → (w.cell? ⟨b, j, none⟩).isSome = true) (hf : ∀ j, j < n → w.frozen? ⟨b, j, none⟩ = false) :
    (Builtin.copy_ #[dT, sT] ty #[.slice (some ⟨b, 0, none⟩) n cap, .string t]).run Seq.prog w = .ok (goInt (Nat.min t.size n)) (w.setCells b 0 ((strCells t).take (Nat.min t.size n))) := by
  have hl : ((strCells t).take (Nat.min t.size n)).length = Nat.min t.size n := by rw [List.length_take, strCells_length]; exact Nat.min_eq_left (Nat.min_le_left _ _)
  have hm : Nat.min t.size n ≤ n := Nat.min_le_right _ _
  have hst := run_storeCells_cells (P := Seq.prog) b 0 ((strCells t).take (Nat.min t.size n)) 0 w (by rw [hl]; intro j hj; simpa using hc j (by omega)) (by rw [hl]; intro j hj; simpa using hf j (by omega)) (by
    intro v hv
    have hv2 := List.mem_of_mem_take hv
    exact strCells_oneCell t v hv2)
  obtain ⟨i0, hi, hzz⟩ := Option.map_eq_some_iff.1 info_byte
  simp only [Prod.mk.injEq] at hzz
  obtain ⟨hz, hs1, hby⟩ := hzz
  simp only [Nat.add_zero] at hst
  simp [Builtin.copy_, run_underlying hu, Builtin.lenOf, Builtin.firstCells, sizeOf, typeInfo, hi]
  rw [show List.map (fun x : UInt8 => Value.int IntKind.u8 (x.toNat : Int)) t.data.toList = strCells t from rfl]
  simp [hst]
theorem Byt.copied {g n : Nat} {w : World} (h : Byt g n (fun _ => 0) w) (t : ByteArray) : Byt g n (bt t) (w.setCells g 0 ((strCells t).take (Nat.min t.size n))) := by
  have hl : ((strCells t).take (Nat.min t.size n)).length = Nat.min t.size n := by rw [List.length_take, strCells_length]; exact Nat.min_eq_left (Nat.min_le_left _ _)
  have hm : Nat.min t.size n ≤ n := Nat.min_le_right _ _
  refine ⟨fun j hj => ?_, fun j hj => by rw [World.frozen?_setCells]; exact h.free j hj⟩
  by_cases hlt : j < Nat.min t.size n
  · have e := World.cell?_setCells_in g ((strCells t).take (Nat.min t.size n)) 0 w (by rw [hl]; intro i hi; rw [Nat.zero_add, h.cell i (by omega)]; rfl) j (by rw [hl]; exact hlt)
    rw [Nat.zero_add] at e
    rw [e, List.getElem_take, ← List.getElem?_eq_getElem, strCells_get t j (Nat.lt_of_lt_of_le hlt (Nat.min_le_left _ _))]
  · rw [World.cell?_setCells_out g _ 0 w _ (fun _ _ => .inr (by rw [hl]; show _ ≤ j; omega)), h.cell j hj]
    have hs : t.size ≤ j := by
      rcases Nat.le_total t.size n with h1 | h1
      · rw [show Nat.min t.size n = t.size from Nat.min_eq_left h1] at hlt; omega
      · rw [show Nat.min t.size n = n from Nat.min_eq_right h1] at hlt; omega
    unfold bt
    rw [getElem!_neg t.data.toList j (by simpa using hs)]
    rfl
/-- The text behind its first lo bytes. -/
theorem bt_extract (t : ByteArray) (lo j : Nat) (h : lo ≤ t.size) : bt (t.extract lo t.size) j = bt t (lo + j) := by
  unfold bt
  by_cases hj : lo + j < t.size
  · rw [getElem!_pos _ _ (by simp; omega), getElem!_pos _ _ (by simpa using hj)]
    simp
  · rw [getElem!_neg _ _ (by simp; omega), getElem!_neg _ _ (by simp; omega)]
/-- The pieces of a text. -/
def pc (t : ByteArray) (sz i j : Nat) : UInt8 := bt t (i * sz + j)
def splitL (k : Nat) (t : ByteArray) : List ByteArray := matL k (sizeN k t.size) (pc t (sizeN k t.size))
theorem piece_is (t : ByteArray) (sz i : Nat) : strOf sz (bt (t.extract (min (i * sz) t.size) t.size)) = strOf sz (pc t sz i) := by
  refine strOf_congr _ _ _ (fun j hj => ?_)
  rw [bt_extract t _ j (Nat.min_le_right _ _)]
  unfold pc
  rcases Nat.le_total (i * sz) t.size with h | h
  · rw [Nat.min_eq_left h]
  · rw [Nat.min_eq_right h]
    unfold bt
    rw [getElem!_neg _ _ (by simp), getElem!_neg _ _ (by simp; omega)]
set_option maxHeartbeats 1000000 in
set_option maxRecDepth 100000 in
theorem pSplit_ok (k : Nat) (t : ByteArray) (w : World) (hk1 : 1 ≤ k) (hk2 : k ≤ 32) (ht : t.size ≤ 100000000) :
    Calls Seq.prog 8 #[.int .i64 k, .string t] w fun e w' => GotM (splitL k t) 0 w e w' := by
  have hsp : spB (k : Int) 0 = true := decide_eq_true ⟨by omega, by omega, by omega, by omega⟩
  have hsz : sizeI (k : Int) (t.size : Nat) = sizeN k t.size := if_pos ⟨hsp, by omega⟩
  have hle := sizeN_le k t.size hk1
  unfold splitL
  obtain ⟨sz, hszn⟩ : ∃ sz, sizeN k t.size = sz := ⟨_, rfl⟩
  rw [hszn] at hle hsz ⊢
  have HSP := Lib.hid hsp
  have HSZ := Lib.hid hsz
  clear hszn hsp hsz
  go_enter Seq.func8, Seq.ntmps8
  go_wp2_with fail
  refine (spreadable_any (k : Int) 0 _ (by omega) (by omega) (by decide) (by decide)).mono ?_
  rw [HSP.out]
  rintro e w1 ⟨rfl, rfl⟩
  go_wp2_with fail
  refine (pSize_any (k : Int) (t.size : Nat) _ (by omega) (by omega) (by omega) (by omega)).mono ?_
  rw [HSZ.out]
  rintro e w2 ⟨rfl, hk⟩
  have HK := Lib.hid hk
  clear hk HSP HSZ
  have hmk := fun W => make_strs k (by omega) W
  have HT := Lib.hid (Txt.made w2 k)
  have HK2 : Hid (Kept w1 (w2.alloc (.cells (row k fun _ => .string ByteArray.empty) 9))) := HK.out.alloc _
  have HGE := Lib.hid HK.out.size
  generalize (row k fun _ => Value.string ByteArray.empty) = R0 at *
  go_wp2_with fail
  obtain ⟨G, hG⟩ : ∃ G, w2.heap.size = G := ⟨_, rfl⟩
  have HG : Hid (w1.heap.size ≤ G) := by rw [← hG]; exact HGE.out
  rw [hG] at HT ⊢
  generalize w2.alloc (.cells R0 9) = w3 at *
  clear hG hmk HGE
  go_loopw [21, 8, 9] (fun i _ _ wr => ∃ j : Nat, j ≤ k ∧ i = .int .i64 j ∧ Hid (Txt G k (fillT (fun i => strOf sz (pc t sz i)) j) wr ∧ Kept w1 wr)) (fun i _ _ _ => k - (RowKit.intOf i).toNat)
  case atStart => exact ⟨0, Nat.zero_le _, rfl, HT.out.congr (fun j hj => by unfold fillT; rw [if_neg (by omega)]), HK2.out⟩
  case round =>
    obtain ⟨j, hj, rfl, HI⟩ := hrel
    by_cases hlt : j < k
    · have hmk := fun W => run_make_row' (P := Seq.prog) 41 5 (.int .u8 0) 1 Seq.underlying41 info_byte rfl .i64 .i64 sz (by omega) (by omega) W
      rw [made_zero] at hmk
      have HB := Lib.hid (Byt.made wr sz)
      have HK0 : Hid (Kept wr (wr.alloc (.cells (row sz fun _ => .int .u8 0) 5))) := (Kept.refl _).alloc _
      generalize (row sz fun _ => Value.int .u8 0) = R at *
      go_upto_region 9 with fail
      generalize wr.alloc (.cells R 5) = w5 at *
      obtain ⟨g, hg⟩ : ∃ g, wr.heap.size = g := ⟨_, rfl⟩
      have HGG := Lib.hid hg
      rw [hg] at HB ⊢
      clear hg hmk
      have hjz : j * sz ≤ 32 * 100000000 := Nat.mul_le_mul (by omega) (by omega)
      have hw : wrap64 ((j : Int) * (sz : Int)) = ((j * sz : Nat) : Int) := by
        rw [show (j : Int) * (sz : Int) = ((j * sz : Nat) : Int) from (Int.natCast_mul j sz).symm]
        exact IntWalk.wrap64_in _ ⟨by omega, by omega⟩
      have hm : min ((j * sz : Nat) : Int) ((t.size : Nat) : Int) = ((min (j * sz) t.size : Nat) : Int) := by omega
      have hlo : min (j * sz) t.size ≤ t.size := Nat.min_le_right _ _
      have HP := Lib.hid (piece_is t sz j)
      generalize min (j * sz) t.size = lo at *
      generalize j * sz = jz at *
      have hcp := fun ty => run_copy_text w5 41 9 ty g sz sz (t.extract lo t.size) Seq.underlying41 (fun i hi => by rw [HB.out.cell i hi]; rfl) HB.out.free
      have HB6 := Lib.hid (HB.out.copied (t.extract lo t.size))
      have HW6 : Hid (Kept wr (w5.setCells g 0 ((Lib.strCells (t.extract lo t.size)).take (Nat.min (t.extract lo t.size).size sz)))) := below_setCells (Nat.le_of_eq HGG.out) _ _ _ HK0.out
      obtain ⟨w6, hw6⟩ : ∃ W, w5.setCells g 0 ((Lib.strCells (t.extract lo t.size)).take (Nat.min (t.extract lo t.size).size sz)) = W := ⟨_, rfl⟩
      rw [hw6] at HB6 HW6
      simp only [hw6] at hcp
      clear hw6
      go_upto_region 10 with fail
      clear hcp hw hm hlo hjz
      have hcv := byt_string g sz sz _ _ HB6.out
      rw [HP.out] at hcv
      have HT6 := Lib.hid (HI.out.1.kept HW6.out)
      have hcell := HT6.out.cell j hlt
      have hfree := HT6.out.free j hlt
      have HF : Hid (Txt G k (fillT (fun i => strOf sz (pc t sz i)) (j + 1)) (w6.setCell ⟨G, j, none⟩ (.string (strOf sz (pc t sz j)))) ∧ Kept w1 (w6.setCell ⟨G, j, none⟩ (.string (strOf sz (pc t sz j))))) :=
        ⟨(HT6.out.set j hlt _).congr (fun i _ => fillT_next _ j i), (HI.out.2.trans HW6.out).setCell HG.out _⟩
      generalize strOf sz (pc t sz j) = s at *
      go_wp2_with fail
      exact ⟨⟨j + 1, by omega, by go_num, HF⟩, by simp [RowKit.intOf]; omega⟩
    · obtain rfl : j = k := by omega
      go_wp2_with fail
      go_ret2
      exact HI.out.1.gotM HI.out.2
set_option maxRecDepth 100000 in
theorem pSplit_bad (k : Int) (t : ByteArray) (w : World) (h0 : -9223372036854775808 ≤ k) (h1 : k ≤ 9223372036854775807) (h : spB k 0 = false) :
    Calls Seq.prog 8 #[.int .i64 k, .string t] w fun e w' => GotM [] 2 w e w' := by
  have HH := Lib.hid h
  clear h
  go_enter Seq.func8, Seq.ntmps8
  go_wp2_with fail
  refine (spreadable_any k 0 _ h0 h1 (by decide) (by decide)).mono ?_
  rw [HH.out]
  rintro e w1 ⟨rfl, rfl⟩
  go_wp2_with fail
  go_ret2
  exact GotM.nil 2 (Kept.refl _)
end Go.Proofs.Ythifdfbdekkmgaa

/- slices.Grow of no slice, slices.Concat of slices of texts, of the type []string; all but the first may have none. -/
namespace Go.Proofs.Ythifdfbdekkmgaa
open Go.RowKit
set_option linter.unusedVariables false
set_option maxHeartbeats 1000000 in
set_option maxRecDepth 100000 in
theorem growT_any (n : Nat) (hn : n ≤ 1000000) (h0 : 0 < n) (w : World) :
    Calls Seq.prog 33 #[.slice none 0 0, .int .i64 (n : Int)] w fun e w' => ∃ v, e = .returned v ∧ Gat w.heap.size v [] w' ∧ Kept w w' := by
  obtain ⟨i0, hi0, hzz⟩ := Option.map_eq_some_iff.1 info_string
  simp only [Prod.mk.injEq] at hzz
  obtain ⟨hz0, hs0, hb0⟩ := hzz
  have hrz : ∀ ty, (Builtin.append_ #[23, 3] ty #[.slice none 0 0, .int .i64 (n : Int)]).run Seq.prog w =
      .ok (.slice (some ⟨w.heap.size, 0, none⟩) n (grownCap w n 0 9)) (w.drew.alloc (.cells (#[] ++ Builtin.zeroCells (Value.string ByteArray.empty).cells n ++ Builtin.zeroCells (Value.string ByteArray.empty).cells (grownCap w n 0 9 - n)) 9)) := fun ty => by
    have h := Lib.run_append_grow_zeros (P := Seq.prog) w 23 3 ty 9 i0 (.string ByteArray.empty) .i64 .i64 Seq.underlying23 Seq.underlying3 hi0 hz0 none 0 0 [] (run_firstCells_none w.drew i0.size 0 0 0) n h0 (by rw [hs0]; omega) (by omega) (by omega) (by rw [hb0]; omega)
      (by rw [Nat.zero_add]; exact growslice_fits h0 (by rw [hb0]; omega))
    rw [Nat.zero_add] at h
    exact h
  have hGn : n ≤ grownCap w n 0 9 := grownCap_ge w _ _ _
  have hGm : grownCap w n 0 9 ≤ maxLen := grownCap_le_maxLen w n 0 9 (by unfold maxLen; omega)
  obtain ⟨G, hG⟩ : ∃ G, G = grownCap w n 0 9 := ⟨_, rfl⟩
  rw [← hG] at hrz hGn hGm
  have hC : (#[] ++ Builtin.zeroCells (Value.string ByteArray.empty).cells n ++ Builtin.zeroCells (Value.string ByteArray.empty).cells (G - n)).size = G := by
    have e : (Value.string ByteArray.empty).cells.size = 1 := rfl
    rw [Array.size_append, Array.size_append, size_zeroCells, size_zeroCells, e]
    simp
    omega
  generalize (#[] ++ Builtin.zeroCells (Value.string ByteArray.empty).cells n ++ Builtin.zeroCells (Value.string ByteArray.empty).cells (G - n)) = C at *
  have HEND : Hid (Gat w.heap.size (.slice (some ⟨w.heap.size, 0, none⟩) 0 G) [] (w.drew.alloc (.cells C 9)) ∧ Kept w (w.drew.alloc (.cells C 9))) := by
    refine ⟨⟨rfl, .inr ⟨w.heap.size, G, C, rfl, Nat.le_refl _, heap_alloc_last w.drew _, Nat.zero_le _, hGm, by omega, by simp⟩⟩, ((Kept.refl w).drew).alloc _⟩
  unfold maxLen at hGm
  clear hG hC hz0 hs0 hb0 hi0
  go_enter Seq.func33, Seq.ntmps33
  go_wp2_with (at_builtin; refine Lib.wpList_append_run _ rfl _ _ _ _ rfl _ _ rfl rfl _ _ (hrz _) ?_)
  go_ret
  exact ⟨_, rfl, HEND.out⟩
set_option maxHeartbeats 1000000 in
set_option maxRecDepth 100000 in
theorem concatT_any (h : Nat) (m cap : Nat) (L : Nat → List ByteArray) (b o c : Nat → Nat) (w : World) (hm : 0 < m) (hmm : m ≤ 1000000) (hL : 0 < (L 0).length) (htot : (catK L m).length ≤ 1000000)
    (hc : ∀ j, j < m → w.cell? ⟨h, j, none⟩ = some (.slice (some ⟨b j, o j, none⟩) (L j).length (c j))) (hs : ∀ j, j < m → ∀ i, i < (L j).length → w.cell? ⟨b j, o j + i, none⟩ = some (.string (nth (L j) i))) :
    Calls Seq.prog 21 #[.slice (some ⟨h, 0, none⟩) m cap] w fun e w' => ∃ v, e = .returned v ∧ Gat w.heap.size v (catK L m) w' ∧ Kept w w' := by
  have HC := Lib.hid hc
  have HS := Lib.hid hs
  have HL := Lib.hid hL
  have HM := Lib.hid (fun k (hk : k ≤ m) => catK_mono L k m hk)
  clear hc hs hL
  go_enter Seq.func21, Seq.ntmps21
  go_wp2_with fail
  go_loop [3, 5, 11] (fun s _ i => ∃ k : Nat, k ≤ m ∧ i = .int .i64 k ∧ ∃ t : Nat, s = .int .i64 t ∧ t = (catK L k).length) (fun _ _ i => m - (intOf i).toNat)
  case atStart => exact ⟨0, Nat.zero_le _, rfl, 0, rfl, rfl⟩
  case round =>
    obtain ⟨k, hk, rfl, t, rfl, ht⟩ := hrel
    by_cases hlt : k < m
    · have hck := HC.out k hlt
      have hmo := HM.out (k + 1) hlt
      have hcat : (catK L (k + 1)).length = t + (L k).length := by rw [catK, List.length_append, ht]
      rw [hcat] at hmo
      have HCAT := Lib.hid hcat
      clear ht hcat
      generalize (L k).length = l at *
      go_wp2_with fail
      exact ⟨⟨k + 1, by omega, by go_num, t + l, by go_num, HCAT.out.symm⟩, by simp [intOf]; omega⟩
    · obtain rfl : k = m := by omega
      have ht0 : 0 < t := by
        have h1 := HM.out 1 (by omega)
        have h2 := HL.out
        rw [show catK L 1 = [] ++ L 0 from rfl, List.nil_append] at h1
        omega
      have htm : t ≤ 1000000 := by omega
      clear htot
      have HT := Lib.hid ht
      clear ht
      go_wp2_with fail
      refine (growT_any t htm ht0 _).mono ?_
      rintro e w1 ⟨v1, rfl, hg1, hk1⟩
      have H1 : Hid (Gat w.heap.size v1 (catK L 0) w1 ∧ Kept w w1) := ⟨hg1, hk1⟩
      clear hg1 hk1
      go_wp2_with fail
      go_loopw [6, 8, 27] (fun v _ i wr => ∃ q : Nat, q ≤ k ∧ i = .int .i64 q ∧ Hid (Gat w.heap.size v (catK L q) wr ∧ Kept w wr)) (fun _ _ i _ => k - (intOf i).toNat)
      case atStart => exact ⟨0, Nat.zero_le _, rfl, H1⟩
      case round =>
        obtain ⟨q, hq, rfl, HI⟩ := hrel
        by_cases hlq : q < k
        · have hck : wr.cell? ⟨h, q, none⟩ = some (.slice (some ⟨b q, o q, none⟩) (L q).length (c q)) := by rw [Below.cell HI.out.2 (block_lt_of_cell (HC.out q hlq))]; exact HC.out q hlq
          have HSQ : Hid (∀ i, i < (L q).length → wr.cell? ⟨b q, o q + i, none⟩ = some (.string ((L q).getD i ByteArray.empty))) := fun i hi => by rw [Below.cell HI.out.2 (block_lt_of_cell (HS.out q hlq i hi))]; exact HS.out q hlq i hi
          have HLE : Hid ((catK L q).length + (L q).length ≤ 1000000000) := by
            have h1 := HM.out (q + 1) hlq
            rw [catK, List.length_append] at h1
            have h2 := HT.out
            show _ ≤ _
            omega
          go_wp2_with (first | (at_builtin; go_must (refine wpList_gats _ rfl (.tmp 31) (.tmp 32) 23 rfl Seq.underlying23 w _ (catK L q) (by rfl) HI.out.1 HI.out.2 (L q) (b q) (o q) (c q) rfl HSQ.out HLE.out ?_); intro v9 w9 hG9 hK9))
          exact ⟨⟨q + 1, by omega, by go_num, hG9, hK9⟩, by simp [intOf]; omega⟩
        · obtain rfl : q = k := by omega
          go_wp2_with fail
          go_ret
          exact ⟨_, rfl, HI.out⟩
end Go.Proofs.Ythifdfbdekkmgaa

/- All parts: the first k, and the sums by Cauchy's rows. -/
namespace Go.Proofs.Ythifdfbdekkmgaa
open Go.RowKit Gf
set_option linter.unusedVariables false
theorem splitL_length (k : Nat) (t : ByteArray) : (splitL k t).length = k := matL_length _ _ _
/-- All the parts. -/
def spreadL (k r : Nat) (t : ByteArray) : List ByteArray := splitL k t ++ sumsL ((allL k r).drop k) (splitL k t)
set_option maxHeartbeats 1000000 in
set_option maxRecDepth 100000 in
theorem pSpread_ok (k r : Nat) (t : ByteArray) (w : World) (hk1 : 1 ≤ k) (hkr : k + r ≤ 32) (ht : t.size ≤ 100000000) :
    Calls Seq.prog 10 #[.int .i64 k, .int .i64 r, .string t] w fun e w' => GotM (spreadL k r t) 0 w e w' := by
  have hsp : spB (k : Int) (r : Int) = true := decide_eq_true ⟨by omega, by omega, by omega, by omega⟩
  have HSP := Lib.hid hsp
  clear hsp
  go_enter Seq.func10, Seq.ntmps10
  go_wp2_with fail
  refine (spreadable_any (k : Int) (r : Int) _ (by omega) (by omega) (by omega) (by omega)).mono ?_
  rw [HSP.out]
  rintro e w1 ⟨rfl, rfl⟩
  go_wp2_with fail
  refine (pSplit_ok k t _ hk1 (by omega) ht).mono ?_
  rintro e w2 ⟨a2, c2, rfl, hs2, hk2⟩
  rw [splitL_length]
  obtain ⟨b2, o2, hc2⟩ := strs_at hs2
  rw [splitL_length] at hc2
  obtain ⟨ha2, hd2⟩ := hc2 (by omega)
  clear hc2
  subst ha2
  have HS2 := Lib.hid hs2
  have HK2 := Lib.hid hk2
  clear hs2 hk2
  go_wp2_with fail
  refine (allRows_any k r _ hk1 hkr).mono ?_
  rintro e w3 ⟨a3, c3, rfl, hs3, hk3, hcap⟩
  obtain ⟨b3, o3, hc3⟩ := strs_at hs3
  rw [(allL_facts k r hk1 hkr).1] at hc3 ⊢
  obtain ⟨ha3, hd3⟩ := hc3 (by omega)
  clear hc3
  subst ha3
  have HS3 := Lib.hid (HS2.out.kept hk3)
  have hl3 := allL_facts k r hk1 hkr
  have hdl : ((allL k r).drop k).length = r := by rw [List.length_drop, hl3.1]; omega
  have HROW : Hid (∀ x : Nat, r = 0 ∨ x = o3 + k → Strs w3 (some ⟨b3, x, none⟩) ((allL k r).drop k)) := fun x hx => by
    rcases hx with h0 | rfl
    · exact .inl (List.eq_nil_of_length_eq_zero (by rw [hdl]; exact h0))
    · refine .inr ⟨b3, o3 + k, rfl, fun i hi => ?_⟩
      rw [hdl] at hi
      rw [Nat.add_assoc, hd3 (k + i) (by omega)]
      show _ = some (Value.string (nth ((allL k r).drop k) i))
      rw [← nth_get _ i (by rw [hdl]; exact hi), ← nth_get _ (k + i) (by rw [hl3.1]; omega), List.getElem_drop]
  have HCALL : Hid (∀ (x cx : Nat), r = 0 ∨ x = o3 + k → Calls Seq.prog 22 #[.slice (some ⟨b3, x, none⟩) r cx, .slice (some ⟨b2, o2, none⟩) k c2] w3 fun e w' => ∃ G, e = .returned (.slice (some ⟨G, 0, none⟩) r r) ∧ Txt G r (nth (sumsL ((allL k r).drop k) (splitL k t))) w' ∧ Kept w3 w') := fun x cx hx => by
    have h := sums_txt (some ⟨b3, x, none⟩) (some ⟨b2, o2, none⟩) cx c2 ((allL k r).drop k) (splitL k t) w3 (HROW.out x hx) HS3.out (by omega) (by rw [splitL_length]; omega) (fun s hs => by
      unfold splitL at hs
      rw [mat_sizes s hs]
      have := sizeN_le k t.size hk1
      omega) (fun s hs => by rw [hl3.2 s (List.mem_of_mem_drop hs)]; omega)
    rw [hdl, splitL_length] at h
    exact h
  have HK3 : Hid (Kept w1 w3) := HK2.out.trans hk3
  have HC2' : Hid (∀ W, Kept w3 W → ∀ i, i < k → W.cell? ⟨b2, o2 + i, none⟩ = some (.string (nth (splitL k t) i))) := fun W hW i hi => cellk (hd2 i hi) (hk3.trans hW)
  have HCAP := Lib.hid hcap
  have HDL := Lib.hid hdl
  clear hs3 hd3 hk3 hl3 hdl hcap HROW hd2
  go_wp2_with fail
  all_goals refine (HCALL.out _ _ (by have h9 := HCAP.out; omega)).mono ?_
  all_goals (rintro e w4 ⟨G, rfl, ht4, hk4⟩; have HT4 := Lib.hid ht4; have HK4 := Lib.hid hk4; clear ht4 hk4)
  all_goals go_wp2_with fail
  all_goals have HK6 : Hid (Kept w4 (w4.alloc (.cells #[.slice (some ⟨b2, o2, none⟩) k c2, .slice (some ⟨G, 0, none⟩) r r] 23))) := (Kept.refl _).alloc _
  all_goals (refine (concatT_any w4.heap.size 2 2 (fun j => if j = 0 then splitL k t else sumsL ((allL k r).drop k) (splitL k t)) (fun j => if j = 0 then b2 else G) (fun j => if j = 0 then o2 else 0) (fun j => if j = 0 then c2 else r) _ (by decide) (by decide) ?_ ?_ (fun j hj => ?_) (fun j hj i hi => ?_)).mono ?_)
  all_goals try (show 0 < (splitL k t).length; rw [splitL_length]; omega)
  all_goals try (show (([] ++ splitL k t) ++ sumsL ((allL k r).drop k) (splitL k t)).length ≤ _; rw [List.nil_append, List.length_append, splitL_length, sumsL_length, HDL.out]; omega)
  all_goals try (rw [slices_two _ _ _ _ _ hj]; by_cases h : j = 0 <;> simp [h, splitL_length, sumsL_length, HDL.out]; done)
  all_goals try (
    by_cases h : j = 0
    · simp only [h, if_pos] at hi ⊢
      rw [splitL_length] at hi
      exact HC2'.out _ (HK4.out.trans HK6.out) i hi
    · simp only [h, if_false] at hi ⊢
      rw [sumsL_length, HDL.out] at hi
      rw [Nat.zero_add]
      exact cellk (HT4.out.cell i hi) HK6.out)
  all_goals (
    rintro e w7 ⟨v7, rfl, hg7, hk7⟩
    have hcat : catK (fun j => if j = 0 then splitL k t else sumsL ((allL k r).drop k) (splitL k t)) 2 = spreadL k r t := by
      show ([] ++ splitL k t) ++ _ = _
      rw [List.nil_append]
      rfl
    rw [hcat] at hg7
    have HF : Hid (GotM (spreadL k r t) 0 w1 (.returned (.tuple #[v7, .int .i64 0])) w7) := hg7.gotM (HK3.out.trans (HK4.out.trans (HK6.out.trans hk7))) 0
    clear hg7 hk7 hcat
    go_wp2_with fail
    go_ret2
    exact HF.out)
end Go.Proofs.Ythifdfbdekkmgaa

/- By which row each wanted part is the sum of k others. -/
namespace Go.Proofs.Ythifdfbdekkmgaa
open Go.RowKit Gf
set_option linter.unusedVariables false
theorem nth_size (a : List ByteArray) (m : Nat) (h : ∀ s ∈ a, s.size ≤ m) (i : Nat) : (nth a i).size ≤ m := by
  rcases Nat.lt_or_ge i a.length with hi | hi
  · rw [← nth_get a i hi]; exact h _ (List.getElem_mem hi)
  · unfold nth
    rw [List.getD_eq_getElem?_getD, List.getElem?_eq_none hi]
    exact Nat.zero_le _
theorem pick_le (a : List ByteArray) (rs : List Int) (m : Nat) (h : ∀ s ∈ a, s.size ≤ m) : (pickL a rs).length ≤ rs.length ∧ ∀ s ∈ pickL a rs, s.size ≤ m := by
  unfold pickL
  split
  · refine ⟨by rw [List.length_map]; exact Nat.le_refl _, fun s hs => ?_⟩
    obtain ⟨r, _, rfl⟩ := List.mem_map.1 hs
    exact nth_size a m h _
  · exact ⟨Nat.zero_le _, fun s hs => by simp at hs⟩
theorem undo_le (a : List ByteArray) : (undoL a).length ≤ a.length ∧ ∀ s ∈ undoL a, s.size ≤ a.length := by
  unfold undoL
  split
  · refine ⟨by rw [matL_length]; exact Nat.le_refl _, fun s hs => ?_⟩
    rw [mat_sizes s hs]
    exact Nat.le_refl _
  · exact ⟨Nat.zero_le _, fun s hs => by simp at hs⟩
/-- By which rows the wanted parts are sums of those with the Indexes there. -/
noncomputable def byL (k r : Nat) (there wanted : List Int) : List ByteArray := if wanted.length = 0 then [] else prodL (pickL (allL k r) wanted) (undoL (pickL (allL k r) there))
set_option maxHeartbeats 1000000 in
set_option maxRecDepth 100000 in
theorem rowsBy_any (k r : Nat) (a b : Option Addr) (ca cb : Nat) (there wanted : List Int) (w : World) (hk1 : 1 ≤ k) (hkr : k + r ≤ 32) (hA : Ints .i64 w a there) (hB : Ints .i64 w b wanted) (hn : there.length ≤ 64) (hm : wanted.length ≤ 64)
    (h1 : ∀ r ∈ there, -9223372036854775808 ≤ r ∧ r ≤ 9223372036854775807) (h2 : ∀ r ∈ wanted, -9223372036854775808 ≤ r ∧ r ≤ 9223372036854775807) :
    Calls Seq.prog 32 #[.int .i64 k, .int .i64 r, .slice a there.length ca, .slice b wanted.length cb] w fun e w' => GotL (byL k r there wanted) w e w' := by
  have HA := Lib.hid hA
  have HB := Lib.hid hB
  have H1 := Lib.hid h1
  have H2 := Lib.hid h2
  clear hA hB h1 h2
  by_cases h0 : wanted.length = 0
  · rw [show byL k r there wanted = [] from if_pos h0]
    have hb : ((wanted.length : Int) == 0) = true := by simp [h0]
    go_enter Seq.func32, Seq.ntmps32
    go_wp2_with fail
    go_ret
    exact ⟨none, 0, rfl, .inl rfl, Kept.refl _⟩
  · rw [show byL k r there wanted = prodL (pickL (allL k r) wanted) (undoL (pickL (allL k r) there)) from if_neg h0]
    have hb : ((wanted.length : Int) == 0) = false := by simp; intro h; exact h0 (by rw [h]; rfl)
    have hl := allL_facts k r hk1 hkr
    have hp1 := pick_le (allL k r) there k (fun s hs => Nat.le_of_eq (hl.2 s hs))
    have hp2 := pick_le (allL k r) wanted k (fun s hs => Nat.le_of_eq (hl.2 s hs))
    have hu := undo_le (pickL (allL k r) there)
    have HLA : Hid ((allL k r).length ≤ maxLen ∧ ∀ s ∈ allL k r, s.size ≤ maxLen) := ⟨by rw [hl.1]; unfold maxLen; omega, fun s hs => by rw [hl.2 s hs]; unfold maxLen; omega⟩
    have HP1 : Hid ((pickL (allL k r) there).length ≤ maxLen ∧ ∀ s ∈ pickL (allL k r) there, s.size ≤ maxLen) := ⟨by unfold maxLen; omega, fun s hs => by have := hp1.2 s hs; unfold maxLen; omega⟩
    have HP2 : Hid ((pickL (allL k r) wanted).length ≤ maxLen ∧ ∀ s ∈ pickL (allL k r) wanted, s.size ≤ maxLen) := ⟨by unfold maxLen; omega, fun s hs => by have := hp2.2 s hs; unfold maxLen; omega⟩
    have HU : Hid ((undoL (pickL (allL k r) there)).length ≤ maxLen ∧ ∀ s ∈ undoL (pickL (allL k r) there), s.size ≤ maxLen) := ⟨by unfold maxLen; omega, fun s hs => by have := hu.2 s hs; unfold maxLen; omega⟩
    have HN : Hid (there.length ≤ maxLen ∧ wanted.length ≤ maxLen) := ⟨by unfold maxLen; omega, by unfold maxLen; omega⟩
    clear hl hp1 hp2 hu
    go_enter Seq.func32, Seq.ntmps32
    go_wp2_with fail
    refine (allRows_any k r _ hk1 hkr).mono ?_
    rintro e w1 ⟨a1, c1, rfl, hs1, hk, _⟩
    have HS1 := Lib.hid hs1
    have HK1 := Lib.hid hk
    clear hs1 hk
    go_wp2_with fail
    refine (pPick_any a1 a c1 ca (allL k r) there w1 HS1.out (HA.out.kept HK1.out) HLA.out.1 HN.out.1 HLA.out.2 H1.out).mono ?_
    rintro e w2 ⟨a2, c2, rfl, hs2, hk⟩
    have HS2 := Lib.hid hs2
    have HS12 := Lib.hid (HS1.out.kept hk)
    have HK2 : Hid (Kept w w2) := HK1.out.trans hk
    clear hs2 hk HS1 HK1
    go_wp2_with fail
    refine (pUndo_any a2 c2 _ w2 HS2.out HP1.out.1 HP1.out.2).mono ?_
    rintro e w3 ⟨a3, c3, rfl, hs3, hk⟩
    have HS3 := Lib.hid hs3
    have HS13 := Lib.hid (HS12.out.kept hk)
    have HK3 : Hid (Kept w w3) := HK2.out.trans hk
    clear hs3 hk HS2 HK2 HS12
    go_wp2_with fail
    refine (pPick_any a1 b c1 cb (allL k r) wanted w3 HS13.out (HB.out.kept HK3.out) HLA.out.1 HN.out.2 HLA.out.2 H2.out).mono ?_
    rintro e w4 ⟨a4, c4, rfl, hs4, hk⟩
    have HS4 := Lib.hid hs4
    have HS34 := Lib.hid (HS3.out.kept hk)
    have HK4 : Hid (Kept w w4) := HK3.out.trans hk
    clear hs4 hk HS3 HK3 HS13
    go_wp2_with fail
    refine (pTimes_any a4 a3 c4 c3 _ _ w4 HS4.out HS34.out HP2.out.1 HU.out.1 HP2.out.2 HU.out.2).mono ?_
    rintro e w5 ⟨a5, c5, rfl, hs5, hk⟩
    have HS5 := Lib.hid hs5
    have HK5 : Hid (Kept w w5) := HK4.out.trans hk
    clear hs5 hk HS4 HK4 HS34
    go_wp2_with fail
    go_ret
    exact ⟨_, _, rfl, HS5.out, HK5.out⟩
end Go.Proofs.Ythifdfbdekkmgaa

