/- SCodeJoin, SCodeFirst, SGatI, SCodeFirst2, SGatI2, SCodeLeast, SCauchy, SCodeMath, SCodeGather, SCodeAgain, SCodeBack, SCodeAlive, SCodeRef, SCodeRef2, SCodeRef3, SFieldRef3, SCodeRef4, SCodeTexts, SCodeSpreadsWalk, MillInv, MillInv2, LoneInv, LoneTest, LoneRound, LoneIn, LoneDesc. -/
import Derived.Test.YthifdfbdekkmgaaPart17
import Derived.Test.YthifdfbdekkmgaaPart18
import Derived.Lib.AppendStr
import Derived.Test.YthifdfbdekkmgaaPart11
import Derived.Test.YthifdfbdekkmgaaPart6
import Derived.OwnWalk
import Derived.Test.YthifdfbdekkmgaaPart8
import Derived.Deep.RegionLaw
import Derived.Deep.AppendLies
import Derived.Deep.OwnRows
import Derived.Test.YthifdfbdekkmgaaPart16
import Derived.Test.YthifdfbdekkmgaaPart10
import Derived.Test.YthifdfbdekkmgaaPart3
set_option linter.unusedVariables false
set_option linter.unusedSimpArgs false
set_option linter.unusedSectionVars false
set_option linter.unnecessarySimpa false
set_option linter.deprecated false
/- The first bytes of the parts, by a builder that is grown first. -/
namespace Go.Proofs.Ythifdfbdekkmgaa
open Go.Shelf Go.RowKit Gf
set_option linter.unusedVariables false
set_option maxHeartbeats 2000000 in
set_option maxRecDepth 100000 in
theorem bld_wstr (B b : Nat) (l : List UInt8) (s : ByteArray) (w : World) (h : Bld B b l w) (hlen : l.length + s.size ≤ 140737488355328) (hBw : B ≤ w.heap.size) :
    Calls Seq.prog 47 #[.pointer (some ⟨b, 0, none⟩), .string s] w fun e w' => e = .returned (.tuple #[.int .i64 s.size, .nilIface]) ∧ Bld B b (l ++ s.data.toList) w' ∧ Below B w w' := by
  obtain ⟨i0, hi, hz0, hz1, hz2⟩ := info_parts bldX.infoByte
  go_enter Seq.func47, Seq.ntmps47
  go_wp2_with fail
  refine (copyCheck_any B b l _ h).mono ?_
  rintro e w1 ⟨rfl, h1, hb1⟩
  obtain ⟨hB, v, hbk, hown, hne⟩ := h1
  have c0 : w1.cell? ⟨b, 0, none⟩ = some (.pointer (some ⟨b, 0, none⟩)) := by rw [Lib.cell_of_heap hbk]; rfl
  have c1 : w1.cell? ⟨b, 1, none⟩ = some v := by rw [Lib.cell_of_heap hbk]; rfl
  go_wp2_with (at_builtin; refine Lib.wpList_append_own_string _ rfl _ _ 41 9 rfl B 5 i0 Seq.underlying41 Seq.underlying9 hi hz0 hz1 hz2 _ _ _ rfl hown s rfl ?c3 ?c4 ?c5 ?_)
  case c3 => rw [Lib.byteCells_length]; unfold maxLen; omega
  case c4 => rw [Lib.byteCells_length]; omega
  case c5 => have := hb1.size; omega
  intro v' w2 hown' hgrow _
  have hlt : b < w1.heap.size := by
    rcases Nat.lt_or_ge b w1.heap.size with h' | h'
    · exact h'
    · simp [Array.getElem?_eq_none h'] at hbk
  have hb2 : w2.heap[b]? = some (.cells #[.pointer (some ⟨b, 0, none⟩), v] 87 (0, 0)) := by
    rw [hgrow.block b hlt (fun e => hne e.symm)]
    exact hbk
  have d0 : w2.cell? ⟨b, 0, none⟩ = some (.pointer (some ⟨b, 0, none⟩)) := by rw [Lib.cell_of_heap hb2]; rfl
  have d1 : w2.cell? ⟨b, 1, none⟩ = some v := by rw [Lib.cell_of_heap hb2]; rfl
  have f1 : w2.frozen? ⟨b, 1, none⟩ = false := Lib.frozen_of_heap hb2 1
  obtain ⟨ao, n', cap, rfl⟩ : ∃ ao n' cap, v' = .slice ao n' cap := by
    rcases hown'.2 with ⟨hv, _⟩ | ⟨g, cap, cur, hv, _⟩
    · exact ⟨_, _, _, hv⟩
    · exact ⟨_, _, _, hv⟩
  go_wp2
  go_ret2
  refine ⟨rfl, ?_, ?_⟩
  · refine .inr (Lib.BuilderAt.put (T := 87) (e := 5) hB hb2 (bs' := Lib.byteCells (l ++ s.data.toList)) ?_ bldX.neB5)
    rw [Lib.byteCells_append, List.length_append, Lib.byteCells_length, ← Lib.strCells_eq, Lib.strCells_length]
    rw [Lib.byteCells_length] at hown'
    exact hown'
  · exact (hb1.grown hgrow (by have := hb1.size; omega) (fun k hk => (hown.lt k hk).1)).setCell (p := ⟨b, 1, none⟩) hB _
set_option maxHeartbeats 2000000 in
set_option maxRecDepth 1000000 in
theorem bld_grow0 (B b : Nat) (w : World) (hB : B ≤ b) (hbk : w.heap[b]? = some (.cells #[.pointer none, .slice none 0 0] 87 (0, 0))) :
    Calls Seq.prog 46 #[.pointer (some ⟨b, 0, none⟩), .int .i64 (0 : Nat)] w fun e w' => e = .returned (.tuple #[]) ∧ Bld B b [] w' ∧ Below B w w' := by
  have hbk1 : (w.setCell ⟨b, 0, none⟩ (.pointer (some ⟨b, 0, none⟩))).heap[b]? = some (.cells #[.pointer (some ⟨b, 0, none⟩), .slice none 0 0] 87 (0, 0)) := by
    simp [World.setCell, Array.getElem?_modify, hbk]
  have c1 : (w.setCell ⟨b, 0, none⟩ (.pointer (some ⟨b, 0, none⟩))).cell? ⟨b, 1, none⟩ = some (.slice none 0 0) := by rw [Lib.cell_of_heap hbk1]; rfl
  have hb1 : Below B w (w.setCell ⟨b, 0, none⟩ (.pointer (some ⟨b, 0, none⟩))) := (Below.refl B w).setCell (p := ⟨b, 0, none⟩) hB _
  have c1' : (w.setCell ⟨b, 0, none⟩ (.pointer (some ⟨b, 0, none⟩))).drew.cell? ⟨b, 1, none⟩ = some (.slice none 0 0) := c1
  have hbk2 : (w.setCell ⟨b, 0, none⟩ (.pointer (some ⟨b, 0, none⟩))).drew.heap[b]? = some (.cells #[.pointer (some ⟨b, 0, none⟩), .slice none 0 0] 87 (0, 0)) := hbk1
  have hF : Bld B b [] (w.setCell ⟨b, 0, none⟩ (.pointer (some ⟨b, 0, none⟩))).drew := .inr ⟨hB, _, hbk2, ⟨rfl, .inl ⟨rfl, rfl⟩⟩, fun h => by cases h⟩
  go_enter Seq.func46, Seq.ntmps46
  go_wp2_with (go_at_call 84; refine (copyCheck_fresh b w (by rw [Lib.cell_of_heap hbk]; rfl) (by simp [World.shape?, hbk]) (Lib.frozen_of_heap hbk 0)).mono ?_; rintro e w' ⟨rfl, rfl⟩)
  go_region
  all_goals go_wp2
  all_goals (go_end0; exact ⟨rfl, hF, hb1.drew⟩)
set_option maxHeartbeats 2000000 in
set_option maxRecDepth 100000 in
theorem bld_len (B b : Nat) (l : List UInt8) (w : World) (h : Bld B b l w) :
    Calls Seq.prog 48 #[.pointer (some ⟨b, 0, none⟩)] w fun e w' => e = .returned (.int .i64 l.length) ∧ w' = w := by
  have hc : ∃ a c, w.cell? ⟨b, 1, none⟩ = some (.slice a l.length c) := by
    have one : ∀ p, Lib.BuilderAt 87 5 B b p (Lib.byteCells l) w → ∃ a c, w.cell? ⟨b, 1, none⟩ = some (.slice a l.length c) := by
      rintro p ⟨_, v, hbk, hown, _⟩
      rw [Lib.cell_of_heap hbk]
      rw [Lib.byteCells_length] at hown
      rcases hown.2 with ⟨rfl, h0⟩ | ⟨g, cap, cur, rfl, _⟩
      · exact ⟨none, 0, by rw [h0]; rfl⟩
      · exact ⟨_, _, rfl⟩
    rcases h with h | h
    · exact one _ h
    · exact one _ h
  obtain ⟨a, c, hc⟩ := hc
  go_enter Seq.func48, Seq.ntmps48
  go_wp2
  go_ret
  exact ⟨rfl, rfl⟩
/-- The bytes of the first q parts, one behind the other. -/
def catB (ss : List ByteArray) : Nat → List UInt8
  | 0 => []
  | q + 1 => catB ss q ++ (nth ss q).data.toList
theorem take_step (n : Nat) (X s : List UInt8) : (X ++ s).take n = X.take n ++ s.take (min s.length (n - (X.take n).length)) := by
  rw [List.take_append, List.length_take]
  congr 1
  rcases Nat.le_total n X.length with h | h
  · rw [Nat.min_eq_left h, Nat.sub_self, Nat.min_eq_right (Nat.zero_le _), show n - X.length = 0 from by omega]
  · rw [Nat.min_eq_right h]
    rcases Nat.le_total s.length (n - X.length) with h2 | h2
    · rw [Nat.min_eq_left h2, List.take_of_length_le h2, List.take_of_length_le (Nat.le_refl _)]
    · rw [Nat.min_eq_right h2]
/-- The first n bytes of the parts. -/
def joinS (n : Nat) (ss : List ByteArray) : ByteArray := ⟨((catB ss ss.length).take n).toArray⟩
theorem ext_list (s : ByteArray) (m : Nat) : (s.extract 0 m).data.toList = s.data.toList.take m := by simp
set_option maxHeartbeats 1000000 in
set_option maxRecDepth 100000 in
theorem join_any (n : Nat) (a : Option Addr) (ca : Nat) (ss : List ByteArray) (w : World) (hn : n ≤ 10000000000) (hS : Strs w a ss) (hl : ss.length ≤ 64) (hz : ∀ s ∈ ss, s.size ≤ 100000000) :
    Calls Seq.prog 28 #[.int .i64 n, .slice a ss.length ca] w fun e w' => e = .returned (.string (joinS n ss)) ∧ Kept w w' := by
  obtain ⟨b1, o1, hc1⟩ := strs_at hS
  have HC := Lib.hid hc1
  have HZ := Lib.hid hz
  clear hS hc1 hz
  have hbk : (w.alloc (.cells #[.pointer none, .slice none 0 0] 87)).heap[w.heap.size]? = some (.cells #[.pointer none, .slice none 0 0] 87 (0, 0)) := heap_alloc_last w _
  have hgrow : Calls Seq.prog 46 #[.pointer (some ⟨w.heap.size, 0, none⟩), .int .i64 n] (w.alloc (.cells #[.pointer none, .slice none 0 0] 87)) fun e w' => e = .returned (.tuple #[]) ∧ Bld w.heap.size w.heap.size [] w' ∧ Below w.heap.size (w.alloc (.cells #[.pointer none, .slice none 0 0] 87)) w' := by
    rcases Nat.eq_zero_or_pos n with h0 | h0
    · subst h0
      exact bld_grow0 w.heap.size w.heap.size _ (Nat.le_refl _) hbk
    · exact bld_grow w.heap.size w.heap.size n _ (Nat.le_refl _) hbk (by show _ ≤ (w.heap.push _).size; simp) h0 (by omega)
  have HG := Lib.hid hgrow
  have HK0 : Hid (Kept w (w.alloc (.cells #[.pointer none, .slice none 0 0] 87))) := (Kept.refl _).alloc _
  clear hbk hgrow
  go_enter Seq.func28, Seq.ntmps28
  go_wp2_with fail
  refine HG.out.mono ?_
  rintro e w1 ⟨rfl, hb, hbel⟩
  have HI0 : Hid (Bld w.heap.size w.heap.size [] w1 ∧ Kept w w1) := ⟨hb, Below.trans (show Below w.heap.size w _ from HK0.out) hbel⟩
  clear hb hbel HG HK0
  go_wp2_with fail
  obtain ⟨B, hB⟩ : ∃ B, w.heap.size = B := ⟨_, rfl⟩
  have HBB := Lib.hid hB
  rw [hB] at HI0 ⊢
  clear hB
  obtain ⟨m, hm⟩ : ∃ m, ss.length = m := ⟨_, rfl⟩
  have HM := Lib.hid hm
  rw [hm] at hl HC ⊢
  clear hm
  go_loopw [12, 7] (fun i _ wr => ∃ q : Nat, q ≤ m ∧ i = .int .i64 q ∧ Hid (Bld B B ((catB ss q).take n) wr ∧ Kept w wr)) (fun i _ _ => m - (intOf i).toNat)
  case atStart => exact ⟨0, Nat.zero_le _, rfl, by rw [show (catB ss 0).take n = [] from List.take_nil]; exact HI0.out.1, HI0.out.2⟩
  case round =>
    obtain ⟨q, hq, rfl, HI⟩ := hrel
    by_cases hlt : q < m
    · obtain ⟨ha, hcell⟩ := HC.out (by omega)
      subst ha
      have hc := cellk (hcell q hlt) HI.out.2
      have hsz : (nth ss q).size ≤ 100000000 := HZ.out _ (by rw [← nth_get ss q (by rw [HM.out]; exact hlt)]; exact List.getElem_mem _)
      have HST : Hid ((catB ss (q + 1)).take n = (catB ss q).take n ++ ((nth ss q).extract 0 (min (nth ss q).size (n - ((catB ss q).take n).length))).data.toList) := by
        rw [ext_list, catB, take_step]
        rfl
      have hll : ((catB ss q).take n).length ≤ n := by rw [List.length_take]; exact Nat.min_le_left _ _
      clear hcell
      generalize (catB ss q).take n = L at *
      generalize nth ss q = p at *
      have hmin : min ((p.size : Nat) : Int) (((n : Nat) : Int) - ((L.length : Nat) : Int)) = ((min p.size (n - L.length) : Nat) : Int) := by omega
      have hwr : wrap64 (((n : Nat) : Int) - ((L.length : Nat) : Int)) = ((n : Nat) : Int) - ((L.length : Nat) : Int) := IntWalk.wrap64_in _ ⟨by omega, by omega⟩
      have hml : min p.size (n - L.length) ≤ p.size := Nat.min_le_left _ _
      generalize min p.size (n - L.length) = lm at *
      go_wp2_with fail
      refine (bld_len B B L wr HI.out.1).mono ?_
      rintro e w3 ⟨rfl, rfl⟩
      go_wp2_with fail
      have hxs : (p.extract 0 lm).size ≤ 100000000 := by rw [ByteArray.size_extract]; omega
      have hBw : B ≤ w3.heap.size := by rw [← HBB.out]; exact HI.out.2.size
      generalize p.extract 0 lm = x at *
      refine (bld_wstr B B L x w3 HI.out.1 (by omega) hBw).mono ?_
      rintro e w4 ⟨rfl, hb4, hbel⟩
      have HF : Hid (Bld B B ((catB ss (q + 1)).take n) w4 ∧ Kept w w4) := ⟨by rw [HST.out]; exact hb4, by
        have h := HI.out.2
        unfold Kept at h ⊢
        rw [HBB.out] at h ⊢
        exact h.trans hbel⟩
      clear hb4 hbel
      go_wp2_with fail
      exact ⟨⟨q + 1, by omega, by go_num, HF⟩, by simp [intOf]; omega⟩
    · obtain rfl : q = m := by omega
      go_wp2_with fail
      refine (bld_string B B _ wr HI.out.1 (by rw [← HBB.out]; exact HI.out.2.size)).mono ?_
      rintro e w3 ⟨rfl, hbel⟩
      have HK3 : Hid (Kept w w3) := by
        have h := HI.out.2
        unfold Kept at h ⊢
        rw [HBB.out] at h ⊢
        exact h.trans hbel
      have HJ : Hid ((⟨((catB ss q).take n).toArray⟩ : ByteArray) = joinS n ss) := Lib.hid (by unfold joinS; rw [HM.out])
      rw [HJ.out]
      clear hbel
      go_wp2_with fail
      go_ret
      exact ⟨rfl, HK3.out⟩
end Go.Proofs.Ythifdfbdekkmgaa

/- Is a number among others. -/
namespace Go.Proofs.Ythifdfbdekkmgaa
open Go.RowKit Gf
set_option linter.unusedVariables false
set_option maxRecDepth 100000 in
theorem index_any (a : Option Addr) (cap : Nat) (rs : List Int) (v : Int) (w : World) (hS : Ints .i64 w a rs) (hl : rs.length ≤ 100000000) :
    Calls Seq.prog 86 #[.slice a rs.length cap, .int .i64 v] w fun e w' => ∃ r : Int, e = .returned (.int .i64 r) ∧ w' = w ∧ (0 ≤ r ↔ v ∈ rs) := by
  obtain ⟨b, o, hc⟩ := ints_at hS
  have HC := Lib.hid hc
  clear hc hS
  go_enter Seq.func86, Seq.ntmps86
  go_wp2_with fail
  go_loop [8, 5] (fun i _ => ∃ k : Nat, k ≤ rs.length ∧ i = .int .i64 k ∧ Hid (∀ j, j < k → v ≠ nthI rs j)) (fun i _ => rs.length - (intOf i).toNat)
  case atStart => exact ⟨0, Nat.zero_le _, rfl, fun j hj => by omega⟩
  case round =>
    obtain ⟨k, hk, rfl, HY⟩ := hrel
    by_cases hlt : k < rs.length
    · obtain ⟨ha, hc⟩ := HC.out (by omega)
      have hck := hc k hlt
      have HN : Hid (v ≠ nthI rs k → ∀ j, j < k + 1 → v ≠ nthI rs j) := fun h j hj => by
        by_cases e : j = k
        · subst e; exact h
        · exact HY.out j (by omega)
      have HIN : Hid (nthI rs k ∈ rs) := by rw [← nthI_get rs k hlt]; exact List.getElem_mem hlt
      rw [ha]
      clear hc ha
      generalize nthI rs k = p at *
      by_cases he : v = p
      · have he1 : (v == p) = true := by simp [he]
        have HV : Hid (v ∈ rs) := Lib.hid (by rw [he]; exact HIN.out)
        clear HN
        go_wp2_with fail
        go_ret
        exact ⟨_, rfl, rfl, ⟨fun _ => by first | exact HV.out | exact HIN.out, fun _ => by omega⟩⟩
      · have he1 : (v == p) = false := by simp [he]
        have HN2 := Lib.hid (HN.out he)
        clear HN HIN
        go_wp2_with fail
        exact ⟨⟨k + 1, by omega, by go_num, HN2.out⟩, by simp [intOf]; omega⟩
    · obtain rfl : k = rs.length := by omega
      have HE : Hid (¬ v ∈ rs) := fun h => by
        obtain ⟨j, hj, e⟩ := List.getElem_of_mem h
        exact HY.out j hj (by rw [← e, nthI_get rs j hj])
      clear HY HC
      go_wp2_with fail
      go_ret
      exact ⟨_, rfl, rfl, ⟨fun h => by omega, fun h => absurd h HE.out⟩⟩
theorem contains_any (a : Option Addr) (cap : Nat) (rs : List Int) (v : Int) (w : World) (hS : Ints .i64 w a rs) (hl : rs.length ≤ 100000000) :
    Calls Seq.prog 50 #[.slice a rs.length cap, .int .i64 v] w fun e w' => e = .returned (.bool (decide (v ∈ rs))) ∧ w' = w := by
  have HCALL := Lib.hid (index_any a cap rs v w hS hl)
  clear hS
  go_enter Seq.func50, Seq.ntmps50
  go_wp2_with fail
  refine HCALL.out.mono ?_
  rintro e w1 ⟨r, rfl, rfl, hr⟩
  have HD : Hid (decide (0 ≤ r) = decide (v ∈ rs)) := Lib.hid (decide_eq_decide.2 hr)
  clear HCALL hr
  go_wp2_with fail
  go_ret
  exact ⟨by first | rfl | (rw [← HD.out]; rfl), rfl⟩
end Go.Proofs.Ythifdfbdekkmgaa

/- A slice of ints that the call itself has gathered, by append. -/
namespace Go.Proofs.Ythifdfbdekkmgaa
open Go.RowKit
set_option linter.unusedVariables false
/-- The value v is a slice of just the ints rs, nil or in a row among the blocks from B on. -/
def GatI (B : Nat) (v : Value) (rs : List Int) (w : World) : Prop := w.ownsRow B 3 1 v rs.length (rs.map (Value.int .i64))
theorem GatI.nil (B : Nat) (w : World) : GatI B (.slice none 0 0) [] w := World.ownsRow_nil _ _ _ _
theorem GatI.kept {B : Nat} {v : Value} {rs : List Int} {w w' : World} (h : GatI B v rs w) (k : Kept w w') : GatI B v rs w' := by
  obtain ⟨h1, h2⟩ := h
  refine ⟨h1, ?_⟩
  rcases h2 with h2 | ⟨g, cap, cur, h2, h3, h4, h5⟩
  · exact .inl h2
  · exact .inr ⟨g, cap, cur, h2, h3, by rw [k.block g (Array.getElem?_eq_some_iff.1 h4).1]; exact h4, h5⟩
theorem GatI.ints {B : Nat} {v : Value} {rs : List Int} {w : World} (h : GatI B v rs w) : ∃ a cap, v = .slice a rs.length cap ∧ Ints .i64 w a rs := by
  obtain ⟨h1, h2⟩ := h
  rcases h2 with ⟨rfl, h2⟩ | ⟨g, cap, cur, rfl, h3, h4, h5, h6, h7, h8⟩
  · exact ⟨none, 0, by rw [h2], .inl (List.length_eq_zero_iff.1 h2)⟩
  · refine ⟨_, cap, rfl, .inr ⟨g, 0, rfl, fun i hi => ?_⟩⟩
    rw [Nat.zero_add, cell_of_row _ _ i _ _ _ h4]
    have e : (cur.toList.take (rs.length * 1))[i]? = (rs.map (Value.int .i64))[i]? := by rw [h8]
    rw [List.getElem?_take_of_lt (by omega)] at e
    rw [← Array.getElem?_toList, e, List.getElem?_map, List.getElem?_eq_getElem hi, ← nthI_get rs i hi]
    rfl
theorem info_int : (Seq.prog.info? 3).map (fun i => (i.zero, i.size, i.bytes)) = some (some (.int .i64 0), 1, 8) := by kernel_rfl
theorem cell_int (W : World) (g : Nat) (r : Int) (h : W.cell? ⟨g, 0, none⟩ = some (.int .i64 r)) : ∀ j u, [Value.int .i64 r][j]? = some u → W.cell? ((⟨g, 0, none⟩ : Addr).add j) = some u := by
  intro j u hj
  match j, hj with
  | 0, hj =>
    simp at hj
    subst hj
    rw [add_at]
    exact h
/-- An append of one int, as a walk meets it. -/
theorem wpList_gati {ops : Array Oper} {rest : List Oper} {o : Oper} {a : Act} {Q : Exit → Act → World → Prop} (W : World) (hgd : o.guard = none) (s x : Operand)
    (ho : o.op = .call { callee := .builtin .append, args := #[s, x], argTypes := #[42, 42] })
    (w0 : World) (v : Value) (rs : List Int) (hs : a.eval s = v) (hG : GatI w0.heap.size v rs W) (hK : Kept w0 W) (r : Int) (g : Nat) (hx : a.eval x = .slice (some ⟨g, 0, none⟩) 1 1) (hc : W.cell? ⟨g, 0, none⟩ = some (.int .i64 r)) (hl : rs.length ≤ 1000000000)
    (h : ∀ v' w', GatI w0.heap.size v' (rs ++ [r]) w' → Kept w0 w' → wpList Seq.prog ops Q rest (a.put o.dst v') w') : wpList Seq.prog ops Q (o :: rest) a W := by
  obtain ⟨i0, hi, hzz⟩ := Option.map_eq_some_iff.1 info_int
  simp only [Prod.mk.injEq] at hzz
  refine wpList_append_own W hgd s x 42 ho w0.heap.size 3 i0 (.int .i64 0) 1 8 Seq.underlying42 hi hzz.1 hzz.2.1 hzz.2.2 rfl (by decide) v rs.length (rs.map (Value.int .i64)) hs hG ⟨g, 0, none⟩ 1 1 [.int .i64 r] hx rfl (cell_int W g r hc) (fun u hu => by simp at hu; subst hu; rfl) (by unfold maxLen; omega) (by omega) hK.size ?_
  intro v' w' h2 h3 _
  refine h v' w' ?_ (Below.grown hK h3 hK.size (fun k hk => (World.ownsRow.lt hG k hk).1))
  unfold GatI
  rw [List.map_append, List.length_append]
  exact h2
end Go.Proofs.Ythifdfbdekkmgaa

/- The first k parts, by k parts of whichever Indexes. -/
namespace Go.Proofs.Ythifdfbdekkmgaa
open Go.RowKit Gf
set_option linter.unusedVariables false
theorem by_le (k r : Nat) (there wanted : List Int) (hk1 : 1 ≤ k) (hkr : k + r ≤ 32) : (byL k r there wanted).length ≤ wanted.length ∧ ∀ s ∈ byL k r there wanted, s.size ≤ there.length := by
  have hl := allL_facts k r hk1 hkr
  unfold byL
  split
  · exact ⟨Nat.zero_le _, fun s hs => by simp at hs⟩
  · have hp2 := pick_le (allL k r) wanted k (fun s hs => Nat.le_of_eq (hl.2 s hs))
    have hp1 := pick_le (allL k r) there k (fun s hs => Nat.le_of_eq (hl.2 s hs))
    have hu := undo_le (pickL (allL k r) there)
    unfold prodL
    split
    · refine ⟨by rw [matL_length]; exact hp2.1, fun s hs => ?_⟩
      rw [mat_sizes s hs]
      exact Nat.le_trans (nth_size _ _ hu.2 0) hp1.1
    · exact ⟨Nat.zero_le _, fun s hs => by simp at hs⟩
/-- The texts whose Index is below k, each at its place. -/
def placeT (k : Nat) (there : List Int) (texts : List ByteArray) : Nat → Nat → ByteArray
  | 0 => fun _ => ByteArray.empty
  | q + 1 => if nthI there q < (k : Int) then updT (placeT k there texts q) (nthI there q).toNat (nth texts q) else placeT k there texts q
/-- The Indexes below q that are not there. -/
def lostL (there : List Int) : Nat → List Int
  | 0 => []
  | q + 1 => if (q : Int) ∈ there then lostL there q else lostL there q ++ [(q : Int)]
theorem lostL_facts (there : List Int) (q : Nat) : (lostL there q).length ≤ q ∧ ∀ i ∈ lostL there q, 0 ≤ i ∧ i < (q : Int) := by
  induction q with
  | zero => exact ⟨Nat.le_refl _, fun i hi => by simp [lostL] at hi⟩
  | succ q ih =>
    rw [lostL]
    split
    · exact ⟨by omega, fun i hi => by have := ih.2 i hi; omega⟩
    · refine ⟨by rw [List.length_append]; simp; omega, fun i hi => ?_⟩
      rcases List.mem_append.1 hi with h | h
      · have := ih.2 i h; omega
      · simp at h; omega
/-- What was made, each at its place. -/
def putL (lost : List Int) (made : List ByteArray) (F : Nat → ByteArray) : Nat → Nat → ByteArray
  | 0 => F
  | q + 1 => updT (putL lost made F q) (nthI lost q).toNat (nth made q)
theorem GatI.here {B : Nat} {v : Value} {rs : List Int} {w : World} (h : GatI B v rs w) : ∃ a cap, v = .slice a rs.length cap ∧ Ints .i64 w a rs ∧ ∀ x, a = some x → B ≤ x.block := by
  obtain ⟨a, cap, e, hi⟩ := h.ints
  subst e
  refine ⟨a, cap, rfl, hi, fun x hx => ?_⟩
  obtain ⟨_, h2⟩ := h
  rcases h2 with ⟨h3, _⟩ | ⟨g, c, cur, h3, h4, _⟩
  · injection h3 with e1
    rw [hx] at e1
    cases e1
  · injection h3 with e1
    rw [hx] at e1
    injection e1 with e2
    rw [e2]
    exact h4
/-- What firstParts makes. -/
noncomputable def firstF (k r : Nat) (there : List Int) (texts : List ByteArray) : Nat → ByteArray :=
  putL (lostL there k) (sumsL (byL k r there (lostL there k)) texts) (placeT k there texts there.length) (sumsL (byL k r there (lostL there k)) texts).length
set_option maxHeartbeats 2000000 in
set_option maxRecDepth 100000 in
theorem firstParts_any (k r : Nat) (a b : Option Addr) (ca cb : Nat) (there : List Int) (texts : List ByteArray) (w : World) (hk1 : 1 ≤ k) (hkr : k + r ≤ 32) (hA : Ints .i64 w a there) (hB : Strs w b texts) (hn : there.length ≤ 64) (hm : texts.length = there.length)
    (h1 : ∀ i ∈ there, 0 ≤ i ∧ i ≤ 64) (hz : ∀ s ∈ texts, s.size ≤ 100000000) :
    Calls Seq.prog 29 #[.int .i64 k, .int .i64 r, .slice a there.length ca, .slice b texts.length cb] w fun e w' => ∃ G, e = .returned (.slice (some ⟨G, 0, none⟩) k k) ∧ w.heap.size ≤ G ∧ Txt G k (firstF k r there texts) w' ∧ Kept w w' := by
  obtain ⟨b1, o1, hc1⟩ := ints_at hA
  obtain ⟨b2, o2, hc2⟩ := strs_at hB
  have HC1 := Lib.hid hc1
  have HC2 := Lib.hid hc2
  have HA := Lib.hid hA
  have HB := Lib.hid hB
  have H1 := Lib.hid h1
  have HZ := Lib.hid hz
  have HM := Lib.hid hm
  clear hc1 hc2 hA hB h1 hz
  rw [hm]
  clear hm
  obtain ⟨n, hnn⟩ : ∃ n, there.length = n := ⟨_, rfl⟩
  have HN := Lib.hid hnn
  rw [hnn] at hn HC1 ⊢
  rw [HM.out, hnn] at HC2
  clear hnn
  go_enter Seq.func29, Seq.ntmps29
  have hmk := fun W => make_strs k (by omega) W
  have HT0 := Lib.hid (Txt.made w k)
  have HK0 : Hid (Kept w (w.alloc (.cells (row k fun _ => .string ByteArray.empty) 9))) := (Kept.refl _).alloc _
  generalize (row k fun _ => Value.string ByteArray.empty) = R0 at *
  go_wp2_with fail
  obtain ⟨G, hG⟩ : ∃ G, w.heap.size = G := ⟨_, rfl⟩
  have HG : Hid (w.heap.size ≤ G) := Lib.hid (by rw [← hG]; exact Nat.le_refl _)
  rw [hG] at HT0 ⊢
  generalize w.alloc (.cells R0 9) = w0 at *
  clear hG hmk
  go_loopw [20, 10, 11] (fun i _ _ wr => ∃ q : Nat, q ≤ n ∧ i = .int .i64 q ∧ Hid (Txt G k (placeT k there texts q) wr ∧ Kept w wr)) (fun i _ _ _ => n - (intOf i).toNat)
  case atStart => exact ⟨0, Nat.zero_le _, rfl, HT0.out, HK0.out⟩
  case round =>
    obtain ⟨q, hq, rfl, HI⟩ := hrel
    by_cases hlt : q < n
    · obtain ⟨ha, hcell⟩ := HC1.out (by omega)
      obtain ⟨hb, hcell2⟩ := HC2.out (by omega)
      have hc := cellk (hcell q hlt) HI.out.2
      have hcc := cellk (hcell2 q hlt) HI.out.2
      rw [ha, hb]
      have hx := H1.out (nthI there q) (by rw [← nthI_get there q (by rw [HN.out]; exact hlt)]; exact List.getElem_mem _)
      have HST : Hid (placeT k there texts (q + 1) = if nthI there q < (k : Int) then updT (placeT k there texts q) (nthI there q).toNat (nth texts q) else placeT k there texts q) := Lib.hid rfl
      clear hcell hcell2 ha hb
      obtain ⟨x, hxx⟩ : ∃ x : Nat, nthI there q = x := ⟨(nthI there q).toNat, by omega⟩
      rw [hxx] at hc HST hx
      rw [Int.toNat_natCast] at HST
      clear hxx
      generalize nth texts q = p at *
      by_cases hlk : x < k
      · have hbk : decide ((x : Int) < (k : Int)) = true := decide_eq_true (by omega)
        have HST2 : Hid (placeT k there texts (q + 1) = updT (placeT k there texts q) x p) := Lib.hid (by rw [HST.out, if_pos (by omega)])
        have hcell := HI.out.1.cell x hlk
        have hfree := HI.out.1.free x hlk
        have HSET := Lib.hid (HI.out.1.set x hlk p)
        have HKS : Hid (Kept w (wr.setCell ⟨G, x, none⟩ (.string p))) := HI.out.2.setCell HG.out _
        generalize placeT k there texts q = F at *
        generalize F x = Fx at *
        clear HST
        go_wp2_with fail
        exact ⟨⟨q + 1, by omega, by go_num, by rw [HST2.out]; exact HSET.out, HKS.out⟩, by simp [intOf]; omega⟩
      · have hbk : decide ((x : Int) < (k : Int)) = false := decide_eq_false (by omega)
        have HST2 : Hid (placeT k there texts (q + 1) = placeT k there texts q) := Lib.hid (by rw [HST.out, if_neg (by omega)])
        clear HST
        go_wp2_with fail
        exact ⟨⟨q + 1, by omega, by go_num, by rw [HST2.out]; exact HI.out.1, HI.out.2⟩, by simp [intOf]; omega⟩
    · obtain rfl : q = n := by omega
      clear HC1 HC2
      obtain ⟨w1, hw1⟩ : ∃ w1, wr = w1 := ⟨_, rfl⟩
      rw [hw1] at HI ⊢
      clear hw1
      go_wp2_with fail
      have HCT : Hid (∀ W, Kept w1 W → ∀ v : Int, Calls Seq.prog 50 #[.slice a q ca, .int .i64 v] W fun e w' => e = .returned (.bool (decide (v ∈ there))) ∧ w' = W) := fun W hW v => by
        have h := contains_any a ca there v W ((HA.out.kept HI.out.2).kept hW) (by rw [HN.out]; omega)
        rw [HN.out] at h
        exact h
      go_loopw [37, 12, 13] (fun i v _ wr => ∃ j : Nat, j ≤ k ∧ i = .int .i64 j ∧ Hid (GatI w1.heap.size v (lostL there j) wr ∧ Kept w1 wr)) (fun i _ _ _ => k - (intOf i).toNat)
      case atStart => exact ⟨0, Nat.zero_le _, rfl, GatI.nil _ _, Kept.refl _⟩
      case round =>
        obtain ⟨j, hj, rfl, HJ⟩ := hrel
        by_cases hjk : j < k
        · go_wp2_with fail
          refine (HCT.out _ HJ.out.2 _).mono ?_
          rintro e w2 ⟨rfl, rfl⟩
          have HST : Hid (lostL there (j + 1) = if (j : Int) ∈ there then lostL there j else lostL there j ++ [(j : Int)]) := Lib.hid rfl
          have HLN : Hid ((lostL there j).length ≤ 1000000000) := Lib.hid (by have := (lostL_facts there j).1; omega)
          by_cases hin : (j : Int) ∈ there
          · have hd : decide ((j : Int) ∈ there) = true := decide_eq_true hin
            have HST2 : Hid (lostL there (j + 1) = lostL there j) := Lib.hid (by rw [HST.out, if_pos hin])
            clear HST
            go_wp2_with fail
            exact ⟨⟨j + 1, by omega, by go_num, by rw [HST2.out]; exact HJ.out⟩, by simp [intOf]; omega⟩
          · have hd : decide ((j : Int) ∈ there) = false := decide_eq_false hin
            have HST2 : Hid (lostL there (j + 1) = lostL there j ++ [(j : Int)]) := Lib.hid (by rw [HST.out, if_neg hin])
            clear HST
            go_wp2_with (first | (at_builtin; go_must (refine wpList_gati _ rfl (.tmp 44) (.tmp 46) rfl w1 _ (lostL there j) (by rfl) (HJ.out.1.kept ((Kept.refl _).alloc _)) (HJ.out.2.alloc _) (j : Int) w2.heap.size rfl (by rw [World.cell?_alloc_mark]; rfl) HLN.out ?_); intro v9 w9 hG9 hK9))
            exact ⟨⟨j + 1, by omega, by go_num, by rw [HST2.out]; exact ⟨hG9, hK9⟩⟩, by simp [intOf]; omega⟩
        · obtain rfl : k = j := by omega
          obtain ⟨aL, cL, hvL, hiL, hbL⟩ := HJ.out.1.here
          subst hvL
          have hlf := lostL_facts there k
          obtain ⟨w2, hw2⟩ : ∃ w2, wr = w2 := ⟨_, rfl⟩
          rw [hw2] at HJ hiL ⊢
          clear hw2 HCT
          have HGB : Hid (∀ x, aL = some x → x.block ≠ G) := Lib.hid (fun x hx => by have h8 := hbL x hx; have h9 := HI.out.1.lt (by omega); omega)
          clear hbL
          have HK2 : Hid (Kept w w2 ∧ Txt G k (placeT k there texts q) w2) := ⟨HI.out.2.trans HJ.out.2, HI.out.1.kept HJ.out.2⟩
          have HLF : Hid (∀ i ∈ lostL there k, 0 ≤ i ∧ i < (k : Int)) := hlf.2
          have HRB := rowsBy_any k r a aL ca cL there (lostL there k) w2 hk1 hkr (HA.out.kept HK2.out.1) hiL (by rw [HN.out]; exact hn) (by omega) (fun i hi => by have := H1.out i hi; omega) (fun i hi => by have := hlf.2 i hi; omega)
          rw [HN.out] at HRB
          have hbl := by_le k r there (lostL there k) hk1 hkr
          have hlen := hlf.1
          have HIL := Lib.hid hiL
          have HFF : Hid (firstF k r there texts = putL (lostL there k) (sumsL (byL k r there (lostL there k)) texts) (placeT k there texts q) (byL k r there (lostL there k)).length) := Lib.hid (by unfold firstF; rw [HN.out, sumsL_length])
          have HBL : Hid (∀ s ∈ byL k r there (lostL there k), s.size ≤ 100000000) := Lib.hid (fun s hs => by have := hbl.2 s hs; rw [HN.out] at this; omega)
          have hbll := hbl.1
          clear hbl hlf hiL HI HJ
          generalize lostL there k = lost at *
          generalize byL k r there lost = rows at *
          generalize placeT k there texts q = F0 at *
          have HRBH := Lib.hid HRB
          clear HRB
          go_wp2_with fail
          refine HRBH.out.mono ?_
          rintro e w3 ⟨a3, c3, rfl, hs3, hk3⟩
          have hsm := sums_new a3 b c3 cb rows texts w3 hs3 (HB.out.kept (HK2.out.1.trans hk3)) (by omega) (by rw [HM.out, HN.out]; exact hn) HZ.out HBL.out
          rw [HM.out, HN.out] at hsm
          have HSM := Lib.hid hsm
          have HK3 : Hid (Kept w w3 ∧ Txt G k F0 w3) := ⟨HK2.out.1.trans hk3, HK2.out.2.kept hk3⟩
          have HIL3 := Lib.hid (HIL.out.kept hk3)
          clear hs3 hk3 HK2 hsm HRBH HIL
          go_wp2_with fail
          refine HSM.out.mono ?_
          rintro e w4 ⟨Gs, rfl, ht4, hk4, hge⟩
          have HGN : Hid (Gs ≠ G) := Lib.hid (by have := HK3.out.2.lt (by omega); omega)
          have HI4 : Hid ((Txt G k F0 w4 ∧ Txt Gs rows.length (nth (sumsL rows texts)) w4) ∧ Kept w w4) := ⟨⟨HK3.out.2.kept hk4, ht4⟩, HK3.out.1.trans hk4⟩
          obtain ⟨bL, oL, hcL⟩ := ints_at (HIL3.out.kept hk4)
          have HCL := Lib.hid hcL
          clear ht4 hk4 hge HSM HK3 HIL3 hcL
          obtain ⟨m, hmr⟩ : ∃ m, rows.length = m := ⟨_, rfl⟩
          rw [hmr] at HFF HI4 hbll ⊢
          clear hmr
          go_wp2_with fail
          have HI5 : Hid (Txt G k (putL lost (sumsL rows texts) F0 0) w4 ∧ Txt Gs m (nth (sumsL rows texts)) w4 ∧ (0 < lost.length → ∀ i, i < lost.length → w4.cell? ⟨bL, oL + i, none⟩ = some (.int .i64 (nthI lost i))) ∧ Kept w w4) := ⟨HI4.out.1.1, HI4.out.1.2, fun h => (HCL.out h).2, HI4.out.2⟩
          clear HI4
          go_loopw [57, 14, 15] (fun i _ _ wr => ∃ t : Nat, t ≤ m ∧ i = .int .i64 t ∧ Hid (Txt G k (putL lost (sumsL rows texts) F0 t) wr ∧ Txt Gs m (nth (sumsL rows texts)) wr ∧ (0 < lost.length → ∀ i, i < lost.length → wr.cell? ⟨bL, oL + i, none⟩ = some (.int .i64 (nthI lost i))) ∧ Kept w wr)) (fun i _ _ _ => m - (intOf i).toNat)
          case atStart => exact ⟨0, Nat.zero_le _, rfl, HI5.out⟩
          case round =>
            obtain ⟨t, ht, rfl, HT⟩ := hrel
            by_cases hlt : t < m
            · obtain ⟨haL, _⟩ := HCL.out (by omega)
              have hbG := HGB.out _ haL
              rw [haL]
              have hc1 := HT.out.2.1.cell t hlt
              have hc2 := HT.out.2.2.1 (by omega) t (by omega)
              have hx := HLF.out (nthI lost t) (by rw [← nthI_get lost t (by omega)]; exact List.getElem_mem _)
              have HST : Hid (putL lost (sumsL rows texts) F0 (t + 1) = updT (putL lost (sumsL rows texts) F0 t) (nthI lost t).toNat (nth (sumsL rows texts) t)) := Lib.hid rfl
              obtain ⟨x, hxx⟩ : ∃ x : Nat, nthI lost t = x := ⟨(nthI lost t).toNat, by omega⟩
              rw [hxx] at hc2 HST hx
              rw [Int.toNat_natCast] at HST
              have hxk : x < k := by omega
              have hcell := HT.out.1.cell x hxk
              have hfree := HT.out.1.free x hxk
              have HF : Hid (Txt G k (putL lost (sumsL rows texts) F0 (t + 1)) (wr.setCell ⟨G, x, none⟩ (.string (nth (sumsL rows texts) t))) ∧ Txt Gs m (nth (sumsL rows texts)) (wr.setCell ⟨G, x, none⟩ (.string (nth (sumsL rows texts) t))) ∧ (0 < lost.length → ∀ i, i < lost.length → (wr.setCell ⟨G, x, none⟩ (.string (nth (sumsL rows texts) t))).cell? ⟨bL, oL + i, none⟩ = some (.int .i64 (nthI lost i))) ∧ Kept w (wr.setCell ⟨G, x, none⟩ (.string (nth (sumsL rows texts) t)))) :=
                ⟨by rw [HST.out]; exact HT.out.1.set x hxk _, HT.out.2.1.keptBut ((But.refl G wr).setCell _ _) HGN.out, fun h i hi => by
                  rw [World.cell?_setCell_other _ _ _ _ (fun h => hbG (by injection h with e1; exact e1.symm))]
                  exact HT.out.2.2.1 h i hi, HT.out.2.2.2.setCell HG.out _⟩
              clear HST haL hbG hxx hx
              generalize nth (sumsL rows texts) t = p at *
              generalize putL lost (sumsL rows texts) F0 t x = Fx at *
              go_wp2_with fail
              exact ⟨⟨t + 1, by omega, by go_num, HF⟩, by simp [intOf]; omega⟩
            · obtain rfl : t = m := by omega
              go_wp2_with fail
              go_ret
              exact ⟨G, rfl, HG.out, by rw [HFF.out]; exact HT.out.1, HT.out.2.2.2⟩
end Go.Proofs.Ythifdfbdekkmgaa

/- A slice of ints that the call itself has gathered: at a step of a region that draws its order; one of two such slices. -/
namespace Go.Proofs.Ythifdfbdekkmgaa
open Go.RowKit
set_option linter.unusedVariables false
theorem GatI.lt {B : Nat} {v : Value} {rs : List Int} {w : World} (h : GatI B v rs w) : ∀ k, v.ownBlock = some k → B ≤ k ∧ k < w.heap.size := World.ownsRow.lt h
/-- Where the ints of a slice lie that holds some. -/
structure LieI (g c : Nat) (rs : List Int) (w : World) : Prop where
  le : rs.length ≤ c
  max : c ≤ maxLen
  cell : ∀ i, i < rs.length → w.cell? ⟨g, i, none⟩ = some (.int .i64 (nthI rs i))
  free : ∀ i, i < rs.length → w.frozen? ⟨g, i, none⟩ = false
theorem GatI.lie {B : Nat} {v : Value} {rs : List Int} {w : World} (h : GatI B v rs w) (h0 : 0 < rs.length) : ∃ g c, v = .slice (some ⟨g, 0, none⟩) rs.length c ∧ B ≤ g ∧ g < w.heap.size ∧ LieI g c rs w := by
  obtain ⟨h1, h2⟩ := h
  rcases h2 with ⟨rfl, h2⟩ | ⟨g, cap, cur, rfl, h3, h4, h5, h6, h7, h8⟩
  · omega
  · refine ⟨g, cap, rfl, h3, (Array.getElem?_eq_some_iff.1 h4).1, h5, h6, fun i hi => ?_, fun i hi => frozen_of_row _ _ _ _ _ h4⟩
    rw [cell_of_row _ _ i _ _ _ h4]
    have e : (cur.toList.take (rs.length * 1))[i]? = (rs.map (Value.int .i64))[i]? := by rw [h8]
    rw [List.getElem?_take_of_lt (by omega)] at e
    rw [← Array.getElem?_toList, e, List.getElem?_map, List.getElem?_eq_getElem hi, ← nthI_get rs i hi]
    rfl
theorem LieI.ints {g c : Nat} {rs : List Int} {w : World} (h : LieI g c rs w) : Ints .i64 w (some ⟨g, 0, none⟩) rs := .inr ⟨g, 0, rfl, fun i hi => by rw [Nat.zero_add]; exact h.cell i hi⟩
theorem LieI.keptBlock {g c : Nat} {rs : List Int} {w w' : World} (h : LieI g c rs w) (e : w'.heap[g]? = w.heap[g]?) : LieI g c rs w' :=
  ⟨h.le, h.max, fun i hi => by rw [World.cell?_of_block (w := w) (a := ⟨g, i, none⟩) e]; exact h.cell i hi, fun i hi => by rw [World.frozen?_of_block (w := w) (a := ⟨g, i, none⟩) e]; exact h.free i hi⟩
theorem LieI.kept {g c : Nat} {rs : List Int} {w w' : World} (h : LieI g c rs w) (k : Kept w w') (hg : g < w.heap.size) : LieI g c rs w' := h.keptBlock (k.block g hg)
/-- An append of one int, as a walk meets it; all blocks but the row's own are as they were. -/
theorem wpList_gati2 {ops : Array Oper} {rest : List Oper} {o : Oper} {a : Act} {Q : Exit → Act → World → Prop} (W : World) (hgd : o.guard = none) (s x : Operand)
    (ho : o.op = .call { callee := .builtin .append, args := #[s, x], argTypes := #[42, 42] })
    (w0 : World) (v : Value) (rs : List Int) (hs : a.eval s = v) (hG : GatI w0.heap.size v rs W) (hK : Kept w0 W) (r : Int) (g : Nat) (hx : a.eval x = .slice (some ⟨g, 0, none⟩) 1 1) (hc : W.cell? ⟨g, 0, none⟩ = some (.int .i64 r)) (hl : rs.length ≤ 1000000000)
    (h : ∀ v' w', GatI w0.heap.size v' (rs ++ [r]) w' → Kept w0 w' → W.heap.size ≤ w'.heap.size → (∀ b, b < W.heap.size → v.ownBlock ≠ some b → w'.heap[b]? = W.heap[b]?) → (∀ b, v'.ownBlock = some b → v.ownBlock = some b ∨ W.heap.size ≤ b) → wpList Seq.prog ops Q rest (a.put o.dst v') w') : wpList Seq.prog ops Q (o :: rest) a W := by
  obtain ⟨i0, hi, hzz⟩ := Option.map_eq_some_iff.1 info_int
  simp only [Prod.mk.injEq] at hzz
  refine wpList_append_lies W hgd s x 42 ho w0.heap.size 3 i0 (.int .i64 0) 1 8 Seq.underlying42 hi hzz.1 hzz.2.1 hzz.2.2 rfl (by decide) v rs.length (rs.map (Value.int .i64)) hs hG ⟨g, 0, none⟩ 1 1 [.int .i64 r] hx rfl (cell_int W g r hc) (fun u hu => by simp at hu; subst hu; rfl) (by decide) (by unfold maxLen; omega) (by omega) hK.size _ rfl ?_
  intro g2 cap w' h2 h3 h4 h5
  refine h _ w' ?_ (Below.grown hK h3 hK.size (fun k hk => (World.ownsRow.lt hG k hk).1)) h3.size (fun b hb hn => h3.block b hb (fun e => hn e.symm)) (fun b hb => ?_)
  · unfold GatI
    rw [List.map_append, List.length_append]
    exact h2
  · injection hb with hb
    rcases h4 with h4 | h4
    · exact .inl (by rw [h4, ← hb])
    · exact .inr (by rw [← hb, h4]; exact Nat.le_refl _)
/-- An append of a slice of ints, at a step of a region that draws its order. -/
theorem step_gati {ops : Array Oper} {o : Oper} {a : Act} {K : Act → World → Prop} {Q : Exit → Act → World → Prop} {E : Prop} {W : World} (hgd : o.guard = none) (s x : Operand)
    (ho : o.op = .call { callee := .builtin .append, args := #[s, x], argTypes := #[42, 42] })
    (w0 : World) (v : Value) (rs : List Int) (hs : a.eval s = v) (hG : GatI w0.heap.size v rs W) (hK : Kept w0 W) (ts : List Int) (g off m c : Nat) (hx : a.eval x = .slice (some ⟨g, off, none⟩) m c) (hm : ts.length = m) (hc : ∀ i, i < m → W.cell? ⟨g, off + i, none⟩ = some (.int .i64 (nthI ts i))) (hl : rs.length + m ≤ 1000000000)
    (h : ∀ v' w', GatI w0.heap.size v' (rs ++ ts) w' → Kept w0 w' → (v' = .slice none 0 0 ↔ v = .slice none 0 0 ∧ m = 0) → K (a.put o.dst v') w') : if Region.wanted o (yielded ops a.tmps) = true then Oper.wp Seq.prog o a W K Q else E := by
  have hw : Region.wanted o (yielded ops a.tmps) = true := by simp [Region.wanted, hgd]
  rw [if_pos hw]
  obtain ⟨i0, hi, hzz⟩ := Option.map_eq_some_iff.1 info_int
  simp only [Prod.mk.injEq] at hzz
  refine wp_append_own W s x 42 ho w0.heap.size 3 i0 (.int .i64 0) 1 8 Seq.underlying42 hi hzz.1 hzz.2.1 hzz.2.2 rfl (by decide) v rs.length (rs.map (Value.int .i64)) hs hG ⟨g, off, none⟩ m c (ts.map (Value.int .i64)) hx (by rw [List.length_map, hm, Nat.mul_one]) (fun j u hj => ?_) (fun u hu => by obtain ⟨r, _, rfl⟩ := List.mem_map.1 hu; rfl) (by unfold maxLen; omega) (by omega) hK.size ?_
  · rw [List.getElem?_map] at hj
    by_cases hjl : j < ts.length
    · rw [List.getElem?_eq_getElem hjl, nthI_get ts j hjl] at hj
      rw [Go.WideShapes.add_plain, hc j (by omega)]
      exact hj
    · rw [List.getElem?_eq_none (by omega)] at hj
      cases hj
  · intro v' w' h2 h3 h4
    refine h v' w' ?_ (Below.grown hK h3 hK.size (fun k hk => (World.ownsRow.lt hG k hk).1)) h4
    unfold GatI
    rw [List.map_append, List.length_append, hm]
    exact h2
/-- A slice of no ints that was made just now. -/
theorem GatI.made {w0 w : World} (k : Kept w0 w) : GatI w0.heap.size (.slice (some ⟨w.heap.size, 0, none⟩) 0 0) [] (w.alloc (.cells #[] 3)) := World.ownsRow_made w #[] 0 k.size (Nat.zero_le _) rfl
theorem size_int1 (W : World) : (Go.sizeOf 3).run Seq.prog W = .ok 1 W := by
  obtain ⟨i0, hi, hzz⟩ := Option.map_eq_some_iff.1 info_int
  simp only [Prod.mk.injEq] at hzz
  simp [Go.sizeOf, typeInfo, hi, hzz.2.1]
set_option maxRecDepth 100000 in
/-- The first A ints of a slice. -/
theorem slice_low (g f c A : Nat) (hA : A ≤ c) (W : World) : (Instr.slice 42 (.slice (some ⟨g, 0, none⟩) f c) none (some (.int .i64 (A : Int))) none).run Seq.prog W = .ok (.slice (some ⟨g, 0, none⟩) A c) W := by
  have h := run_slice_h (P := Seq.prog) W 42 (some ⟨g, 0, none⟩) f c Seq.underlying42 .i64 (A : Int) (by omega) (by omega)
  rw [show Seq.prog.elem 42 = 3 by kernel_rfl, size_int1] at h
  rw [h]
  simp [Result.andThen, sliced, Addr.add]
set_option maxRecDepth 100000 in
/-- The ints of a slice behind A of them. -/
theorem slice_high (g f c A : Nat) (hA : A ≤ f) (W : World) : (Instr.slice 42 (.slice (some ⟨g, 0, none⟩) f c) (some (.int .i64 (A : Int))) none none).run Seq.prog W = .ok (.slice (some ⟨g, if c = A then 0 else A, none⟩) (f - A) (c - A)) W := by
  have h := run_slice_l (P := Seq.prog) W 42 (some ⟨g, 0, none⟩) f c Seq.underlying42 .i64 (A : Int) (by omega) (by omega)
  rw [show Seq.prog.elem 42 = 3 by kernel_rfl, size_int1] at h
  rw [h]
  simp only [Result.andThen, sliced, Int.toNat_natCast, Nat.mul_one]
  by_cases e : c = A
  · rw [if_pos e, if_pos e]
  · rw [if_neg e, if_neg e]
    show Result.ok (Value.slice (some ((⟨g, 0, none⟩ : Addr).add A)) _ _) W = _
    rw [add_at]
/-- n ints told by a function lie in block g, and may be written. -/
structure IntT (g n : Nat) (f : Nat → Int) (w : World) : Prop where
  cell : ∀ j, j < n → w.cell? ⟨g, j, none⟩ = some (.int .i64 (f j))
  free : ∀ j, j < n → w.frozen? ⟨g, j, none⟩ = false
theorem IntT.congr {g n : Nat} {f f' : Nat → Int} {w : World} (h : IntT g n f w) (e : ∀ j, j < n → f' j = f j) : IntT g n f' w :=
  ⟨fun j hj => by rw [e j hj]; exact h.cell j hj, h.free⟩
theorem IntT.set {g n : Nat} {f : Nat → Int} {w : World} (h : IntT g n f w) (k : Nat) (hk : k < n) (v : Int) : IntT g n (fun j => if j = k then v else f j) (w.setCell ⟨g, k, none⟩ (.int .i64 v)) := by
  refine ⟨fun j hj => ?_, fun j hj => by rw [World.frozen?_setCell]; exact h.free j hj⟩
  by_cases e : j = k
  · subst e
    simp only [if_pos]
    rw [World.cell?_setCell_same _ _ _ (h.cell j hj)]
  · simp only [if_neg e]
    rw [World.cell?_setCell_other _ _ _ _ (fun h => e (by injection h with _ e2; exact e2.symm)), h.cell j hj]
theorem IntT.lie {g n c : Nat} {f : Nat → Int} {w : World} (h : IntT g n f w) (rs : List Int) (hl : rs.length = n) (e : ∀ i, i < n → nthI rs i = f i) (hc : n ≤ c) (hm : c ≤ maxLen) : LieI g c rs w :=
  ⟨by omega, hm, fun i hi => by rw [e i (by omega)]; exact h.cell i (by omega), fun i hi => h.free i (by omega)⟩
theorem made_zeroI (n : Nat) : madeCells #[Value.int .i64 0] n = row n fun _ => .int .i64 0 := by
  apply Array.ext'
  rw [toList_madeCells_one]
  unfold row
  simp
  apply List.ext_getElem?
  intro i
  by_cases h : i < n <;> simp [h]
theorem make_ints (n : Nat) (hn : n ≤ 1000000) (W : World) : (Instr.makeSlice 42 (.int .i64 (n : Int)) (.int .i64 (n : Int))).run Seq.prog W = .ok (.slice (some ⟨W.heap.size, 0, none⟩) n n) (W.alloc (.cells (row n fun _ => .int .i64 0) 3)) := by
  have hmk := run_make_row' (P := Seq.prog) 42 3 (.int .i64 0) 8 Seq.underlying42 info_int rfl .i64 .i64 n (by omega) (by omega) W
  rw [made_zeroI] at hmk
  exact hmk
theorem IntT.made (w : World) (n : Nat) : IntT w.heap.size n (fun _ => 0) (w.alloc (.cells (row n fun _ => .int .i64 0) 3)) := by
  refine ⟨fun j hj => ?_, fun j hj => ?_⟩
  · rw [World.cell?_alloc_mark, row_get _ _ j hj]
  · rw [World.frozen?_alloc_mark]; simp
end Go.Proofs.Ythifdfbdekkmgaa

/- The k least Indexes of the parts, rising, and their Texts; or what is wrong with them. -/
namespace Go.Proofs.Ythifdfbdekkmgaa
open Go.RowKit Gf
set_option linter.unusedVariables false
/-- Parts: Index and Text. -/
abbrev Pts := List (Int × ByteArray)
def ixP (ps : Pts) (q : Nat) : Int := (ps.getD q (0, ByteArray.empty)).1
def txP (ps : Pts) (q : Nat) : ByteArray := (ps.getD q (0, ByteArray.empty)).2
/-- A slice of parts lies there. -/
def Parts (w : World) (a : Option Addr) (ps : Pts) : Prop :=
  ps = [] ∨ ∃ b o, a = some ⟨b, o, none⟩ ∧ ∀ i, i < ps.length → w.cell? ⟨b, o + i * 2, none⟩ = some (.int .i64 (ixP ps i)) ∧ w.cell? ⟨b, o + i * 2 + 1, none⟩ = some (.string (txP ps i))
theorem Parts.kept {w w' : World} {a : Option Addr} {ps : Pts} (h : Parts w a ps) (k : Kept w w') : Parts w' a ps := by
  rcases h with h | ⟨b, o, rfl, h⟩
  · exact .inl h
  · exact .inr ⟨b, o, rfl, fun i hi => ⟨cellk (h i hi).1 k, cellk (h i hi).2 k⟩⟩
theorem parts_at {w : World} {a : Option Addr} {ps : Pts} (h : Parts w a ps) : ∃ b o, 0 < ps.length → a = some ⟨b, o, none⟩ ∧ ∀ i, i < ps.length → w.cell? ⟨b, o + i * 2, none⟩ = some (.int .i64 (ixP ps i)) ∧ w.cell? ⟨b, o + i * 2 + 1, none⟩ = some (.string (txP ps i)) := by
  rcases h with h | ⟨b, o, h1, h2⟩
  · exact ⟨0, 0, fun h0 => by rw [h] at h0; exact absurd h0 (Nat.lt_irrefl 0)⟩
  · exact ⟨b, o, fun _ => ⟨h1, h2⟩⟩
/-- Which Indexes the first q parts have; their Texts. -/
def thP (ps : Pts) : Nat → Nat → Bool
  | 0, _ => false
  | q + 1, i => if i = (ixP ps q).toNat then true else thP ps q i
def teP (ps : Pts) : Nat → Nat → ByteArray
  | 0 => fun _ => ByteArray.empty
  | q + 1 => updT (teP ps q) (ixP ps q).toNat (txP ps q)
/-- Part q goes with those ahead of it. -/
def okP (m : Nat) (ps : Pts) (q : Nat) : Bool :=
  decide (0 ≤ ixP ps q ∧ ixP ps q < (m : Int) ∧ (txP ps q).size = (txP ps 0).size) && !(thP ps q (ixP ps q).toNat && !decide (txP ps q = teP ps q (ixP ps q).toNat))
def allP (m : Nat) (ps : Pts) : Nat → Bool
  | 0 => true
  | q + 1 => allP m ps q && okP m ps q
/-- The first k that are there, of those below j. -/
def pickN (F : Nat → Bool) (k : Nat) : Nat → List Nat
  | 0 => []
  | j + 1 => if F j = true ∧ (pickN F k j).length < k then pickN F k j ++ [j] else pickN F k j
def leastN (k m : Nat) (ps : Pts) : List Nat := pickN (thP ps ps.length) k m
def leastI (k m : Nat) (ps : Pts) : List Int := (leastN k m ps).map fun i => Int.ofNat i
def leastT (k m : Nat) (ps : Pts) : List ByteArray := (leastN k m ps).map (teP ps ps.length)
/-- What is wrong. -/
def leastE (k m : Nat) (ps : Pts) : Int := if allP m ps ps.length = true then (if (leastN k m ps).length < k then 60 else 0) else 61
theorem allP_not {m : Nat} {ps : Pts} {q : Nat} (h : okP m ps q = false) : ∀ n, q < n → allP m ps n = false
  | 0, hq => by omega
  | n + 1, hq => by
    unfold allP
    by_cases e : q = n
    · subst e; rw [h, Bool.and_false]
    · rw [allP_not h n (by omega), Bool.false_and]
theorem leastE_bad {k m : Nat} {ps : Pts} {q n : Nat} (hn : ps.length = n) (hq : q < n) (h : okP m ps q = false) : leastE k m ps = 61 := by
  unfold leastE
  rw [hn, allP_not h n hq]
  simp
/-- A block of values told by a function. -/
structure Vls (g n : Nat) (f : Nat → Value) (w : World) : Prop where
  cell : ∀ j, j < n → w.cell? ⟨g, j, none⟩ = some (f j)
  free : ∀ j, j < n → w.frozen? ⟨g, j, none⟩ = false
theorem Vls.keptBut {g n : Nat} {f : Nat → Value} {w w' : World} (h : Vls g n f w) {b : Nat} (k : But b w w') (hb : g ≠ b) : Vls g n f w' :=
  ⟨fun j hj => by rw [k.cell (p := ⟨g, j, none⟩) (block_lt_of_cell (h.cell j hj)) hb]; exact h.cell j hj, fun j hj => by rw [k.frozen (p := ⟨g, j, none⟩) (block_lt_of_cell (h.cell j hj)) hb]; exact h.free j hj⟩
theorem Vls.kept {g n : Nat} {f : Nat → Value} {w w' : World} (h : Vls g n f w) (k : Kept w w') : Vls g n f w' :=
  ⟨fun j hj => by rw [(k.but w.heap.size).cell (p := ⟨g, j, none⟩) (block_lt_of_cell (h.cell j hj)) (Nat.ne_of_lt (block_lt_of_cell (h.cell j hj)))]; exact h.cell j hj,
   fun j hj => by rw [(k.but w.heap.size).frozen (p := ⟨g, j, none⟩) (block_lt_of_cell (h.cell j hj)) (Nat.ne_of_lt (block_lt_of_cell (h.cell j hj)))]; exact h.free j hj⟩
theorem Vls.set {g n : Nat} {f : Nat → Value} {w : World} (h : Vls g n f w) (k : Nat) (hk : k < n) (v : Value) : Vls g n (fun j => if j = k then v else f j) (w.setCell ⟨g, k, none⟩ v) := by
  refine ⟨fun j hj => ?_, fun j hj => by rw [World.frozen?_setCell]; exact h.free j hj⟩
  by_cases e : j = k
  · subst e
    rw [if_pos rfl, World.cell?_setCell_same _ _ _ (h.cell j hj)]
  · rw [if_neg e, World.cell?_setCell_other _ _ _ _ (fun h => e (by injection h with _ e2; exact e2.symm)), h.cell j hj]
theorem Vls.congr {g n : Nat} {f f' : Nat → Value} {w : World} (h : Vls g n f w) (e : ∀ j, j < n → f' j = f j) : Vls g n f' w :=
  ⟨fun j hj => by rw [e j hj]; exact h.cell j hj, h.free⟩
theorem Vls.made (w : World) (n : Nat) (v : Value) (t : TypeId) : Vls w.heap.size n (fun _ => v) (w.alloc (.cells (row n fun _ => v) t)) := by
  refine ⟨fun j hj => ?_, fun j hj => ?_⟩
  · rw [World.cell?_alloc_mark, row_get _ _ j hj]
  · rw [World.frozen?_alloc_mark]; simp
theorem info_bool : (Seq.prog.info? 4).map (fun i => (i.zero, i.size, i.bytes)) = some (some (.bool false), 1, 1) := by kernel_rfl
theorem made_bool (n : Nat) : madeCells #[Value.bool false] n = row n fun _ => .bool false := by
  apply Array.ext'
  rw [toList_madeCells_one]
  unfold row
  simp
  apply List.ext_getElem?
  intro i
  by_cases h : i < n <;> simp [h]
theorem make_bools (n : Nat) (hn : n ≤ 1000000) (W : World) : (Instr.makeSlice 84 (.int .i64 (n : Int)) (.int .i64 (n : Int))).run Seq.prog W = .ok (.slice (some ⟨W.heap.size, 0, none⟩) n n) (W.alloc (.cells (row n fun _ => .bool false) 4)) := by
  have hmk := run_make_row' (P := Seq.prog) 84 4 (.bool false) 1 Seq.underlying84 info_bool rfl .i64 .i64 n (by omega) (by omega) W
  rw [made_bool] at hmk
  exact hmk
theorem pickN_le (F : Nat → Bool) (k : Nat) : ∀ j, (pickN F k j).length ≤ k
  | 0 => Nat.zero_le _
  | j + 1 => by
    unfold pickN
    split
    · rename_i h; rw [List.length_append]; simp; omega
    · exact pickN_le F k j
theorem Gat.same {B : Nat} {v : Value} {ss : List ByteArray} {w w' : World} (h : Gat B v ss w) (e : ∀ b, v.ownBlock = some b → w'.heap[b]? = w.heap[b]?) : Gat B v ss w' := by
  obtain ⟨h1, h2⟩ := h
  refine ⟨h1, ?_⟩
  rcases h2 with h2 | ⟨g, c, cur, rfl, h3, h4, h5⟩
  · exact .inl h2
  · exact .inr ⟨g, c, cur, rfl, h3, (e g rfl).trans h4, h5⟩
theorem GatI.same {B : Nat} {v : Value} {ss : List Int} {w w' : World} (h : GatI B v ss w) (e : ∀ b, v.ownBlock = some b → w'.heap[b]? = w.heap[b]?) : GatI B v ss w' := by
  obtain ⟨h1, h2⟩ := h
  refine ⟨h1, ?_⟩
  rcases h2 with h2 | ⟨g, c, cur, rfl, h3, h4, h5⟩
  · exact .inl h2
  · exact .inr ⟨g, c, cur, rfl, h3, (e g rfl).trans h4, h5⟩
/-- The block of ints is not that of texts. -/
theorem gat_apart {B C : Nat} {v v2 : Value} {rs : List Int} {ss : List ByteArray} {w : World} (h : GatI B v rs w) (k : Gat C v2 ss w) : ∀ b, v.ownBlock = some b → v2.ownBlock ≠ some b := by
  intro b h1 h2
  obtain ⟨_, h⟩ := h
  obtain ⟨_, k⟩ := k
  rcases h with ⟨rfl, _⟩ | ⟨g, c, cur, rfl, _, h4, _⟩
  · cases h1
  · rcases k with ⟨rfl, _⟩ | ⟨g2, c2, cur2, rfl, _, k4, _⟩
    · cases h2
    · injection h1 with h1
      injection h2 with h2
      have e1 : g = b := h1
      have e2 : g2 = b := h2
      rw [e1] at h4
      rw [e2, h4] at k4
      simp at k4
theorem wpList_gat2 {ops : Array Oper} {rest : List Oper} {o : Oper} {a : Act} {Q : Exit → Act → World → Prop} (W : World) (hgd : o.guard = none) (s x : Operand)
    (ho : o.op = .call { callee := .builtin .append, args := #[s, x], argTypes := #[23, 23] })
    (w0 : World) (v : Value) (rs : List ByteArray) (hs : a.eval s = v) (hG : Gat w0.heap.size v rs W) (hK : Kept w0 W) (r : ByteArray) (g : Nat) (hx : a.eval x = .slice (some ⟨g, 0, none⟩) 1 1) (hc : W.cell? ⟨g, 0, none⟩ = some (.string r)) (hl : rs.length ≤ 1000000000)
    (h : ∀ v' w', Gat w0.heap.size v' (rs ++ [r]) w' → Kept w0 w' → (∀ b, b < W.heap.size → v.ownBlock ≠ some b → w'.heap[b]? = W.heap[b]?) → wpList Seq.prog ops Q rest (a.put o.dst v') w') : wpList Seq.prog ops Q (o :: rest) a W := by
  obtain ⟨i0, hi, hzz⟩ := Option.map_eq_some_iff.1 info_string
  simp only [Prod.mk.injEq] at hzz
  refine wpList_append_lies W hgd s x 23 ho w0.heap.size 9 i0 (.string ByteArray.empty) 1 16 Seq.underlying23 hi hzz.1 hzz.2.1 hzz.2.2 rfl (by decide) v rs.length (rs.map Value.string) hs hG ⟨g, 0, none⟩ 1 1 [.string r] hx rfl (cell_one W g r hc) (one_string r) (by decide) (by unfold maxLen; omega) (by omega) hK.size _ rfl ?_
  intro g2 cap w' h2 h3 h4 h5
  refine h _ w' ?_ (Below.grown hK h3 hK.size (fun k hk => (World.ownsRow.lt hG k hk).1)) (fun b hb hn => h3.block b hb (fun e => hn e.symm))
  unfold Gat
  rw [List.map_append, List.length_append]
  exact h2
set_option maxHeartbeats 4000000 in
set_option maxRecDepth 100000 in
theorem least_any (k r : Nat) (a : Option Addr) (ca : Nat) (ps : Pts) (w : World) (hk1 : 1 ≤ k) (hkr : k + r ≤ 32) (hA : Parts w a ps) (hn : ps.length ≤ 1000000) :
    Calls Seq.prog 27 #[.int .i64 k, .int .i64 r, .slice a ps.length ca] w fun e w' => ∃ v1 v2, e = .returned (.tuple #[v1, v2, .int .i64 (leastE k (k + r) ps)]) ∧
      (leastE k (k + r) ps = 0 → ∃ a1 c1 a2 c2, v1 = .slice a1 k c1 ∧ Ints .i64 w' a1 (leastI k (k + r) ps) ∧ v2 = .slice a2 k c2 ∧ Strs w' a2 (leastT k (k + r) ps)) ∧ Kept w w' := by
  obtain ⟨b1, o1, hc1⟩ := parts_at hA
  have HC1 := Lib.hid hc1
  clear hc1
  obtain ⟨n, hnn⟩ : ∃ n, ps.length = n := ⟨_, rfl⟩
  have HN := Lib.hid hnn
  obtain ⟨m, hm⟩ : ∃ m, k + r = m := ⟨_, rfl⟩
  have HM := Lib.hid hm
  have hmi : (k : Int) + (r : Int) = (m : Int) := by omega
  rw [hnn] at hn HC1 ⊢
  rw [hm]
  go_enter Seq.func27, Seq.ntmps27
  have hmk1 := fun W => make_bools m (by omega) W
  have hmk2 := fun W => make_strs m (by omega) W
  clear hnn hm
  have HTX := Lib.hid (fun W => Txt.made W m)
  have HTB := Lib.hid (fun W => Vls.made W m (.bool false) 4)
  generalize (row m fun _ => Value.string ByteArray.empty) = R0 at *
  generalize (row m fun _ => Value.bool false) = R1 at *
  go_upto_region 1 with fail
  go_cut [9, 10] (fun v9 v10 wr => ∃ gT gX : Nat, v9 = .slice (some ⟨gT, 0, none⟩) m m ∧ v10 = .slice (some ⟨gX, 0, none⟩) m m ∧ gT ≠ gX ∧ Hid (w.heap.size ≤ gT ∧ w.heap.size ≤ gX ∧ Vls gT m (fun i => .bool (thP ps 0 i)) wr ∧ Txt gX m (teP ps 0) wr ∧ Kept w wr))
  case first =>
    go_region
    · go_wp2_with fail
      go_meet
      refine ⟨_, _, rfl, rfl, by omega, Nat.le_refl _, Nat.le_succ _, ?_, ?_, ?_⟩
      · exact Vls.kept (w := w.alloc _) (HTB.out w) (((Kept.refl _).alloc _).drew)
      · have h := HTX.out (w.alloc (.cells R1 4))
        have e : (w.alloc (.cells R1 4)).heap.size = w.heap.size + 1 := Array.size_push ..
        rw [e] at h
        exact h.drewN 1
      · exact (((Kept.refl _).alloc _).alloc _).drew
    · go_wp2_with fail
      go_meet
      refine ⟨_, _, rfl, rfl, by omega, Nat.le_succ _, Nat.le_refl _, ?_, ?_, ?_⟩
      · have h := HTB.out (w.alloc (.cells R0 9))
        have e : (w.alloc (.cells R0 9)).heap.size = w.heap.size + 1 := Array.size_push ..
        rw [e] at h
        exact h.kept ((Kept.refl _).drew)
      · exact Txt.kept (w := w.alloc _) (HTX.out w) (((Kept.refl _).alloc _).drew)
      · exact (((Kept.refl _).alloc _).alloc _).drew
  case rest =>
    obtain ⟨gT, gX, rfl, rfl, hne, HI0⟩ := hcut
    have HNE := Lib.hid hne
    clear hmk1 hmk2 HTX HTB hne
    go_wp2_with fail
    go_loopw [27, 12, 31] (fun i _ _ wr => ∃ q : Nat, q ≤ n ∧ i = .int .i64 q ∧ Hid (allP m ps q = true ∧ w.heap.size ≤ gT ∧ w.heap.size ≤ gX ∧ Vls gT m (fun i => .bool (thP ps q i)) wr ∧ Txt gX m (teP ps q) wr ∧ Kept w wr)) (fun i _ _ _ => n - (intOf i).toNat)
    case atStart => exact ⟨0, Nat.zero_le _, rfl, rfl, HI0.out⟩
    case round =>
      obtain ⟨q, hq, rfl, HI⟩ := hrel
      by_cases hlt : q < n
      · obtain ⟨ha, hcell⟩ := HC1.out (by omega)
        have hc1 := cellk (hcell q hlt).1 HI.out.2.2.2.2.2
        have hc2 := cellk (hcell q hlt).2 HI.out.2.2.2.2.2
        have hc3 := cellk (hcell 0 (by omega)).2 HI.out.2.2.2.2.2
        rw [ha]
        have HOK : Hid (okP m ps q = (decide (0 ≤ ixP ps q ∧ ixP ps q < (m : Int) ∧ (txP ps q).size = (txP ps 0).size) && !(thP ps q (ixP ps q).toNat && !decide (txP ps q = teP ps q (ixP ps q).toNat)))) := Lib.hid rfl
        have HST : Hid (∀ i, thP ps (q + 1) i = if i = (ixP ps q).toNat then true else thP ps q i) := Lib.hid (fun _ => rfl)
        have HTE : Hid (teP ps (q + 1) = updT (teP ps q) (ixP ps q).toNat (txP ps q)) := Lib.hid rfl
        clear ha hcell
        rw [Nat.zero_mul, Nat.add_zero] at hc3
        generalize hx : ixP ps q = x at *
        generalize hs : txP ps q = s at *
        generalize hs0 : txP ps 0 = s0 at *
        clear hx hs hs0
        go_upto_region 5 with fail
        have HPC1 : Hid ((wr.alloc (.cells #[.int .i64 x, .string s] 44)).cell? ⟨wr.heap.size, 0, none⟩ = some (.int .i64 x)) := by show _ = _; rw [World.cell?_alloc_mark]; rfl
        have HPC2 : Hid ((wr.alloc (.cells #[.int .i64 x, .string s] 44)).cell? ⟨wr.heap.size, 1, none⟩ = some (.string s)) := by show _ = _; rw [World.cell?_alloc_mark]; rfl
        have HPC3 : Hid ((wr.alloc (.cells #[.int .i64 x, .string s] 44)).cell? ⟨b1, o1 + 1, none⟩ = some (.string s0)) := cellk hc3 ((Kept.refl _).alloc _)
        have HI1 : Hid (allP m ps q = true ∧ w.heap.size ≤ gT ∧ w.heap.size ≤ gX ∧ Vls gT m (fun i => .bool (thP ps q i)) (wr.alloc (.cells #[.int .i64 x, .string s] 44)) ∧ Txt gX m (teP ps q) (wr.alloc (.cells #[.int .i64 x, .string s] 44)) ∧ Kept w (wr.alloc (.cells #[.int .i64 x, .string s] 44))) :=
          ⟨HI.out.1, HI.out.2.1, HI.out.2.2.1, HI.out.2.2.2.1.kept ((Kept.refl _).alloc _), HI.out.2.2.2.2.1.kept ((Kept.refl _).alloc _), HI.out.2.2.2.2.2.alloc _⟩
        have HPS : Hid (gT ≠ wr.heap.size ∧ gX ≠ wr.heap.size ∧ w.heap.size ≤ wr.heap.size) := by
          have h1 := HI.out.2.2.2.1
          have h2 := HI.out.2.2.2.2.1.lt (by omega)
          have h3 := block_lt_of_cell (h1.cell 0 (by omega))
          have h4 := HI.out.2.2.2.2.2.size
          simp only at h3
          exact ⟨by omega, by omega, h4⟩
        clear hc1 hc2 hc3 HI
        generalize wr.heap.size = P at *
        generalize wr.alloc (.cells #[.int .i64 x, .string s] 44) = W1 at *
        have hp1 := HPC1.out
        have hp2 := HPC2.out
        have hp3 := HPC3.out
        by_cases hA1 : x < 0
        · have hbA : decide (x < 0) = true := decide_eq_true hA1
          have HE : Hid (leastE k m ps = 61) := leastE_bad HN.out hlt (by rw [HOK.out, decide_eq_false (by omega)]; rfl)
          go_region
          go_wp2_with fail
          go_ret3
          rw [HE.out]
          exact ⟨_, _, rfl, fun h => absurd h (by decide), HI1.out.2.2.2.2.2.drew⟩
        have hbA : decide (x < 0) = false := decide_eq_false hA1
        by_cases hB1 : (m : Int) ≤ x
        · have hbB : decide ((m : Int) ≤ x) = true := decide_eq_true hB1
          have HE : Hid (leastE k m ps = 61) := leastE_bad HN.out hlt (by rw [HOK.out, decide_eq_false (by omega)]; rfl)
          go_region
          go_wp2_with fail
          go_ret3
          rw [HE.out]
          exact ⟨_, _, rfl, fun h => absurd h (by decide), HI1.out.2.2.2.2.2.drew⟩
        have hbB : decide ((m : Int) ≤ x) = false := decide_eq_false hB1
        by_cases hC1 : s.size = s0.size
        · have hbC : (((s.size : Nat) : Int) != ((s0.size : Nat) : Int)) = false := by rw [hC1]; simp
          go_region
          obtain ⟨X, rfl⟩ : ∃ X : Nat, x = X := ⟨x.toNat, by omega⟩
          rw [Int.toNat_natCast] at HOK HST HTE
          have hXm : X < m := by omega
          have HC := Lib.hid hC1
          have hct := HI1.out.2.2.2.1.cell X hXm
          have hcx := HI1.out.2.2.2.2.1.cell X hXm
          clear hbA hbB hbC hA1 hB1 hC1 hp3
          go_upto_region 7 with fail
          generalize hb : thP ps q X = th at *
          generalize ht : teP ps q X = t at *
          go_cut [54] (fun v wx => v = .bool (th && !decide (s = t)) ∧ wx = W1.drew.drew)
          case first =>
            cases th with
            | false =>
              go_region
              go_wp2_with fail
              go_meet
              exact ⟨rfl, rfl⟩
            | true =>
              by_cases hst : s = t
              · have hbs : (s.toList == t.toList) = true := (str_beq s t).2 hst
                have HS2 := Lib.hid hst
                clear hst
                go_region
                go_wp2_with fail
                go_meet
                exact ⟨by rw [decide_eq_true HS2.out]; rfl, rfl⟩
              · have hbs : (s.toList == t.toList) = false := by
                  cases h : (s.toList == t.toList) with
                  | false => rfl
                  | true => exact absurd ((str_beq s t).1 h) hst
                have HS2 := Lib.hid hst
                clear hst
                go_region
                go_wp2_with fail
                go_meet
                exact ⟨by rw [decide_eq_false HS2.out]; rfl, rfl⟩
          case rest =>
            obtain ⟨rfl, rfl⟩ := hcut
            have HDEC : Hid (okP m ps q = !(th && !decide (s = t))) := by
              show _ = _
              rw [HOK.out, decide_eq_true (by have := HC.out; omega), Bool.true_and]
            generalize (th && !decide (s = t)) = bad at *
            cases bad with
            | true =>
              have HE : Hid (leastE k m ps = 61) := leastE_bad HN.out hlt HDEC.out
              clear hp1 hp2 hct hcx
              go_wp2_with fail
              go_ret3
              rw [HE.out]
              exact ⟨_, _, rfl, fun h => absurd h (by decide), HI1.out.2.2.2.2.2.drew.drew⟩
            | false =>
              have hft := HI1.out.2.2.2.1.free X hXm
              have hfx := HI1.out.2.2.2.2.1.free X hXm
              have hneTP := HPS.out.1
              have hneXP := HPS.out.2.1
              have hneTX := HNE.out
              clear HOK
              go_upto_region 9 with fail
              go_region
              have HN1 : Hid (allP m ps (q + 1) = true ∧ w.heap.size ≤ gT ∧ w.heap.size ≤ gX ∧ Vls gT m (fun i => .bool (thP ps (q + 1) i)) ((W1.setCell ⟨gT, X, none⟩ (.bool true)).setCell ⟨gX, X, none⟩ (.string s)).drew.drew.drew ∧ Txt gX m (teP ps (q + 1)) ((W1.setCell ⟨gT, X, none⟩ (.bool true)).setCell ⟨gX, X, none⟩ (.string s)).drew.drew.drew ∧ Kept w ((W1.setCell ⟨gT, X, none⟩ (.bool true)).setCell ⟨gX, X, none⟩ (.string s)).drew.drew.drew) := by
                obtain ⟨i1, i2, i3, i4, i5, i6⟩ := HI1.out
                refine ⟨by unfold allP; rw [i1, HDEC.out]; rfl, i2, i3, ?_, ?_, ?_⟩
                · refine Vls.kept (((i4.set X hXm (.bool true)).keptBut ((But.refl gX _).setCell _ _) HNE.out).congr (fun i hi => ?_)) (((Kept.refl _).drew).drew.drew)
                  rw [HST.out]
                  by_cases e : i = X
                  · rw [if_pos e, if_pos e]
                  · rw [if_neg e, if_neg e]
                · rw [HTE.out]
                  exact (((i5.keptBut ((But.refl gT _).setCell _ _) (fun e => HNE.out e.symm)).set X hXm s).drewN 3)
                · exact (((i6.setCell i2 _).setCell i3 _).drew.drew.drew)
              clear HPC1 HPC2 HPC3 HI1 hp1 hp2 hct hcx hft hfx HDEC HST HTE
              generalize ((W1.setCell ⟨gT, X, none⟩ (.bool true)).setCell ⟨gX, X, none⟩ (.string s)).drew.drew.drew = W9 at *
              go_wp2_with fail
              exact ⟨⟨q + 1, by omega, by go_num, HN1.out⟩, by simp [intOf]; omega⟩
        · have hbC : (((s.size : Nat) : Int) != ((s0.size : Nat) : Int)) = true := by simp; omega
          have HE : Hid (leastE k m ps = 61) := leastE_bad HN.out hlt (by rw [HOK.out, decide_eq_false (by omega)]; rfl)
          go_region
          go_wp2_with fail
          go_ret3
          rw [HE.out]
          exact ⟨_, _, rfl, fun h => absurd h (by decide), HI1.out.2.2.2.2.2.drew⟩
      · obtain rfl : q = n := by omega
        obtain ⟨w1, hw1⟩ : ∃ w1, wr = w1 := ⟨_, rfl⟩
        rw [hw1] at HI ⊢
        clear hw1
        have HALL : Hid (leastE k m ps = if (leastN k m ps).length < k then 60 else 0) := by
          show _ = _
          unfold leastE
          rw [HN.out, if_pos HI.out.1]
        have HLI : Hid (leastN k m ps = pickN (thP ps q) k m) := by
          show _ = _
          unfold leastN
          rw [HN.out]
        have HLT : Hid (leastT k m ps = (leastN k m ps).map (teP ps q)) := by
          show _ = _
          unfold leastT
          rw [HN.out]
        have HV : Hid (Vls gT m (fun i => .bool (thP ps q i)) w1 ∧ Txt gX m (teP ps q) w1 ∧ Kept w w1) := HI.out.2.2.2
        clear HI HC1
        generalize thP ps q = F at *
        generalize teP ps q = te at *
        go_wp2_with fail
        go_loopw [83, 13, 14, 15, 16] (fun i v1 v2 _ _ wr => ∃ j : Nat, j ≤ m ∧ i = .int .i64 j ∧ Hid (GatI w1.heap.size v1 ((pickN F k j).map Int.ofNat) wr ∧ Gat w1.heap.size v2 ((pickN F k j).map te) wr ∧ Kept w1 wr)) (fun i _ _ _ _ _ => m - (intOf i).toNat)
        case atStart => exact ⟨0, Nat.zero_le _, rfl, GatI.nil _ _, Gat.nil _ _, Kept.refl _⟩
        case round =>
          obtain ⟨j, hj, rfl, HJ⟩ := hrel
          obtain ⟨aL, cL, hvL, _⟩ := HJ.out.1.ints
          subst hvL
          rw [List.length_map] at HJ ⊢
          obtain ⟨L, hL⟩ : ∃ L, (pickN F k j).length = L := ⟨_, rfl⟩
          have HLL := Lib.hid hL
          have hLk : L ≤ k := by rw [← hL]; exact pickN_le F k j
          rw [hL] at HJ ⊢
          clear hL
          by_cases hjm : j < m
          · have hcF := cellk (HV.out.1.cell j hjm) HJ.out.2.2
            have HCT := Lib.hid (HV.out.2.1.cell j hjm)
            have HST : Hid (pickN F k (j + 1) = if F j = true ∧ (pickN F k j).length < k then pickN F k j ++ [j] else pickN F k j) := Lib.hid rfl
            by_cases hcond : F j = true ∧ L < k
            · obtain ⟨hF, hLlt⟩ := hcond
              rw [hF] at hcF
              have hbL : decide ((L : Int) < (k : Int)) = true := decide_eq_true (by omega)
              have HST2 : Hid (pickN F k (j + 1) = pickN F k j ++ [j]) := Lib.hid (by rw [HST.out, if_pos ⟨hF, by rw [HLL.out]; exact hLlt⟩])
              clear HST hF
              generalize htj : te j = tj at *
              have HTJ := Lib.hid htj
              clear htj
              have HLN : Hid (((pickN F k j).map Int.ofNat).length ≤ 1000000000) := Lib.hid (by rw [List.length_map, HLL.out]; omega)
              have HLN2 : Hid (((pickN F k j).map te).length ≤ 1000000000) := Lib.hid (by rw [List.length_map, HLL.out]; omega)
              have HAP := Lib.hid (gat_apart HJ.out.1 HJ.out.2.1)
              have HLT2 := Lib.hid HJ.out.2.1.lt
              go_wp2_with (first
                | (at_builtin; (refine wpList_gati2 _ rfl (.tmp 95) (.tmp 97) rfl w1 _ ((pickN F k j).map Int.ofNat) (by rfl) (HJ.out.1.kept ((Kept.refl _).alloc _)) (HJ.out.2.2.alloc _) (Int.ofNat j) wr.heap.size rfl (by rw [World.cell?_alloc_mark]; rfl) HLN.out ?_); intro v9 w9 hG9 hK9 hsz9 hsm9 hown9; have hcT9 := cellk HCT.out hK9)
                | (at_builtin; go_must (refine wpList_gat2 _ rfl (.tmp 99) (.tmp 104) rfl w1 _ ((pickN F k j).map te) (by rfl) ((HJ.out.2.1.same (fun b hb => (hsm9 b (by have := (HLT2.out b hb).2; show b < (wr.heap.push _).size; rw [Array.size_push]; omega) (fun e => HAP.out b e hb)).trans (Below.block ((Kept.refl wr).alloc _) b (HLT2.out b hb).2))).kept ((Kept.refl _).alloc _)) (Kept.alloc hK9 _) tj w9.heap.size rfl (by rw [World.cell?_alloc_mark]; rfl) HLN2.out ?_); intro v10 w10 hG10 hK10 hsm10))
              have HF : Hid (GatI w1.heap.size v9 ((pickN F k (j + 1)).map Int.ofNat) w10 ∧ Gat w1.heap.size v10 ((pickN F k (j + 1)).map te) w10 ∧ Kept w1 w10) := by
                show _ ∧ _
                rw [HST2.out, List.map_append, List.map_append]
                refine ⟨hG9.same (fun b hb => ?_), by show Gat _ _ (_ ++ [te j]) _; rw [HTJ.out]; exact hG10, hK10⟩
                have hlt := (hG9.lt b hb).2
                have e1 : w10.heap[b]? = (w9.alloc (.cells #[.string tj] 9)).heap[b]? := hsm10 b (by show b < (w9.heap.push _).size; rw [Array.size_push]; omega) (fun e => by
                  rcases hown9 b hb with h | h
                  · exact HAP.out b h e
                  · have h1 := (HLT2.out b e).2
                    have h2 : (wr.alloc (.cells #[.int .i64 j] 3)).heap.size = wr.heap.size + 1 := Array.size_push ..
                    omega)
                exact e1.trans (Below.block ((Kept.refl w9).alloc _) b hlt)
              exact ⟨⟨j + 1, by omega, by go_num, HF.out⟩, by simp [intOf]; omega⟩
            · have HST2 : Hid (pickN F k (j + 1) = pickN F k j) := Lib.hid (by rw [HST.out, if_neg (by rw [HLL.out]; exact hcond)])
              clear HST
              cases hF : F j with
              | false =>
                rw [hF] at hcF
                clear hF hcond
                go_wp2_with fail
                exact ⟨⟨j + 1, by omega, by go_num, by rw [HST2.out]; exact HJ.out⟩, by simp [intOf]; omega⟩
              | true =>
                rw [hF] at hcF
                obtain rfl : L = k := by
                  have : ¬ L < k := fun h => hcond ⟨hF, h⟩
                  omega
                clear hF hcond
                go_wp2_with fail
                exact ⟨⟨j + 1, by omega, by go_num, by rw [HST2.out]; exact HJ.out⟩, by simp [intOf]; omega⟩
          · obtain rfl : j = m := by omega
            obtain ⟨aT, cT, hvT, _⟩ := HJ.out.2.1.strs
            subst hvT
            rw [List.length_map] at HJ ⊢
            have HLN : Hid (leastN k j ps = pickN F k j) := HLI
            by_cases hlk : L < k
            · have hbL : decide ((L : Int) < (k : Int)) = true := decide_eq_true (by omega)
              have HE : Hid (leastE k j ps = 60) := Lib.hid (by rw [HALL.out, HLN.out, HLL.out, if_pos hlk])
              go_wp2_with fail
              go_ret3
              rw [HE.out]
              exact ⟨_, _, rfl, fun h => absurd h (by decide), HV.out.2.2.trans HJ.out.2.2⟩
            · have HE : Hid (leastE k j ps = 0) := Lib.hid (by rw [HALL.out, HLN.out, HLL.out, if_neg hlk])
              obtain rfl : L = k := by omega
              clear hlk
              go_wp2_with fail
              go_ret3
              rw [HE.out]
              refine ⟨_, _, rfl, fun _ => ?_, HV.out.2.2.trans HJ.out.2.2⟩
              obtain ⟨a1, c1, e1, i1⟩ := HJ.out.1.ints
              obtain ⟨a2, c2, e2, i2⟩ := HJ.out.2.1.strs
              rw [List.length_map, HLL.out] at e1 e2
              refine ⟨a1, c1, a2, c2, e1, ?_, by rw [← e2]; show Value.slice aT (pickN F L j).length cT = _; rw [HLL.out], ?_⟩
              · unfold leastI
                rw [HLN.out]; exact i1
              · rw [HLT.out, HLN.out]; exact i2
end Go.Proofs.Ythifdfbdekkmgaa

/- Plain facts: of the unit with Cauchy's rows below it each choice of as many different rows as columns is undone. -/
namespace Go.Proofs.Ythifdfbdekkmgaa.Gf

/-- A polynomial of fewer than t coefficients. -/
def IsPoly : Nat → (UInt8 → UInt8) → Prop
  | 0, f => ∀ z, f z = 0
  | t + 1, f => ∃ c g, IsPoly t g ∧ ∀ z, f z = c ^^^ gm z (g z)
theorem IsPoly.congr {t : Nat} {f g : UInt8 → UInt8} (h : IsPoly t f) (e : ∀ z, g z = f z) : IsPoly t g := by
  cases t with
  | zero => exact fun z => (e z).trans (h z)
  | succ t => obtain ⟨c, q, hq, hf⟩ := h; exact ⟨c, q, hq, fun z => (e z).trans (hf z)⟩
theorem IsPoly.up {t : Nat} {f : UInt8 → UInt8} (h : IsPoly t f) : IsPoly (t + 1) f := by
  induction t generalizing f with
  | zero => exact ⟨0, f, h, fun z => by rw [h z, gm_zero]; rfl⟩
  | succ t ih => obtain ⟨c, q, hq, hf⟩ := h; exact ⟨c, q, ih hq, hf⟩
theorem IsPoly.add {t : Nat} {f g : UInt8 → UInt8} (h : IsPoly t f) (k : IsPoly t g) : IsPoly t (fun z => f z ^^^ g z) := by
  induction t generalizing f g with
  | zero => intro z; show f z ^^^ g z = 0; rw [h z, k z]; rfl
  | succ t ih =>
    obtain ⟨c, q, hq, hf⟩ := h
    obtain ⟨d, r, hr, hg⟩ := k
    exact ⟨c ^^^ d, fun z => q z ^^^ r z, ih hq hr, fun z => by show f z ^^^ g z = _; rw [hf, hg, add4, gm_add]⟩
theorem IsPoly.scale {t : Nat} {f : UInt8 → UInt8} (h : IsPoly t f) (c : UInt8) : IsPoly t (fun z => gm c (f z)) := by
  induction t generalizing f with
  | zero => intro z; show gm c (f z) = 0; rw [h z, gm_zero]
  | succ t ih =>
    obtain ⟨d, q, hq, hf⟩ := h
    exact ⟨gm c d, fun z => gm c (q z), ih hq, fun z => by show gm c (f z) = _; rw [hf, gm_add, gm_assoc, gm_comm c z, ← gm_assoc]⟩
theorem IsPoly.times {t : Nat} {f : UInt8 → UInt8} (h : IsPoly t f) (l : UInt8) : IsPoly (t + 1) (fun z => gm (z ^^^ l) (f z)) :=
  (IsPoly.add (t := t + 1) (f := fun z => gm z (f z)) (g := fun z => gm l (f z)) ⟨0, f, h, fun z => by rw [zero_add]⟩ (h.scale l).up).congr (fun z => add_gm _ _ _)
/-- A root's factor is taken out. -/
theorem IsPoly.div {t : Nat} {f : UInt8 → UInt8} (h : IsPoly (t + 1) f) (a : UInt8) : ∃ q, IsPoly t q ∧ ∀ z, f z = f a ^^^ gm (z ^^^ a) (q z) := by
  induction t generalizing f with
  | zero =>
    obtain ⟨c, g, hg, hf⟩ := h
    exact ⟨g, hg, fun z => by rw [hf, hf, hg, hg, gm_zero, gm_zero, gm_zero, add_zero, add_zero]⟩
  | succ t ih =>
    obtain ⟨c, g, hg, hf⟩ := h
    obtain ⟨q, hq, hgq⟩ := ih hg
    refine ⟨fun z => g a ^^^ gm z (q z), ⟨g a, q, hq, fun z => rfl⟩, fun z => ?_⟩
    have e : gm z (g z) = gm a (g a) ^^^ gm (z ^^^ a) (g a ^^^ gm z (q z)) := by
      rw [hgq z, gm_add, gm_add, add_gm z a (g a), gm_assoc z (z ^^^ a), gm_comm z (z ^^^ a), ← gm_assoc (z ^^^ a) z, ← add_assoc, ← add_assoc]
      congr 1
      rw [add_comm (gm a (g a)), add_assoc, self_add, add_zero]
    rw [hf z, hf a, e, add_assoc]
/-- As many roots as coefficients: it is 0. -/
theorem IsPoly.roots {t : Nat} {f : UInt8 → UInt8} (h : IsPoly t f) (ys : List UInt8) (hn : ys.Nodup) (hl : t ≤ ys.length) (hr : ∀ y ∈ ys, f y = 0) (z : UInt8) : f z = 0 := by
  induction t generalizing f ys with
  | zero => exact h z
  | succ t ih =>
    cases ys with
    | nil => simp at hl
    | cons a ys =>
      obtain ⟨q, hq, hf⟩ := h.div a
      have ha : f a = 0 := hr a List.mem_cons_self
      rw [List.nodup_cons] at hn
      have hqz : q z = 0 := ih hq ys hn.2 (by simp at hl; omega) (fun y hy => by
        have h1 := hr y (List.mem_cons_of_mem _ hy)
        rw [hf y, ha, zero_add] at h1
        rcases gm_no_zero h1 with h2 | h2
        · exact absurd (add_eq_zero h2 ▸ hy) hn.1
        · exact h2)
      rw [hf z, ha, hqz, gm_zero]
      rfl

/-- The product of z's sums with the elements of a row. -/
def pr : List UInt8 → UInt8 → UInt8
  | [], _ => 1
  | j :: T, z => gm (z ^^^ j) (pr T z)
/-- Cauchy's sum, all divisors multiplied in. -/
def su (x : UInt8 → UInt8) : List UInt8 → UInt8 → UInt8
  | [], _ => 0
  | j :: T, z => gm (x j) (pr T z) ^^^ gm (z ^^^ j) (su x T z)
/-- Cauchy's sum. -/
def cs (x : UInt8 → UInt8) : List UInt8 → UInt8 → UInt8
  | [], _ => 0
  | j :: T, z => gm (gi (z ^^^ j)) (x j) ^^^ cs x T z
theorem ne_of {a b : UInt8} (h : a ≠ b) : a ^^^ b ≠ 0 := fun e => h (add_eq_zero e)
theorem pr_ne {T : List UInt8} {z : UInt8} (h : z ∉ T) : pr T z ≠ 0 := by
  induction T with
  | nil => show (1 : UInt8) ≠ 0; decide
  | cons j T ih =>
    rw [List.mem_cons] at h
    intro e
    rcases gm_no_zero e with e | e
    · exact ne_of (fun e => h (Or.inl e)) e
    · exact ih (fun e => h (Or.inr e)) e
theorem pr_in {T : List UInt8} {z : UInt8} (h : z ∈ T) : pr T z = 0 := by
  induction T with
  | nil => simp at h
  | cons j T ih =>
    show gm (z ^^^ j) (pr T z) = 0
    rcases List.mem_cons.1 h with h | h
    · rw [h, self_add, zero_gm]
    · rw [ih h, gm_zero]
theorem su_cs (x : UInt8 → UInt8) {T : List UInt8} {z : UInt8} (h : z ∉ T) : su x T z = gm (pr T z) (cs x T z) := by
  induction T with
  | nil => show (0 : UInt8) = gm 1 0; rw [gm_zero]
  | cons j T ih =>
    rw [List.mem_cons] at h
    have hj : z ^^^ j ≠ 0 := ne_of fun e => h (Or.inl e)
    show gm (x j) (pr T z) ^^^ gm (z ^^^ j) (su x T z) = gm (gm (z ^^^ j) (pr T z)) (gm (gi (z ^^^ j)) (x j) ^^^ cs x T z)
    rw [ih fun e => h (Or.inr e), gm_add, gm_assoc (z ^^^ j)]
    congr 1
    rw [gm_comm (z ^^^ j), ← gm_assoc, gm_assoc (z ^^^ j), gm_gi hj, one_gm, gm_comm]
theorem su_poly (x : UInt8 → UInt8) (T : List UInt8) : IsPoly T.length (su x T) ∧ IsPoly (T.length + 1) (pr T) := by
  induction T with
  | nil => exact ⟨fun _ => rfl, ⟨1, fun _ => 0, fun _ => rfl, fun z => by show (1 : UInt8) = 1 ^^^ gm z 0; rw [gm_zero]; rfl⟩⟩
  | cons j T ih => exact ⟨(ih.2.scale (x j)).add (ih.1.times j), ih.2.times j⟩
theorem su_at (x : UInt8 → UInt8) {T : List UInt8} (hn : T.Nodup) {j : UInt8} (h : j ∈ T) : ∃ c, c ≠ 0 ∧ su x T j = gm (x j) c := by
  induction T with
  | nil => simp at h
  | cons k T ih =>
    rw [List.nodup_cons] at hn
    by_cases e : j = k
    · subst e
      exact ⟨pr T j, pr_ne hn.1, by show _ ^^^ gm (j ^^^ j) _ = _; rw [self_add, zero_gm, add_zero]⟩
    · have hj : j ∈ T := by rcases List.mem_cons.1 h with h | h; exact absurd h e; exact h
      obtain ⟨c, hc, hs⟩ := ih hn.2 hj
      refine ⟨gm (j ^^^ k) c, fun e2 => ?_, ?_⟩
      · rcases gm_no_zero e2 with e2 | e2
        · exact ne_of e e2
        · exact hc e2
      · show gm (x k) (pr T j) ^^^ gm (j ^^^ k) (su x T j) = _
        rw [pr_in hj, gm_zero, zero_add, hs, gm_assoc, gm_comm (j ^^^ k), ← gm_assoc]
/-- Cauchy's sums are 0 at as many places as there are columns: the row is 0. -/
theorem cauchy_zero (x : UInt8 → UInt8) (T ys : List UInt8) (hT : T.Nodup) (hy : ys.Nodup) (hl : T.length ≤ ys.length) (hd : ∀ y ∈ ys, y ∉ T) (hz : ∀ y ∈ ys, cs x T y = 0) (j : UInt8) (hj : j ∈ T) : x j = 0 := by
  have h := IsPoly.roots (su_poly x T).1 ys hy hl (fun y h => by rw [su_cs x (hd y h), hz y h, gm_zero]) j
  obtain ⟨c, hc, hs⟩ := su_at x hT hj
  rw [hs] at h
  rcases gm_no_zero h with h | h
  · exact h
  · exact absurd h hc

/-- The unit, and Cauchy's rows below it: row r, column j. -/
def below (k r j : Nat) : UInt8 := if r < k then un r j else gi (UInt8.ofNat r ^^^ UInt8.ofNat j)
theorem ofNat_inj {a b : Nat} (ha : a < 256) (hb : b < 256) (h : UInt8.ofNat a = UInt8.ofNat b) : a = b := by
  have := congrArg UInt8.toNat h
  rw [UInt8.toNat_ofNat', UInt8.toNat_ofNat'] at this
  omega
theorem nodup_map {α β : Type} {f : α → β} {l : List α} (hl : l.Nodup) (h : ∀ a ∈ l, ∀ b ∈ l, f a = f b → a = b) : (l.map f).Nodup := by
  induction l with
  | nil => simp
  | cons a l ih =>
    rw [List.nodup_cons] at hl
    rw [List.map_cons, List.nodup_cons]
    refine ⟨fun hm => ?_, ih hl.2 fun b hb c hc => h b (List.mem_cons_of_mem _ hb) c (List.mem_cons_of_mem _ hc)⟩
    obtain ⟨b, hb, e⟩ := List.mem_map.1 hm
    exact hl.1 (h b (List.mem_cons_of_mem _ hb) a List.mem_cons_self e ▸ hb)
theorem nodup_filter {α : Type} {p : α → Bool} {l : List α} (hl : l.Nodup) : (l.filter p).Nodup := List.Pairwise.filter p hl
theorem nodup_rev {α : Type} {l : List α} (h : l.Nodup) : l.reverse.Nodup := List.pairwise_reverse.2 (h.imp fun h e => h e.symm)
theorem len_filter {α : Type} (p : α → Bool) (l : List α) : (l.filter p).length + (l.filter fun a => !p a).length = l.length := by
  induction l with
  | nil => rfl
  | cons a l ih => cases h : p a <;> simp [h] <;> omega
/-- The sum over the columns, those left out that are 0. -/
theorem sm_cs (x : Nat → UInt8) (y : UInt8) (p : Nat → Bool) (k : Nat) (hk : k ≤ 256) (h : ∀ j, j < k → p j = false → x j = 0) :
    sm k (fun j => gm (gi (y ^^^ UInt8.ofNat j)) (x j)) = cs (fun b => x b.toNat) ((((List.range k).filter p).map UInt8.ofNat).reverse) y := by
  induction k with
  | zero => rfl
  | succ k ih =>
    rw [sm, ih (by omega) (fun j hj => h j (by omega)), List.range_succ, List.filter_append, List.map_append, List.reverse_append]
    cases hp : p k with
    | false => simp [hp, h k (by omega) hp, gm_zero]
    | true =>
      have e : (UInt8.ofNat k).toNat = k := by rw [UInt8.toNat_ofNat']; omega
      simp [hp, cs]
      rw [show k % 256 = k from Nat.mod_eq_of_lt (by omega), add_comm]
/-- The stage's theorem: any choice of different rows lets no row go to 0. -/
theorem any_rows (k : Nat) (ρ : Nat → Nat) (hk : k ≤ 256) (hρ : ∀ i, i < k → ρ i < 256) (hinj : ∀ i j, i < k → j < k → ρ i = ρ j → i = j) (x : Nat → UInt8) (hx : Ker k (fun i j => below k (ρ i) j) x) : False := by
  obtain ⟨⟨j0, hj0, hne⟩, hz⟩ := hx
  have hR : ((List.range k).map ρ).Nodup := nodup_map List.nodup_range fun a ha b hb e => hinj a b (List.mem_range.1 ha) (List.mem_range.1 hb) e
  -- the units chosen, and the others
  obtain ⟨us, hus⟩ : ∃ us, us = ((List.range k).map ρ).filter (fun r => decide (r < k)) := ⟨_, rfl⟩
  obtain ⟨cy, hcy⟩ : ∃ cy, cy = ((List.range k).map ρ).filter (fun r => !decide (r < k)) := ⟨_, rfl⟩
  have hlen : us.length + cy.length = k := by
    rw [hus, hcy, len_filter]
    simp
  have hun : us.Nodup := hus ▸ nodup_filter hR
  have hcn : cy.Nodup := hcy ▸ nodup_filter hR
  have humem : ∀ r, r ∈ us ↔ ∃ i, i < k ∧ ρ i = r ∧ r < k := fun r => by
    rw [hus, List.mem_filter, List.mem_map]
    constructor
    · rintro ⟨⟨i, hi, e⟩, h⟩; exact ⟨i, List.mem_range.1 hi, e, of_decide_eq_true h⟩
    · rintro ⟨i, hi, e, h⟩; exact ⟨⟨i, List.mem_range.2 hi, e⟩, decide_eq_true h⟩
  have hcmem : ∀ r, r ∈ cy ↔ ∃ i, i < k ∧ ρ i = r ∧ k ≤ r := fun r => by
    rw [hcy, List.mem_filter, List.mem_map]
    constructor
    · rintro ⟨⟨i, hi, e⟩, h⟩; exact ⟨i, List.mem_range.1 hi, e, by simpa using h⟩
    · rintro ⟨i, hi, e, h⟩; exact ⟨⟨i, List.mem_range.2 hi, e⟩, by simpa using h⟩
  have hxu : ∀ j, j < k → (!us.contains j) = false → x j = 0 := fun j hj hc => by
    have hm : j ∈ us := by simpa using hc
    obtain ⟨i, hi, e, _⟩ := (humem j).1 hm
    have h1 : sm k (fun l => gm (below k (ρ i) l) (x l)) = 0 := hz i hi
    rw [e] at h1
    have h2 : sm k (fun l => gm (below k j l) (x l)) = mv k un x j := sm_congr fun l _ => by unfold below; rw [if_pos hj]
    rw [h2, mv_un k x j hj] at h1
    exact h1
  obtain ⟨T, hT⟩ : ∃ T, T = (((List.range k).filter fun j => !us.contains j).map UInt8.ofNat).reverse := ⟨_, rfl⟩
  have hTn : T.Nodup := by
    rw [hT]
    refine nodup_rev ?_
    exact nodup_map (nodup_filter List.nodup_range) fun a ha b hb e => ofNat_inj (by have := List.mem_range.1 (List.mem_filter.1 ha).1; omega) (by have := List.mem_range.1 (List.mem_filter.1 hb).1; omega) e
  have hTl : T.length = cy.length := by
    have h1 := len_filter (fun j => us.contains j) (List.range k)
    have h2 : ((List.range k).filter fun j => us.contains j).length = us.length := by
      apply List.Perm.length_eq
      rw [List.perm_ext_iff_of_nodup (nodup_filter List.nodup_range) hun]
      intro a
      rw [List.mem_filter, List.mem_range]
      constructor
      · rintro ⟨_, h⟩; simpa using h
      · intro h; exact ⟨((humem a).1 h).choose_spec.2.2, by simpa using h⟩
    rw [hT, List.length_reverse, List.length_map]
    simp only [List.length_range] at h1
    omega
  have hyn : (cy.map UInt8.ofNat).Nodup := nodup_map hcn fun a ha b hb e => by
    obtain ⟨i, hi, ea, _⟩ := (hcmem a).1 ha
    obtain ⟨j, hj, eb, _⟩ := (hcmem b).1 hb
    exact ofNat_inj (ea ▸ hρ i hi) (eb ▸ hρ j hj) e
  have hTm : ∀ b, b ∈ T ↔ ∃ j, j < k ∧ us.contains j = false ∧ UInt8.ofNat j = b := fun b => by
    rw [hT, List.mem_reverse, List.mem_map]
    constructor
    · rintro ⟨j, hj, e⟩
      rw [List.mem_filter, List.mem_range] at hj
      exact ⟨j, hj.1, by simpa using hj.2, e⟩
    · rintro ⟨j, hj, h, e⟩
      exact ⟨j, List.mem_filter.2 ⟨List.mem_range.2 hj, by simpa using h⟩, e⟩
  by_cases hju : us.contains j0 = true
  · exact hne (hxu j0 hj0 (by rw [hju]; rfl))
  · have hj0T : UInt8.ofNat j0 ∈ T := (hTm _).2 ⟨j0, hj0, by simpa using hju, rfl⟩
    have e0 : (UInt8.ofNat j0).toNat = j0 := by rw [UInt8.toNat_ofNat']; omega
    have h := cauchy_zero (fun b => x b.toNat) T (cy.map UInt8.ofNat) hTn hyn (by rw [List.length_map]; omega) (fun y hy hyT => by
      obtain ⟨r, hr, e⟩ := List.mem_map.1 hy
      obtain ⟨i, hi, er, hkr⟩ := (hcmem r).1 hr
      obtain ⟨j, hj, _, e2⟩ := (hTm y).1 hyT
      have := ofNat_inj (show j < 256 by omega) (er ▸ hρ i hi) (e2.trans e.symm)
      omega) (fun y hy => by
      obtain ⟨r, hr, e⟩ := List.mem_map.1 hy
      obtain ⟨i, hi, er, hkr⟩ := (hcmem r).1 hr
      have h1 : sm k (fun l => gm (below k (ρ i) l) (x l)) = 0 := hz i hi
      rw [er] at h1
      have h2 : sm k (fun l => gm (below k r l) (x l)) = sm k (fun l => gm (gi (y ^^^ UInt8.ofNat l)) (x l)) := sm_congr fun l _ => by unfold below; rw [if_neg (by omega), e]
      rw [h2, sm_cs x y (fun j => !us.contains j) k hk hxu, ← hT] at h1
      exact h1) _ hj0T
    simp only [e0] at h
    exact hne h
end Go.Proofs.Ythifdfbdekkmgaa.Gf

/- The parts by any k of them, as sums. -/
namespace Go.Proofs.Ythifdfbdekkmgaa
open Go.RowKit Gf
set_option linter.unusedVariables false
theorem prod_ok (a b : List ByteArray) (h : prodE a b = 0) : mayB a = true ∧ mayB b = true ∧ (nth a 0).size = b.length ∧ prodL a b = matL a.length (nth b 0).size (mm b.length (mt a) (mt b)) := by
  have hl : prodL a b = matL a.length (nth b 0).size (mm b.length (mt a) (mt b)) := by unfold prodL; rw [if_pos h]
  unfold prodE at h
  by_cases h1 : mayB a = true ∧ mayB b = true
  · rw [if_pos h1] at h
    by_cases h2 : (nth a 0).size = b.length
    · exact ⟨h1.1, h1.2, h2, hl⟩
    · rw [if_neg h2] at h
      exact absurd h (by decide)
  · rw [if_neg h1] at h
    exact absurd h (by decide)
theorem prod_mk (a b : List ByteArray) (h1 : mayB a = true) (h2 : mayB b = true) (h3 : (nth a 0).size = b.length) : prodE a b = 0 ∧ prodL a b = matL a.length (nth b 0).size (mm b.length (mt a) (mt b)) := by
  have h : prodE a b = 0 := by unfold prodE; rw [if_pos ⟨h1, h2⟩, if_pos h3]
  exact ⟨h, (prod_ok a b h).2.2.2⟩
theorem inv_congr {n : Nat} {A B U V : Nat → Nat → UInt8} (h : Inv n A U) (ha : Eq2 n B A) (hu : Eq2 n V U) : Inv n B V :=
  ⟨(mm_congr ha hu).trans h.1, (mm_congr hu ha).trans h.2⟩
theorem pick_mk (a : List ByteArray) (rs : List Int) (h : mayB a = true) (h1 : 1 ≤ rs.length) (h2 : rs.length ≤ 64) (hr : ∀ r ∈ rs, 0 ≤ r ∧ r < a.length) : pickL a rs = rs.map (fun r => nth a r.toNat) ∧ pickE a rs = 0 := by
  have h0 : pickE a rs = 0 := by
    unfold pickE pickOk
    rw [if_pos h, if_pos]
    rw [Bool.and_eq_true, List.all_eq_true]
    exact ⟨decide_eq_true ⟨h1, h2⟩, fun r hm => decide_eq_true (hr r hm)⟩
  exact ⟨by unfold pickL; rw [if_pos h0], h0⟩
theorem nth_map (rs : List Int) (f : Int → ByteArray) (i : Nat) (h : i < rs.length) : nth (rs.map f) i = f (nthI rs i) := by
  unfold nth
  rw [List.getD_eq_getElem?_getD, List.getElem?_map, List.getElem?_eq_getElem h, nthI_get rs i h]
  rfl
theorem nth_append_left (a b : List ByteArray) (i : Nat) (h : i < a.length) : nth (a ++ b) i = nth a i := by
  unfold nth
  rw [List.getD_eq_getElem?_getD, List.getD_eq_getElem?_getD, List.getElem?_append_left h]
theorem nth_append_right (a b : List ByteArray) (i : Nat) (h : a.length ≤ i) : nth (a ++ b) i = nth b (i - a.length) := by
  unfold nth
  rw [List.getD_eq_getElem?_getD, List.getD_eq_getElem?_getD, List.getElem?_append_right h]
/-- All rows, as one matrix. -/
theorem all_is (k r : Nat) (h1 : 1 ≤ k) (h2 : k + r ≤ 32) : allL k r = matL (k + r) k (below k) := by
  unfold allL
  by_cases h0 : r = 0
  · subst h0
    rw [if_pos (by rfl), unitL_is k h1 (by omega)]
    refine matL_congr _ _ _ _ (fun i j hi hj => ?_)
    unfold below
    rw [if_pos hi]
  · rw [if_neg (by omega), (bel_is k r h1 h2 (by omega)).2]
    refine list_ext _ _ (by rw [List.length_append, matL_length, matL_length, matL_length]) (fun i hi => ?_)
    rw [List.length_append, matL_length, matL_length] at hi
    rw [nth_matL _ _ _ _ hi]
    by_cases h : i < k
    · rw [nth_append_left _ _ i (by rw [matL_length]; exact h), nth_matL _ _ _ _ h]
      exact strOf_congr _ _ _ (fun j hj => by unfold below; rw [if_pos h])
    · rw [nth_append_right _ _ i (by rw [matL_length]; omega), matL_length, nth_matL _ _ _ _ (by omega)]
      exact strOf_congr _ _ _ (fun j hj => by unfold below cf; rw [if_neg h, show k + (i - k) = i from by omega])
/-- A sum by a row of k elements, of k texts of sz bytes. -/
theorem sumS_is (k sz : Nat) (A : Nat → UInt8) (ss : List ByteArray) (h1 : 1 ≤ k) (hl : ss.length = k) (hz : ∀ c, c < k → (nth ss c).size = sz) : sumS (strOf k A) ss = strOf sz (fun j => sm k fun c => gm (A c) (bt (nth ss c) j)) := by
  have hok : sumOk (strOf k A) ss = true := by
    unfold sumOk
    rw [Bool.and_eq_true, decide_eq_true_eq]
    refine ⟨by rw [strOf_size, hl], even_yes _ (fun c hc => ?_)⟩
    rw [hz c (by omega), hz 0 (by omega)]
  unfold sumS
  rw [if_pos hok, hz 0 (by omega), hl]
  refine strOf_congr _ _ _ (fun j hj => ?_)
  rw [acc_sm]
  exact sm_congr fun c hc => by rw [strOf_bt _ _ _ hc]; rfl
/-- k different Indexes below k + r. -/
structure Distinct (k r : Nat) (rs : List Int) : Prop where
  len : rs.length = k
  rng : ∀ i ∈ rs, 0 ≤ i ∧ i < ((k + r : Nat) : Int)
  inj : ∀ i j, i < k → j < k → nthI rs i = nthI rs j → i = j
theorem Distinct.at' {k r : Nat} {rs : List Int} (h : Distinct k r rs) (i : Nat) (hi : i < k) : 0 ≤ nthI rs i ∧ nthI rs i < ((k + r : Nat) : Int) := h.rng _ (by rw [← nthI_get rs i (by rw [h.len]; exact hi)]; exact List.getElem_mem _)
/-- The row of the c-th that is there. -/
def rowAt' (k : Nat) (rs : List Int) (c j : Nat) : UInt8 := below k (nthI rs c).toNat j
theorem pick_there (k r : Nat) (rs : List Int) (h1 : 1 ≤ k) (h2 : k + r ≤ 32) (hl1 : 1 ≤ rs.length) (hl2 : rs.length ≤ 64) (hr : ∀ i ∈ rs, 0 ≤ i ∧ i < ((k + r : Nat) : Int)) :
    pickL (allL k r) rs = matL rs.length k (rowAt' k rs) ∧ mayB (pickL (allL k r) rs) = true := by
  have hm : mayB (allL k r) = true := by rw [all_is k r h1 h2]; exact may_matL _ _ _ (by omega) (by omega) h1 (by omega)
  obtain ⟨p1, p2⟩ := pick_mk _ rs hm hl1 hl2 (fun i hi => by rw [(allL_facts k r h1 h2).1]; exact hr i hi)
  have e : pickL (allL k r) rs = matL rs.length k (rowAt' k rs) := by
    rw [p1]
    refine list_ext _ _ (by rw [List.length_map, matL_length]) (fun i hi => ?_)
    rw [List.length_map] at hi
    have hri := hr (nthI rs i) (by rw [← nthI_get rs i hi]; exact List.getElem_mem hi)
    rw [nth_map _ _ _ hi, nth_matL _ _ _ _ hi, all_is k r h1 h2, nth_matL _ _ _ _ (by omega)]
    rfl
  exact ⟨e, by rw [e]; exact may_matL _ _ _ hl1 hl2 h1 (by omega)⟩
/-- What undoes the rows that are there. -/
theorem undo_there (k r : Nat) (rs : List Int) (h1 : 1 ≤ k) (h2 : k + r ≤ 32) (h : Distinct k r rs) : ∃ U, Inv k (rowAt' k rs) U ∧ undoL (pickL (allL k r) rs) = matL k k U := by
  obtain ⟨e, hm⟩ := pick_there k r rs h1 h2 (by rw [h.len]; exact h1) (by rw [h.len]; omega) h.rng
  rw [h.len] at e
  rcases undone_or k (rowAt' k rs) with ⟨U, hU⟩ | ⟨x, hx⟩
  · refine ⟨U, hU, ?_⟩
    have := (undo_is _ hm (by rw [e, nth_matL _ _ _ _ (by omega), strOf_size, matL_length]) U (by
      rw [e, matL_length]
      exact inv_congr hU (fun i j hi hj => mt_matL _ _ _ _ _ hi hj) (fun _ _ _ _ => rfl))).2
    rw [this, e, matL_length]
  · exact (any_rows k (fun i => (nthI rs i).toNat) (by omega) (fun i hi => by have := h.at' i hi; omega) (fun i j hi hj e => h.inj i j hi hj (by have := h.at' i hi; have := h.at' j hj; omega)) x hx).elim
/-- The rows of those that are wanted. -/
theorem by_is (k r : Nat) (rs ws : List Int) (h1 : 1 ≤ k) (h2 : k + r ≤ 32) (h : Distinct k r rs) (U : Nat → Nat → UInt8) (hU : undoL (pickL (allL k r) rs) = matL k k U) (hw1 : 1 ≤ ws.length) (hw2 : ws.length ≤ 64) (hw : ∀ i ∈ ws, 0 ≤ i ∧ i < ((k + r : Nat) : Int)) :
    byL k r rs ws = matL ws.length k (mm k (rowAt' k ws) U) := by
  obtain ⟨e, hm⟩ := pick_there k r ws h1 h2 hw1 hw2 hw
  unfold byL
  rw [if_neg (by omega), hU]
  rw [(prod_mk _ _ hm (may_matL _ _ _ h1 (by omega) h1 (by omega)) (by rw [e, nth_matL _ _ _ _ (by omega), strOf_size, matL_length])).2]
  rw [e, matL_length, matL_length, nth_matL _ _ _ _ (by omega), strOf_size]
  refine matL_congr _ _ _ _ (fun i j hi hj => ?_)
  exact sm_congr fun c hc => by rw [mt_matL _ _ _ _ _ hi hc, mt_matL _ _ _ _ _ hc hj]
theorem lost_mem (rs : List Int) : ∀ (q : Nat) (x : Int), x ∈ lostL rs q ↔ 0 ≤ x ∧ x < (q : Int) ∧ x ∉ rs
  | 0, x => by simp [lostL]; omega
  | q + 1, x => by
    rw [lostL]
    split
    · rename_i h
      rw [lost_mem rs q x]
      constructor
      · rintro ⟨a, b, c⟩; exact ⟨a, by omega, c⟩
      · rintro ⟨a, b, c⟩
        refine ⟨a, ?_, c⟩
        rcases Int.lt_or_eq_of_le (show x ≤ q by omega) with e | e
        · exact e
        · subst e; exact absurd h c
    · rename_i h
      rw [List.mem_append, lost_mem rs q x, List.mem_singleton]
      constructor
      · rintro (⟨a, b, c⟩ | rfl)
        · exact ⟨a, by omega, c⟩
        · exact ⟨by omega, by omega, h⟩
      · rintro ⟨a, b, c⟩
        rcases Int.lt_or_eq_of_le (show x ≤ q by omega) with e | e
        · exact .inl ⟨a, e, c⟩
        · exact .inr e
theorem lost_rise (rs : List Int) : ∀ q : Nat, (lostL rs q).Pairwise (· < ·)
  | 0 => List.Pairwise.nil
  | q + 1 => by
    rw [lostL]
    split
    · exact lost_rise rs q
    · rw [List.pairwise_append]
      refine ⟨lost_rise rs q, by simp, fun a ha b hb => ?_⟩
      have := (lost_mem rs q a).1 ha
      simp at hb
      omega
theorem lost_inj (rs : List Int) (q a b : Nat) (ha : a < (lostL rs q).length) (hb : b < (lostL rs q).length) (h : nthI (lostL rs q) a = nthI (lostL rs q) b) : a = b := by
  have hp := List.pairwise_iff_getElem.1 (lost_rise rs q)
  rw [← nthI_get _ a ha, ← nthI_get _ b hb] at h
  rcases Nat.lt_trichotomy a b with e | e | e
  · have := hp a b ha hb e; omega
  · exact e
  · have := hp b a hb ha e; omega
theorem putL_hit (lost : List Int) (made : List ByteArray) (F : Nat → ByteArray) (hinj : ∀ a b, a < lost.length → b < lost.length → nthI lost a = nthI lost b → a = b) (h0 : ∀ a, a < lost.length → 0 ≤ nthI lost a) :
    ∀ q t, q ≤ lost.length → t < q → putL lost made F q (nthI lost t).toNat = nth made t
  | 0, t, _, h => by omega
  | q + 1, t, hq, ht => by
    rw [putL]
    unfold updT
    by_cases e : t = q
    · subst e; rw [if_pos rfl]
    · rw [if_neg (fun h => e (hinj t q (by omega) (by omega) (by have := h0 t (by omega); have := h0 q (by omega); omega)))]
      exact putL_hit lost made F hinj h0 q t (by omega) (by omega)
theorem putL_miss (lost : List Int) (made : List ByteArray) (F : Nat → ByteArray) (i : Nat) : ∀ q, (∀ t, t < q → (nthI lost t).toNat ≠ i) → putL lost made F q i = F i
  | 0, _ => rfl
  | q + 1, h => by
    rw [putL]
    unfold updT
    rw [if_neg (fun e => h q (by omega) e.symm)]
    exact putL_miss lost made F i q (fun t ht => h t (by omega))
theorem place_is (k : Nat) (rs : List Int) (texts : List ByteArray) (hinj : ∀ i j, i < k → j < k → nthI rs i = nthI rs j → i = j) (h0 : ∀ i, i < k → 0 ≤ nthI rs i) : ∀ q c i, q ≤ k → c < q → nthI rs c = (i : Nat) → i < k → placeT k rs texts q i = nth texts c
  | 0, c, i, _, h, _, _ => by omega
  | q + 1, c, i, hq, hc, hi, hik => by
    rw [placeT]
    by_cases e : c = q
    · subst e
      rw [if_pos (by omega)]
      unfold updT
      rw [if_pos (by omega)]
    · have ih := place_is k rs texts hinj h0 q c i (by omega) (by omega) hi hik
      split
      · unfold updT
        rw [if_neg (fun h => e (hinj c q (by omega) (by omega) (by have := h0 q (by omega); omega)))]
        exact ih
      · exact ih
/-- The first k parts, each as a sum of those that are there. -/
theorem first_is (k r sz : Nat) (rs : List Int) (texts : List ByteArray) (h1 : 1 ≤ k) (h2 : k + r ≤ 32) (h : Distinct k r rs) (hl : texts.length = k) (hz : ∀ c, c < k → (nth texts c).size = sz) (U : Nat → Nat → UInt8) (hI : Inv k (rowAt' k rs) U) (hU : undoL (pickL (allL k r) rs) = matL k k U) (i : Nat) (hi : i < k) :
    firstF k r rs texts i = strOf sz (fun j => mv k U (fun c => bt (nth texts c) j) i) := by
  have h0 : ∀ i, i < k → 0 ≤ nthI rs i := fun i hi => (h.at' i hi).1
  have hlm := lost_mem rs k
  have hlf := lostL_facts rs k
  have hl0 : ∀ a, a < (lostL rs k).length → 0 ≤ nthI (lostL rs k) a := fun a ha => (hlf.2 _ (by rw [← nthI_get _ a ha]; exact List.getElem_mem ha)).1
  unfold firstF
  rw [h.len]
  by_cases hin : (i : Int) ∈ rs
  · obtain ⟨c, hc, e⟩ := List.getElem_of_mem hin
    rw [h.len] at hc
    rw [nthI_get] at e
    rw [putL_miss, place_is k rs texts h.inj h0 k c i (Nat.le_refl _) hc e hi]
    · rw [← strOf_self (nth texts c), hz c hc]
      refine strOf_congr _ _ _ (fun j hj => ?_)
      have hrow : ∀ l, l < k → rowAt' k rs c l = un i l := fun l hl => by
        unfold rowAt' below
        rw [e, Int.toNat_natCast, if_pos hi]
      have hUi : ∀ l, l < k → U i l = un c l := fun l hl => by
        rw [← hI.1 c l hc hl, ← un_mm k U i l hi]
        exact sm_congr fun t ht => by rw [hrow t ht]
      show _ = sm k _
      rw [sm_congr (g := fun l => gm (un c l) (bt (nth texts l) j)) (fun l hl => by rw [hUi l hl])]
      exact (mv_un k (fun l => bt (nth texts l) j) c hc).symm
    · intro t ht e2
      rw [sumsL_length] at ht
      have htl : t < (lostL rs k).length := Nat.lt_of_lt_of_le ht (by_le k r rs (lostL rs k) h1 h2).1
      have := (hlm (nthI (lostL rs k) t)).1 (by rw [← nthI_get _ t htl]; exact List.getElem_mem htl)
      have e3 : nthI (lostL rs k) t = i := by omega
      rw [e3] at this
      exact this.2.2 hin
  · have hmem := (hlm (i : Int)).2 ⟨by omega, by omega, hin⟩
    obtain ⟨t, ht, e⟩ := List.getElem_of_mem hmem
    rw [nthI_get] at e
    have hb := by_is k r rs (lostL rs k) h1 h2 h U hU (by omega) (by omega) (fun x hx => by have := hlf.2 x hx; omega)
    have hcnt : (sumsL (byL k r rs (lostL rs k)) texts).length = (lostL rs k).length := by rw [sumsL_length, hb, matL_length]
    have hit := putL_hit (lostL rs k) (sumsL (byL k r rs (lostL rs k)) texts) (placeT k rs texts k) (fun a b ha hb => lost_inj rs k a b ha hb) hl0 (lostL rs k).length t (Nat.le_refl _) ht
    rw [e, Int.toNat_natCast] at hit
    rw [hcnt, hit]
    have hm : nth (sumsL (byL k r rs (lostL rs k)) texts) t = sumS (nth (byL k r rs (lostL rs k)) t) texts := by
      unfold sumsL
      rw [← nth_get _ t (by rw [List.length_map, hb, matL_length]; exact ht), List.getElem_map, nth_get _ t (by rw [hb, matL_length]; exact ht)]
    rw [hm, hb, nth_matL _ _ _ _ ht, sumS_is k sz _ texts h1 hl hz]
    refine strOf_congr _ _ _ (fun j hj => ?_)
    refine sm_congr fun c hc => ?_
    have : mm k (rowAt' k (lostL rs k)) U t c = U i c := by
      rw [← un_mm k U i c hi]
      refine sm_congr fun l hl => ?_
      unfold rowAt' below
      rw [e, Int.toNat_natCast, if_pos hi]
    rw [this]
end Go.Proofs.Ythifdfbdekkmgaa

/- Gather and Again: what they answer, of any parts. -/
namespace Go.Proofs.Ythifdfbdekkmgaa
open Go.RowKit Gf
set_option linter.unusedVariables false
theorem pickN_mem (F : Nat → Bool) (k : Nat) : ∀ j, ∀ x ∈ pickN F k j, x < j ∧ F x = true
  | 0, x, h => by simp [pickN] at h
  | j + 1, x, h => by
    rw [pickN] at h
    split at h
    · rename_i hc
      rcases List.mem_append.1 h with h | h
      · have := pickN_mem F k j x h
        exact ⟨by omega, this.2⟩
      · simp at h
        subst h
        exact ⟨by omega, hc.1⟩
    · have := pickN_mem F k j x h
      exact ⟨by omega, this.2⟩
theorem pickN_rise (F : Nat → Bool) (k : Nat) : ∀ j, (pickN F k j).Pairwise (· < ·)
  | 0 => List.Pairwise.nil
  | j + 1 => by
    rw [pickN]
    split
    · rw [List.pairwise_append]
      refine ⟨pickN_rise F k j, by simp, fun a ha b hb => ?_⟩
      have := (pickN_mem F k j a ha).1
      simp at hb
      omega
    · exact pickN_rise F k j
theorem allP_at {m : Nat} {ps : Pts} : ∀ n, allP m ps n = true → ∀ q, q < n → okP m ps q = true
  | 0, _, q, h => by omega
  | n + 1, h, q, hq => by
    rw [allP, Bool.and_eq_true] at h
    by_cases e : q = n
    · subst e; exact h.2
    · exact allP_at n h.1 q (by omega)
theorem okP_at {m : Nat} {ps : Pts} {q : Nat} (h : okP m ps q = true) : 0 ≤ ixP ps q ∧ ixP ps q < (m : Int) ∧ (txP ps q).size = (txP ps 0).size := by
  unfold okP at h
  rw [Bool.and_eq_true, decide_eq_true_eq] at h
  exact h.1
theorem te_size {m : Nat} {ps : Pts} : ∀ n, allP m ps n = true → ∀ x, thP ps n x = true → (teP ps n x).size = (txP ps 0).size
  | 0, _, x, h => by cases h
  | n + 1, h, x, hx => by
    have h1 := h
    rw [allP, Bool.and_eq_true] at h1
    rw [teP]
    unfold updT
    by_cases e : x = (ixP ps n).toNat
    · rw [if_pos e]; exact (okP_at h1.2).2.2
    · rw [if_neg e]
      rw [thP, if_neg e] at hx
      exact te_size n h1.1 x hx
/-- What is told, where nothing is wrong. -/
theorem least_facts (k r : Nat) (ps : Pts) (h : leastE k (k + r) ps = 0) : allP (k + r) ps ps.length = true ∧ (leastN k (k + r) ps).length = k ∧ Distinct k r (leastI k (k + r) ps) ∧ (leastT k (k + r) ps).length = k ∧ ∀ c, c < k → (nth (leastT k (k + r) ps) c).size = (txP ps 0).size := by
  have ha : allP (k + r) ps ps.length = true := by
    unfold leastE at h
    split at h
    · assumption
    · exact absurd h (by decide)
  have hl : (leastN k (k + r) ps).length = k := by
    unfold leastE at h
    rw [if_pos ha] at h
    split at h
    · exact absurd h (by decide)
    · have := pickN_le (thP ps ps.length) k (k + r)
      unfold leastN at *
      omega
  have hn : ∀ c, c < k → ∀ (hc : c < (leastN k (k + r) ps).length), nthI (leastI k (k + r) ps) c = ((leastN k (k + r) ps)[c] : Nat) := fun c _ hc => by
    unfold leastI
    rw [← nthI_get _ c (by rw [List.length_map]; exact hc), List.getElem_map]
    rfl
  refine ⟨ha, hl, ⟨by unfold leastI; rw [List.length_map, hl], fun i hi => ?_, fun i j hi hj e => ?_⟩, by unfold leastT; rw [List.length_map, hl], fun c hc => ?_⟩
  · obtain ⟨x, hx, rfl⟩ := List.mem_map.1 hi
    have := (pickN_mem _ k (k + r) x hx).1
    show 0 ≤ (x : Int) ∧ (x : Int) < _
    omega
  · rw [hn i hi (by omega), hn j hj (by omega)] at e
    have hp := List.pairwise_iff_getElem.1 (pickN_rise (thP ps ps.length) k (k + r))
    have hli : i < (pickN (thP ps ps.length) k (k + r)).length := by have := hl; unfold leastN at this; omega
    have hlj : j < (pickN (thP ps ps.length) k (k + r)).length := by have := hl; unfold leastN at this; omega
    have e2 : (pickN (thP ps ps.length) k (k + r))[i] = (pickN (thP ps ps.length) k (k + r))[j] := by
      have e3 := e
      unfold leastN at e3
      omega
    rcases Nat.lt_trichotomy i j with e3 | e3 | e3
    · have := hp i j hli hlj e3; omega
    · exact e3
    · have := hp j i hlj hli e3; omega
  · have hc' : c < (leastN k (k + r) ps).length := by omega
    have : nth (leastT k (k + r) ps) c = teP ps ps.length (leastN k (k + r) ps)[c] := by
      unfold leastT
      rw [← nth_get _ c (by rw [List.length_map]; exact hc'), List.getElem_map]
    rw [this]
    exact te_size _ ha _ (pickN_mem _ k (k + r) _ (List.getElem_mem hc')).2
theorem firstL_facts (k r sz : Nat) (rs : List Int) (texts : List ByteArray) (h1 : 1 ≤ k) (h2 : k + r ≤ 32) (h : Distinct k r rs) (hl : texts.length = k) (hz : ∀ c, c < k → (nth texts c).size = sz) :
    ((List.range k).map (firstF k r rs texts)).length = k ∧ (∀ i, i < k → nth ((List.range k).map (firstF k r rs texts)) i = firstF k r rs texts i) ∧ ∀ s ∈ (List.range k).map (firstF k r rs texts), s.size = sz := by
  obtain ⟨U, hI, hU⟩ := undo_there k r rs h1 h2 h
  refine ⟨by simp, fun i hi => ?_, fun s hs => ?_⟩
  · rw [← nth_get _ i (by simpa using hi)]
    simp
  · obtain ⟨i, hi, rfl⟩ := List.mem_map.1 hs
    rw [first_is k r sz rs texts h1 h2 h hl hz U hI hU i (List.mem_range.1 hi), strOf_size]
def gathE (k r total : Int) (ps : Pts) : Int := if spB k r = true ∧ 0 ≤ total then (if leastE k.toNat (k.toNat + r.toNat) ps = 0 then (if (txP ps 0).size = sizeN k.toNat total.toNat then 0 else 61) else leastE k.toNat (k.toNat + r.toNat) ps) else 2
noncomputable abbrev firstL (k r : Nat) (there : List Int) (texts : List ByteArray) : List ByteArray := (List.range k).map (firstF k r there texts)
noncomputable def gathS (k r total : Int) (ps : Pts) : ByteArray := if gathE k r total ps = 0 then joinS total.toNat (firstL k.toNat r.toNat (leastI k.toNat (k.toNat + r.toNat) ps) (leastT k.toNat (k.toNat + r.toNat) ps)) else ⟨#[]⟩
def agaE (k r i : Int) (ps : Pts) : Int := if spB k r = true ∧ 0 ≤ i ∧ i < k + r then leastE k.toNat (k.toNat + r.toNat) ps else 2
noncomputable def agaS (k r i : Int) (ps : Pts) : ByteArray := if agaE k r i ps = 0 then nth (sumsL (byL k.toNat r.toNat (leastI k.toNat (k.toNat + r.toNat) ps) [i]) (leastT k.toNat (k.toNat + r.toNat) ps)) 0 else ⟨#[]⟩
set_option maxHeartbeats 2000000 in
set_option maxRecDepth 100000 in
theorem pGather_any (k r total : Int) (a : Option Addr) (ca : Nat) (ps : Pts) (w : World) (h0 : -9223372036854775808 ≤ k) (h1 : k ≤ 9223372036854775807) (h2 : -9223372036854775808 ≤ r) (h3 : r ≤ 9223372036854775807) (h4 : -9223372036854775808 ≤ total) (h5 : total ≤ 9223372036854775807)
    (hA : Parts w a ps) (hn : ps.length ≤ 1000000) (hz : ∀ q, (txP ps q).size ≤ 1000000) :
    Calls Seq.prog 16 #[.int .i64 k, .int .i64 r, .int .i64 total, .slice a ps.length ca] w fun e w' => e = .returned (.tuple #[.string (gathS k r total ps), .int .i64 (gathE k r total ps)]) ∧ Kept w w' := by
  have HSP := Lib.hid (spreadable_any k r w h0 h1 h2 h3)
  by_cases hbad : spB k r = true ∧ 0 ≤ total
  · obtain ⟨hsp, ht⟩ := hbad
    obtain ⟨K, R, rfl, rfl, hK1, hKR⟩ := spB_iff hsp
    obtain ⟨T, rfl⟩ : ∃ T : Nat, total = T := ⟨total.toNat, by omega⟩
    have HE : Hid (gathE K R T ps = if leastE K (K + R) ps = 0 then (if (txP ps 0).size = sizeN K T then 0 else 61) else leastE K (K + R) ps) := by
      show _ = _
      unfold gathE
      rw [if_pos ⟨hsp, by omega⟩]
      rfl
    have HS : Hid (gathE K R T ps = 0 → gathS K R T ps = joinS T (firstL K R (leastI K (K + R) ps) (leastT K (K + R) ps))) := fun h => by
      unfold gathS
      rw [if_pos h]
      rfl
    have HS0 : Hid (gathE K R T ps ≠ 0 → gathS K R T ps = ⟨#[]⟩) := fun h => by
      unfold gathS
      rw [if_neg h]
    have HLE := Lib.hid (fun W hW => least_any K R a ca ps W hK1 hKR hW hn)
    have HA := Lib.hid hA
    have HZ := Lib.hid hz
    have HB : Hid (spB (K : Int) (R : Int) = true) := hsp
    have hbt : decide ((T : Int) < 0) = false := decide_eq_false (by omega)
    clear hA hz hsp
    obtain ⟨n, hnn⟩ : ∃ n, ps.length = n := ⟨_, rfl⟩
    rw [hnn] at HLE hn ⊢
    clear hnn
    go_enter Seq.func16, Seq.ntmps16
    go_wp2_with fail
    refine HSP.out.mono ?_
    rw [HB.out]
    rintro e w1 ⟨rfl, rfl⟩
    go_wp2_with fail
    refine (HLE.out _ HA.out).mono ?_
    rintro e w2 ⟨v1, v2, rfl, hgood, hk⟩
    have HK := Lib.hid hk
    by_cases hE0 : leastE K (K + R) ps = 0
    · obtain ⟨a1, c1, a2, c2, rfl, hi1, rfl, hs2⟩ := hgood hE0
      obtain ⟨f1, f2, f3, f4, f5⟩ := least_facts K R ps hE0
      have HE2 : Hid (gathE K R T ps = if (txP ps 0).size = sizeN K T then 0 else 61) := by
        show _ = _
        rw [HE.out, if_pos hE0]
      have HI1 := Lib.hid hi1
      have HS2 := Lib.hid hs2
      obtain ⟨b2, o2, hc2⟩ := strs_at hs2
      obtain ⟨ha2, hd2⟩ := hc2 (by omega)
      have hcell := hd2 0 (by omega)
      rw [Nat.add_zero] at hcell
      have HF3 := Lib.hid f3
      have HF4 := Lib.hid f4
      have HF5 := Lib.hid f5
      have HZ0 : Hid ((txP ps 0).size ≤ 1000000) := HZ.out 0
      have hsz0 := f5 0 (by omega)
      have hsiz : sizeI (K : Int) (T : Int) = sizeN K T := by
        unfold sizeI
        rw [if_pos ⟨decide_eq_true (by omega), by omega⟩]
        rfl
      have HSI := Lib.hid (fun W => pSize_any K T W h0 h1 h4 h5)
      rw [hsiz] at HSI
      rw [hE0]
      subst ha2
      clear hgood hi1 hs2 hc2 hd2 f1 f2 f3 f4 f5 HE hsiz HLE hE0
      obtain ⟨s0, hs0⟩ : ∃ s0, nth (leastT K (K + R) ps) 0 = s0 := ⟨_, rfl⟩
      rw [hs0] at hcell hsz0
      have HCK : Hid (∀ W, Kept w2 W → W.cell? ⟨b2, o2, none⟩ = some (.string s0)) := fun W hW => cellk hcell hW
      clear hs0
      by_cases hsz : (txP ps 0).size = sizeN K T
      · have HE3 : Hid (gathE K R T ps = 0) := by show _ = _; rw [HE2.out, if_pos hsz]
        have HST := Lib.hid (HS.out HE3.out)
        have hbn : (((s0.size : Nat) : Int) != ((sizeN K T : Nat) : Int)) = false := by rw [hsz0, hsz]; simp
        have HT : Hid (T ≤ 10000000000) := by
          show _ ≤ _
          have h6 := HZ0.out
          rw [hsz] at h6
          have h7 : T / K ≤ 1000000 := Nat.le_trans (by unfold sizeN; omega) h6
          have h8 := Nat.div_add_mod T K
          have h9 := Nat.mod_lt T (show 0 < K by omega)
          have h10 : K * (T / K) ≤ 32 * 1000000 := Nat.mul_le_mul (by omega) h7
          omega
        clear hsz hsz0 HE2 HS HS0
        generalize sizeN K T = sn at *
        go_upto_region 6 with fail
        go_cut [33] (fun v wx => v = .bool false ∧ Hid (Kept w2 wx))
        case first =>
          have hK0 : 0 < K := by omega
          go_region_held3 (fun w' => w'.cell? ⟨b2, o2, none⟩ = some (.string s0)) (first | assumption | exact HCK.out _ ((Kept.refl _).drewN _) | exact HCK.out _ (((Kept.refl _).drewN _).trans hg) | exact HCK.out _ ((((Kept.refl _).drewN _).trans hg).drewN _)) (first | (go_at_call 12; refine (HSI.out _).mono ?_; rintro e w' ⟨rfl, hg⟩))
          all_goals go_wp2_with fail
          all_goals go_meet
          all_goals exact ⟨rfl, (((Kept.refl _).drew).trans hg)⟩
        case rest =>
          obtain ⟨rfl, HK2⟩ := hcut
          have HFP := Lib.hid (fun W (hW : Kept w2 W) => firstParts_any K R a1 (some ⟨b2, o2, none⟩) c1 c2 (leastI K (K + R) ps) (leastT K (K + R) ps) W hK1 hKR (HI1.out.kept hW) (HS2.out.kept hW) (by rw [HF3.out.len]; omega) (by rw [HF4.out, HF3.out.len]) (fun i hi => by have := HF3.out.rng i hi; omega) (fun s hs => by
            obtain ⟨c, hc, rfl⟩ := List.getElem_of_mem hs
            rw [nth_get _ c hc, HF5.out c (by rw [← HF4.out]; exact hc)]
            have := HZ0.out
            omega))
          rw [HF3.out.len, HF4.out] at HFP
          have HFL := Lib.hid (firstL_facts K R (txP ps 0).size (leastI K (K + R) ps) (leastT K (K + R) ps) hK1 hKR HF3.out HF4.out HF5.out)
          go_wp2_with fail
          refine (HFP.out _ HK2.out).mono ?_
          rintro e w3 ⟨G, rfl, _, ht3, hk3⟩
          have HK3 : Hid (Kept w1 w3) := (HK.out.trans HK2.out).trans hk3
          have HJ := Lib.hid (join_any T (some ⟨G, 0, none⟩) K (firstL K R (leastI K (K + R) ps) (leastT K (K + R) ps)) w3 HT.out (ht3.strs _ HFL.out.1 (fun i hi => HFL.out.2.1 i hi)) (by rw [HFL.out.1]; omega) (fun s hs => by have := HFL.out.2.2 s hs; have := HZ0.out; omega))
          rw [HFL.out.1] at HJ
          clear ht3 hk3
          go_wp2_with fail
          refine HJ.out.mono ?_
          rintro e w4 ⟨rfl, hk4⟩
          have HK4 : Hid (Kept w1 w4) := HK3.out.trans hk4
          rw [← HST.out]
          clear hk4 HJ
          go_wp2_with fail
          go_ret2
          rw [HE3.out]
          exact ⟨rfl, HK4.out⟩
      · have HE3 : Hid (gathE K R T ps = 61) := by show _ = _; rw [HE2.out, if_neg hsz]
        have HST := Lib.hid (HS0.out (by rw [HE3.out]; decide))
        have hbn : (((s0.size : Nat) : Int) != ((sizeN K T : Nat) : Int)) = true := by rw [hsz0]; simp; omega
        clear hsz hsz0 HE2 HS HS0
        generalize sizeN K T = sn at *
        go_upto_region 6 with fail
        go_cut [33] (fun v wx => v = .bool true ∧ Hid (Kept w2 wx))
        case first =>
          have hK0 : 0 < K := by omega
          go_region_held3 (fun w' => w'.cell? ⟨b2, o2, none⟩ = some (.string s0)) (first | assumption | exact HCK.out _ ((Kept.refl _).drewN _) | exact HCK.out _ (((Kept.refl _).drewN _).trans hg) | exact HCK.out _ ((((Kept.refl _).drewN _).trans hg).drewN _)) (first | (go_at_call 12; refine (HSI.out _).mono ?_; rintro e w' ⟨rfl, hg⟩))
          all_goals go_wp2_with fail
          all_goals go_meet
          all_goals exact ⟨rfl, (((Kept.refl _).drew).trans hg)⟩
        case rest =>
          obtain ⟨rfl, HK2⟩ := hcut
          go_wp2_with fail
          go_ret2
          rw [HST.out, HE3.out]
          exact ⟨rfl, HK.out.trans HK2.out⟩
    · have hbE : (leastE K (K + R) ps != 0) = true := by simp; exact hE0
      have HE1 : Hid (gathE K R T ps = leastE K (K + R) ps) := by show _ = _; rw [HE.out, if_neg hE0]
      have HS1 := Lib.hid (HS0.out (by rw [HE1.out]; exact hE0))
      clear hgood hE0 HE HS HS0
      generalize leastE K (K + R) ps = E at *
      go_wp2_with fail
      go_ret2
      rw [HS1.out, HE1.out]
      exact ⟨rfl, HK.out⟩
  · have HE : Hid (gathE k r total ps = 2) := by show _ = _; unfold gathE; rw [if_neg hbad]
    have HS : Hid (gathS k r total ps = ⟨#[]⟩) := by show _ = _; unfold gathS; rw [if_neg (by rw [HE.out]; decide)]
    generalize ps.length = n at *
    clear hA hz
    generalize gathE k r total ps = gE at *
    generalize gathS k r total ps = gS at *
    cases hsp : spB k r with
    | false =>
      have HB := Lib.hid hsp
      clear hbad hsp
      go_enter Seq.func16, Seq.ntmps16
      go_wp2_with fail
      refine HSP.out.mono ?_
      rw [HB.out]
      rintro e w1 ⟨rfl, rfl⟩
      go_wp2_with fail
      go_ret2
      rw [HE.out, HS.out]
      exact ⟨rfl, Kept.refl _⟩
    | true =>
      have HB := Lib.hid hsp
      have hbt : decide (total < 0) = true := decide_eq_true (by
        rcases Int.lt_or_le total 0 with h | h
        · exact h
        · exact absurd ⟨hsp, h⟩ hbad)
      clear hbad hsp
      go_enter Seq.func16, Seq.ntmps16
      go_wp2_with fail
      refine HSP.out.mono ?_
      rw [HB.out]
      rintro e w1 ⟨rfl, rfl⟩
      go_wp2_with fail
      go_ret2
      rw [HE.out, HS.out]
      exact ⟨rfl, Kept.refl _⟩
end Go.Proofs.Ythifdfbdekkmgaa

/- Again: what it answers, of any parts. -/
namespace Go.Proofs.Ythifdfbdekkmgaa
open Go.RowKit Gf
set_option linter.unusedVariables false
set_option maxHeartbeats 2000000 in
set_option maxRecDepth 100000 in
theorem pAgain_any (k r i : Int) (a : Option Addr) (ca : Nat) (ps : Pts) (w : World) (h0 : -9223372036854775808 ≤ k) (h1 : k ≤ 9223372036854775807) (h2 : -9223372036854775808 ≤ r) (h3 : r ≤ 9223372036854775807) (h4 : -9223372036854775808 ≤ i) (h5 : i ≤ 9223372036854775807)
    (hA : Parts w a ps) (hn : ps.length ≤ 1000000) (hz : ∀ q, (txP ps q).size ≤ 1000000) :
    Calls Seq.prog 18 #[.int .i64 k, .int .i64 r, .int .i64 i, .slice a ps.length ca] w fun e w' => e = .returned (.tuple #[.string (agaS k r i ps), .int .i64 (agaE k r i ps)]) ∧ Kept w w' := by
  have HSP := Lib.hid (spreadable_any k r w h0 h1 h2 h3)
  by_cases hbad : spB k r = true ∧ 0 ≤ i ∧ i < k + r
  · obtain ⟨hsp, hi1, hi2⟩ := hbad
    obtain ⟨K, R, rfl, rfl, hK1, hKR⟩ := spB_iff hsp
    obtain ⟨I, rfl⟩ : ∃ I : Nat, i = I := ⟨i.toNat, by omega⟩
    have HE : Hid (agaE K R I ps = leastE K (K + R) ps) := by
      show _ = _
      unfold agaE
      rw [if_pos ⟨hsp, hi1, hi2⟩]
      rfl
    have HS : Hid (agaE K R I ps = 0 → agaS K R I ps = nth (sumsL (byL K R (leastI K (K + R) ps) [(I : Int)]) (leastT K (K + R) ps)) 0) := fun h => by
      unfold agaS
      rw [if_pos h]
      rfl
    have HS0 : Hid (agaE K R I ps ≠ 0 → agaS K R I ps = ⟨#[]⟩) := fun h => by
      unfold agaS
      rw [if_neg h]
    have HLE := Lib.hid (fun W hW => least_any K R a ca ps W hK1 hKR hW hn)
    have HA := Lib.hid hA
    have HZ := Lib.hid hz
    have HB : Hid (spB (K : Int) (R : Int) = true) := hsp
    have hbt : decide ((I : Int) < 0) = false := decide_eq_false (by omega)
    have hsum : (K : Int) + (R : Int) = ((K + R : Nat) : Int) := by omega
    have hbu : decide (((K + R : Nat) : Int) ≤ (I : Int)) = false := decide_eq_false (by omega)
    clear hA hz hsp
    obtain ⟨n, hnn⟩ : ∃ n, ps.length = n := ⟨_, rfl⟩
    rw [hnn] at HLE hn ⊢
    clear hnn
    obtain ⟨M, hM⟩ : ∃ M, K + R = M := ⟨_, rfl⟩
    have HMM := Lib.hid hM
    rw [hM] at hbu hsum
    clear hM
    go_enter Seq.func18, Seq.ntmps18
    go_wp2_with fail
    refine HSP.out.mono ?_
    rw [HB.out]
    rintro e w1 ⟨rfl, rfl⟩
    go_wp2_with fail
    refine (HLE.out _ HA.out).mono ?_
    rintro e w2 ⟨v1, v2, rfl, hgood, hk⟩
    have HK := Lib.hid hk
    clear hsum hbu
    by_cases hE0 : leastE K (K + R) ps = 0
    · obtain ⟨a1, c1, a2, c2, rfl, hi1, rfl, hs2⟩ := hgood hE0
      obtain ⟨f1, f2, f3, f4, f5⟩ := least_facts K R ps hE0
      have HE3 : Hid (agaE K R I ps = 0) := by show _ = _; rw [HE.out, hE0]
      have HST := Lib.hid (HS.out HE3.out)
      have HI1 := Lib.hid hi1
      have HS2 := Lib.hid hs2
      have HZ0 : Hid ((txP ps 0).size ≤ 1000000) := HZ.out 0
      have hby : (byL K R (leastI K (K + R) ps) [(I : Int)]).length = 1 ∧ ∀ s ∈ byL K R (leastI K (K + R) ps) [(I : Int)], s.size ≤ 100000000 := by
        obtain ⟨U, hI, hU⟩ := undo_there K R _ hK1 hKR f3
        have hm := HMM.out
        rw [by_is K R _ [(I : Int)] hK1 hKR f3 U hU (by simp) (by simp) (fun x hx => by simp at hx; subst hx; omega)]
        refine ⟨by rw [matL_length]; rfl, fun s hs => ?_⟩
        rw [mat_sizes s hs]
        omega
      have HRB : Hid (∀ W b, Kept w2 W → W.cell? ⟨b, 0, none⟩ = some (.int .i64 I) → Calls Seq.prog 32 #[.int .i64 K, .int .i64 R, .slice a1 K c1, .slice (some ⟨b, 0, none⟩) 1 1] W fun e w' => ∃ x y, e = .returned (.slice x 1 y) ∧ Strs w' x (byL K R (leastI K (K + R) ps) [(I : Int)]) ∧ Kept W w') := fun W b hW hc => by
        have h := rowsBy_any K R a1 (some ⟨b, 0, none⟩) c1 1 (leastI K (K + R) ps) [(I : Int)] W hK1 hKR (HI1.out.kept hW) (.inr ⟨b, 0, rfl, fun j hj => by
          obtain rfl : j = 0 := by simpa using hj
          exact hc⟩) (by rw [f3.len]; omega) (by simp) (fun x hx => by have := f3.rng x hx; omega) (fun x hx => by simp at hx; subst hx; omega)
        rw [f3.len] at h
        refine h.mono ?_
        rintro e w' ⟨x, y, rfl, hs, hk⟩
        rw [hby.1]
        exact ⟨x, y, rfl, hs, hk⟩
      rw [hE0]
      have HBL := Lib.hid hby
      have HSUM : Hid (∀ W x y, Kept w2 W → Strs W x (byL K R (leastI K (K + R) ps) [(I : Int)]) → Calls Seq.prog 22 #[.slice x 1 y, .slice a2 K c2] W fun e w' => ∃ G, e = .returned (.slice (some ⟨G, 0, none⟩) 1 1) ∧ Txt G 1 (nth (sumsL (byL K R (leastI K (K + R) ps) [(I : Int)]) (leastT K (K + R) ps))) w' ∧ Kept W w') := fun W x y hW hs => by
        have h := sums_txt x a2 y c2 (byL K R (leastI K (K + R) ps) [(I : Int)]) (leastT K (K + R) ps) W hs (HS2.out.kept hW) (by rw [hby.1]; omega) (by rw [f4]; omega) (fun s hs => by
          obtain ⟨c, hc, rfl⟩ := List.getElem_of_mem hs
          rw [nth_get _ c hc, f5 c (by rw [← f4]; exact hc)]
          have := HZ0.out
          omega) hby.2
        rw [hby.1, f4] at h
        exact h
      clear hgood hi1 hs2 HE HLE hE0 f1 f2 f3 f4 f5 hby
      go_wp2_with fail
      refine (HRB.out _ _ ((Kept.refl _).alloc _) (by rw [World.cell?_alloc_mark]; rfl)).mono ?_
      rintro e w3 ⟨x, y, rfl, hs3, hk3⟩
      have HK3 : Hid (Kept w2 w3) := (((Kept.refl _).alloc _).trans hk3)
      have HS3 := Lib.hid hs3
      clear hk3 hs3
      go_wp2_with fail
      refine (HSUM.out _ _ _ HK3.out HS3.out).mono ?_
      rintro e w4 ⟨G, rfl, ht4, hk4⟩
      have hc4 := ht4.cell 0 (by omega)
      rw [← HST.out] at hc4
      have HK4 : Hid (Kept w1 w4) := (HK.out.trans HK3.out).trans hk4
      clear ht4 hk4
      go_wp2_with fail
      go_ret2
      rw [HE3.out]
      exact ⟨rfl, HK4.out⟩
    · have hbE : (leastE K (K + R) ps != 0) = true := by simp; exact hE0
      have HE1 : Hid (agaE K R I ps = leastE K (K + R) ps) := HE
      have HS1 := Lib.hid (HS0.out (by rw [HE1.out]; exact hE0))
      clear hgood hE0 HE HS HS0
      generalize leastE K (K + R) ps = E at *
      go_wp2_with fail
      go_ret2
      rw [HS1.out, HE1.out]
      exact ⟨rfl, HK.out⟩
  · have HE : Hid (agaE k r i ps = 2) := by show _ = _; unfold agaE; rw [if_neg hbad]
    have HS : Hid (agaS k r i ps = ⟨#[]⟩) := by show _ = _; unfold agaS; rw [if_neg (by rw [HE.out]; decide)]
    generalize ps.length = n at *
    clear hA hz
    generalize agaE k r i ps = gE at *
    generalize agaS k r i ps = gS at *
    cases hsp : spB k r with
    | false =>
      have HB := Lib.hid hsp
      clear hbad hsp
      go_enter Seq.func18, Seq.ntmps18
      go_wp2_with fail
      refine HSP.out.mono ?_
      rw [HB.out]
      rintro e w1 ⟨rfl, rfl⟩
      go_wp2_with fail
      go_ret2
      rw [HE.out, HS.out]
      exact ⟨rfl, Kept.refl _⟩
    | true =>
      have HB := Lib.hid hsp
      obtain ⟨K, R, rfl, rfl, hK1, hKR⟩ := spB_iff hsp
      obtain ⟨M, hM⟩ : ∃ M, K + R = M := ⟨_, rfl⟩
      have hsum : (K : Int) + (R : Int) = (M : Int) := by omega
      by_cases hneg : i < 0
      · have hbt : decide (i < 0) = true := decide_eq_true hneg
        clear hbad hsp hneg
        go_enter Seq.func18, Seq.ntmps18
        go_wp2_with fail
        refine HSP.out.mono ?_
        rw [HB.out]
        rintro e w1 ⟨rfl, rfl⟩
        go_wp2_with fail
        go_ret2
        rw [HE.out, HS.out]
        exact ⟨rfl, Kept.refl _⟩
      · have hbt : decide (i < 0) = false := decide_eq_false hneg
        have hbu : decide ((M : Int) ≤ i) = true := decide_eq_true (by
          rcases Int.lt_or_le i M with h | h
          · exact absurd ⟨hsp, by omega, by omega⟩ hbad
          · exact h)
        clear hbad hsp hneg
        go_enter Seq.func18, Seq.ntmps18
        go_wp2_with fail
        refine HSP.out.mono ?_
        rw [HB.out]
        rintro e w1 ⟨rfl, rfl⟩
        go_wp2_with fail
        go_ret2
        rw [HE.out, HS.out]
        exact ⟨rfl, Kept.refl _⟩
end Go.Proofs.Ythifdfbdekkmgaa

/- Of any k parts of a text the text is gathered, and each part made again. -/
namespace Go.Proofs.Ythifdfbdekkmgaa
open Go.RowKit Gf
set_option linter.unusedVariables false
theorem bt_list (s : ByteArray) (j : Nat) (h : j < s.data.toList.length) : s.data.toList[j] = bt s j := by
  unfold bt
  rw [List.getElem!_eq_getElem?_getD, List.getElem?_eq_getElem h]
  rfl
/-- The byte j of part i. -/
def pt (k : Nat) (t : ByteArray) (sz i j : Nat) : UInt8 := sm k fun l => gm (below k i l) (pc t sz l j)
theorem spread_length (k r : Nat) (t : ByteArray) (h1 : 1 ≤ k) (h2 : k + r ≤ 32) : (spreadL k r t).length = k + r := by
  unfold spreadL
  rw [List.length_append, splitL_length, sumsL_length, List.length_drop, (allL_facts k r h1 h2).1]
  omega
theorem split_nth (k : Nat) (t : ByteArray) (i : Nat) (hi : i < k) : nth (splitL k t) i = strOf (sizeN k t.size) (pc t (sizeN k t.size) i) := by
  unfold splitL
  rw [nth_matL _ _ _ _ hi]
theorem spread_is (k r : Nat) (t : ByteArray) (h1 : 1 ≤ k) (h2 : k + r ≤ 32) (i : Nat) (hi : i < k + r) : nth (spreadL k r t) i = strOf (sizeN k t.size) (pt k t (sizeN k t.size) i) := by
  unfold spreadL
  by_cases h : i < k
  · rw [nth_append_left _ _ i (by rw [splitL_length]; exact h), split_nth k t i h]
    refine strOf_congr _ _ _ (fun j hj => ?_)
    unfold pt
    rw [sm_congr (g := fun l => gm (un i l) (pc t (sizeN k t.size) l j)) (fun l hl => by unfold below; rw [if_pos h])]
    exact (mv_un k (fun l => pc t (sizeN k t.size) l j) i h).symm
  · rw [nth_append_right _ _ i (by rw [splitL_length]; omega), splitL_length]
    have hlen : i - k < ((allL k r).drop k).length := by rw [List.length_drop, (allL_facts k r h1 h2).1]; omega
    have hr : nth ((allL k r).drop k) (i - k) = strOf k (below k i) := by
      have e : nth ((allL k r).drop k) (i - k) = nth (allL k r) i := by
        rw [← nth_get _ (i - k) hlen, List.getElem_drop, nth_get]
        congr 1
        omega
      rw [e, all_is k r h1 h2, nth_matL _ _ _ _ hi]
    unfold sumsL
    rw [← nth_get _ (i - k) (by rw [List.length_map]; exact hlen), List.getElem_map, nth_get _ (i - k) hlen, hr,
      sumS_is k (sizeN k t.size) _ (splitL k t) h1 (splitL_length k t) (fun c hc => by rw [split_nth k t c hc, strOf_size])]
    refine strOf_congr _ _ _ (fun j hj => sm_congr fun l hl => ?_)
    rw [split_nth k t l hl, strOf_bt _ _ _ hj]
/-- The first k parts, put together, begin with the text. -/
theorem cat_size (ss : List ByteArray) (sz : Nat) : ∀ q, (∀ c, c < q → (nth ss c).size = sz) → (catB ss q).length = q * sz
  | 0, _ => by simp [catB]
  | q + 1, h => by
    rw [catB, List.length_append, cat_size ss sz q (fun c hc => h c (by omega))]
    have : (nth ss q).data.toList.length = (nth ss q).size := rfl
    rw [this, h q (by omega), Nat.succ_mul]
theorem cat_get (ss : List ByteArray) (sz : Nat) : ∀ q, (∀ c, c < q → (nth ss c).size = sz) → ∀ i j, i < q → j < sz → (catB ss q)[i * sz + j]? = some (bt (nth ss i) j)
  | 0, _, i, j, hi, _ => by omega
  | q + 1, h, i, j, hi, hj => by
    have hl := cat_size ss sz q (fun c hc => h c (by omega))
    rw [catB]
    by_cases e : i = q
    · subst e
      rw [List.getElem?_append_right (by rw [hl]; omega), hl, show i * sz + j - i * sz = j by omega]
      have hs : j < (nth ss i).data.toList.length := by
        show j < (nth ss i).size
        rw [h i (by omega)]; exact hj
      rw [List.getElem?_eq_getElem hs]
      exact congrArg some (bt_list _ _ hs)
    · have h3 : i * sz + j < q * sz := by
        have : (i + 1) * sz ≤ q * sz := Nat.mul_le_mul_right _ (by omega)
        rw [Nat.succ_mul] at this
        omega
      rw [List.getElem?_append_left (by rw [hl]; exact h3)]
      exact cat_get ss sz q (fun c hc => h c (by omega)) i j (by omega) hj
theorem size_cover (k n : Nat) (h1 : 1 ≤ k) : n ≤ k * sizeN k n := by
  have h8 := Nat.div_add_mod n k
  have h9 := Nat.mod_lt n (show 0 < k by omega)
  unfold sizeN
  rw [Nat.mul_add]
  split <;> omega
theorem join_split (k : Nat) (t : ByteArray) (ss : List ByteArray) (h1 : 1 ≤ k) (hl : ss.length = k) (he : ∀ i, i < k → nth ss i = nth (splitL k t) i) : joinS t.size ss = t := by
  have hsz : ∀ c, c < k → (nth ss c).size = sizeN k t.size := fun c hc => by rw [he c hc, split_nth k t c hc, strOf_size]
  unfold joinS
  rw [hl]
  have hcov := size_cover k t.size h1
  have hlen := cat_size ss (sizeN k t.size) k hsz
  have e : (catB ss k).take t.size = t.data.toList := by
    apply List.ext_getElem?
    intro x
    by_cases hx : x < t.size
    · rw [List.getElem?_take_of_lt hx]
      have h0 : 0 < sizeN k t.size := by
        rcases Nat.eq_zero_or_pos (sizeN k t.size) with h | h
        · rw [h] at hcov; omega
        · exact h
      have hx2 : x / sizeN k t.size < k := by
        rw [Nat.div_lt_iff_lt_mul h0]
        omega
      have hx3 := Nat.mod_lt x h0
      have hx4 : x = x / sizeN k t.size * sizeN k t.size + x % sizeN k t.size := by
        have := Nat.div_add_mod x (sizeN k t.size)
        rw [Nat.mul_comm]; omega
      have := cat_get ss (sizeN k t.size) k hsz (x / sizeN k t.size) (x % sizeN k t.size) hx2 hx3
      rw [← hx4] at this
      rw [this, he _ hx2, split_nth k t _ hx2, strOf_bt _ _ _ hx3]
      unfold pc
      rw [← hx4]
      have hxl : x < t.data.toList.length := hx
      rw [List.getElem?_eq_getElem hxl]
      exact congrArg some (bt_list _ _ hxl).symm
    · have h5 : ((catB ss k).take t.size)[x]? = none := by
        rw [List.getElem?_eq_none_iff, List.length_take]
        omega
      have h6 : t.data.toList[x]? = none := by
        rw [List.getElem?_eq_none_iff]
        show t.size ≤ x
        omega
      rw [h5, h6]
  rw [e]
/-- The parts are parts of the text. -/
structure Of (k r : Nat) (t : ByteArray) (ps : Pts) : Prop where
  rng : ∀ q, q < ps.length → 0 ≤ ixP ps q ∧ ixP ps q < ((k + r : Nat) : Int)
  txt : ∀ q, q < ps.length → txP ps q = nth (spreadL k r t) (ixP ps q).toNat
theorem Of.state {k r : Nat} {t : ByteArray} {ps : Pts} (h1 : 1 ≤ k) (h2 : k + r ≤ 32) (h : Of k r t ps) : ∀ n, n ≤ ps.length → allP (k + r) ps n = true ∧ (∀ x, thP ps n x = true → x < k + r ∧ teP ps n x = nth (spreadL k r t) x) ∧ (∀ q, q < n → thP ps n (ixP ps q).toNat = true)
  | 0, _ => ⟨rfl, fun x hx => (by cases hx), fun q hq => by omega⟩
  | n + 1, hn => by
    obtain ⟨i1, i2, i3⟩ := Of.state h1 h2 h n (by omega)
    have hr := h.rng n (by omega)
    have ht := h.txt n (by omega)
    have hs : ∀ q, q < ps.length → (txP ps q).size = sizeN k t.size := fun q hq => by
      have := h.rng q hq
      rw [h.txt q hq, spread_is k r t h1 h2 _ (by omega), strOf_size]
    refine ⟨?_, fun x hx => ?_, fun q hq => ?_⟩
    · rw [allP, i1, Bool.true_and]
      unfold okP
      rw [decide_eq_true ⟨hr.1, hr.2, by rw [hs n (by omega), hs 0 (by omega)]⟩, Bool.true_and]
      cases hth : thP ps n (ixP ps n).toNat with
      | false => rfl
      | true => rw [decide_eq_true (by rw [(i2 _ hth).2, ht])]; rfl
    · rw [teP]
      unfold updT
      by_cases e : x = (ixP ps n).toNat
      · rw [if_pos e, ht, e]
        exact ⟨by omega, rfl⟩
      · rw [thP, if_neg e] at hx
        rw [if_neg e]
        exact i2 x hx
    · rw [thP]
      by_cases e : (ixP ps q).toNat = (ixP ps n).toNat
      · rw [if_pos e]
      · rw [if_neg e]
        refine i3 q ?_
        by_cases e2 : q = n
        · subst e2; exact absurd rfl e
        · omega
/-- k of them that differ are gathered to the text, and each part is made again. -/
theorem back_facts (k r : Nat) (t : ByteArray) (ps : Pts) (h1 : 1 ≤ k) (h2 : k + r ≤ 32) (h : Of k r t ps) (hle : leastE k (k + r) ps = 0) (h0 : 0 < ps.length) :
    gathE k r t.size ps = 0 ∧ gathS k r t.size ps = t ∧ ∀ i, i < k + r → agaE k r i ps = 0 ∧ agaS k r i ps = nth (spreadL k r t) i := by
  obtain ⟨f1, f2, f3, f4, f5⟩ := least_facts k r ps hle
  obtain ⟨i1, i2, i3⟩ := h.state h1 h2 ps.length (Nat.le_refl _)
  have hsp : spB (k : Int) (r : Int) = true := decide_eq_true ⟨by omega, by omega, by omega, by omega⟩
  have hs0 : (txP ps 0).size = sizeN k t.size := by
    have := h.rng 0 h0
    rw [h.txt 0 h0, spread_is k r t h1 h2 _ (by omega), strOf_size]
  have hE : gathE k r t.size ps = 0 := by
    unfold gathE
    rw [if_pos ⟨hsp, by omega⟩]
    show (if leastE k (k + r) ps = 0 then (if (txP ps 0).size = sizeN k t.size then (0 : Int) else 61) else _) = 0
    rw [if_pos hle, if_pos hs0]
  obtain ⟨U, hI, hU⟩ := undo_there k r _ h1 h2 f3
  rw [hs0] at f5
  have hrow : ∀ c, c < k → nth (leastT k (k + r) ps) c = strOf (sizeN k t.size) (pt k t (sizeN k t.size) (nthI (leastI k (k + r) ps) c).toNat) := fun c hc => by
    have hc' : c < (leastN k (k + r) ps).length := by omega
    have e1 : nth (leastT k (k + r) ps) c = teP ps ps.length (leastN k (k + r) ps)[c] := by
      unfold leastT
      rw [← nth_get _ c (by rw [List.length_map]; exact hc'), List.getElem_map]
    have e2 : nthI (leastI k (k + r) ps) c = ((leastN k (k + r) ps)[c] : Nat) := by
      unfold leastI
      rw [← nthI_get _ c (by rw [List.length_map]; exact hc'), List.getElem_map]
      rfl
    have hm := pickN_mem _ k (k + r) _ (List.getElem_mem hc')
    rw [e1, e2, (i2 _ hm.2).2, spread_is k r t h1 h2 _ hm.1]
    rfl
  have hfirst : ∀ i j, i < k → j < sizeN k t.size → mv k U (fun c => bt (nth (leastT k (k + r) ps) c) j) i = pc t (sizeN k t.size) i j := fun i j hi hj => by
    have e1 : mv k U (fun c => bt (nth (leastT k (k + r) ps) c) j) i = mv k U (mv k (rowAt' k (leastI k (k + r) ps)) (fun l => pc t (sizeN k t.size) l j)) i :=
      mv_congr (fun _ _ _ _ => rfl) (fun c hc => by rw [hrow c hc, strOf_bt _ _ _ hj]; rfl) i hi
    rw [e1, ← mv_mm, ← mv_un k (fun l => pc t (sizeN k t.size) l j) i hi]
    exact mv_congr hI.2 (fun _ _ => rfl) i hi
  refine ⟨hE, ?_, fun i hi => ?_⟩
  · unfold gathS
    rw [if_pos hE]
    show joinS t.size (firstL k r (leastI k (k + r) ps) (leastT k (k + r) ps)) = t
    have hfl := firstL_facts k r (sizeN k t.size) _ _ h1 h2 f3 f4 f5
    refine join_split k t _ h1 hfl.1 (fun i hi => ?_)
    rw [hfl.2.1 i hi, first_is k r (sizeN k t.size) _ _ h1 h2 f3 f4 f5 U hI hU i hi, split_nth k t i hi]
    exact strOf_congr _ _ _ (fun j hj => hfirst i j hi hj)
  · have hA : agaE k r i ps = 0 := by
      unfold agaE
      rw [if_pos ⟨hsp, by omega, by omega⟩]
      exact hle
    refine ⟨hA, ?_⟩
    unfold agaS
    rw [if_pos hA]
    show nth (sumsL (byL k r (leastI k (k + r) ps) [(i : Int)]) (leastT k (k + r) ps)) 0 = _
    rw [by_is k r _ [(i : Int)] h1 h2 f3 U hU (by simp) (by simp) (fun x hx => by simp at hx; subst hx; omega)]
    unfold sumsL
    rw [← nth_get _ 0 (by rw [List.length_map, matL_length]; simp), List.getElem_map, nth_get _ 0 (by rw [matL_length]; simp), nth_matL _ _ _ _ (by simp),
      sumS_is k (sizeN k t.size) _ _ h1 f4 f5, spread_is k r t h1 h2 i hi]
    refine strOf_congr _ _ _ (fun j hj => ?_)
    have e1 : sm k (fun c => gm (mm k (rowAt' k [(i : Int)]) U 0 c) (bt (nth (leastT k (k + r) ps) c) j)) = mv k (mm k (rowAt' k [(i : Int)]) U) (fun c => bt (nth (leastT k (k + r) ps) c) j) 0 := rfl
    rw [e1, mv_mm]
    unfold pt mv
    refine sm_congr fun l hl => ?_
    have e2 := hfirst l j hl hj
    unfold mv at e2
    rw [e2]
    rfl
end Go.Proofs.Ythifdfbdekkmgaa

/- The law's known case. -/
namespace Go.Proofs.Ythifdfbdekkmgaa
open Go.RowKit Gf
set_option linter.unusedVariables false
set_option maxHeartbeats 1000000 in
set_option maxRecDepth 100000 in
theorem pSpread_bad (k r : Int) (t : ByteArray) (w : World) (h0 : -9223372036854775808 ≤ k) (h1 : k ≤ 9223372036854775807) (h2 : -9223372036854775808 ≤ r) (h3 : r ≤ 9223372036854775807) (h : spB k r = false) :
    Calls Seq.prog 10 #[.int .i64 k, .int .i64 r, .string t] w fun e w' => e = .returned (.tuple #[.slice none 0 0, .int .i64 2]) ∧ w' = w := by
  have HSP := Lib.hid (spreadable_any k r w h0 h1 h2 h3)
  have HB := Lib.hid h
  clear h
  go_enter Seq.func10, Seq.ntmps10
  go_wp2_with fail
  refine HSP.out.mono ?_
  rw [HB.out]
  rintro e w1 ⟨rfl, rfl⟩
  go_wp2_with fail
  go_ret2
  exact ⟨rfl, rfl⟩
def abc : ByteArray := ⟨#[97, 98, 99]⟩
theorem al_len : (spreadL 2 1 abc).length = 3 := spread_length 2 1 abc (by omega) (by omega)
theorem al0 : nth (spreadL 2 1 abc) 0 = ⟨#[97, 98]⟩ := by
  have h := split_nth 2 abc 0 (by omega)
  unfold spreadL
  rw [nth_append_left _ _ 0 (by rw [splitL_length]; omega), h]
  exact (by kernel_rfl : strOf (sizeN 2 abc.size) (pc abc (sizeN 2 abc.size) 0) = ⟨#[97, 98]⟩)
theorem al1 : nth (spreadL 2 1 abc) 1 = ⟨#[99, 0]⟩ := by
  have h := split_nth 2 abc 1 (by omega)
  unfold spreadL
  rw [nth_append_left _ _ 1 (by rw [splitL_length]; omega), h]
  exact (by kernel_rfl : strOf (sizeN 2 abc.size) (pc abc (sizeN 2 abc.size) 1) = ⟨#[99, 0]⟩)
theorem al_split : (splitL 2 abc).length = 2 ∧ nth (splitL 2 abc) 0 = ⟨#[97, 98]⟩ := by
  refine ⟨splitL_length _ _, ?_⟩
  rw [split_nth 2 abc 0 (by omega)]
  kernel_rfl
/-- Two parts of three, in whatever order. -/
theorem al_of (ps : Pts) (h : ∀ p ∈ ps, 0 ≤ p.1 ∧ p.1 < 3 ∧ p.2 = nth (spreadL 2 1 abc) p.1.toNat) : Of 2 1 abc ps := by
  have hq : ∀ q, q < ps.length → ixP ps q = (ps.getD q (0, ByteArray.empty)).1 ∧ txP ps q = (ps.getD q (0, ByteArray.empty)).2 ∧ ps.getD q (0, ByteArray.empty) ∈ ps := fun q hq => ⟨rfl, rfl, by
    rw [List.getD_eq_getElem?_getD, List.getElem?_eq_getElem hq]
    exact List.getElem_mem hq⟩
  refine ⟨fun q hl => ?_, fun q hl => ?_⟩
  · obtain ⟨e1, e2, e3⟩ := hq q hl
    have := h _ e3
    rw [e1]
    exact ⟨this.1, this.2.1⟩
  · obtain ⟨e1, e2, e3⟩ := hq q hl
    rw [e1, e2]
    exact (h _ e3).2.2
theorem least_zero (ps : Pts) (h : Of 2 1 abc ps) (hp : (pickN (thP ps ps.length) 2 3).length = 2) : leastE 2 (2 + 1) ps = 0 := by
  unfold leastE leastN
  rw [if_pos (h.state (by omega) (by omega) ps.length (Nat.le_refl _)).1, if_neg (by rw [hp]; omega)]
theorem al_gather : gathE 2 1 3 [(1, nth (spreadL 2 1 abc) 1), (2, nth (spreadL 2 1 abc) 2)] = 0 ∧ gathS 2 1 3 [(1, nth (spreadL 2 1 abc) 1), (2, nth (spreadL 2 1 abc) 2)] = abc := by
  have ho : Of 2 1 abc [(1, nth (spreadL 2 1 abc) 1), (2, nth (spreadL 2 1 abc) 2)] := al_of _ (fun p hp => by
    simp at hp
    rcases hp with rfl | rfl
    · exact ⟨by decide, by decide, rfl⟩
    · exact ⟨by decide, by decide, rfl⟩)
  have hb := back_facts 2 1 abc _ (by omega) (by omega) ho (least_zero _ ho (by rfl)) (by simp)
  exact ⟨hb.1, hb.2.1⟩
theorem al_again : agaE 2 1 0 [(2, nth (spreadL 2 1 abc) 2), (1, nth (spreadL 2 1 abc) 1)] = 0 ∧ agaS 2 1 0 [(2, nth (spreadL 2 1 abc) 2), (1, nth (spreadL 2 1 abc) 1)] = ⟨#[97, 98]⟩ := by
  have ho : Of 2 1 abc [(2, nth (spreadL 2 1 abc) 2), (1, nth (spreadL 2 1 abc) 1)] := al_of _ (fun p hp => by
    simp at hp
    rcases hp with rfl | rfl
    · exact ⟨by decide, by decide, rfl⟩
    · exact ⟨by decide, by decide, rfl⟩)
  have hb := (back_facts 2 1 abc _ (by omega) (by omega) ho (least_zero _ ho (by rfl)) (by simp)).2.2 0 (by omega)
  rw [al0] at hb
  exact hb
theorem al_few : gathE 2 1 3 [(1, nth (spreadL 2 1 abc) 1)] = 60 := by
  have ho : Of 2 1 abc [(1, nth (spreadL 2 1 abc) 1)] := al_of _ (fun p hp => by
    simp at hp
    subst hp
    exact ⟨by decide, by decide, rfl⟩)
  have hl : leastE 2 (2 + 1) [(1, nth (spreadL 2 1 abc) 1)] = 60 := by
    unfold leastE leastN
    rw [if_pos (ho.state (by omega) (by omega) _ (Nat.le_refl _)).1]
    show (if (1 : Nat) < 2 then (60 : Int) else 0) = 60
    rfl
  unfold gathE
  rw [if_pos ⟨by decide, by decide⟩]
  show (if leastE 2 (2 + 1) _ = 0 then _ else leastE 2 (2 + 1) _) = (60 : Int)
  rw [hl]
  rfl
theorem al_part : gathE 2 1 3 [(3, ⟨#[97, 98]⟩)] = 61 := by
  have hl : leastE 2 (2 + 1) [(3, ⟨#[97, 98]⟩)] = 61 := leastE_bad (q := 0) rfl (by decide) (by
    unfold okP
    rw [decide_eq_false (by rintro ⟨_, h, _⟩; exact absurd h (by decide))]
    rfl)
  unfold gathE
  rw [if_pos ⟨by decide, by decide⟩]
  show (if leastE 2 (2 + 1) _ = 0 then _ else leastE 2 (2 + 1) _) = (61 : Int)
  rw [hl]
  rfl
/-- Two parts in a block. -/
theorem parts_two (W : World) (b : Nat) (i j : Int) (s t : ByteArray) (h0 : W.cell? ⟨b, 0, none⟩ = some (.int .i64 i)) (h1 : W.cell? ⟨b, 1, none⟩ = some (.string s)) (h2 : W.cell? ⟨b, 2, none⟩ = some (.int .i64 j)) (h3 : W.cell? ⟨b, 3, none⟩ = some (.string t)) : Parts W (some ⟨b, 0, none⟩) [(i, s), (j, t)] := by
  refine .inr ⟨b, 0, rfl, fun q hq => ?_⟩
  match q, hq with
  | 0, _ => exact ⟨h0, h1⟩
  | 1, _ => exact ⟨h2, h3⟩
theorem parts_one (W : World) (b : Nat) (i : Int) (s : ByteArray) (h0 : W.cell? ⟨b, 0, none⟩ = some (.int .i64 i)) (h1 : W.cell? ⟨b, 1, none⟩ = some (.string s)) : Parts W (some ⟨b, 0, none⟩) [(i, s)] := by
  refine .inr ⟨b, 0, rfl, fun q hq => ?_⟩
  match q, hq with
  | 0, _ => exact ⟨h0, h1⟩
theorem cell_made {w W : World} {cs : Array Value} {t : TypeId} (h : W.heap = (w.alloc (.cells cs t)).heap) (j : Nat) : W.cell? ⟨w.heap.size, j, none⟩ = cs[j]? := by
  have e : W.cell? ⟨w.heap.size, j, none⟩ = (w.alloc (.cells cs t)).cell? ⟨w.heap.size, j, none⟩ := by unfold World.cell?; rw [h]
  rw [e, World.cell?_alloc_mark]
theorem parts_new2 (w W : World) (i j : Int) (s t : ByteArray) (h : W.heap = (w.alloc (.cells #[.int .i64 i, .string s, .int .i64 j, .string t] 44)).heap) : Parts W (some ⟨w.heap.size, 0, none⟩) [(i, s), (j, t)] :=
  parts_two _ _ _ _ _ _ (cell_made h 0) (cell_made h 1) (cell_made h 2) (cell_made h 3)
theorem parts_new1 (w W : World) (i : Int) (s : ByteArray) (h : W.heap = (w.alloc (.cells #[.int .i64 i, .string s] 44)).heap) : Parts W (some ⟨w.heap.size, 0, none⟩) [(i, s)] :=
  parts_one _ _ _ _ (cell_made h 0) (cell_made h 1)
theorem tx_le (ps : Pts) (h : ∀ p ∈ ps, p.2.size ≤ 1000000) (q : Nat) : (txP ps q).size ≤ 1000000 := by
  unfold txP
  rw [List.getD_eq_getElem?_getD]
  by_cases hq : q < ps.length
  · rw [List.getElem?_eq_getElem hq]
    exact h _ (List.getElem_mem hq)
  · rw [List.getElem?_eq_none (by omega)]
    exact Nat.zero_le _
theorem al_size (i : Nat) : (nth (spreadL 2 1 abc) i).size ≤ 1000000 := by
  by_cases h : i < 3
  · rw [spread_is 2 1 abc (by omega) (by omega) i h, strOf_size]
    decide
  · unfold nth
    rw [List.getD_eq_getElem?_getD, List.getElem?_eq_none (by rw [al_len]; omega)]
    exact Nat.zero_le _
set_option maxHeartbeats 4000000 in
set_option maxRecDepth 100000 in
theorem alive_any (w : World) : Calls Seq.prog 7 #[] w fun e w' => e = .returned (.bool true) ∧ Kept w w' := by
  have HS := Lib.hid (pSpread_ok 2 1 abc w (by omega) (by omega) (by decide))
  obtain ⟨L0, hL0⟩ : ∃ x, nth (spreadL 2 1 abc) 0 = x := ⟨_, rfl⟩
  obtain ⟨L1, hL1⟩ : ∃ x, nth (spreadL 2 1 abc) 1 = x := ⟨_, rfl⟩
  obtain ⟨L2, hL2⟩ : ∃ x, nth (spreadL 2 1 abc) 2 = x := ⟨_, rfl⟩
  obtain ⟨SS, hSS⟩ : ∃ x, x = abc := ⟨_, rfl⟩
  obtain ⟨TT, hTT⟩ : ∃ x, x = (⟨#[97, 98]⟩ : ByteArray) := ⟨_, rfl⟩
  have z1 : L1.size ≤ 1000000 := hL1 ▸ al_size 1
  have z2 : L2.size ≤ 1000000 := hL2 ▸ al_size 2
  have HG : Hid (∀ W b, Parts W (some ⟨b, 0, none⟩) [(1, L1), (2, L2)] → Calls Seq.prog 16 #[.int .i64 2, .int .i64 1, .int .i64 3, .slice (some ⟨b, 0, none⟩) 2 2] W fun e w' => e = .returned (.tuple #[.string SS, .int .i64 0]) ∧ Kept W w') := fun W b hP => by
    have h := pGather_any 2 1 3 (some ⟨b, 0, none⟩) 2 [(1, L1), (2, L2)] W (by decide) (by decide) (by decide) (by decide) (by decide) (by decide) hP (by simp) (tx_le _ (fun p hp => by simp at hp; rcases hp with rfl | rfl <;> assumption))
    have e := al_gather
    rw [hL1, hL2] at e
    rw [e.1, e.2, ← hSS] at h
    exact h
  have HA : Hid (∀ W b, Parts W (some ⟨b, 0, none⟩) [(2, L2), (1, L1)] → Calls Seq.prog 18 #[.int .i64 2, .int .i64 1, .int .i64 0, .slice (some ⟨b, 0, none⟩) 2 2] W fun e w' => e = .returned (.tuple #[.string TT, .int .i64 0]) ∧ Kept W w') := fun W b hP => by
    have h := pAgain_any 2 1 0 (some ⟨b, 0, none⟩) 2 [(2, L2), (1, L1)] W (by decide) (by decide) (by decide) (by decide) (by decide) (by decide) hP (by simp) (tx_le _ (fun p hp => by simp at hp; rcases hp with rfl | rfl <;> assumption))
    have e := al_again
    rw [hL1, hL2] at e
    rw [e.1, e.2, ← hTT] at h
    exact h
  have HF : Hid (∀ W b, Parts W (some ⟨b, 0, none⟩) [(1, L1)] → Calls Seq.prog 16 #[.int .i64 2, .int .i64 1, .int .i64 3, .slice (some ⟨b, 0, none⟩) 1 1] W fun e w' => ∃ s, e = .returned (.tuple #[.string s, .int .i64 60]) ∧ Kept W w') := fun W b hP => by
    have h := pGather_any 2 1 3 (some ⟨b, 0, none⟩) 1 [(1, L1)] W (by decide) (by decide) (by decide) (by decide) (by decide) (by decide) hP (by simp) (tx_le _ (fun p hp => by simp at hp; subst hp; assumption))
    have e := al_few
    rw [hL1] at e
    rw [e] at h
    exact h.mono fun e w' hh => ⟨_, hh⟩
  have HP : Hid (∀ W b, Parts W (some ⟨b, 0, none⟩) [(3, ⟨#[97, 98]⟩)] → Calls Seq.prog 16 #[.int .i64 2, .int .i64 1, .int .i64 3, .slice (some ⟨b, 0, none⟩) 1 1] W fun e w' => ∃ s, e = .returned (.tuple #[.string s, .int .i64 61]) ∧ Kept W w') := fun W b hP => by
    have h := pGather_any 2 1 3 (some ⟨b, 0, none⟩) 1 [(3, ⟨#[97, 98]⟩)] W (by decide) (by decide) (by decide) (by decide) (by decide) (by decide) hP (by simp) (tx_le _ (fun p hp => by simp at hp; subst hp; decide))
    rw [al_part] at h
    exact h.mono fun e w' hh => ⟨_, hh⟩
  have HSPL := Lib.hid (fun W => pSplit_ok 2 abc W (by omega) (by omega) (by decide))
  have HBAD := Lib.hid (fun W => pSpread_bad 0 1 ⟨#[]⟩ W (by decide) (by decide) (by decide) (by decide) (by decide))
  have HSIZ : Hid (∀ W, Calls Seq.prog 12 #[.int .i64 2, .int .i64 3] W fun e w' => e = .returned (.int .i64 2) ∧ Kept W w') := fun W => pSize_any 2 3 W (by decide) (by decide) (by decide) (by decide)
  have e0 := hL0.symm.trans al0
  have e1 := hL1.symm.trans al1
  have HB0 : Hid (L0.toList = [97, 98]) := Lib.hid (by rw [e0, ByteArray.toList_eq])
  have HB1 : Hid (L1.toList = [99, 0]) := Lib.hid (by rw [e1, ByteArray.toList_eq])
  have HB2 : Hid (SS.toList = [97, 98, 99]) := Lib.hid (by rw [hSS, ByteArray.toList_eq]; rfl)
  have HB3 : Hid (TT.toList = [97, 98]) := Lib.hid (by rw [hTT, ByteArray.toList_eq])
  clear z1 z2 e0 e1 hSS hTT
  go_enter Seq.func7, Seq.ntmps7
  go_wp2_with fail
  refine HS.out.mono ?_
  rintro e w1 ⟨a1, c1, rfl, hs1, hk1⟩
  rw [al_len]
  obtain ⟨b1, o1, hc1⟩ := strs_at hs1
  rw [al_len] at hc1
  obtain ⟨ha1, hd1⟩ := hc1 (by omega)
  subst ha1
  have HCC : Hid (∀ W, Kept w1 W → W.cell? ⟨b1, o1, none⟩ = some (.string L0) ∧ W.cell? ⟨b1, o1 + 1, none⟩ = some (.string L1) ∧ W.cell? ⟨b1, o1 + 2, none⟩ = some (.string L2)) := fun W hW => by
    have k0 := hd1 0 (by omega)
    have k1 := hd1 1 (by omega)
    have k2 := hd1 2 (by omega)
    rw [hL0, Nat.add_zero] at k0
    rw [hL1] at k1
    rw [hL2] at k2
    exact ⟨cellk k0 hW, cellk k1 hW, cellk k2 hW⟩
  have HK1 := Lib.hid hk1
  clear hs1 hc1 hd1 hk1 hL0 hL1 hL2 HS
  go_upto_region 4 with fail
  go_cut [3, 4] (fun v3 v4 wx => v3 = .string SS ∧ v4 = .int .i64 0 ∧ Hid (Kept w1 wx))
  case first =>
    obtain ⟨q0, q1, q2⟩ := HCC.out w1 (Kept.refl _)
    go_region_held3 (fun W => W.cell? ⟨b1, o1, none⟩ = some (.string L0) ∧ W.cell? ⟨b1, o1 + 1, none⟩ = some (.string L1) ∧ W.cell? ⟨b1, o1 + 2, none⟩ = some (.string L2))
      (first | exact ⟨q0, q1, q2⟩ | exact HCC.out _ ((Kept.refl _).drewN _) | exact HCC.out _ (((Kept.refl _).drewN _).alloc _) | exact HCC.out _ ((((Kept.refl _).drewN _).alloc _).trans hg))
      (first | (go_at_call 16; refine (HG.out _ _ (parts_new2 w1 _ 1 2 L1 L2 (by rfl))).mono ?_; rintro e w' ⟨rfl, hg⟩))
    all_goals go_wp2_with fail
    all_goals go_meet
    all_goals exact ⟨rfl, rfl, (((Kept.refl _).alloc _).drew).trans hg⟩
  case rest =>
    obtain ⟨rfl, rfl, HK2⟩ := hcut
    obtain ⟨w2, h2⟩ : ∃ X : World, wc = X := ⟨_, rfl⟩
    rw [h2] at HK2 ⊢
    clear h2 HG
    go_upto_region 5 with fail
    go_cut [5, 6] (fun v5 v6 wx => v5 = .string TT ∧ v6 = .int .i64 0 ∧ Hid (Kept w1 wx))
    case first =>
      obtain ⟨q0, q1, q2⟩ := HCC.out w2 HK2.out
      have HCC2 : Hid (∀ W, Kept w2 W → W.cell? ⟨b1, o1, none⟩ = some (.string L0) ∧ W.cell? ⟨b1, o1 + 1, none⟩ = some (.string L1) ∧ W.cell? ⟨b1, o1 + 2, none⟩ = some (.string L2)) := fun W hW => HCC.out W (HK2.out.trans hW)
      go_region_held3 (fun W => W.cell? ⟨b1, o1, none⟩ = some (.string L0) ∧ W.cell? ⟨b1, o1 + 1, none⟩ = some (.string L1) ∧ W.cell? ⟨b1, o1 + 2, none⟩ = some (.string L2))
        (first | exact ⟨q0, q1, q2⟩ | exact HCC2.out _ ((Kept.refl _).drewN _) | exact HCC2.out _ (((Kept.refl _).drewN _).alloc _) | exact HCC2.out _ ((((Kept.refl _).drewN _).alloc _).trans hg))
        (first | (go_at_call 18; refine (HA.out _ _ (parts_new2 w2 _ 2 1 L2 L1 (by rfl))).mono ?_; rintro e w' ⟨rfl, hg⟩))
      all_goals go_wp2_with fail
      all_goals go_meet
      all_goals exact ⟨rfl, rfl, HK2.out.trans ((((Kept.refl _).alloc _).drew).trans hg)⟩
    case rest =>
      obtain ⟨rfl, rfl, HK3⟩ := hcut
      obtain ⟨w3, h3⟩ : ∃ X : World, wc = X := ⟨_, rfl⟩
      rw [h3] at HK3 ⊢
      clear h3 HK2 HA
      obtain ⟨q0, q1, q2⟩ := HCC.out w3 HK3.out
      go_wp2_with fail
      refine (HF.out _ _ (parts_new1 w3 _ 1 L1 (by rfl))).mono ?_
      rintro e w4 ⟨s4, rfl, hk4⟩
      have HK4 : Hid (Kept w1 w4) := HK3.out.trans (((Kept.refl _).alloc _).trans hk4)
      clear hk4 HF HK3 q0 q1 q2
      go_wp2_with fail
      refine (HP.out _ _ (parts_new1 w4 _ 3 ⟨#[97, 98]⟩ (by rfl))).mono ?_
      rintro e w5 ⟨s5, rfl, hk5⟩
      have HK5 : Hid (Kept w1 w5) := HK4.out.trans (((Kept.refl _).alloc _).trans hk5)
      clear hk5 HP HK4
      go_wp2_with fail
      refine (HSPL.out _).mono ?_
      rintro e w6 ⟨a6, c6, rfl, hs6, hk6⟩
      rw [al_split.1]
      obtain ⟨b6, o6, hc6⟩ := strs_at hs6
      rw [al_split.1] at hc6
      obtain ⟨ha6, hd6⟩ := hc6 (by omega)
      subst ha6
      have HC6 := Lib.hid (hd6 0 (by omega))
      have HK6 : Hid (Kept w1 w6) := HK5.out.trans hk6
      clear hs6 hc6 hd6 hk6 HSPL HK5
      go_wp2_with fail
      refine (HBAD.out _).mono ?_
      rintro e w7 ⟨rfl, rfl⟩
      obtain ⟨q0, q1, q2⟩ := HCC.out w7 HK6.out
      have q6 := HC6.out
      rw [al_split.2, Nat.add_zero] at q6
      obtain ⟨M0, hM0⟩ : ∃ M0, M0 = (⟨#[97, 98]⟩ : ByteArray) := ⟨_, rfl⟩
      rw [← hM0] at q6
      have hm0 : M0.toList = [97, 98] := by rw [hM0, ByteArray.toList_eq]
      have hb0 := HB0.out
      have hb1 := HB1.out
      have hb2 := HB2.out
      have hb3 := HB3.out
      clear hM0 HBAD HC6
      go_wp2_with fail
      refine (HSIZ.out _).mono ?_
      rintro e w8 ⟨rfl, hk8⟩
      have HK8 : Hid (Kept w w8) := (HK1.out.trans HK6.out).trans hk8
      clear hk8
      go_wp2_with fail
      go_ret
      exact ⟨rfl, HK8.out⟩
end Go.Proofs.Ythifdfbdekkmgaa

/- The document's answers: Size, can. -/
namespace Go.Proofs.Ythifdfbdekkmgaa
open Go.RowKit Gf
set_option linter.unusedVariables false
theorem wrap_quo (K T : Nat) (h : T ≤ 9223372036854775807) : wrap64 ((T : Int) / (K : Int)) = ((T / K : Nat) : Int) := by
  have h2 := Nat.div_le_self T K
  rw [show (T : Int) / (K : Int) = ((T / K : Nat) : Int) by simp]
  generalize T / K = q at *
  exact IntWalk.wrap64_in _ ⟨by omega, by omega⟩
set_option maxHeartbeats 1000000 in
set_option maxRecDepth 100000 in
theorem refSize_any (k t : Int) (w : World) (h0 : -9223372036854775808 ≤ k) (h1 : k ≤ 9223372036854775807) (h2 : -9223372036854775808 ≤ t) (h3 : t ≤ 9223372036854775807) :
    Calls Seq.prog 13 #[.int .i64 k, .int .i64 t] w fun e w' => e = .returned (.int .i64 (sizeI k t : Nat)) ∧ w' = w := by
  by_cases hk1 : k < 1
  · have HS : Hid (sizeI k t = 0) := Lib.hid (if_neg (fun c => by have := of_decide_eq_true c.1; omega))
    have hb1 : decide (k < 1) = true := decide_eq_true hk1
    go_enter Seq.func13, Seq.ntmps13
    go_wp2_with fail
    go_ret
    exact ⟨by rw [HS.out]; rfl, rfl⟩
  have hb1 : decide (k < 1) = false := decide_eq_false hk1
  by_cases hk2 : 32 < k
  · have HS : Hid (sizeI k t = 0) := Lib.hid (if_neg (fun c => by have := of_decide_eq_true c.1; omega))
    have hb2 : decide (32 < k) = true := decide_eq_true hk2
    clear hk1 hk2
    go_enter Seq.func13, Seq.ntmps13
    go_wp2_with fail
    go_ret
    exact ⟨by rw [HS.out]; rfl, rfl⟩
  have hb2 : decide (32 < k) = false := decide_eq_false hk2
  by_cases ht : t < 0
  · have HS : Hid (sizeI k t = 0) := Lib.hid (if_neg (fun c => by omega))
    have hb3 : decide (t < 0) = true := decide_eq_true ht
    clear hk1 hk2 ht
    go_enter Seq.func13, Seq.ntmps13
    go_wp2_with fail
    go_ret
    exact ⟨by rw [HS.out]; rfl, rfl⟩
  have hb3 : decide (t < 0) = false := decide_eq_false ht
  obtain ⟨K, rfl⟩ : ∃ K : Nat, k = K := ⟨k.toNat, by omega⟩
  obtain ⟨T, rfl⟩ : ∃ T : Nat, t = T := ⟨t.toNat, by omega⟩
  have HS : Hid (sizeI (K : Int) (T : Int) = sizeN K T) := Lib.hid (if_pos ⟨decide_eq_true (by omega), by omega⟩)
  have hK1 : 1 ≤ K := by omega
  have hle := sizeN_le K T hK1
  have h2' := Nat.div_le_self T K
  have HN : Hid (sizeN K T = T / K + (if T % K = 0 then 0 else 1)) := Lib.hid rfl
  have hw := wrap_quo K T (by omega)
  by_cases hm : T % K = 0
  · have hb4 : decide ((0 : Int) < (T : Int) % (K : Int)) = false := decide_eq_false (by omega)
    have HN2 : Hid (sizeN K T = T / K) := Lib.hid (by rw [HN.out, if_pos hm]; rfl)
    have HW := Lib.hid hw
    clear hk1 hk2 ht HN hm hw
    go_enter Seq.func13, Seq.ntmps13
    go_wp2_with fail
    go_ret
    refine ⟨?_, rfl⟩
    rw [HS.out, HN2.out, ← HW.out]
    rfl
  · have hb4 : decide ((0 : Int) < (T : Int) % (K : Int)) = true := decide_eq_true (by omega)
    have HN2 : Hid (sizeN K T = T / K + 1) := Lib.hid (by rw [HN.out, if_neg hm])
    have HW : Hid (wrap64 (wrap64 ((T : Int) / (K : Int)) + 1) = ((T / K + 1 : Nat) : Int)) := Lib.hid (by
      have hs := sizeN_le K T hK1
      rw [HN2.out] at hs
      rw [hw]
      generalize T / K = q at *
      exact IntWalk.wrap64_in _ ⟨by omega, by omega⟩)
    clear hk1 hk2 ht HN hm hw
    go_enter Seq.func13, Seq.ntmps13
    go_wp2_with fail
    go_ret
    refine ⟨?_, rfl⟩
    rw [HS.out, HN2.out, ← HW.out]
    rfl
set_option maxHeartbeats 1000000 in
set_option maxRecDepth 100000 in
theorem refCan_any (k r : Int) (w : World) (h0 : -9223372036854775808 ≤ k) (h1 : k ≤ 9223372036854775807) (h2 : -9223372036854775808 ≤ r) (h3 : r ≤ 9223372036854775807) :
    Calls Seq.prog 24 #[.int .i64 k, .int .i64 r] w fun e w' => e = .returned (.bool (spB k r)) ∧ w' = w := by
  have HS : Hid (spB k r = decide (1 ≤ k ∧ k ≤ 32 ∧ 0 ≤ r ∧ r ≤ 32 - k)) := Lib.hid rfl
  by_cases c1 : 1 ≤ k
  · have b1 : decide (1 ≤ k) = true := decide_eq_true c1
    by_cases c2 : 0 ≤ r
    · have b2 : decide (0 ≤ r) = true := decide_eq_true c2
      by_cases c3 : k ≤ 32
      · have b3 : decide (k ≤ 32) = true := decide_eq_true c3
        have HX : Hid (spB k r = decide (r ≤ 32 - k)) := Lib.hid (by
          rw [HS.out]
          by_cases h : r ≤ 32 - k
          · rw [decide_eq_true h, decide_eq_true ⟨c1, c3, c2, h⟩]
          · rw [decide_eq_false h, decide_eq_false (fun x => h x.2.2.2)])
        have hw : wrap64 (32 - k) = 32 - k := IntWalk.wrap64_in _ ⟨by omega, by omega⟩
        go_enter Seq.func24, Seq.ntmps24
        go_wp2_with fail
        go_ret
        refine ⟨?_, rfl⟩
        rw [HX.out]
        rfl
      · have b3 : decide (k ≤ 32) = false := decide_eq_false c3
        have HX : Hid (spB k r = false) := Lib.hid (by rw [HS.out, decide_eq_false (fun x => c3 x.2.1)])
        clear c3
        go_enter Seq.func24, Seq.ntmps24
        go_wp2_with fail
        go_ret
        exact ⟨by rw [HX.out]; rfl, rfl⟩
    · have b2 : decide (0 ≤ r) = false := decide_eq_false c2
      have HX : Hid (spB k r = false) := Lib.hid (by rw [HS.out, decide_eq_false (fun x => c2 x.2.2.1)])
      clear c2
      go_enter Seq.func24, Seq.ntmps24
      go_wp2_with fail
      go_ret
      exact ⟨by rw [HX.out]; rfl, rfl⟩
  · have b1 : decide (1 ≤ k) = false := decide_eq_false c1
    have HX : Hid (spB k r = false) := Lib.hid (by rw [HS.out, decide_eq_false (fun x => c1 x.1)])
    clear c1
    go_enter Seq.func24, Seq.ntmps24
    go_wp2_with fail
    go_ret
    exact ⟨by rw [HX.out]; rfl, rfl⟩
end Go.Proofs.Ythifdfbdekkmgaa

/- The document's answers: Split. -/
namespace Go.Proofs.Ythifdfbdekkmgaa
open Go.RowKit Gf
set_option linter.unusedVariables false
theorem padded_piece (t : ByteArray) (k sz i : Nat) (hc : t.size ≤ k * sz) (hi : i < k) : (t ++ strOf (k * sz - t.size) fun _ => 0).extract (i * sz) ((i + 1) * sz) = strOf sz (pc t sz i) := by
  have h1 : (i + 1) * sz ≤ k * sz := Nat.mul_le_mul_right _ (by omega)
  have h2 : (i + 1) * sz = i * sz + sz := Nat.succ_mul i sz
  have hsz : (t ++ strOf (k * sz - t.size) fun _ => 0).size = k * sz := by
    rw [ByteArray.size_append, strOf_size]; omega
  refine str_ext' _ _ (by rw [strOf_size, ByteArray.size_extract, hsz]; omega) (fun j hj => ?_)
  rw [ByteArray.size_extract, hsz] at hj
  have hj' : j < sz := by omega
  rw [strOf_bt _ _ _ hj']
  unfold pc bt
  have hd : ((t ++ strOf (k * sz - t.size) fun _ => 0).extract (i * sz) ((i + 1) * sz)).data.toList[j]! = ((t.data.toList ++ List.replicate (k * sz - t.size) 0)[i * sz + j]?).getD 0 := by
    rw [List.getElem!_eq_getElem?_getD]
    congr 1
    simp only [ByteArray.data_extract, Array.toList_extract, ByteArray.data_append, Array.toList_append]
    rw [List.extract_eq_take_drop, List.getElem?_take_of_lt (by omega), List.getElem?_drop]
    congr 2
    unfold strOf
    simp
    rw [List.map_const', List.length_range]
  rw [hd, List.getElem!_eq_getElem?_getD]
  by_cases h : i * sz + j < t.size
  · rw [List.getElem?_append_left h]
    rfl
  · have hl : t.data.toList.length = t.size := rfl
    rw [List.getElem?_append_right (by rw [hl]; omega), List.getElem?_eq_none (l := t.data.toList) (by rw [hl]; omega), List.getElem?_replicate]
    split <;> rfl
set_option maxHeartbeats 2000000 in
set_option maxRecDepth 100000 in
theorem refSplit_ok (k : Nat) (t : ByteArray) (w : World) (hk1 : 1 ≤ k) (hk2 : k ≤ 32) (ht : t.size ≤ 1000000) :
    Calls Seq.prog 9 #[.int .i64 k, .string t] w fun e w' => GotM (splitL k t) 0 w e w' := by
  have hsp : spB (k : Int) 0 = true := decide_eq_true ⟨by omega, by omega, by omega, by omega⟩
  have hsz : sizeI (k : Int) (t.size : Nat) = sizeN k t.size := if_pos ⟨hsp, by omega⟩
  have hle := sizeN_le k t.size hk1
  have hcov := size_cover k t.size hk1
  have HPP := Lib.hid (fun i hi => padded_piece t k (sizeN k t.size) i hcov hi)
  unfold splitL
  obtain ⟨sz, hszn⟩ : ∃ sz, sizeN k t.size = sz := ⟨_, rfl⟩
  rw [hszn] at hle hsz hcov HPP ⊢
  have HSZ := Lib.hid (fun W => refSize_any (k : Int) (t.size : Nat) W (by omega) (by omega) (by omega) (by omega))
  rw [hsz] at HSZ
  have hkm : k * sz ≤ 32 * 1000000 := Nat.mul_le_mul hk2 (by omega)
  have hw : wrap64 ((k : Int) * (sz : Int)) = ((k * sz : Nat) : Int) := by
    rw [show (k : Int) * (sz : Int) = ((k * sz : Nat) : Int) from (Int.natCast_mul k sz).symm]
    exact IntWalk.wrap64_in _ ⟨by omega, by omega⟩
  obtain ⟨M, hM⟩ : ∃ M, k * sz = M := ⟨_, rfl⟩
  rw [hM] at hw hcov hkm HPP
  obtain ⟨D, hD⟩ : ∃ D, M - t.size = D := ⟨_, rfl⟩
  have hsub : (M : Int) - (t.size : Nat) = (D : Int) := by omega
  rw [hD] at HPP
  have hDle : D ≤ 32 * 1000000 := by omega
  have hk1i : decide ((k : Int) < 1) = false := decide_eq_false (by omega)
  have hk2i : decide ((32 : Int) < (k : Int)) = false := decide_eq_false (by omega)
  have HMM := Lib.hid hM
  have HCV := Lib.hid hcov
  clear hszn hsz hsp hM hD hcov
  go_enter Seq.func9, Seq.ntmps9
  go_wp2_with fail
  refine (HSZ.out _).mono ?_
  rintro e w1 ⟨rfl, rfl⟩
  have hmk := fun W => run_make_row' (P := Seq.prog) 41 5 (.int .u8 0) 1 Seq.underlying41 info_byte rfl .i64 .i64 D (by omega) (by omega) W
  rw [made_zero] at hmk
  have HB := Lib.hid (Byt.made w1 D)
  have HK0 : Hid (Kept w1 (w1.alloc (.cells (row D fun _ => .int .u8 0) 5))) := (Kept.refl _).alloc _
  generalize (row D fun _ => Value.int .u8 0) = R at *
  have hcv := byt_string w1.heap.size D D _ _ HB.out
  have HS : Hid (∀ i, i < k → (t ++ strOf D fun _ => 0).extract (i * sz) ((i + 1) * sz) = strOf sz (pc t sz i)) := HPP.out
  have HSS : Hid ((t ++ strOf D fun _ => 0).size = M) := Lib.hid (by rw [ByteArray.size_append, strOf_size]; omega)
  have hadd : t.size + (strOf D fun _ => 0).size ≤ 9223372036854775807 := by rw [strOf_size]; omega
  obtain ⟨z, hz⟩ : ∃ z, (strOf D fun _ => 0) = z := ⟨_, rfl⟩
  rw [hz] at hcv HS HSS hadd
  clear HPP hz
  go_wp2_with fail
  generalize w1.alloc (.cells R 5) = w2 at *
  generalize t ++ z = S at *
  rw [hw]
  clear hw hmk hcv hsub
  go_loopw [8, 9] (fun v i wr => ∃ j : Nat, j ≤ k ∧ i = .int .i64 j ∧ Hid (Gat w2.heap.size v (matL j sz (pc t sz)) wr ∧ Kept w2 wr)) (fun _ i _ => k - (intOf i).toNat)
  case atStart => exact ⟨0, Nat.zero_le _, rfl, Gat.nil _ _, Kept.refl _⟩
  case round =>
    obtain ⟨j, hj, rfl, HI⟩ := hrel
    by_cases hlt : j < k
    · have hj1 : (j + 1) * sz ≤ k * sz := Nat.mul_le_mul_right _ (by omega)
      have hj2 : (j + 1) * sz = j * sz + sz := Nat.succ_mul j sz
      rw [HMM.out] at hj1
      have hw1 : wrap64 ((j : Int) * (sz : Int)) = ((j * sz : Nat) : Int) := by
        rw [show (j : Int) * (sz : Int) = ((j * sz : Nat) : Int) from (Int.natCast_mul j sz).symm]
        exact IntWalk.wrap64_in _ ⟨by omega, by omega⟩
      have hw2 : wrap64 (((j : Int) + 1) * (sz : Int)) = (((j + 1) * sz : Nat) : Int) := by
        rw [show ((j : Int) + 1) * (sz : Int) = (((j + 1) * sz : Nat) : Int) from by rw [Int.natCast_mul]; rfl]
        exact IntWalk.wrap64_in _ ⟨by omega, by omega⟩
      have HP := Lib.hid (HS.out j hlt)
      have HML := Lib.hid (matL_snoc j sz (pc t sz))
      obtain ⟨lo, hlo⟩ : ∃ lo, j * sz = lo := ⟨_, rfl⟩
      obtain ⟨hi, hhi⟩ : ∃ hi, (j + 1) * sz = hi := ⟨_, rfl⟩
      rw [hlo] at hw1 HP hj2
      rw [hhi] at hw2 HP hj1 hj2
      have hlh : lo ≤ hi := by clear hadd hw1 hw2; omega
      have hsl : ∀ W, (Instr.slice 9 (.string S) (some (.int .i64 (lo : Int))) (some (.int .i64 (hi : Int))) none).run Seq.prog W = .ok (.string (strOf sz (pc t sz j))) W := fun W => by
        have h := run_slice_string (P := Seq.prog) W 9 S .i64 .i64 (lo : Int) (hi : Int) Seq.underlying9 (Int.natCast_nonneg lo) (Int.ofNat_le.2 hlh) (by rw [HSS.out]; exact Int.ofNat_le.2 hj1)
        rw [Int.toNat_natCast, Int.toNat_natCast, HP.out] at h
        exact h
      have HLN : Hid ((matL j sz (pc t sz)).length ≤ 1000000000) := Lib.hid (by rw [matL_length]; omega)
      clear hlo hhi hj2
      generalize strOf sz (pc t sz j) = p at *
      go_wp2_with (first | (at_builtin; go_must (refine wpList_gat _ rfl (.tmp 35) (.tmp 45) 23 rfl Seq.underlying23 w2 _ (matL j sz (pc t sz)) rfl (HI.out.1.kept ((Kept.refl _).alloc _)) (HI.out.2.alloc _) p wr.heap.size rfl (by rw [World.cell?_alloc_mark]; rfl) HLN.out ?_); intro v9 w9 hG9 hK9))
      exact ⟨⟨j + 1, by omega, by go_num, by rw [HML.out]; exact ⟨hG9, hK9⟩⟩, by simp [intOf]; omega⟩
    · obtain rfl : j = k := by omega
      go_wp2_with fail
      go_ret2
      exact HI.out.1.gotM (HK0.out.trans HI.out.2) 0
end Go.Proofs.Ythifdfbdekkmgaa

/- The document's answers: all rows. -/
namespace Go.Proofs.Ythifdfbdekkmgaa
open Go.RowKit Gf
set_option linter.unusedVariables false
set_option maxHeartbeats 1000000 in
set_option maxRecDepth 100000 in
theorem refSplit_bad (k : Int) (t : ByteArray) (w : World) (h : k < 1 ∨ 32 < k) :
    Calls Seq.prog 9 #[.int .i64 k, .string t] w fun e w' => GotM [] 2 w e w' := by
  by_cases h1 : k < 1
  · have hb1 : decide (k < 1) = true := decide_eq_true h1
    clear h
    go_enter Seq.func9, Seq.ntmps9
    go_wp2_with fail
    go_ret2
    exact GotM.nil 2 (Kept.refl _)
  · have hb1 : decide (k < 1) = false := decide_eq_false h1
    have hb2 : decide (32 < k) = true := decide_eq_true (by omega)
    clear h h1
    go_enter Seq.func9, Seq.ntmps9
    go_wp2_with fail
    go_ret2
    exact GotM.nil 2 (Kept.refl _)
set_option maxHeartbeats 1000000 in
set_option maxRecDepth 100000 in
theorem refAll_any (k r : Nat) (w : World) (hk1 : 1 ≤ k) (hkr : k + r ≤ 32) :
    Calls Seq.prog 25 #[.int .i64 k, .int .i64 r] w fun e w' => GotL (allL k r) w e w' := by
  by_cases h0 : r = 0
  · subst h0
    rw [show allL (k : Nat) ((0 : Nat) : Int) = unitL k from if_pos (show ((0 : Nat) : Int) = 0 from rfl)]
    go_enter Seq.func25, Seq.ntmps25
    go_wp2_with fail
    refine (refUnit_any k _ (by omega) (by omega)).mono ?_
    rintro e w1 ⟨a1, cap1, rfl, hs1, hk⟩
    have HS := Lib.hid hs1
    have HK := Lib.hid hk
    clear hs1 hk
    go_wp2_with fail
    go_ret
    exact ⟨_, _, rfl, HS.out, HK.out⟩
  · have hb : decide ((0 : Int) < (r : Int)) = true := decide_eq_true (by omega)
    have hA : allL (k : Nat) (r : Nat) = unitL k ++ cauL r k := by
      rw [show allL (k : Nat) (r : Nat) = belL (unitL k) (cauL r k) from if_neg (by omega), (bel_is k r hk1 hkr (by omega)).2, unitL_is k hk1 (by omega), cauL_is k r hk1 (by omega) (by omega) (by omega)]
    have HU := Lib.hid (unitL_is k hk1 (by omega))
    have HC := Lib.hid (cauL_is k r hk1 (by omega) (by omega) (by omega))
    have hul : (unitL (k : Int)).length = k := by rw [HU.out, matL_length]
    have hcl : (cauL (r : Int) (k : Int)).length = r := by rw [HC.out, matL_length]
    rw [hA]
    have HHU := Lib.hid hul
    have HHC := Lib.hid hcl
    have HRU := Lib.hid (fun W => refUnit_any (k : Int) W (by omega) (by omega))
    have HRC := Lib.hid (fun W => refCauchy_any (r : Int) (k : Int) W (by omega) (by omega) (by omega) (by omega))
    generalize unitL (k : Int) = U at *
    generalize cauL (r : Int) (k : Int) = C at *
    clear hA HU HC hul hcl
    go_enter Seq.func25, Seq.ntmps25
    go_wp2_with fail
    refine (HRU.out _).mono ?_
    rintro e w1 ⟨a1, c1, rfl, hs1, hk1'⟩
    obtain ⟨b1, o1, hc1⟩ := strs_at hs1
    obtain ⟨ha1, hd1⟩ := hc1 (by have := HHU.out; omega)
    subst ha1
    have HD1 := Lib.hid hd1
    have HK1 := Lib.hid hk1'
    clear hs1 hc1 hd1 hk1'
    go_wp2_with fail
    refine (HRC.out _).mono ?_
    rintro e w2 ⟨a2, c2, rfl, hs2, hk2⟩
    obtain ⟨b2, o2, hc2⟩ := strs_at hs2
    obtain ⟨ha2, hd2⟩ := hc2 (by have := HHC.out; omega)
    subst ha2
    have HC1 : Hid (∀ W, Kept w2 W → ∀ i, i < U.length → W.cell? ⟨b1, o1 + i, none⟩ = some (.string (nth U i))) := fun W hW i hi => cellk (HD1.out i hi) (hk2.trans hW)
    have HC2 : Hid (∀ W, Kept w2 W → ∀ i, i < C.length → W.cell? ⟨b2, o2 + i, none⟩ = some (.string (nth C i))) := fun W hW i hi => cellk (hd2 i hi) hW
    have HK2 : Hid (Kept w w2) := HK1.out.trans hk2
    clear hs2 hc2 hd2 hk2 HD1 HK1 HRU HRC
    go_wp2_with (first | (at_builtin; refine wpList_gats _ rfl (.tmp 18) (.tmp 19) 50 rfl Seq.underlying50 w2 _ [] (by rfl) (Gat.made (Kept.refl _)) ((Kept.refl _).alloc _) U b1 o1 c1 rfl (HC1.out _ ((Kept.refl _).alloc _)) (by show 0 + U.length ≤ _; rw [HHU.out]; omega) ?_; intro v8 w8 hG8 hK8) | (at_builtin; refine wpList_gats _ rfl (.tmp 20) (.tmp 21) 50 rfl Seq.underlying50 w2 _ ([] ++ U) (by rfl) hG8 hK8 C b2 o2 c2 rfl (HC2.out _ hK8) (by show U.length + C.length ≤ _; rw [HHU.out, HHC.out]; omega) ?_; intro v9 w9 hG9 hK9))
    go_ret
    exact hG9.gotL (HK2.out.trans hK9)
end Go.Proofs.Ythifdfbdekkmgaa

/- What the document's own sums of products come to. -/
namespace Go.Proofs.Ythifdfbdekkmgaa
open Go.RowKit Gf
set_option linter.unusedVariables false
/-- The first k texts, each with its byte of c. -/
def tl (c : ByteArray) (ss : List ByteArray) (k : Nat) : List ByteArray := (List.range k).map fun i => timesB (bt c i).toNat (nth ss i)
theorem tl_length (c : ByteArray) (ss : List ByteArray) (k : Nat) : (tl c ss k).length = k := by simp [tl]
theorem tl_snoc (c : ByteArray) (ss : List ByteArray) (k : Nat) : tl c ss (k + 1) = tl c ss k ++ [timesB (bt c k).toNat (nth ss k)] := by simp [tl, List.range_succ]
theorem tl_nth (c : ByteArray) (ss : List ByteArray) (k i : Nat) (h : i < k) : nth (tl c ss k) i = timesB (bt c i).toNat (nth ss i) := by
  unfold nth tl
  rw [List.getD_eq_getElem?_getD, List.getElem?_map, List.getElem?_range h]
  rfl
theorem times_size (c : Nat) (s : ByteArray) : (timesB c s).size = s.size := strOf_size _ _
theorem times_bt (c : Nat) (s : ByteArray) (j : Nat) (h : j < s.size) : bt (timesB c s) j = mb c (bt s j) := strOf_bt _ _ _ h
theorem nth_tl0 (c : ByteArray) (ss : List ByteArray) (k : Nat) (h : k = ss.length) : (nth (tl c ss k) 0).size = (nth ss 0).size := by
  by_cases h0 : 0 < k
  · rw [tl_nth _ _ _ _ h0, times_size]
  · obtain rfl := List.length_eq_zero_iff.1 (show ss.length = 0 by omega)
    subst h
    rfl
theorem even_tl (c : ByteArray) (ss : List ByteArray) : evenB (tl c ss ss.length) = evenB ss := by
  cases h : evenB ss
  · by_cases e : ∀ k, k < ss.length → (nth ss k).size = (nth ss 0).size
    · rw [even_yes ss e] at h; cases h
    · obtain ⟨k, hk⟩ := Classical.not_forall.1 e
      obtain ⟨hk, hne⟩ := Classical.not_imp.1 hk
      refine even_no _ k (by rw [tl_length]; exact hk) ?_
      rw [tl_nth _ _ _ _ hk, times_size, nth_tl0 c ss _ rfl]
      exact hne
  · refine even_yes _ (fun k hk => ?_)
    rw [tl_length] at hk
    rw [tl_nth _ _ _ _ hk, times_size, nth_tl0 c ss _ rfl, even_all ss h k hk]
theorem xr_tl (c : ByteArray) (ss : List ByteArray) (n : Nat) (hev : evenB ss = true) (k j : Nat) (hn : n = ss.length) (hk : k ≤ n) (hj : j < (nth ss 0).size) : xr (tl c ss n) k j = acc c ss k j := by
  induction k with
  | zero => rfl
  | succ k ih =>
    rw [xr, acc, ih (by omega), tl_nth _ _ _ _ (by omega), times_bt _ _ _ (by rw [even_all ss hev k (by omega)]; exact hj)]
theorem plS_tl (c : ByteArray) (ss : List ByteArray) (h : c.size = ss.length) : plS (tl c ss ss.length) = sumS c ss ∧ plE (tl c ss ss.length) = sumE c ss := by
  unfold plS plE sumS sumE sumOk
  rw [even_tl, h]
  cases hev : evenB ss
  · simp
  · simp only [decide_true, Bool.and_self, if_true, and_true]
    rw [tl_length, nth_tl0 c ss _ rfl]
    exact strOf_congr _ _ _ (fun j hj => xr_tl c ss _ hev _ j rfl (Nat.le_refl _) hj)
set_option maxRecDepth 100000 in
theorem refSum_any (c : ByteArray) (a : Option Addr) (cap : Nat) (ss : List ByteArray) (w : World) (hS : Strs w a ss) (hl : ss.length ≤ 100000000) (hz : ∀ s ∈ ss, s.size ≤ 100000000) (hcs : c.size ≤ 100000000) :
    Calls Seq.prog 26 #[.string c, .slice a ss.length cap] w fun e w' => e = .returned (.tuple #[.string (sumS c ss), .int .i64 (sumE c ss)]) ∧ Kept w w' := by
  obtain ⟨b, o, hc⟩ := strs_at hS
  have HC := Lib.hid hc
  have HZ : Hid (∀ i, i < ss.length → (nth ss i).size ≤ 100000000) := fun i hi => hz _ (by rw [← nth_get ss i hi]; exact List.getElem_mem hi)
  clear hc hS hz
  by_cases h1 : c.size = ss.length
  · have h1b : ((c.size : Int) == (ss.length : Int)) = true := by simp [h1]
    go_enter Seq.func26, Seq.ntmps26
    go_wp2_with fail
    go_loopw [6, 7] (fun v i wr => ∃ (k : Nat) (x : Value), k ≤ ss.length ∧ v = x ∧ i = .int .i64 k ∧ Hid (Gat w.heap.size x (tl c ss k) wr ∧ Kept w wr)) (fun _ i _ => ss.length - (intOf i).toNat)
    case atStart => exact ⟨0, _, Nat.zero_le _, rfl, rfl, Gat.nil _ _, Kept.refl _⟩
    case round =>
      obtain ⟨k, x, hk, rfl, rfl, HI⟩ := hrel
      by_cases hlt : k < ss.length
      · obtain ⟨ha, hc⟩ := HC.out (by omega)
        have hck : wr.cell? ⟨b, o + k, none⟩ = some (.string (nth ss k)) := by
          rw [Below.cell HI.out.2 (block_lt_of_cell (hc k hlt)), hc k hlt]
        have hzk := HZ.out k hlt
        have hkc : k < c.size := by omega
        have HGT := Lib.hid (bt_get c k hkc)
        have hsn := tl_snoc c ss k
        rw [← HGT.out] at hsn
        have HSN := Lib.hid hsn
        clear hsn
        have hcb := c[k].toNat_lt
        rw [ha]
        clear hc
        generalize nth ss k = p at *
        go_wp2_with fail
        have HTL : Hid (∀ (k : Nat), (tl c ss k).length = k) := tl_length c ss
        have HMX : Hid ((tl c ss k).length + 1 ≤ maxLen ∧ ((tl c ss k).length + 1) * 16 ≤ 140737488355328) := by
          show _ ∧ _
          rw [HTL.out]
          unfold maxLen
          omega
        obtain ⟨i0, hi, hzz⟩ := Option.map_eq_some_iff.1 info_string
        simp only [Prod.mk.injEq] at hzz
        go_region_law (first
          | (go_simp; go_at_call 44; refine (refTimes_any c[k].toNat p hcb hzk _).mono ?_; rintro e w3 ⟨rfl, k3⟩)
          | (refine step_append_lies _ rfl (.tmp 19) (.tmp 28) 23 rfl w.heap.size 9 i0 (.string ByteArray.empty) 1 16 Seq.underlying23 hi hzz.1 hzz.2.1 hzz.2.2 rfl (by decide) _ (tl c ss k).length ((tl c ss k).map Value.string) (by rfl) (World.ownsRow.alloc (HI.out.1.kept (((Kept.refl _).drewN _).trans k3)) _) ⟨w3.heap.size, 0, none⟩ 1 1 [.string (timesB c[k].toNat p)] (by rfl) rfl (cell_new _ _ _) (one_string _) (by decide) HMX.out.1 HMX.out.2 (Kept.alloc (HI.out.2.trans (((Kept.refl _).drewN _).trans k3)) _).size _ rfl ?_; intro g4 cap4 w4 hown4 hgr4 _ _; have HF := Lib.hid (Gat.snoc (HI.out.1.kept ((((Kept.refl _).drewN _).trans k3).alloc _)) ((HI.out.2.trans (((Kept.refl _).drewN _).trans k3)).alloc _) hown4 hgr4); clear hown4 hgr4))
        all_goals
          rw [← HSN.out] at HF
          clear k3 HI
          go_wp2_with fail
          exact ⟨⟨k + 1, _, by omega, rfl, by go_num, HF⟩, by simp [intOf]; omega⟩
      · obtain rfl : k = ss.length := by omega
        obtain ⟨a2, cap2, hv, hS2⟩ := HI.out.1.strs
        subst hv
        have HS2 := Lib.hid hS2
        have HK2 := Lib.hid HI.out.2
        have HPL := Lib.hid (plS_tl c ss h1)
        have hlen := tl_length c ss ss.length
        have HLN : Hid (∀ s ∈ tl c ss ss.length, s.size ≤ 100000000) := fun s hs => by
          obtain ⟨i, hi, rfl⟩ := List.getElem_of_mem hs
          have hi2 := hi
          rw [tl_length] at hi2
          rw [nth_get _ i hi, tl_nth _ _ _ _ hi2, times_size]
          exact HZ.out i hi2
        have HCL : Hid (∀ W, Strs W a2 (tl c ss ss.length) → Calls Seq.prog 45 #[.slice a2 ss.length cap2] W fun e w' => e = .returned (.tuple #[.string (sumS c ss), .int .i64 (sumE c ss)]) ∧ Kept W w') := fun W hW => by
          have h := refPlus_any a2 cap2 (tl c ss ss.length) W hW (by rw [tl_length]; exact hl) HLN.out
          rw [tl_length, HPL.out.1, HPL.out.2] at h
          exact h
        rw [hlen] at *
        clear HI hS2 HLN HPL
        go_wp2_with fail
        refine (HCL.out _ HS2.out).mono ?_
        rintro e w3 ⟨rfl, k3⟩
        go_wp2_with fail
        go_ret2
        exact ⟨rfl, HK2.out.trans k3⟩
  · have h1b : ((c.size : Int) == (ss.length : Int)) = false := by simp; omega
    have H1 : Hid (⟨#[]⟩ = sumS c ss) := by show _ = _; unfold sumS sumOk; simp [h1]
    have H2 : Hid (2 = sumE c ss) := by show _ = _; unfold sumE sumOk; simp [h1]
    go_enter Seq.func26, Seq.ntmps26
    go_wp2_with fail
    go_ret2
    exact ⟨by rw [← H1.out, ← H2.out]; rfl, Kept.refl _⟩
end Go.Proofs.Ythifdfbdekkmgaa

/- The document's answers: Spread. -/
namespace Go.Proofs.Ythifdfbdekkmgaa
open Go.RowKit Gf
set_option linter.unusedVariables false
theorem take_nth (ss : List ByteArray) (j : Nat) (h : j < ss.length) : ss.take (j + 1) = ss.take j ++ [nth ss j] := by
  rw [List.take_add_one, List.getElem?_eq_getElem h, nth_get ss j h]
  rfl
theorem spread_row (k r : Nat) (t : ByteArray) (h1 : 1 ≤ k) (h2 : k + r ≤ 32) (i : Nat) (hi : i < k + r) : sumS (nth (allL k r) i) (splitL k t) = nth (spreadL k r t) i := by
  rw [all_is k r h1 h2, nth_matL _ _ _ _ hi, sumS_is k (sizeN k t.size) _ (splitL k t) h1 (splitL_length k t) (fun c hc => by rw [split_nth k t c hc, strOf_size]), spread_is k r t h1 h2 i hi]
  refine strOf_congr _ _ _ (fun j hj => sm_congr fun l hl => ?_)
  rw [split_nth k t l hl, strOf_bt _ _ _ hj]
set_option maxHeartbeats 1000000 in
set_option maxRecDepth 100000 in
theorem refSpread_bad (k r : Int) (t : ByteArray) (w : World) (h0 : -9223372036854775808 ≤ k) (h1 : k ≤ 9223372036854775807) (h2 : -9223372036854775808 ≤ r) (h3 : r ≤ 9223372036854775807) (h : spB k r = false) :
    Calls Seq.prog 11 #[.int .i64 k, .int .i64 r, .string t] w fun e w' => GotM [] 2 w e w' := by
  have HSP := Lib.hid (refCan_any k r w h0 h1 h2 h3)
  have HB := Lib.hid h
  clear h
  go_enter Seq.func11, Seq.ntmps11
  go_wp2_with fail
  refine HSP.out.mono ?_
  rw [HB.out]
  rintro e w1 ⟨rfl, rfl⟩
  go_wp2_with fail
  go_ret2
  exact GotM.nil 2 (Kept.refl _)
set_option maxHeartbeats 2000000 in
set_option maxRecDepth 100000 in
theorem refSpread_ok (k r : Nat) (t : ByteArray) (w : World) (hk1 : 1 ≤ k) (hkr : k + r ≤ 32) (ht : t.size ≤ 1000000) :
    Calls Seq.prog 11 #[.int .i64 k, .int .i64 r, .string t] w fun e w' => GotM (spreadL k r t) 0 w e w' := by
  have HCAN := Lib.hid (fun W => refCan_any (k : Int) (r : Int) W (by omega) (by omega) (by omega) (by omega))
  have hsp : spB (k : Int) (r : Int) = true := decide_eq_true ⟨by omega, by omega, by omega, by omega⟩
  rw [hsp] at HCAN
  have HSPL := Lib.hid (fun W => refSplit_ok k t W hk1 (by omega) ht)
  have HALL := Lib.hid (fun W => refAll_any k r W hk1 hkr)
  have HSUM : Hid (∀ i, i < k + r → sumS (nth (allL k r) i) (splitL k t) = nth (spreadL k r t) i) := spread_row k r t hk1 hkr
  have HTK : Hid (∀ j, j < k + r → (spreadL k r t).take (j + 1) = (spreadL k r t).take j ++ [nth (spreadL k r t) j]) := fun j hj => take_nth _ j (by rw [spread_length k r t hk1 hkr]; exact hj)
  have HFIN : Hid ((spreadL k r t).take (k + r) = spreadL k r t) := List.take_of_length_le (by rw [spread_length k r t hk1 hkr]; exact Nat.le_refl _)
  have HLL := Lib.hid (splitL_length k t)
  have HAL := Lib.hid (allL_facts k r hk1 hkr)
  have HZ : Hid (∀ s ∈ splitL k t, s.size ≤ 100000000) := fun s hs => by
    unfold splitL at hs
    rw [mat_sizes s hs]
    have := sizeN_le k t.size hk1
    omega
  have HTL : Hid (∀ j, ((spreadL k r t).take j).length ≤ j) := fun j => by rw [List.length_take]; omega
  generalize allL k r = A at *
  generalize splitL k t = L at *
  generalize spreadL k r t = S at *
  have hw : wrap64 ((k : Int) + (r : Int)) = ((k + r : Nat) : Int) := IntWalk.wrap64_in _ ⟨by omega, by omega⟩
  clear hsp ht
  go_enter Seq.func11, Seq.ntmps11
  go_wp2_with fail
  refine (HCAN.out _).mono ?_
  rintro e w1 ⟨rfl, rfl⟩
  go_wp2_with fail
  refine (HSPL.out _).mono ?_
  rintro e w2 ⟨a2, c2, rfl, hs2, hk2⟩
  have HS2 := Lib.hid hs2
  have HK2 := Lib.hid hk2
  clear hs2 hk2
  go_wp2_with fail
  refine (HALL.out _).mono ?_
  rintro e w3 ⟨a3, c3, rfl, hs3, hk3⟩
  obtain ⟨b3, o3, hc3⟩ := strs_at hs3
  obtain ⟨ha3, hd3⟩ := hc3 (by have := HAL.out.1; omega)
  subst ha3
  have HC3 : Hid (∀ W, Kept w3 W → ∀ i, i < k + r → W.cell? ⟨b3, o3 + i, none⟩ = some (.string (nth A i))) := fun W hW i hi => cellk (hd3 i (by rw [HAL.out.1]; exact hi)) hW
  have HS3 : Hid (∀ W, Kept w3 W → Strs W a2 L) := fun W hW => (HS2.out.kept hk3).kept hW
  have HK3 : Hid (Kept w1 w3) := HK2.out.trans hk3
  have HROW : Hid (∀ i, i < k + r → (nth A i).size ≤ 100000000) := fun i hi => by
    rw [HAL.out.2 _ (by rw [← nth_get A i (by rw [HAL.out.1]; exact hi)]; exact List.getElem_mem _)]
    omega
  have HCALL : Hid (∀ W i, Kept w3 W → i < k + r → Calls Seq.prog 26 #[.string (nth A i), .slice a2 L.length c2] W fun e w' => ∃ (er : Int), e = .returned (.tuple #[.string (nth S i), .int .i64 er]) ∧ Kept W w') := fun W i hW hi => by
    have h := refSum_any (nth A i) a2 c2 L W (HS3.out W hW) (by rw [HLL.out]; omega) HZ.out (HROW.out i hi)
    rw [HSUM.out i hi] at h
    exact h.mono fun e w' hh => ⟨_, hh.1, hh.2⟩
  have hll := HLL.out
  have hal := HAL.out.1
  rw [hal]
  clear hs3 hc3 hd3 hk3 HS2 HK2 HCAN HSPL HALL HSUM HZ HAL hll
  go_wp2_with fail
  go_loopw [11, 12, 13, 14] (fun v i v13 v14 wr => ∃ j : Nat, j ≤ k + r ∧ i = .int .i64 j ∧ Hid (Gat w3.heap.size v (S.take j) wr ∧ Kept w3 wr)) (fun _ i _ _ _ => k + r - (intOf i).toNat)
  case atStart => exact ⟨0, Nat.zero_le _, rfl, Gat.nil _ _, Kept.refl _⟩
  case round =>
    obtain ⟨j, hj, rfl, HI⟩ := hrel
    by_cases hlt : j < k + r
    · have hcj := HC3.out wr HI.out.2 j hlt
      have HCJ : Hid (∀ W, Kept wr W → Calls Seq.prog 26 #[.string (nth A j), .slice a2 L.length c2] W fun e w' => ∃ (er : Int), e = .returned (.tuple #[.string (nth S j), .int .i64 er]) ∧ Kept W w') := fun W hW => HCALL.out W j (HI.out.2.trans hW) hlt
      have HT := Lib.hid (HTK.out j hlt)
      have HLN : Hid ((S.take j).length ≤ 1000000000) := Lib.hid (by have := HTL.out j; omega)
      generalize nth A j = p at *
      generalize nth S j = q at *
      go_wp2_with fail
      refine (HCJ.out _ (by first | exact Kept.refl _ | exact (Kept.refl _).drewN _)).mono ?_
      rintro e w4 ⟨er, rfl, hk4⟩
      have HI4 : Hid (Gat w3.heap.size (_) (S.take j) w4 ∧ Kept w3 w4) := ⟨HI.out.1.kept hk4, HI.out.2.trans hk4⟩
      clear HI hk4
      go_wp2_with (first | (at_builtin; go_must (refine wpList_gat _ rfl (.tmp 44) (.tmp 46) 23 rfl Seq.underlying23 w3 _ (S.take j) rfl (HI4.out.1.kept ((Kept.refl _).alloc _)) (HI4.out.2.alloc _) q w4.heap.size rfl (by rw [World.cell?_alloc_mark]; rfl) HLN.out ?_); intro v9 w9 hG9 hK9))
      exact ⟨⟨j + 1, by omega, by go_num, by rw [HT.out]; exact ⟨hG9, hK9⟩⟩, by simp [intOf]; omega⟩
    · obtain rfl : j = k + r := by omega
      go_wp2_with fail
      go_ret2
      have h := HI.out.1
      rw [HFIN.out] at h
      exact h.gotM (HK3.out.trans HI.out.2) 0
end Go.Proofs.Ythifdfbdekkmgaa

/- The law's texts: are two lists the same? -/
namespace Go.Proofs.Ythifdfbdekkmgaa
open Go.RowKit Gf
set_option linter.unusedVariables false
set_option maxHeartbeats 1000000 in
set_option maxRecDepth 100000 in
theorem texts_any (a b : Option Addr) (ca cb : Nat) (ss ts : List ByteArray) (w : World) (hS : Strs w a ss) (hT : Strs w b ts) (hm : ss.length ≤ 1000) (hn : ts.length ≤ 1000) :
    Calls Seq.prog 14 #[.slice a ss.length ca, .slice b ts.length cb] w fun e w' => e = .returned (.bool (decide (ss = ts))) ∧ Kept w w' := by
  obtain ⟨b1, o1, hc1⟩ := strs_at hS
  obtain ⟨b2, o2, hc2⟩ := strs_at hT
  have H1 := Lib.hid hc1
  have H2 := Lib.hid hc2
  clear hS hT hc1 hc2
  by_cases hl : ss.length = ts.length
  · have hb : ((ss.length : Int) == (ts.length : Int)) = true := by simp [hl]
    have HL := Lib.hid hl
    clear hl
    go_enter Seq.func14, Seq.ntmps14
    go_wp2_with fail
    have hne : ((ss.length : Int) != (ts.length : Int)) = false := by simp [HL.out]
    rw [hne]
    clear hne hb
    go_loopw [5] (fun i wr => ∃ j : Nat, j ≤ ss.length ∧ i = .int .i64 j ∧ Hid ((∀ q, q < j → nth ss q = nth ts q) ∧ Kept w wr)) (fun i _ => ss.length - (intOf i).toNat)
    case atStart => exact ⟨0, Nat.zero_le _, rfl, fun q h => absurd h (Nat.not_lt_zero _), Kept.refl _⟩
    case round =>
      obtain ⟨j, hj, rfl, HI⟩ := hrel
      by_cases hlt : j < ss.length
      · obtain ⟨ha, hd1⟩ := H1.out (by omega)
        obtain ⟨hb', hd2⟩ := H2.out (by have := HL.out; omega)
        have q1 := cellk (hd1 j hlt) HI.out.2
        have q2 := cellk (hd2 j (by have := HL.out; omega)) HI.out.2
        have hlt2 : j < ts.length := by have := HL.out; omega
        subst ha
        subst hb'
        clear hd1 hd2
        by_cases he : nth ss j = nth ts j
        · have HE := Lib.hid he
          have hbl : ((nth ss j).toList == (nth ts j).toList) = true := (str_beq _ _).2 he
          clear he
          obtain ⟨p, hp⟩ : ∃ p, nth ss j = p := ⟨_, rfl⟩
          obtain ⟨q, hq⟩ : ∃ q, nth ts j = q := ⟨_, rfl⟩
          rw [hp] at q1 hbl HE
          rw [hq] at q2 hbl HE
          have HP := Lib.hid hp
          have HQ := Lib.hid hq
          clear hp hq
          go_wp2_with fail
          go_quiet (fail)
          go_wp2_with fail
          refine ⟨⟨j + 1, by omega, by go_num, fun x hx => ?_, HI.out.2.trans ((Kept.refl _).drewN _)⟩, by simp [intOf]; omega⟩
          by_cases e : x = j
          · rw [e, HP.out, HQ.out]
            exact HE.out
          · exact HI.out.1 x (by omega)
        · have hbl : ((nth ss j).toList == (nth ts j).toList) = false := by
            cases h : ((nth ss j).toList == (nth ts j).toList) with
            | false => rfl
            | true => exact absurd ((str_beq _ _).1 h) he
          have HE : Hid (ss ≠ ts) := fun c => he (by rw [c])
          clear he
          generalize nth ss j = p at *
          generalize nth ts j = q at *
          go_wp2_with fail
          go_quiet (fail)
          go_wp2_with fail
          go_ret
          exact ⟨by rw [decide_eq_false HE.out]; rfl, HI.out.2.trans ((Kept.refl _).drewN _)⟩
      · obtain rfl : j = ss.length := by omega
        have HE : Hid (ss = ts) := list_ext _ _ HL.out HI.out.1
        go_wp2_with fail
        go_ret
        exact ⟨by rw [decide_eq_true HE.out]; rfl, HI.out.2⟩
  · have hb : ((ss.length : Int) == (ts.length : Int)) = false := by simp; omega
    have HE : Hid (ss ≠ ts) := fun c => hl (by rw [c])
    clear hl
    go_enter Seq.func14, Seq.ntmps14
    go_wp2_with fail
    go_ret
    exact ⟨by rw [decide_eq_false HE.out]; rfl, Kept.refl _⟩
end Go.Proofs.Ythifdfbdekkmgaa

/- Spread, Split and Size answer as the document's do. -/
namespace Go.Proofs.Ythifdfbdekkmgaa
open Go.RowKit Gf
set_option linter.unusedVariables false
def eS (b : Bool) : Int := if b then 0 else 2
def lS (b : Bool) (l : List ByteArray) : List ByteArray := if b then l else []
theorem pSplit_all (k : Int) (t : ByteArray) (w : World) (h0 : -9223372036854775808 ≤ k) (h1 : k ≤ 9223372036854775807) (ht : t.size ≤ 1000000) :
    Calls Seq.prog 8 #[.int .i64 k, .string t] w fun e w' => GotM (lS (spB k 0) (splitL k.toNat t)) (eS (spB k 0)) w e w' := by
  cases h : spB k 0
  · exact pSplit_bad k t w h0 h1 h
  · obtain ⟨k', r', rfl, hr, hk1, hk2⟩ := spB_iff h
    exact pSplit_ok k' t w hk1 (by omega) (by omega)
theorem refSplit_all (k : Int) (t : ByteArray) (w : World) (h0 : -9223372036854775808 ≤ k) (h1 : k ≤ 9223372036854775807) (ht : t.size ≤ 1000000) :
    Calls Seq.prog 9 #[.int .i64 k, .string t] w fun e w' => GotM (lS (spB k 0) (splitL k.toNat t)) (eS (spB k 0)) w e w' := by
  cases h : spB k 0
  · exact refSplit_bad k t w (by
      unfold spB at h
      have := of_decide_eq_false h
      omega)
  · obtain ⟨k', r', rfl, hr, hk1, hk2⟩ := spB_iff h
    exact refSplit_ok k' t w hk1 (by omega) (by omega)
theorem pSpread_all (k r : Int) (t : ByteArray) (w : World) (h0 : -9223372036854775808 ≤ k) (h1 : k ≤ 9223372036854775807) (h2 : -9223372036854775808 ≤ r) (h3 : r ≤ 9223372036854775807) (ht : t.size ≤ 1000000) :
    Calls Seq.prog 10 #[.int .i64 k, .int .i64 r, .string t] w fun e w' => GotM (lS (spB k r) (spreadL k.toNat r.toNat t)) (eS (spB k r)) w e w' := by
  cases h : spB k r
  · refine (pSpread_bad k r t w h0 h1 h2 h3 h).mono ?_
    rintro e w' ⟨rfl, rfl⟩
    exact GotM.nil 2 (Kept.refl _)
  · obtain ⟨k', r', rfl, rfl, hk1, hk2⟩ := spB_iff h
    exact pSpread_ok k' r' t w hk1 hk2 (by omega)
theorem refSpread_all (k r : Int) (t : ByteArray) (w : World) (h0 : -9223372036854775808 ≤ k) (h1 : k ≤ 9223372036854775807) (h2 : -9223372036854775808 ≤ r) (h3 : r ≤ 9223372036854775807) (ht : t.size ≤ 1000000) :
    Calls Seq.prog 11 #[.int .i64 k, .int .i64 r, .string t] w fun e w' => GotM (lS (spB k r) (spreadL k.toNat r.toNat t)) (eS (spB k r)) w e w' := by
  cases h : spB k r
  · exact refSpread_bad k r t w h0 h1 h2 h3 h
  · obtain ⟨k', r', rfl, rfl, hk1, hk2⟩ := spB_iff h
    exact refSpread_ok k' r' t w hk1 hk2 (by omega)
theorem lS_split (k : Int) (t : ByteArray) : (lS (spB k 0) (splitL k.toNat t)).length ≤ 1000 := by
  cases h : spB k 0
  · exact Nat.zero_le _
  · obtain ⟨k', r', rfl, hr, hk1, hk2⟩ := spB_iff h
    show (splitL _ t).length ≤ _
    rw [splitL_length, Int.toNat_natCast]
    omega
theorem lS_spread (k r : Int) (t : ByteArray) : (lS (spB k r) (spreadL k.toNat r.toNat t)).length ≤ 1000 := by
  cases h : spB k r
  · exact Nat.zero_le _
  · obtain ⟨k', r', rfl, rfl, hk1, hk2⟩ := spB_iff h
    show (spreadL _ _ t).length ≤ _
    rw [spread_length _ _ _ (by rw [Int.toNat_natCast]; omega) (by rw [Int.toNat_natCast, Int.toNat_natCast]; omega), Int.toNat_natCast, Int.toNat_natCast]
    omega
set_option maxHeartbeats 4000000 in
set_option maxRecDepth 100000 in
theorem codeSpreads_walk (k r : Int) (t : ByteArray) (n : Int) (w : World) (hk0 : (Lit.int .i64 k).wf = true) (hr0 : (Lit.int .i64 r).wf = true) (ht : t.size ≤ maxLen) (hn0 : (Lit.int .i64 n).wf = true) :
    Calls Seq.prog 3 #[.int .i64 k, .int .i64 r, .string t, .int .i64 n] w fun e w' => e = .returned (.bool true) ∧ Kept w w' := by
  have hk : -9223372036854775808 ≤ k ∧ k ≤ 9223372036854775807 := by simpa [Lit.wf, IntKind.min, IntKind.max, IntKind.signed, IntKind.bits] using hk0
  have hr : -9223372036854775808 ≤ r ∧ r ≤ 9223372036854775807 := by simpa [Lit.wf, IntKind.min, IntKind.max, IntKind.signed, IntKind.bits] using hr0
  have hn : -9223372036854775808 ≤ n ∧ n ≤ 9223372036854775807 := by simpa [Lit.wf, IntKind.min, IntKind.max, IntKind.signed, IntKind.bits] using hn0
  clear hk0 hr0 hn0
  have HAL := Lib.hid alive_any
  by_cases hl : 1024 < t.size
  · have hb : decide ((1024 : Int) < (t.size : Int)) = true := decide_eq_true (by omega)
    clear hk hr ht hn
    go_enter Seq.func3, Seq.ntmps3
    go_wp2_with fail
    refine (HAL.out _).mono ?_
    rintro e w1 ⟨rfl, hk1⟩
    go_wp2_with fail
    go_ret
    exact ⟨rfl, hk1⟩
  · have hb : decide ((1024 : Int) < (t.size : Int)) = false := decide_eq_false (by omega)
    have H1 := Lib.hid (fun W => pSplit_all k t W hk.1 hk.2 (by omega))
    have H2 := Lib.hid (fun W => refSplit_all k t W hk.1 hk.2 (by omega))
    have H3 := Lib.hid (fun W => pSpread_all k r t W hk.1 hk.2 hr.1 hr.2 (by omega))
    have H4 := Lib.hid (fun W => refSpread_all k r t W hk.1 hk.2 hr.1 hr.2 (by omega))
    have H5 := Lib.hid (fun W => pSize_any k n W hk.1 hk.2 hn.1 hn.2)
    have H6 := Lib.hid (fun W => refSize_any k n W hk.1 hk.2 hn.1 hn.2)
    have HL1 := Lib.hid (lS_split k t)
    have HL2 := Lib.hid (lS_spread k r t)
    generalize lS (spB k 0) (splitL k.toNat t) = A at *
    generalize lS (spB k r) (spreadL k.toNat r.toNat t) = B at *
    have HE1 : Hid (∃ x : Int, x = eS (spB k 0) ∧ -10 ≤ x ∧ x ≤ 10) := ⟨_, rfl, by unfold eS; split <;> decide, by unfold eS; split <;> decide⟩
    have HE2 : Hid (∃ x : Int, x = eS (spB k r) ∧ -10 ≤ x ∧ x ≤ 10) := ⟨_, rfl, by unfold eS; split <;> decide, by unfold eS; split <;> decide⟩
    obtain ⟨x, hx, hx1, hx2⟩ := HE1.out
    obtain ⟨y, hy, hy1, hy2⟩ := HE2.out
    rw [← hx] at H1 H2
    rw [← hy] at H3 H4
    obtain ⟨S, hS⟩ : ∃ S, sizeI k n = S := ⟨_, rfl⟩
    rw [hS] at H5 H6
    clear hk hr ht hn hl HE1 HE2 hx hy hS
    go_enter Seq.func3, Seq.ntmps3
    go_wp2_with fail
    refine (H1.out _).mono ?_
    rintro e w1 ⟨a1, c1, rfl, hs1, hk1⟩
    have HS1 := Lib.hid hs1
    have HK1 := Lib.hid hk1
    clear hs1 hk1
    go_wp2_with fail
    refine (H2.out _).mono ?_
    rintro e w2 ⟨a2, c2, rfl, hs2, hk2⟩
    have HS2 := Lib.hid hs2
    have HS12 := Lib.hid (HS1.out.kept hk2)
    have HK2 : Hid (Kept w w2) := HK1.out.trans hk2
    clear hs2 hk2 HK1 HS1
    go_wp2_with fail
    refine (H3.out _).mono ?_
    rintro e w3 ⟨a3, c3, rfl, hs3, hk3⟩
    have HS3 := Lib.hid hs3
    have HS13 := Lib.hid (HS12.out.kept hk3)
    have HS23 := Lib.hid (HS2.out.kept hk3)
    have HK3 : Hid (Kept w w3) := HK2.out.trans hk3
    clear hs3 hk3 HK2 HS12 HS2
    go_wp2_with fail
    refine (H4.out _).mono ?_
    rintro e w4 ⟨a4, c4, rfl, hs4, hk4⟩
    have HS4 := Lib.hid hs4
    have HS14 := Lib.hid (HS13.out.kept hk4)
    have HS24 := Lib.hid (HS23.out.kept hk4)
    have HS34 := Lib.hid (HS3.out.kept hk4)
    have HK4 : Hid (Kept w w4) := HK3.out.trans hk4
    clear hs4 hk4 HK3 HS13 HS23 HS3
    go_wp2_with fail
    refine (H5.out _).mono ?_
    rintro e w5 ⟨rfl, hk5⟩
    have HK5 := Lib.hid hk5
    clear hk5
    go_wp2_with fail
    refine (H6.out _).mono ?_
    rintro e w6 ⟨rfl, rfl⟩
    go_wp2_with fail
    refine (texts_any a1 a2 c1 c2 A A w6 (HS14.out.kept HK5.out) (HS24.out.kept HK5.out) HL1.out HL1.out).mono ?_
    rw [decide_eq_true rfl]
    rintro e w7 ⟨rfl, hk7⟩
    have HK7 : Hid (Kept w4 w7) := HK5.out.trans hk7
    clear hk7 HK5
    go_wp2_with fail
    refine (texts_any a3 a4 c3 c4 B B w7 (HS34.out.kept HK7.out) (HS4.out.kept HK7.out) HL2.out HL2.out).mono ?_
    rw [decide_eq_true rfl]
    rintro e w8 ⟨rfl, hk8⟩
    have HK8 : Hid (Kept w4 w8) := HK7.out.trans hk8
    clear hk8 HK7
    go_wp2_with fail
    refine (HAL.out _).mono ?_
    rintro e w9 ⟨rfl, hk9⟩
    have HK9 : Hid (Kept w w9) := (HK4.out.trans HK8.out).trans hk9
    clear hk9
    go_wp2_with fail
    go_ret
    exact ⟨rfl, HK9.out⟩
end Go.Proofs.Ythifdfbdekkmgaa

/- What a run that comes to its stop tells of what it looked at. -/
namespace Go.Proofs.Ythifdfbdekkmgaa
open Go.Conc
set_option linter.unusedVariables false
set_option linter.unusedSectionVars false
section
variable {Q : Program} {Stop : Goroutine → World → Prop} {g : Goroutine} {u : World} {τ : Tape}
/-- The next step of a run that comes to its stop. -/
theorem Will.go (h : Will Q Stop g (W2 u τ 0)) (hs : ¬ Stop g (W2 u τ 0)) : ∃ g' w' es, stepG Q true g (W2 u τ 0) = .go g' w' es ∧ Will Q Stop g' w' := by
  cases h with
  | stop h => exact absurd h hs
  | step nx nw h1 h2 =>
    obtain ⟨es, e⟩ := h1 τ
    exact ⟨_, _, es, e, h2 τ⟩
theorem Will.known (h : Will Q Stop g (W2 u τ 0)) (hs : ¬ Stop g (W2 u τ 0)) {g' : Goroutine} {w' : World} {es : Array Event} (e : stepG Q true g (W2 u τ 0) = .go g' w' es) : Will Q Stop g' w' := by
  obtain ⟨g1, w1, es1, e1, h1⟩ := h.go hs
  rw [e] at e1
  cases e1
  exact h1
theorem Will.ends (h : Will Q Stop g (W2 u τ 0)) (hs : ¬ Stop g (W2 u τ 0)) {o : Outcome} {w' : World} {es : Array Event} (e : stepG Q true g (W2 u τ 0) = .ended o w' es) : False := by
  obtain ⟨g1, w1, es1, e1, h1⟩ := h.go hs
  rw [e] at e1
  cases e1
end
section
variable {Q : Program} {Stop : Goroutine → World → Prop} {u : World} {τ : Tape} {b : Frame} {a : Act} {k : List Item} {cs : List Frame} {ops : Array Oper} {i : Nat} {rest : List Nat} {o : Oper}
/-- A value that is known. -/
theorem Will.value {v : Value} {w' : World} (h : Will Q Stop (G (b.at a (.inRegion ops (i :: rest) :: k)) cs) (W2 u τ 0)) (hs : ¬ Stop (G (b.at a (.inRegion ops (i :: rest) :: k)) cs) (W2 u τ 0)) (ho : ops[i]? = some o) (hw : Region.wanted o (yielded ops a.tmps) = true) (hk : b.kind ≠ .early)
    (hr : (execOp a.eval o).run Q (W2 u τ 0) = .ok (.value v) w') : Will Q Stop (G (b.at (a.put o.dst v) (.inRegion ops rest :: k)) cs) w' := h.known hs (stepG_value ho hw hk hr)
/-- An operation whose answer is a value or none. -/
theorem Will.oper {t : Sem Value} (h : Will Q Stop (G (b.at a (.inRegion ops (i :: rest) :: k)) cs) (W2 u τ 0)) (hs : ¬ Stop (G (b.at a (.inRegion ops (i :: rest) :: k)) cs) (W2 u τ 0)) (ho : ops[i]? = some o) (hw : Region.wanted o (yielded ops a.tmps) = true) (hk : b.kind ≠ .early) (hd : a.defers = [])
    (hr : ∀ w, (execOp a.eval o).run Q w = (t.run Q w).andThen fun v w' => .ok (.value v) w') (hp : ∀ hh w w', t.run Q w = .halt hh w' → ∃ s, hh = .stuck s) : ∃ v w', t.run Q (W2 u τ 0) = .ok v w' ∧ Will Q Stop (G (b.at (a.put o.dst v) (.inRegion ops rest :: k)) cs) w' := by
  cases e : t.run Q (W2 u τ 0) with
  | ok v w' => exact ⟨v, w', rfl, h.value hs ho hw hk (by rw [hr, e]; rfl)⟩
  | halt hh w' =>
    exfalso
    obtain ⟨s, rfl⟩ := hp _ _ _ e
    have e2 : (execOp a.eval o).run Q (W2 u τ 0) = .halt (.stuck s) w' := by rw [hr, e]; rfl
    have e3 : ∃ oo es, stepG Q true (G (b.at a (.inRegion ops (i :: rest) :: k)) cs) (W2 u τ 0) = .ended oo w' es := by
      rw [stepG_oper ho hw]
      simp only [stepG.apply, Sem.runT_eq, e2]
      exact ⟨_, _, rfl⟩
    obtain ⟨oo, es, e3⟩ := e3
    exact h.ends hs e3
end
end Go.Proofs.Ythifdfbdekkmgaa

/- What single operations tell when they go well. -/
namespace Go.Proofs.Ythifdfbdekkmgaa
open Go.Conc
set_option linter.unusedVariables false
section
variable {Q : Program} {w w' : World} {X v : Value} {tL tS e ty : TypeId}
theorem len_slice_inv (hL : Q.underlying tL = some (.slice e)) (h : (Builtin.len_ #[tL] ty #[X]).run Q w = .ok v w') : ∃ a n cap, X = .slice a n cap ∧ v = .int .i64 n ∧ w' = w := by
  cases X <;> simp [Builtin.len_, run_underlying hL, Result.andThen, stuck, goInt] at h
  obtain ⟨rfl, rfl⟩ := h
  exact ⟨_, _, _, rfl, rfl, rfl⟩
theorem len_str_inv (hS : Q.underlying tS = some .string) (h : (Builtin.len_ #[tS] ty #[X]).run Q w = .ok v w') : ∃ s : ByteArray, X = .string s ∧ v = .int .i64 s.size ∧ w' = w := by
  cases X <;> simp [Builtin.len_, run_underlying hS, Result.andThen, stuck, goInt] at h
  obtain ⟨rfl, rfl⟩ := h
  exact ⟨_, rfl, rfl, rfl⟩
theorem noView_inv {p q : Addr} (hne : p.block ≠ q.block) {b : Bool} (h : (sameAddr p q).run Q w = .ok b w') : ∀ s t, w.heap[p.block]? ≠ some (.view s t) := by
  intro s t hv
  have hb : (p.block == q.block) = false := by simp [hne]
  simp only [sameAddr, hb, Bool.false_eq_true, if_false] at h
  simp [noView, viewAt, shape, World.shape?, Result.andThen, frozen, getObj, Sem.run, bind, Sem.bind, pure, unsupported] at h
  split at h
  · simp [Sem.run] at h
  · simp [hv, Sem.run, Sem.bind] at h
theorem load_inv {ad : Addr} {m : Mode} (hn : ∀ s t, w.heap[ad.block]? ≠ some (.view s t)) (h : (load ad m).run Q w = .ok v w') : w.cell? ad = some v ∧ w' = w := by
  cases hc : w.cell? ad with
  | some x =>
    simp [load, Sem.run, hc] at h
    exact ⟨by rw [h.1], h.2.symm⟩
  | none =>
    exfalso
    simp only [load, Sem.run, hc] at h
    unfold World.farLoad at h
    cases ho : w.heap[ad.block]? with
    | none => simp [ho] at h
    | some o =>
      cases o with
      | view s t => exact hn s t ho
      | _ => simp [ho] at h
end
end Go.Proofs.Ythifdfbdekkmgaa

/- A run that comes to its stop, step by step: what each operation came to. -/
namespace Go.Proofs.Ythifdfbdekkmgaa
open Go.Conc
set_option linter.unusedVariables false
set_option linter.unusedSectionVars false
/-- The answers that are asked. -/
def tau0 : Tape := fun _ _ => 0
/-- The world, before the answers asked. -/
abbrev W0 (u : World) : World := W2 u tau0 0
section
variable {Q : Program} [NoCx Q] {Stop : Goroutine → World → Prop}
/-- It comes to its stop, and its memory is whole. -/
structure Well (Q : Program) (Stop : Goroutine → World → Prop) (g : Goroutine) (u : World) : Prop where
  will : Will Q Stop g u
  li : LI Q [trap Q] g u
theorem Well.on (hz : Zs Q) (hS : Fits Q true Q.funcs (fun _ => False) (fun _ => false)) (hH : Halts Q Stop) {g : Goroutine} {u : World} (h : Well Q Stop g u) (hd : ¬ Done [trap Q] g) :
    ∃ g' u' es, stepG Q true g (W0 u) = .go g' u' es ∧ Well Q Stop g' u' := by
  obtain ⟨hw, hL⟩ := h
  cases hw with
  | stop hs => exact absurd (hH.out _ _ hs) hd
  | step nx nw h1 h2 =>
    obtain ⟨es, e⟩ := h1 tau0
    rcases step_same hz hS (hL.tape tau0 0) hd with ⟨o, u', es', e'⟩ | ⟨g', u', es', e', hp | ⟨hL', _, _⟩⟩
    · rw [e] at e'; cases e'
    · rw [e] at e'; cases e'
      exact absurd hp ((h2 tau0).calm hH)
    · rw [e] at e'; cases e'
      exact ⟨_, _, _, e, h2 tau0, hL'⟩
/-- The frame of f, above others. -/
abbrev Sx (Q : Program) (f : FuncId) (A : Array Value) (k : List Item) (l : List Frame) : Goroutine := G ((base f).at ⟨A, []⟩ k) (l ++ [trap Q])
theorem sx_not_done {f : FuncId} {A : Array Value} {k : List Item} {l : List Frame} : ¬ Done [trap Q] (Sx Q f A k l) := by
  rintro ⟨f', a', todo', e⟩
  have := congrArg (fun g => g.frame.mode) e
  simp only [Sx, G, fz, Frame.at, base, ↓reduceIte] at this
  cases this
variable {f : FuncId} {A : Array Value} {l : List Frame} {k : List Item} {u : World}
theorem Well.ctl (hz : Zs Q) (hS : Fits Q true Q.funcs (fun _ => False) (fun _ => false)) (hH : Halts Q Stop) (h : Well Q Stop (Sx Q f A k l) u) {g' : Goroutine} {es : Array Event} (e : ∀ z, stepG Q true (Sx Q f A k l) z = .go g' z es) :
    Well Q Stop g' (W0 u) := by
  obtain ⟨g1, u1, es1, e1, h1⟩ := h.on hz hS hH sx_not_done
  rw [e] at e1
  cases e1
  exact h1
theorem Well.die (hz : Zs Q) (hS : Fits Q true Q.funcs (fun _ => False) (fun _ => false)) (hH : Halts Q Stop) (h : Well Q Stop (Sx Q f A k l) u) (e : ∀ z, ∃ o z' es, stepG Q true (Sx Q f A k l) z = .ended o z' es) : False := by
  obtain ⟨g1, u1, es1, e1, h1⟩ := h.on hz hS hH sx_not_done
  obtain ⟨o, z', es, e2⟩ := e (W0 u)
  rw [e1] at e2
  cases e2
theorem Well.opr (hz : Zs Q) (hS : Fits Q true Q.funcs (fun _ => False) (fun _ => false)) (hH : Halts Q Stop) {ops : Array Oper} {i : Nat} {rest : List Nat} (h : Well Q Stop (Sx Q f A (.inRegion ops (i :: rest) :: k) l) u) {o : Oper} (ho : ops[i]? = some o) (hg : o.guard = none) :
    ∃ n w', (execOp (⟨A, []⟩ : Act).eval o).run Q (W0 u) = .ok n w' ∧ ∀ v, n = .value v → Well Q Stop (Sx Q f ((⟨A, []⟩ : Act).put o.dst v).tmps (.inRegion ops rest :: k) l) w' := by
  obtain ⟨g1, u1, es1, e1, h1⟩ := h.on hz hS hH sx_not_done
  have hw : Region.wanted o (yielded ops A) = true := by unfold Region.wanted; rw [hg]
  have hkind : ((base f).kind == CallKind.early) = false := by simp [base]
  have e0 := e1
  rw [stepG_oper ho hw] at e1
  cases hrun : (execOp (⟨A, []⟩ : Act).eval o).run Q (W0 u) with
  | ok n x =>
    refine ⟨n, x, rfl, fun v hv => ?_⟩
    subst hv
    have hk : (base f).kind ≠ .early := by simpa using hkind
    rw [stepG_value ho hw hk hrun] at e0
    cases e0
    have : ((⟨A, []⟩ : Act).put o.dst v) = ⟨((⟨A, []⟩ : Act).put o.dst v).tmps, []⟩ := put_rest A o.dst v
    rw [this] at h1
    exact h1
  | halt hh x =>
    exfalso
    have hkh : KH hh := by
      obtain ⟨r, f2, a2, t2, b2, l2, e2, hr, hgd, hk2, ha, hl⟩ := h.li
      have e3 : (base f).at ⟨A, []⟩ (.inRegion ops (i :: rest) :: k) = fz f2 a2 t2 b2 := by
        have := congrArg (fun g => g.frame) e2
        exact this
      have e4 : a2 = A ∧ t2 = .inRegion ops (i :: rest) :: k := by
        have h1 := congrArg Frame.tmps e3
        have h2 := congrArg Frame.todo e3
        exact ⟨h1.symm, h2.symm⟩
      obtain ⟨rfl, rfl⟩ := e4
      have hwo : white Q true Q.funcs o.op = true := by
        simp only [List.all_cons, Bool.and_eq_true] at hk2
        have hx' : (ops.all fun o => white Q true Q.funcs o.op) = true := hk2.1
        rw [Array.all_eq_true_iff_forall_mem] at hx'
        exact hx' o (Array.mem_of_getElem? ho)
      exact (RS.execOp (P := Q) (F := Q.funcs) (ro := fun _ => False) hS.quiet hz hS.names (d := []) (d' := []) ha o hwo (W0 u) (W0 u) ⟨hr.obj, hr.one, hr.inj, hr.old, hr.glo, hr.ug, hr.wg⟩).2.1 hh x hrun
    simp only [stepG.apply, Sem.runT_eq, hrun, ↓reduceIte, Frame.at, hkind] at e1
    obtain ⟨r, f', a', t', b', l', e2, _⟩ := h1.li
    cases hh with
    | panic v =>
      cases e1
      have := congrArg (fun g => g.frame.mode) e2
      simp only [G, fz] at this
      cases b' <;> cases this
    | stuck s => cases e1
    | unsupported q =>
      cases q with
      | initOrder g => exact hkh
      | _ => cases e1
    | _ => exact hkh
/-- A slot that was set. -/
theorem gd_set (A : Array Value) (d i : Nat) (v : Value) (h : d < A.size) : (A.setIfInBounds d v).getD i undef = if d = i then v else A.getD i undef := by
  rw [Array.getD_eq_getD_getElem?, Array.getD_eq_getD_getElem?, Array.getElem?_setIfInBounds]
  by_cases e : d = i
  · rw [if_pos e, if_pos e, if_pos h]; rfl
  · rw [if_neg e, if_neg e]
end
end Go.Proofs.Ythifdfbdekkmgaa

/- What the tests of what comes in tell, of a run that comes to its stop. -/
namespace Go.Proofs.Ythifdfbdekkmgaa
open Go.Conc
set_option linter.unusedVariables false
set_option linter.unusedSectionVars false
theorem run_len (Q : Program) (e : Operand → Value) (d : Option Tmp) (t ty : TypeId) (x : Operand) (w : World) :
    (execOp e { dst := d, op := .call { callee := .builtin .len, args := #[x], argTypes := #[t] }, type := ty, pos := "", after := #[], guard := none }).run Q w = ((Builtin.len_ #[t] ty #[e x]).run Q w).andThen fun v w' => .ok (.value v) w' := by
  simp [execOp, resolve, invoke, builtin, Sem.run_bind]
  try rfl
theorem run_load (Q : Program) (e : Operand → Value) (d : Option Tmp) (t ty : TypeId) (x : Operand) (w : World) :
    (execOp e { dst := d, op := .load t x, type := ty, pos := "", after := #[], guard := none }).run Q w = ((Instr.loadAt t (e x)).run Q w).andThen fun v w' => .ok (.value v) w' := by
  simp [execOp, Sem.run_bind]
theorem run_indexAddr (Q : Program) (e : Operand → Value) (d : Option Tmp) (t ty : TypeId) (x y : Operand) (w : World) :
    (execOp e { dst := d, op := .indexAddr t x y, type := ty, pos := "", after := #[], guard := none }).run Q w = ((Instr.indexAt t (e x) (e y)).run Q w).andThen fun v w' => .ok (.value v) w' := by
  simp [execOp, Sem.run_bind]
theorem run_eql (Q : Program) (e : Operand → Value) (d : Option Tmp) (t t2 ty : TypeId) (x y : Operand) (w : World) :
    (execOp e { dst := d, op := .binOp .eql t x y t2, type := ty, pos := "", after := #[], guard := none }).run Q w = ((eqGuard .eql t x y (e x) (e y)).run Q w).andThen fun _ w0 => ((binOp .eql t (e x) (e y)).run Q w0).andThen fun v w' => .ok (.value v) w' := by
  simp [execOp, Sem.run_bind]
  try rfl
theorem run_lss (Q : Program) (e : Operand → Value) (d : Option Tmp) (t t2 ty : TypeId) (x y : Operand) (w : World) (a b : Int) (hx : e x = .int .i64 a) (hy : e y = .int .i64 b) :
    (execOp e { dst := d, op := .binOp .lss t x y t2, type := ty, pos := "", after := #[], guard := none }).run Q w = .ok (.value (.bool (decide (a < b)))) w := by
  simp [execOp, eqGuard, hx, hy, binOp, Op.intCmp]
theorem run_add (Q : Program) (e : Operand → Value) (d : Option Tmp) (t t2 ty : TypeId) (x y : Operand) (w : World) (a b : Int) (hx : e x = .int .i64 a) (hy : e y = .int .i64 b) :
    (execOp e { dst := d, op := .binOp .add t x y t2, type := ty, pos := "", after := #[], guard := none }).run Q w = .ok (.value (.int .i64 (IntKind.wrap .i64 (a + b)))) w := by
  simp [execOp, eqGuard, hx, hy, binOp, Op.intArith]
section
variable {Q : Program} [NoCx Q] {Stop : Goroutine → World → Prop} {f : FuncId} {A : Array Value} {l : List Frame} {k : List Item} {u : World}
theorem Well.val (hz : Zs Q) (hS : Fits Q true Q.funcs (fun _ => False) (fun _ => false)) (hH : Halts Q Stop) {ops : Array Oper} {i : Nat} {rest : List Nat} (h : Well Q Stop (Sx Q f A (.inRegion ops (i :: rest) :: k) l) u) {o : Oper} (ho : ops[i]? = some o) (hg : o.guard = none)
    {v : Value} {w' : World} (e : (execOp (⟨A, []⟩ : Act).eval o).run Q (W0 u) = .ok (.value v) w') : Well Q Stop (Sx Q f ((⟨A, []⟩ : Act).put o.dst v).tmps (.inRegion ops rest :: k) l) w' := by
  obtain ⟨n, w1, e1, h1⟩ := h.opr hz hS hH ho hg
  rw [e] at e1
  cases e1
  exact h1 v rfl
theorem Well.opt (hz : Zs Q) (hS : Fits Q true Q.funcs (fun _ => False) (fun _ => false)) (hH : Halts Q Stop) {ops : Array Oper} {i : Nat} {rest : List Nat} (h : Well Q Stop (Sx Q f A (.inRegion ops (i :: rest) :: k) l) u) {o : Oper} (ho : ops[i]? = some o) (hg : o.guard = none)
    {t : Sem Value} (e : (execOp (⟨A, []⟩ : Act).eval o).run Q (W0 u) = (t.run Q (W0 u)).andThen fun v w' => .ok (.value v) w') :
    ∃ v w', t.run Q (W0 u) = .ok v w' ∧ Well Q Stop (Sx Q f ((⟨A, []⟩ : Act).put o.dst v).tmps (.inRegion ops rest :: k) l) w' := by
  obtain ⟨n, w1, e1, h1⟩ := h.opr hz hS hH ho hg
  rw [e] at e1
  cases ht : t.run Q (W0 u) with
  | halt x y => rw [ht] at e1; cases e1
  | ok v w' =>
    rw [ht] at e1
    cases e1
    exact ⟨v, _, rfl, h1 v rfl⟩
theorem Well.reg (hz : Zs Q) (hS : Fits Q true Q.funcs (fun _ => False) (fun _ => false)) (hH : Halts Q Stop) {id : Nat} {ops : Array Oper} (h : Well Q Stop (Sx Q f A (.code (.region id ops false) :: k) l) u) (r : List Nat) (hr : List.range ops.size = r) : Well Q Stop (Sx Q f A (.inRegion ops r :: k) l) (W0 u) := by
  subst hr
  exact h.ctl hz hS hH fun z => stepG_region
end
instance Seq.noCx2 : NoCx Seq.prog := inferInstanceAs (NoCx (Wi Try.prog _))
theorem under_strs : Seq.prog.underlying 23 = some (.slice 9) := (wig_under _).trans Try.underlying23
theorem under_str : Seq.prog.underlying 9 = some .string := (wig_under _).trans Try.underlying9
/-- The texts lie there. -/
def TX (u : World) (a : Option Addr) (ss : List ByteArray) : Prop :=
  ss = [] ∨ ∃ b o, a = some ⟨b, o, none⟩ ∧ ∀ i, i < ss.length → u.cell? ⟨b, o + i, none⟩ = some (.string (ss.getD i ByteArray.empty))
section
variable {Stop : Goroutine → World → Prop} {A : Array Value} {l : List Frame} {k : List Item} {u : World}
noncomputable def Seq.round (x : Nat) : Code := match Seq.test x with
  | .seq _ (.seq _ (.seq _ (.block _ (.loop c)))) => c
  | _ => .skip
set_option maxRecDepth 100000 in
theorem test_head (hH : Halts Seq.prog Stop) {x : Nat} (hx : x < 2) (hA : A.size = 20) (h : Well Seq.prog Stop (Sx Seq.prog 22 A (.code (Seq.test x) :: k) l) u) :
    ∃ aX n cap A', A.getD x undef = .slice aX n cap ∧ n ≤ 64 ∧ A'.size = 20 ∧ (∀ y, y ≠ 5 → y ≠ 6 → y ≠ 7 → y ≠ 9 → A'.getD y undef = A.getD y undef) ∧ A'.getD 6 undef = .int .i64 n ∧ A'.getD 9 undef = .int .i64 0 ∧
      ∃ u', u'.heap = u.heap ∧ Well Seq.prog Stop (Sx Seq.prog 22 A' (.code (Seq.round x) :: .inLoop (Seq.round x) :: .inBlock 1 :: k) l) u' := by
  have hz := Seq.zs2
  have hS := Seq.lone
  unfold Seq.test at h
  have h1 := h.ctl hz hS hH fun z => stepG_seq
  have h2 := h1.reg hz hS hH [0, 1, 2] rfl
  have h3 := h2.val hz hS hH (i := 0) rfl rfl rfl
  obtain ⟨v, w', e4, h4⟩ := h3.opt hz hS hH (i := 1) rfl rfl (run_len ..)
  obtain ⟨aX, n, cap, hX, rfl, rfl⟩ := len_slice_inv under_strs e4
  have hX' : A.getD x undef = .slice aX n cap := by
    rw [← hX]
    show _ = (A.setIfInBounds 5 _).getD 5 undef
    rw [gd_set _ _ _ _ (by omega), if_pos rfl]
    rfl
  have s6 : ((A.setIfInBounds 5 (A.getD x undef)).setIfInBounds 6 (.int .i64 n)).getD 6 undef = .int .i64 n := by
    rw [gd_set _ _ _ _ (by simp; omega), if_pos rfl]
  have h5 := h4.val hz hS hH (i := 2) rfl rfl (run_lss _ _ _ _ _ _ _ _ _ 64 n rfl s6)
  have h6 := h5.ctl hz hS hH fun z => stepG_region_end
  have h7 := h6.ctl hz hS hH fun z => stepG_seq
  have h8 := h7.ctl hz hS hH fun z => stepG_cond (t := decide ((64 : Int) < n)) (by
    show (((A.setIfInBounds 5 (A.getD x undef)).setIfInBounds 6 (.int .i64 n)).setIfInBounds 7 _).getD 7 undef = _
    rw [gd_set _ _ _ _ (by simp; omega), if_pos rfl])
  by_cases hn : (64 : Int) < n
  · exfalso
    rw [decide_eq_true hn] at h8
    exact h8.die hz hS hH fun z => ⟨_, _, _, by simp [Sx, G, stepG, stepG.exec, Frame.at]; exact ⟨rfl, rfl, rfl⟩⟩
  rw [decide_eq_false hn] at h8
  have h9 := h8.ctl hz hS hH fun z => stepG_skip
  have h10 := h9.ctl hz hS hH fun z => stepG_seq
  have h11 := h10.reg hz hS hH [0] rfl
  have h12 := h11.val hz hS hH (i := 0) rfl rfl rfl
  have h13 := h12.ctl hz hS hH fun z => stepG_region_end
  have h14 := h13.ctl hz hS hH fun z => stepG_block
  have h15 := h14.ctl hz hS hH fun z => stepG_loop
  refine ⟨aX, n, cap, _, hX', by omega, ?_, ?_, ?_, ?_, _, ?_, h15⟩
  · simp [Act.put, hA]
  · intro y y5 y6 y7 y9
    show ((((A.setIfInBounds 5 _).setIfInBounds 6 _).setIfInBounds 7 _).setIfInBounds 9 _).getD y undef = _
    rw [gd_set _ _ _ _ (by simp; omega), if_neg (fun h => y9 h.symm), gd_set _ _ _ _ (by simp; omega), if_neg (fun h => y7 h.symm), gd_set _ _ _ _ (by simp; omega), if_neg (fun h => y6 h.symm), gd_set _ _ _ _ (by omega), if_neg (fun h => y5 h.symm)]
  · show ((((A.setIfInBounds 5 _).setIfInBounds 6 _).setIfInBounds 7 _).setIfInBounds 9 _).getD 6 undef = _
    rw [gd_set _ _ _ _ (by simp; omega), if_neg (by omega), gd_set _ _ _ _ (by simp; omega), if_neg (by omega), gd_set _ _ _ _ (by simp; omega), if_pos rfl]
  · show ((((A.setIfInBounds 5 _).setIfInBounds 6 _).setIfInBounds 7 _).setIfInBounds 9 _).getD 9 undef = _
    rw [gd_set _ _ _ _ (by simp; omega), if_pos rfl]
    rfl
  · rfl
end
end Go.Proofs.Ythifdfbdekkmgaa

/- A round of the tests of what comes in. -/
namespace Go.Proofs.Ythifdfbdekkmgaa
open Go.Conc
set_option linter.unusedVariables false
set_option linter.unusedSectionVars false
theorem size_str (w : World) : (Go.sizeOf 9).run Seq.prog w = .ok 1 w := (wig_sizeOf _ w).trans (Try.sizeOf9 w)
theorem agg_str (w : World) : (Go.isAgg 9).run Seq.prog w = .ok false w := (wig_isAgg _ w).trans (Try.isAgg9 w)
theorem under_uptr : Seq.prog.underlying 100 = some .unsafePointer := (wig_under _).trans Try.underlying100
theorem index_inv {w w' : World} {aX : Option Addr} {n cap : Nat} {i : Nat} {v : Value} (hi : i < n) (h : (Instr.indexAt 23 (.slice aX n cap) (.int .i64 i)).run Seq.prog w = .ok v w') : ∃ ad, aX = some ad ∧ v = .pointer (some (ad.add i)) ∧ w' = w := by
  have h1 : (0 : Int) ≤ (i : Int) ∧ (i : Int) < (n : Int) := ⟨by omega, by omega⟩
  cases aX with
  | none =>
    simp [Instr.indexAt, asIntOf, run_underlying under_strs, Result.andThen, boundsPanic, runtimePanic] at h
    exfalso
    revert h
    split
    · split <;> intro h <;> cases h
    · intro h; cases h
  | some ad =>
    simp [Instr.indexAt, asIntOf, run_underlying under_strs, Result.andThen, h1, hi, size_str] at h
    exact ⟨ad, rfl, h.1.symm, h.2.symm⟩
/-- What makes no memory, and turns none. -/
def Hp {α : Type} (Q : Program) (t : Sem α) : Prop := ∀ w a w', t.run Q w = .ok a w' → w'.heap = w.heap
theorem Hp.pure {α : Type} {Q : Program} (a : α) : Hp Q (Pure.pure a : Sem α) := fun w b w' h => by cases h; rfl
theorem Hp.halt {α : Type} {Q : Program} (h : Halt) : Hp Q (Sem.halt h : Sem α) := fun w b w' h => by cases h
theorem Hp.bind {α β : Type} {Q : Program} {t : Sem α} {f : α → Sem β} (ht : Hp Q t) (hf : ∀ a, Hp Q (f a)) : Hp Q (t >>= f) := by
  intro w b w' h
  rw [Sem.run_bind] at h
  cases e : t.run Q w with
  | halt x y => rw [e] at h; cases h
  | ok a x =>
    rw [e] at h
    exact (hf a x b w' h).trans (ht w a x e)
theorem Hp.ite {α : Type} {Q : Program} {c : Prop} [Decidable c] {x y : Sem α} (hx : Hp Q x) (hy : Hp Q y) : Hp Q (if c then x else y) := by
  split
  · exact hx
  · exact hy
theorem Hp.frozen {Q : Program} (a : Addr) : Hp Q (Go.frozen a) := fun w b w' h => by cases h; rfl
theorem Hp.shape {Q : Program} (a : Nat) : Hp Q (Go.shape a) := fun w b w' h => by cases h; rfl
theorem Hp.choose {Q : Program} (q : Question) : Hp Q (Go.choose q) := fun w b w' h => by
  simp only [Go.choose, Sem.run] at h
  split at h <;> cases h <;> rfl
theorem Hp.getObj {Q : Program} (a : Nat) : Hp Q (Go.getObj a) := fun w b w' h => by
  simp only [Go.getObj, Sem.run] at h
  split at h <;> cases h <;> rfl
theorem Hp.viewAt {Q : Program} (a : Nat) : Hp Q (Go.viewAt a) := by
  unfold Go.viewAt
  refine (Hp.shape _).bind fun x => ?_
  refine Hp.ite (Hp.pure _) ?_
  refine (Hp.getObj _).bind fun o => ?_
  split <;> exact Hp.pure _
theorem Hp.noView {Q : Program} (a : Addr) : Hp Q (Go.noView a) := by
  unfold Go.noView
  refine (Hp.viewAt _).bind fun x => ?_
  exact Hp.ite (Hp.halt _) (Hp.pure _)
theorem Hp.stringish {Q : Program} (a : Addr) : Hp Q (Go.stringish a) := by
  unfold Go.stringish
  refine (Hp.frozen _).bind fun x => ?_
  refine Hp.ite (Hp.pure _) ((Hp.shape _).bind fun y => ?_)
  split
  · exact Hp.frozen _
  · exact Hp.pure _
theorem Hp.mayBeOne {Q : Program} (a b : Addr) : Hp Q (Go.mayBeOne a b) := by
  unfold Go.mayBeOne
  dsimp only
  refine (Hp.stringish _).bind fun x => (Hp.stringish _).bind fun y => ?_
  refine ((Hp.shape _).bind fun _ => Hp.pure _).bind fun _ => ((Hp.shape _).bind fun _ => Hp.pure _).bind fun _ => Hp.pure _
theorem same_heap {Q : Program} {w w' : World} {p q : Addr} {b : Bool} (h : (sameAddr p q).run Q w = .ok b w') : w'.heap = w.heap := by
  have key : Hp Q (sameAddr p q) := by
    unfold sameAddr
    refine Hp.ite (Hp.pure _) ?_
    refine (Hp.frozen _).bind fun x => (?_ : Hp _ _)
    refine (?_ : Hp Q (Go.frozen q >>= _)) |> fun (h : Hp Q (Go.frozen q >>= _)) => h
    refine (Hp.frozen _).bind fun y => ?_
    dsimp only
    refine Hp.ite ((Hp.halt _).bind fun _ => ?_) ?_
    all_goals exact (Hp.noView _).bind fun _ => (Hp.noView _).bind fun _ => (Hp.mayBeOne _ _).bind fun _ => Hp.ite ((Hp.choose _).bind fun _ => Hp.pure _) (Hp.pure _)
  exact key _ _ _ h
theorem equal_uptr {Q : Program} (hu : Q.underlying 100 = some .unsafePointer) (p q : Addr) (w : World) : (Op.equal 100 (.pointer (some p)) (.pointer (some q))).run Q w = (sameAddr p q).run Q w := by
  unfold Op.equal
  rw [show Op.maxDepth = 9999 + 1 from rfl]
  unfold Op.equalIn
  simp only [Sem.run_bind, run_underlying hu, Result.andThen, samePointer]
theorem binOp_uptr {Q : Program} (hu : Q.underlying 100 = some .unsafePointer) (p q : Addr) (w : World) : (binOp .eql 100 (.pointer (some p)) (.pointer (some q))).run Q w = ((sameAddr p q).run Q w).andThen fun b w' => .ok (.bool b) w' := by
  rw [← equal_uptr hu]
  show (do Pure.pure (Value.bool (← Op.equal _ _ _)) : Sem Value).run Q w = _
  rw [Sem.run_bind]
  rfl
theorem eql_inv {w w' : World} {p q : Addr} {x y : Operand} {v : Value} (h : (((eqGuard .eql 100 x y (.pointer (some p)) (.pointer (some q))).run Seq.prog w).andThen fun _ w0 => ((binOp .eql 100 (.pointer (some p)) (.pointer (some q))).run Seq.prog w0).andThen fun v w' => Result.ok (Next.value v) w') = .ok (Next.value v) w') :
    ∃ b, (sameAddr p q).run Seq.prog w = .ok b w' := by
  have hg : (eqGuard .eql 100 x y (.pointer (some p)) (.pointer (some q))).run Seq.prog w = .ok () w := rfl
  rw [hg] at h
  simp only [Result.andThen, binOp_uptr under_uptr] at h
  cases hs : (sameAddr p q).run Seq.prog w with
  | ok b x => rw [hs] at h; simp at h; exact ⟨b, by rw [h.2]⟩
  | halt x y => rw [hs] at h; cases h
theorem load_str_inv {w w' : World} {ad : Addr} {v : Value} (hn : ∀ s t, w.heap[ad.block]? ≠ some (.view s t)) (h : (Instr.loadAt 9 (.pointer (some ad))).run Seq.prog w = .ok v w') : w.cell? ad = some v ∧ w' = w := by
  have : (Instr.loadAt 9 (.pointer (some ad))).run Seq.prog w = (load ad .plain).run Seq.prog w := by
    simp [Instr.loadAt, Instr.sureAddr, loadVar, agg_str, Result.andThen]
  exact load_inv hn (this ▸ h)
theorem wrap_next (i : Nat) (h : i ≤ 64) : IntKind.wrap .i64 ((i : Int) + 1) = ((i + 1 : Nat) : Int) := by
  simp only [IntKind.wrap, IntKind.min, IntKind.max, IntKind.signed, IntKind.bits]
  simp
  omega
theorem cell_heap {w w' : World} (h : w'.heap = w.heap) (a : Addr) : w'.cell? a = w.cell? a := by
  unfold World.cell?
  rw [h]
theorem Well.cast {Q : Program} [NoCx Q] {Stop : Goroutine → World → Prop} {f : FuncId} {A B : Array Value} {k : List Item} {l : List Frame} {u : World} (h : Well Q Stop (Sx Q f A k l) u) (e : A = B) : Well Q Stop (Sx Q f B k l) u := e ▸ h
section
variable {Stop : Goroutine → World → Prop} {A : Array Value} {l : List Frame} {k : List Item} {u : World}
set_option maxHeartbeats 1000000 in
set_option maxRecDepth 100000 in
theorem round_rest (hH : Halts Seq.prog Stop) {x : Nat} {A3 : Array Value} (z3 : A3.size = 20) {n i : Nat} {ad : Addr} {v4 : Value} {w2 : World} (c13 : A3.getD 13 undef = v4)
    (c0 : ∀ y, y ≠ 10 → y ≠ 11 → y ≠ 12 → y ≠ 16 → y ≠ 13 → A3.getD y undef = A.getD y undef) (h6 : A.getD 6 undef = .int .i64 n) (h9 : A.getD 9 undef = .int .i64 i) (hin : i ≤ n) (hn : n ≤ 64) (hlt : i < n)
    (hcu : u.cell? (ad.add i) = some v4) (hh2 : w2.heap = u.heap)
    (h15 : Well Seq.prog Stop (Sx Seq.prog 22 A3 (.inRegion #[
        { dst := some 11, op := .move (.tmp x), type := 0, pos := "", after := #[], guard := none },
        { dst := some 12, op := .indexAddr 23 (.tmp 11) (.tmp 9), type := 0, pos := "", after := #[], guard := none },
        { dst := some 16, op := .binOp .eql 100 (.tmp 12) (.tmp 19) 100, type := 0, pos := "", after := #[], guard := none },
        { dst := some 13, op := .load 9 (.tmp 12), type := 9, pos := "", after := #[], guard := none },
        { dst := some 14, op := .call { callee := .builtin .len, args := #[.tmp 13], argTypes := #[9] }, type := 3, pos := "", after := #[], guard := none },
        { dst := some 15, op := .binOp .lss 3 (.const (.int .i64 100000000)) (.tmp 14) 3, type := 0, pos := "", after := #[], guard := none }] [4, 5] :: .code (.seq (.cond (.tmp 15) (.refuse "") .skip)
      (.region 14 #[
        { dst := some 17, op := .binOp .add 3 (.tmp 9) (.const (.int .i64 1)) 3, type := 3, pos := "", after := #[], guard := none },
        { dst := some 9, op := .move (.tmp 17), type := 0, pos := "", after := #[], guard := none }] false)) :: .inLoop (Seq.round x) :: .inBlock 1 :: k) l) (W0 w2)) :
    ∃ A' u', A'.size = 20 ∧ (∀ y, (y < 5 ∨ 17 < y) → A'.getD y undef = A.getD y undef) ∧ A'.getD 6 undef = .int .i64 n ∧ A'.getD 9 undef = .int .i64 (i + 1 : Nat) ∧ u'.heap = u.heap ∧
      (∃ ad' s, some ad = some ad' ∧ u.cell? (ad'.add i) = some (.string s) ∧ s.size ≤ 100000000) ∧ Well Seq.prog Stop (Sx Seq.prog 22 A' (.code (Seq.round x) :: .inLoop (Seq.round x) :: .inBlock 1 :: k) l) u' := by
  have hz := Seq.zs2
  have hS := Seq.lone
  obtain ⟨v5, w5, e5, h16⟩ := h15.opt hz hS hH (i := 4) rfl rfl (run_len ..)
  obtain ⟨s, hs, rfl, rfl⟩ := len_str_inv under_str e5
  obtain rfl : v4 = .string s := by rw [← hs]; exact c13.symm
  obtain ⟨A4, hA4⟩ : ∃ A4, A4 = A3.setIfInBounds 14 (.int .i64 s.size) := ⟨_, rfl⟩
  have z4 : A4.size = 20 := by rw [hA4]; simp [z3]
  have d14 : A4.getD 14 undef = .int .i64 s.size := by rw [hA4, gd_set _ _ _ _ (by omega), if_pos rfl]
  have d0 : ∀ y, y ≠ 10 → y ≠ 11 → y ≠ 12 → y ≠ 16 → y ≠ 13 → y ≠ 14 → A4.getD y undef = A.getD y undef := fun y y1 y2 y3 y4 y5 y6 => by
    rw [hA4, gd_set _ _ _ _ (by omega), if_neg (by omega)]
    exact c0 y y1 y2 y3 y4 y5
  have h16' := h16.cast hA4.symm
  clear h16 h15 hA4
  have h17 := h16'.val hz hS hH (i := 5) rfl rfl (run_lss _ _ _ _ _ _ _ _ _ 100000000 s.size rfl d14)
  obtain ⟨A5, hA5⟩ : ∃ A5, A5 = A4.setIfInBounds 15 (.bool (decide ((100000000 : Int) < s.size))) := ⟨_, rfl⟩
  have z5 : A5.size = 20 := by rw [hA5]; simp [z4]
  have g15 : A5.getD 15 undef = .bool (decide ((100000000 : Int) < s.size)) := by rw [hA5, gd_set _ _ _ _ (by omega), if_pos rfl]
  have g0 : ∀ y, y ≠ 10 → y ≠ 11 → y ≠ 12 → y ≠ 16 → y ≠ 13 → y ≠ 14 → y ≠ 15 → A5.getD y undef = A.getD y undef := fun y y1 y2 y3 y4 y5 y6 y7 => by
    rw [hA5, gd_set _ _ _ _ (by omega), if_neg (by omega)]
    exact d0 y y1 y2 y3 y4 y5 y6
  have h17' := h17.cast hA5.symm
  clear h17 h16' hA5
  have h18 := h17'.ctl hz hS hH fun z => stepG_region_end
  have h19 := h18.ctl hz hS hH fun z => stepG_seq
  have h20 := h19.ctl hz hS hH fun z => stepG_cond (t := decide ((100000000 : Int) < s.size)) g15
  by_cases hbig : (100000000 : Int) < s.size
  · exfalso
    rw [decide_eq_true hbig] at h20
    exact h20.die hz hS hH fun z => ⟨_, _, _, by simp [G, stepG, stepG.exec, Frame.at]; exact ⟨rfl, rfl, rfl⟩⟩
  rw [decide_eq_false hbig] at h20
  have h21 := h20.ctl hz hS hH fun z => stepG_skip
  have h22 := h21.reg hz hS hH [0, 1] rfl
  have h23 := h22.val hz hS hH (i := 0) rfl rfl (run_add _ _ _ _ _ _ _ _ _ i 1 ((g0 9 (by omega) (by omega) (by omega) (by omega) (by omega) (by omega) (by omega)).trans h9) rfl)
  rw [wrap_next i (by omega)] at h23
  obtain ⟨A6, hA6⟩ : ∃ A6, A6 = A5.setIfInBounds 17 (.int .i64 ((i + 1 : Nat) : Int)) := ⟨_, rfl⟩
  have z6 : A6.size = 20 := by rw [hA6]; simp [z5]
  have k17 : A6.getD 17 undef = .int .i64 ((i + 1 : Nat) : Int) := by rw [hA6, gd_set _ _ _ _ (by omega), if_pos rfl]
  have k0 : ∀ y, y ≠ 10 → y ≠ 11 → y ≠ 12 → y ≠ 16 → y ≠ 13 → y ≠ 14 → y ≠ 15 → y ≠ 17 → A6.getD y undef = A.getD y undef := fun y y1 y2 y3 y4 y5 y6 y7 y8 => by
    rw [hA6, gd_set _ _ _ _ (by omega), if_neg (by omega)]
    exact g0 y y1 y2 y3 y4 y5 y6 y7
  have h23' := h23.cast hA6.symm
  clear h23 h22 h21 h20 hA6
  have h24 := h23'.val hz hS hH (i := 1) rfl rfl (v := .int .i64 ((i + 1 : Nat) : Int)) (by
    show Result.ok (Next.value (A6.getD 17 undef)) _ = _
    rw [k17])
  have h25 := h24.ctl hz hS hH fun z => stepG_region_end
  have h26 := h25.ctl hz hS hH fun z => stepG_inLoop
  have h27 : Well Seq.prog Stop (Sx Seq.prog 22 (A6.setIfInBounds 9 (.int .i64 ((i + 1 : Nat) : Int))) (.code (Seq.round x) :: .inLoop (Seq.round x) :: .inBlock 1 :: k) l) _ := h26
  refine ⟨_, _, ?_, ?_, ?_, ?_, ?_, ⟨ad, s, rfl, hcu, by omega⟩, h27⟩
  · simp [z6]
  · intro y hy
    rw [gd_set _ _ _ _ (by omega), if_neg (by omega)]
    exact k0 y (by omega) (by omega) (by omega) (by omega) (by omega) (by omega) (by omega) (by omega)
  · rw [gd_set _ _ _ _ (by omega), if_neg (by omega)]
    exact (k0 6 (by omega) (by omega) (by omega) (by omega) (by omega) (by omega) (by omega) (by omega)).trans h6
  · rw [gd_set _ _ _ _ (by omega), if_pos rfl]
  · exact hh2
set_option maxHeartbeats 1000000 in
set_option maxRecDepth 100000 in
theorem test_round (hH : Halts Seq.prog Stop) {x : Nat} (hx : x < 2) (hA : A.size = 20) {aX : Option Addr} {n cap i : Nat} {q : Addr} (hX : A.getD x undef = .slice aX n cap) (h6 : A.getD 6 undef = .int .i64 n) (h9 : A.getD 9 undef = .int .i64 i) (hq : A.getD 19 undef = .pointer (some q)) (hin : i ≤ n) (hn : n ≤ 64)
    (hb : ∀ ad, aX = some ad → ad.block ≠ q.block)
    (h : Well Seq.prog Stop (Sx Seq.prog 22 A (.code (Seq.round x) :: .inLoop (Seq.round x) :: .inBlock 1 :: k) l) u) :
    (i = n ∧ ∃ A' u', A'.size = 20 ∧ (∀ y, (y < 5 ∨ 17 < y) → A'.getD y undef = A.getD y undef) ∧ u'.heap = u.heap ∧ Well Seq.prog Stop (Sx Seq.prog 22 A' k l) u') ∨
    (i < n ∧ ∃ A' u', A'.size = 20 ∧ (∀ y, (y < 5 ∨ 17 < y) → A'.getD y undef = A.getD y undef) ∧ A'.getD 6 undef = .int .i64 n ∧ A'.getD 9 undef = .int .i64 (i + 1 : Nat) ∧ u'.heap = u.heap ∧
      (∃ ad s, aX = some ad ∧ u.cell? (ad.add i) = some (.string s) ∧ s.size ≤ 100000000) ∧ Well Seq.prog Stop (Sx Seq.prog 22 A' (.code (Seq.round x) :: .inLoop (Seq.round x) :: .inBlock 1 :: k) l) u') := by
  have hz := Seq.zs2
  have hS := Seq.lone
  have h1 : Well Seq.prog Stop (Sx Seq.prog 22 A (.code (.seq (.region 12 #[{ dst := some 10, op := .binOp .lss 3 (.tmp 9) (.tmp 6) 3, type := 0, pos := "", after := #[], guard := none }] false) _) :: .inLoop (Seq.round x) :: .inBlock 1 :: k) l) u := h
  have h2 := h1.ctl hz hS hH fun z => stepG_seq
  have h3 := h2.reg hz hS hH [0] rfl
  have h4 := h3.val hz hS hH (i := 0) rfl rfl (run_lss _ _ _ _ _ _ _ _ _ i n h9 h6)
  have h5 := h4.ctl hz hS hH fun z => stepG_region_end
  have h6' := h5.ctl hz hS hH fun z => stepG_seq
  have h7 := h6'.ctl hz hS hH fun z => stepG_cond (t := decide ((i : Int) < n)) (by
    show (A.setIfInBounds 10 _).getD 10 undef = _
    rw [gd_set _ _ _ _ (by omega), if_pos rfl])
  by_cases hlt : i < n
  · right
    refine ⟨hlt, ?_⟩
    rw [decide_eq_true (by omega : (i : Int) < n)] at h7
    have h8 := h7.ctl hz hS hH fun z => stepG_skip
    have h9' := h8.ctl hz hS hH fun z => stepG_seq
    have h10 := h9'.reg hz hS hH [0, 1, 2, 3, 4, 5] rfl
    have h11 := h10.val hz hS hH (i := 0) rfl rfl rfl
    have a1 : ((A.setIfInBounds 10 (.bool true)).setIfInBounds 11 ((A.setIfInBounds 10 (.bool true)).getD x undef)).getD 11 undef = .slice aX n cap := by
      rw [gd_set _ _ _ _ (by simp; omega), if_pos rfl, gd_set _ _ _ _ (by omega), if_neg (by omega), hX]
    have a2 : ((A.setIfInBounds 10 (.bool true)).setIfInBounds 11 ((A.setIfInBounds 10 (.bool true)).getD x undef)).getD 9 undef = .int .i64 i := by
      rw [gd_set _ _ _ _ (by simp; omega), if_neg (by omega), gd_set _ _ _ _ (by omega), if_neg (by omega), h9]
    obtain ⟨v, w1, e1, h12⟩ := h11.opt hz hS hH (i := 1) rfl rfl (run_indexAddr ..)
    have e1' : (Instr.indexAt 23 (.slice aX n cap) (.int .i64 i)).run Seq.prog (W0 (W0 (W0 (W0 (W0 (W0 (W0 (W0 (W0 u))))))))) = .ok v w1 := by
      rw [← a1, ← a2]; exact e1
    obtain ⟨ad, rfl, rfl, rfl⟩ := index_inv hlt e1'
    clear e1 e1'
    obtain ⟨A2, hA2⟩ : ∃ A2, A2 = (((A.setIfInBounds 10 (.bool true)).setIfInBounds 11 ((A.setIfInBounds 10 (.bool true)).getD x undef)).setIfInBounds 12 (.pointer (some (ad.add i)))) := ⟨_, rfl⟩
    have z2 : A2.size = 20 := by rw [hA2]; simp [hA]
    have b12 : A2.getD 12 undef = .pointer (some (ad.add i)) := by rw [hA2, gd_set _ _ _ _ (by simp; omega), if_pos rfl]
    have b0 : ∀ y, y ≠ 10 → y ≠ 11 → y ≠ 12 → A2.getD y undef = A.getD y undef := fun y y1 y2 y3 => by
      rw [hA2, gd_set _ _ _ _ (by simp; omega), if_neg (by omega), gd_set _ _ _ _ (by simp; omega), if_neg (by omega), gd_set _ _ _ _ (by omega), if_neg (by omega)]
    have h12' := h12.cast hA2.symm
    clear h12 hA2 a1 a2 h11
    have hu : ∀ X : Operand, True := fun _ => trivial
    obtain ⟨n2, w2, e2, h13⟩ := h12'.opr hz hS hH (i := 2) rfl rfl
    have e2b := (run_eql ..).symm.trans e2
    have e2' : (((eqGuard .eql 100 (.tmp 12) (.tmp 19) (.pointer (some (ad.add i))) (.pointer (some q))).run Seq.prog (W0 (W0 (W0 (W0 (W0 (W0 (W0 (W0 (W0 (W0 u))))))))))).andThen fun _ w0 => ((binOp .eql 100 (.pointer (some (ad.add i))) (.pointer (some q))).run Seq.prog w0).andThen fun v w' => Result.ok (Next.value v) w') = .ok n2 w2 := by
      rw [← b12, ← (b0 19 (by omega) (by omega) (by omega)).trans hq]; exact e2b
    have hn2 : ∃ b, n2 = .value (.bool b) := by
      have hg : (eqGuard .eql 100 (.tmp 12) (.tmp 19) (.pointer (some (ad.add i))) (.pointer (some q))).run Seq.prog (W0 (W0 (W0 (W0 (W0 (W0 (W0 (W0 (W0 (W0 u)))))))))) = .ok () (W0 (W0 (W0 (W0 (W0 (W0 (W0 (W0 (W0 (W0 u)))))))))) := rfl
      rw [hg] at e2'
      simp only [Result.andThen, binOp_uptr under_uptr] at e2'
      cases hs : (sameAddr (ad.add i) q).run Seq.prog (W0 (W0 (W0 (W0 (W0 (W0 (W0 (W0 (W0 (W0 u)))))))))) with
      | ok b y => rw [hs] at e2'; simp at e2'; exact ⟨b, e2'.1.symm⟩
      | halt y y' => rw [hs] at e2'; cases e2'
    obtain ⟨b, rfl⟩ := hn2
    obtain ⟨b', e3⟩ := eql_inv e2'
    have hb' : (ad.add i).block ≠ q.block := by
      have : (ad.add i).block = ad.block := by unfold Addr.add; split <;> rfl
      rw [this]; exact hb ad rfl
    have hv := noView_inv hb' e3
    have hh2 := same_heap e3
    have h14 := h13 _ rfl
    clear e2 e2b e2' e3 h13
    obtain ⟨v4, w4, e4, h15⟩ := h14.opt hz hS hH (i := 3) rfl rfl (run_load ..)
    have e4' : (Instr.loadAt 9 (.pointer (some (ad.add i)))).run Seq.prog (W0 w2) = .ok v4 w4 := by
      rw [← b12, ← show (A2.setIfInBounds 16 (.bool b)).getD 12 undef = A2.getD 12 undef by rw [gd_set _ _ _ _ (by omega), if_neg (by omega)]]
      exact e4
    obtain ⟨hc, rfl⟩ := load_str_inv (fun s t => by
      show w2.heap[_]? ≠ _
      rw [hh2]; exact hv s t) e4'
    have hcu : u.cell? (ad.add i) = some v4 := by
      rw [← hc]
      exact (cell_heap (w := u) (w' := W0 w2) hh2 _).symm
    obtain ⟨A3, hA3⟩ : ∃ A3, A3 = ((A2.setIfInBounds 16 (.bool b)).setIfInBounds 13 v4) := ⟨_, rfl⟩
    have z3 : A3.size = 20 := by rw [hA3]; simp [z2]
    have c13 : A3.getD 13 undef = v4 := by rw [hA3, gd_set _ _ _ _ (by simp; omega), if_pos rfl]
    have c0 : ∀ y, y ≠ 10 → y ≠ 11 → y ≠ 12 → y ≠ 16 → y ≠ 13 → A3.getD y undef = A.getD y undef := fun y y1 y2 y3 y4 y5 => by
      rw [hA3, gd_set _ _ _ _ (by simp; omega), if_neg (by omega), gd_set _ _ _ _ (by omega), if_neg (by omega)]
      exact b0 y y1 y2 y3
    have h15' := h15.cast hA3.symm
    clear h15 h14 hA3 e4 e4' hc
    exact round_rest hH z3 c13 c0 h6 h9 hin hn hlt hcu (hh2) h15'
  · left
    have hi : i = n := by omega
    subst hi
    refine ⟨rfl, ?_⟩
    rw [decide_eq_false (by omega : ¬ ((i : Int) < i))] at h7
    have h8 := h7.ctl hz hS hH fun z => stepG_exit (k' := k) rfl
    refine ⟨_, _, ?_, ?_, ?_, h8⟩
    · simp [Act.put, hA]
    · intro y hy
      show (A.setIfInBounds 10 _).getD y undef = _
      rw [gd_set _ _ _ _ (by omega), if_neg (by omega)]
    · rfl
end
end Go.Proofs.Ythifdfbdekkmgaa

/- What code.sums' stub was handed, by a run that comes to its stop. -/
namespace Go.Proofs.Ythifdfbdekkmgaa
open Go.Conc
set_option linter.unusedVariables false
set_option linter.unusedSectionVars false
section
variable {Stop : Goroutine → World → Prop} {l : List Frame} {k : List Item}
/-- The rounds from i on. -/
theorem test_rounds (hH : Halts Seq.prog Stop) {x : Nat} (hx : x < 2) {aX : Option Addr} {n cap : Nat} {q : Addr} (hn : n ≤ 64) (hb : ∀ ad, aX = some ad → ad.block ≠ q.block) :
    ∀ (m i : Nat) (A : Array Value) (u : World), n - i = m → i ≤ n → A.size = 20 → A.getD x undef = .slice aX n cap → A.getD 6 undef = .int .i64 n → A.getD 9 undef = .int .i64 i → A.getD 19 undef = .pointer (some q) →
      Well Seq.prog Stop (Sx Seq.prog 22 A (.code (Seq.round x) :: .inLoop (Seq.round x) :: .inBlock 1 :: k) l) u →
      (∀ j, i ≤ j → j < n → ∃ ad s, aX = some ad ∧ u.cell? (ad.add j) = some (.string s) ∧ s.size ≤ 100000000) ∧
      ∃ A' u', A'.size = 20 ∧ (∀ y, (y < 5 ∨ 17 < y) → A'.getD y undef = A.getD y undef) ∧ u'.heap = u.heap ∧ Well Seq.prog Stop (Sx Seq.prog 22 A' k l) u' := by
  intro m
  induction m with
  | zero =>
    intro i A u hm hi hA hX h6 h9 hq h
    rcases test_round hH hx hA hX h6 h9 hq hi hn hb h with ⟨_, A', u', h1, h2, h3, h4⟩ | ⟨hlt, _⟩
    · exact ⟨fun j h1 h2 => by omega, A', u', h1, h2, h3, h4⟩
    · omega
  | succ m ih =>
    intro i A u hm hi hA hX h6 h9 hq h
    rcases test_round hH hx hA hX h6 h9 hq hi hn hb h with ⟨e, _⟩ | ⟨hlt, A', u', h1, h2, h3, h4, h5, h6', h7⟩
    · omega
    · obtain ⟨k1, A2, u2, k2, k3, k4, k5⟩ := ih (i + 1) A' u' (by omega) (by omega) h1 ((h2 x (by omega)).trans hX) h3 h4 ((h2 19 (by omega)).trans hq) h7
      refine ⟨fun j j1 j2 => ?_, A2, u2, k2, fun y hy => (k3 y hy).trans (h2 y hy), k4.trans h5, k5⟩
      by_cases e : j = i
      · subst e
        exact h6'
      · obtain ⟨ad, s, e1, e2, e3⟩ := k1 j (by omega) j2
        exact ⟨ad, s, e1, (cell_heap h5 _) ▸ e2, e3⟩
/-- One slice that was looked at. -/
theorem test_inv (hH : Halts Seq.prog Stop) {x : Nat} (hx : x < 2) {A : Array Value} {u : World} {q : Addr} (hA : A.size = 20) (hq : A.getD 19 undef = .pointer (some q)) (hb : ∀ ad n c, A.getD x undef = .slice (some ad) n c → ad.block ≠ q.block)
    (h : Well Seq.prog Stop (Sx Seq.prog 22 A (.code (Seq.test x) :: k) l) u) :
    ∃ aX cap ss, A.getD x undef = .slice aX ss.length cap ∧ ss.length ≤ 64 ∧ TX u aX ss ∧ (∀ s ∈ ss, s.size ≤ 100000000) ∧
      ∃ A' u', A'.size = 20 ∧ (∀ y, (y < 5 ∨ 17 < y) → A'.getD y undef = A.getD y undef) ∧ u'.heap = u.heap ∧ Well Seq.prog Stop (Sx Seq.prog 22 A' k l) u' := by
  obtain ⟨aX, n, cap, A', hX, hn, z, h0, h6, h9, u', hh, hw⟩ := test_head hH hx hA h
  obtain ⟨hc, A2, u2, z2, k2, hh2, hw2⟩ := test_rounds hH hx (n := n) (cap := cap) (q := q) hn (fun ad e => hb ad n cap (by rw [hX, e])) n 0 A' u' (by omega) (by omega) z ((h0 x (by omega) (by omega) (by omega) (by omega)).trans hX) h6 h9
    ((h0 19 (by omega) (by omega) (by omega) (by omega)).trans hq) hw
  have hcell : ∀ j, j < n → ∃ ad s, aX = some ad ∧ u.cell? (ad.add j) = some (.string s) ∧ s.size ≤ 100000000 := fun j hj => by
    obtain ⟨ad, s, e1, e2, e3⟩ := hc j (Nat.zero_le _) hj
    exact ⟨ad, s, e1, (cell_heap hh _) ▸ e2, e3⟩
  obtain ⟨f, hf⟩ : ∃ f : Nat → ByteArray, ∀ j, j < n → ∃ ad, aX = some ad ∧ u.cell? (ad.add j) = some (.string (f j)) ∧ (f j).size ≤ 100000000 := by
    refine ⟨fun j => if h : j < n then Classical.choose (Classical.choose_spec (hcell j h)) else ByteArray.empty, fun j hj => ?_⟩
    have := Classical.choose_spec (Classical.choose_spec (hcell j hj))
    exact ⟨_, this.1, by simp only [dif_pos hj]; exact this.2.1, by simp only [dif_pos hj]; exact this.2.2⟩
  have hlen : ((List.range n).map f).length = n := by simp
  refine ⟨aX, cap, (List.range n).map f, by rw [hlen]; exact hX, by rw [hlen]; exact hn, ?_, fun s hs => ?_, A2, u2, z2, fun y hy => (k2 y hy).trans (h0 y (by omega) (by omega) (by omega) (by omega)), hh2.trans hh, hw2⟩
  · rcases Nat.eq_zero_or_pos n with e | e
    · left; subst e; rfl
    · right
      obtain ⟨ad, e1, e2, _⟩ := hf 0 e
      obtain ⟨b, o, spot⟩ := ad
      have hs : spot = none := by
        have h0 : (Addr.mk b o spot).add 0 = ⟨b, o, spot⟩ := by unfold Addr.add; rfl
        rw [h0] at e2
        unfold World.cell? at e2
        cases spot with
        | none => rfl
        | some p =>
          exfalso
          simp only [Option.isSome_some, ↓reduceIte] at e2
          split at e2 <;> cases e2
      subst hs
      refine ⟨b, o, e1, fun i hi => ?_⟩
      rw [hlen] at hi
      obtain ⟨ad', e1', e2', _⟩ := hf i hi
      rw [e1] at e1'
      cases e1'
      have hadd : (Addr.mk b o none).add i = ⟨b, o + i, none⟩ := by
        unfold Addr.add
        split
        · rename_i e; rw [e]; rfl
        · rfl
      rw [hadd] at e2'
      rw [e2']
      simp [List.getD_eq_getElem?_getD, hi]
  · obtain ⟨j, hj, rfl⟩ := List.mem_map.1 hs
    obtain ⟨_, _, _, e3⟩ := hf j (List.mem_range.1 hj)
    exact e3
theorem run_alloc (Q : Program) (hQ : ∀ w : World, (Go.zeroValue 9).run Q w = .ok (.string ByteArray.empty) w) (hs : ∀ w : World, (Go.sizeOf 9).run Q w = .ok 1 w) (e : Operand → Value) (d : Option Tmp) (w : World) :
    (execOp e { dst := d, op := .alloc 9, type := 0, pos := "", after := #[], guard := none }).run Q w = .ok (.value (.pointer (some ⟨w.heap.size, 0, none⟩))) (w.alloc (.cells #[.string ByteArray.empty] 9)) := by
  simp [execOp, Instr.alloc, hQ, Result.andThen]
  rfl
theorem zero_str (w : World) : (Go.zeroValue 9).run Seq.prog w = .ok (.string ByteArray.empty) w := (wig_zeroValue _ w).trans (Try.zeroValue9 w)
theorem tx_old {u v : World} {aX : Option Addr} {ss : List ByteArray} (hb : ∀ ad, aX = some ad → ad.block < u.heap.size) (hv : ∀ b, b < u.heap.size → v.heap[b]? = u.heap[b]?) (h : TX v aX ss) : TX u aX ss := by
  rcases h with h | ⟨b, o, e, h⟩
  · exact .inl h
  · refine .inr ⟨b, o, e, fun i hi => ?_⟩
    rw [← h i hi]
    unfold World.cell?
    rw [hv b (hb _ e)]
theorem self_block {r : Ren} {u : World} {a : Array Value} (hr : HR Seq.prog (fun _ => False) r u u) (ha : AR r a a) {x : Nat} {ad : Addr} {n c : Nat} (e : (a ++ Array.replicate (20 - a.size) undef).getD x undef = .slice (some ad) n c) : ad.block < u.heap.size := by
  have hA : AR r (a ++ Array.replicate (20 - a.size) undef) (a ++ Array.replicate (20 - a.size) undef) := pad_alike ha 20
  have hv := hA.getD x (.undef r)
  rw [e] at hv
  obtain ⟨b, o, s⟩ := ad
  cases hv with
  | slice _ _ h => exact (hr.lt h).1
set_option maxRecDepth 100000 in
/-- What came in. -/
theorem in_inv (hH : Halts Seq.prog Stop) {a : Array Value} {u : World} {r : Ren} (ha : a.size = 2) (hr : HR Seq.prog (fun _ => False) r u u) (hA : AR r a a)
    (h : Well Seq.prog Stop (Sx Seq.prog 22 (a ++ Array.replicate (20 - a.size) undef) [.code Seq.code] l) u) :
    ∃ aR capR rows aL cap ss, a = #[.slice aR rows.length capR, .slice aL ss.length cap] ∧ rows.length ≤ 64 ∧ ss.length ≤ 64 ∧ TX u aR rows ∧ TX u aL ss ∧ (∀ s ∈ rows, s.size ≤ 100000000) ∧ (∀ s ∈ ss, s.size ≤ 100000000) := by
  have hz := Seq.zs2
  have hS := Seq.lone
  obtain ⟨A, hAA⟩ : ∃ A, A = a ++ Array.replicate (20 - a.size) undef := ⟨_, rfl⟩
  have hsz : A.size = 20 := by rw [hAA]; simp [ha]
  have hblk : ∀ x ad n c, A.getD x undef = .slice (some ad) n c → ad.block < u.heap.size := fun x ad n c e => self_block hr hA (by rw [← hAA]; exact e)
  have h0 := h.cast hAA.symm
  have e0 : A.getD 0 undef = a.getD 0 undef := by
    rw [hAA, Array.getD_eq_getD_getElem?, Array.getD_eq_getD_getElem?, Array.getElem?_append_left (by omega)]
  have e1 : A.getD 1 undef = a.getD 1 undef := by
    rw [hAA, Array.getD_eq_getD_getElem?, Array.getD_eq_getD_getElem?, Array.getElem?_append_left (by omega)]
  clear h hAA
  have h1 : Well Seq.prog Stop (Sx Seq.prog 22 A (.code (.seq (.region 0 #[{ dst := some 4, op := .assign (.const (.slice none 0 0)), type := 23, pos := "", after := #[], guard := none }] false) _) :: []) l) u := h0
  have h2 := h1.ctl hz hS hH fun z => stepG_seq
  have h3 := h2.reg hz hS hH [0] rfl
  have h4 := h3.val hz hS hH (i := 0) rfl rfl rfl
  have h5 := h4.ctl hz hS hH fun z => stepG_region_end
  have h6 := h5.ctl hz hS hH fun z => stepG_seq
  have h7 := h6.reg hz hS hH [0] rfl
  have h8 := h7.val hz hS hH (i := 0) rfl rfl (run_alloc Seq.prog zero_str size_str _ _ _)
  have h9 := h8.ctl hz hS hH fun z => stepG_region_end
  have h10 := h9.ctl hz hS hH fun z => stepG_seq
  obtain ⟨A1, hA1⟩ : ∃ A1, A1 = (A.setIfInBounds 4 (.slice none 0 0)).setIfInBounds 19 (.pointer (some ⟨u.heap.size, 0, none⟩)) := ⟨_, rfl⟩
  have z1 : A1.size = 20 := by rw [hA1]; simp [hsz]
  have q1 : A1.getD 19 undef = .pointer (some ⟨u.heap.size, 0, none⟩) := by rw [hA1, gd_set _ _ _ _ (by simp; omega), if_pos rfl]
  have k1 : ∀ y, y < 2 → A1.getD y undef = A.getD y undef := fun y hy => by
    rw [hA1, gd_set _ _ _ _ (by simp; omega), if_neg (by omega), gd_set _ _ _ _ (by omega), if_neg (by omega)]
  have h11 := h10.cast (B := A1) hA1.symm
  obtain ⟨u1, hu1, hh1⟩ : ∃ u1, Well Seq.prog Stop (Sx Seq.prog 22 A1 (.code (Seq.test 0) :: .code (.seq (Seq.test 1) Seq.sums) :: []) l) u1 ∧ u1.heap = u.heap.push (.cells #[.string ByteArray.empty] 9) := ⟨_, h11, rfl⟩
  clear h11 h10 h9 h8 h7 h6 h5 h4 h3 h2 h1 h0 hA1
  have hold : ∀ b, b < u.heap.size → u1.heap[b]? = u.heap[b]? := fun b hb => by rw [hh1, Array.getElem?_push, if_neg (by omega)]
  obtain ⟨aR, capR, rows, r1, r2, r3, r4, A2, u2, z2, k2, hh2, hw2⟩ := test_inv hH (x := 0) (by omega) z1 q1 (fun ad n c e => by have := hblk 0 ad n c ((k1 0 (by omega)) ▸ e); show ad.block ≠ u.heap.size; omega) hu1
  have h12 := hw2.ctl hz hS hH fun z => stepG_seq
  obtain ⟨aL, cap, ss, s1, s2, s3, s4, A3, u3, z3, k3, hh3, hw3⟩ := test_inv hH (x := 1) (by omega) z2 ((k2 19 (by omega)).trans q1) (fun ad n c e => by have := hblk 1 ad n c ((k1 1 (by omega)) ▸ (k2 1 (by omega)) ▸ e); show ad.block ≠ u.heap.size; omega) h12
  have f0 : a.getD 0 undef = .slice aR rows.length capR := by rw [← e0, ← k1 0 (by omega)]; exact r1
  have f1 : a.getD 1 undef = .slice aL ss.length cap := by rw [← e1, ← k1 1 (by omega), ← k2 1 (by omega)]; exact s1
  refine ⟨aR, capR, rows, aL, cap, ss, ?_, r2, s2, tx_old (fun ad e => ?_) hold r3, tx_old (fun ad e => ?_) (fun b hb => ?_) s3, r4, s4⟩
  · apply Array.ext
    · rw [ha]; rfl
    · intro i i1 i2
      rw [Array.getD_eq_getD_getElem?, Array.getElem?_eq_getElem (by omega)] at f0 f1
      match i with
      | 0 => exact f0
      | 1 => exact f1
      | i + 2 => omega
  · exact hblk 0 ad rows.length capR (by rw [e0, f0, e])
  · exact hblk 1 ad ss.length cap (by rw [e1, f1, e])
  · rw [show (W0 u2).heap = u2.heap from rfl, hh2]; exact hold b hb
end
end Go.Proofs.Ythifdfbdekkmgaa

/- A run of the one alone, as what comes to its stop. -/
namespace Go.Proofs.Ythifdfbdekkmgaa
open Go.Conc
set_option linter.unusedVariables false
set_option linter.unusedSectionVars false
section
variable {Q : Program} [NoCx Q] {Stop : Goroutine → World → Prop}
theorem Well.onT (hz : Zs Q) (hS : Fits Q true Q.funcs (fun _ => False) (fun _ => false)) (hH : Halts Q Stop) {g : Goroutine} {u : World} (h : Well Q Stop g u) (hd : ¬ Done [trap Q] g) (τ : Tape) :
    ∃ g' u' es, stepG Q true g (W2 u τ 0) = .go g' u' es ∧ Well Q Stop g' u' := by
  obtain ⟨hw, hL⟩ := h
  cases hw with
  | stop hs => exact absurd (hH.out _ _ hs) hd
  | step nx nw h1 h2 =>
    obtain ⟨es, e⟩ := h1 τ
    rcases step_same hz hS (hL.tape τ 0) hd with ⟨o, u', es', e'⟩ | ⟨g', u', es', e', hp | ⟨hL', _, _⟩⟩
    · rw [e] at e'; cases e'
    · rw [e] at e'; cases e'
      exact absurd hp ((h2 τ).calm hH)
    · rw [e] at e'; cases e'
      exact ⟨_, _, _, e, h2 τ, hL'⟩
/-- Who is out stays out. -/
theorem done_runs {g g' : Goroutine} {u u' : World} {n : Nat} (hfn : ∀ f a todo, g = G (fz f a todo true) [trap Q] → ∃ fn, Q.funcs[f]? = some fn) (hd : Done [trap Q] g) (h : Runs Q n g u g' u') : g'.callers = [trap Q] ∨ g'.callers = [] := by
  obtain ⟨f, a, todo, rfl⟩ := hd
  obtain ⟨fn, hf⟩ := hfn f a todo rfl
  cases h with
  | nil => exact .inl rfl
  | cons e h =>
    rw [step_back hf] at e
    cases hr : (Go.results fn a).run Q u with
    | halt x y => rw [hr] at e; cases x <;> cases e
    | ok v z =>
      rw [hr] at e
      obtain ⟨x, y, _⟩ := GStep.go.inj e
      rw [← x, ← y] at h
      cases h with
      | nil => exact .inr rfl
      | cons e2 _ =>
        obtain ⟨o, z', es', e3⟩ := trap_next (Q := Q) v z
        rw [e3] at e2
        cases e2
theorem li_fn {g : Goroutine} {u : World} (h : LI Q [trap Q] g u) : ∀ f a todo, g = G (fz f a todo true) [trap Q] → ∃ fn, Q.funcs[f]? = some fn := by
  intro f a todo e
  obtain ⟨r, f', a', t', b', l', e2, _, hg, _⟩ := h
  rw [e] at e2
  have : f = f' := by
    have := congrArg (fun g => g.frame.fn) e2
    exact this
  rw [this]
  exact hg.2
/-- A run, step by step, whatever answers lie behind. -/
theorem desc_of (hz : Zs Q) (hS : Fits Q true Q.funcs (fun _ => False) (fun _ => false)) (hH : Halts Q Stop) {n : Nat} {g g' : Goroutine} {u u' : World} (h : Runs Q n g u g' u') (h1 : g'.callers ≠ [trap Q]) (h2 : g'.callers ≠ []) :
    ∀ (T : Tape) (D : Nat), Well Q Stop g (W2 u T D) → ∃ T' D', Desc Q Stop g (W2 u T D) g' (W2 u' T' D') ∧ Well Q Stop g' (W2 u' T' D') := by
  induction h with
  | nil => exact fun T D hw => ⟨T, D, .self, hw⟩
  | cons e h ih =>
    rename_i n g g1 g' u u1 u' es
    intro T D hw
    have hd : ¬ Done [trap Q] g := fun hd => by
      rcases done_runs (li_fn hw.li) hd (.cons e h) with x | x
      · exact h1 x
      · exact h2 x
    have hns : ¬ Stop g (W2 u T D) := fun hs => hd (hH.out _ _ hs)
    obtain ⟨τ, hτ⟩ : ∃ τ : Tape, τ = fun i q => u.tape (u.drawn + i) q := ⟨_, rfl⟩
    obtain ⟨g2, u2, es2, e2, hw2⟩ := hw.onT hz hS hH hd τ
    have hL : LI Q [trap Q] g (W2 (W2 u T D) τ 0) := hw.li.tape τ 0
    have hnat := step_nat hz hS hL hd g2 u2 es2 e2 (hw2.will.calm hH) u.tape u.drawn (fun i q hi => by
      show τ (0 + i) q = _
      rw [hτ, Nat.zero_add])
    obtain ⟨es3, e3⟩ := hnat
    have e4 : stepG Q true g u = .go g2 (W2 u2 u.tape (u.drawn + (u2.drawn - (W2 (W2 u T D) τ 0).drawn))) es3 := e3
    rw [e] at e4
    have e5 : g1 = g2 ∧ u1 = W2 u2 u.tape (u.drawn + (u2.drawn - (W2 (W2 u T D) τ 0).drawn)) := by
      injection e4 with x y _
      exact ⟨x, y⟩
    obtain ⟨rfl, hu1⟩ := e5
    have hu2 : u2 = W2 u1 u2.tape u2.drawn := by rw [hu1]; rfl
    obtain ⟨T', D', hdesc, hwell⟩ := ih h1 h2 u2.tape u2.drawn (hu2 ▸ hw2)
    refine ⟨T', D', .next hns e2 ?_, hwell⟩
    rw [← hu2] at hdesc
    exact hdesc
end
end Go.Proofs.Ythifdfbdekkmgaa

