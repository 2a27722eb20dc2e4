/- A new map; a copy of rows; rows are turned from one thing to another one; a map is loaded. -/
import Derived.Test.YtleohicgbpebnaaAllocCode2
import Derived.Test.YtleohicgbpebnaaRepeatB
import Derived.Lib.LazyBuf
namespace Go.Proofs.Ytleohicgbpebnaa
open Go.RowKit
set_option linter.unusedVariables false
theorem size_up (w : World) (o : Obj) : (w.alloc o).heap.size = w.heap.size + 1 := by simp
/-- A new map was answered: its rows are told by f. -/
def GotMap (n : Nat) (f : Nat → Nat) (w : World) (e : Ending) (w' : World) : Prop := ∃ g c cap, e = .returned (.tuple #[.pointer (some ⟨g, 0, none⟩), .int .i64 0]) ∧ MapAt g c n cap f w' ∧ w.heap.size ≤ g ∧ w.heap.size ≤ c ∧ Kept w w'
/-- There may be so many rows. -/
def mayRows (r : Int) : Bool := decide (0 ≤ r ∧ r ≤ 4096)
set_option maxRecDepth 100000 in
theorem new_bad (r : Int) (h : mayRows r = false) (w : World) :
    Calls Try.prog 11 #[.int .i64 r] w fun e w' => e = .returned (.tuple #[.pointer none, .int .i64 2]) ∧ Kept w w' := by
  have h2 : ¬ (0 ≤ r ∧ r ≤ 4096) := of_decide_eq_false h
  by_cases hneg : r < 0
  · have hb : decide (r < 0) = true := decide_eq_true hneg
    clear h h2 hneg
    go_enter Try.func11, Try.ntmps11
    go_wp2_with fail
    go_ret2
    exact ⟨rfl, Kept.refl _⟩
  · have hb : decide (r < 0) = false := decide_eq_false hneg
    have hb2 : decide (4096 < r) = true := decide_eq_true (by omega)
    clear h h2 hneg
    go_enter Try.func11, Try.ntmps11
    go_wp2_with fail
    go_ret2
    exact ⟨rfl, Kept.refl _⟩
theorem repL_rows (x c n : Nat) (w : World) (h : w.heap[c]? = some (.cells (repL (x : Nat) n n).toArray 5 (0, 0))) : RowsT c n (fun _ => x) w := by
  refine ⟨fun j hj => ?_, fun j hj => frozen_of_row _ _ _ _ _ h⟩
  rw [cell_of_row _ _ j _ _ _ h]
  simpa using repL_get (x : Nat) n n j hj (Nat.le_refl _)
set_option maxHeartbeats 1000000 in
set_option maxRecDepth 100000 in
theorem new_ok (n : Nat) (hn : n ≤ 4096) (w : World) :
    Calls Try.prog 11 #[.int .i64 (n : Nat)] w fun e w' => GotMap n (fun _ => 1) w e w' := by
  have hb : decide ((n : Int) < 0) = false := decide_eq_false (by omega)
  have hb2 : decide (4096 < (n : Int)) = false := decide_eq_false (by omega)
  have HREP := Lib.hid (repeat_any w.heap.size n 1 (by omega) (w.alloc (.cells #[.int .u8 1] 5)) (by rw [World.cell?_alloc_mark]; rfl))
  go_enter Try.func11, Try.ntmps11
  go_wp2_with fail
  refine HREP.out.mono ?_
  rintro e w1 ⟨rfl, hK1, hG1⟩
  have HK1 : Hid (Kept w w1) := Kept.trans ((Kept.refl _).alloc _) hK1
  obtain ⟨c, hc⟩ : ∃ c, (w.alloc (.cells #[.int .u8 1] 5)).heap.size = c := ⟨_, rfl⟩
  rw [hc] at hG1 ⊢
  have HC : Hid (w.heap.size ≤ c ∧ c < w1.heap.size) := ⟨by rw [← hc, size_up]; omega, (Array.getElem?_eq_some_iff.1 hG1).1⟩
  have HR := Lib.hid (repL_rows 1 c n w1 hG1)
  clear hK1 hG1 HREP hc
  go_wp2_with fail
  go_ret2
  have hA : Kept w1 (w1.alloc (.cells #[.bool true, .slice (some ⟨c, 0, none⟩) n n] 59)) := (Kept.refl _).alloc _
  refine ⟨w1.heap.size, c, n, rfl, ⟨by rw [World.cell?_alloc_mark]; rfl, by rw [World.cell?_alloc_mark]; rfl, by rw [World.frozen?_alloc_mark]; simp, HR.out.block (hA.block c HC.out.2), fun j _ => by omega, hn, Nat.le_refl _, Nat.ne_of_lt HC.out.2, by rw [size_up]; have := HC.out.2; omega⟩, HK1.out.size, HC.out.1, HK1.out.alloc _⟩
/-- The cells of n rows. -/
def rowC (n : Nat) (f : Nat → Nat) : List Value := (List.range n).map fun j => Value.int .u8 (f j : Nat)
theorem rowC_length (n : Nat) (f : Nat → Nat) : (rowC n f).length = n := by simp [rowC]
theorem rowC_get (n : Nat) (f : Nat → Nat) (j : Nat) (h : j < n) : (rowC n f)[j]? = some (.int .u8 (f j : Nat)) := by
  unfold rowC
  rw [List.getElem?_map, List.getElem?_range h]; rfl
theorem rows_owned {B n : Nat} {f : Nat → Nat} {v : Value} {w : World} (h : w.ownsRow B 5 1 v n (rowC n f)) : (v = .slice none 0 0 ∧ n = 0) ∨ ∃ c cap, v = .slice (some ⟨c, 0, none⟩) n cap ∧ B ≤ c ∧ c < w.heap.size ∧ n ≤ cap ∧ cap ≤ maxLen ∧ RowsT c n f w := by
  obtain ⟨h1, h2⟩ := h
  rcases h2 with h2 | ⟨g, cap, cur, rfl, h3, h4, h5, h6, h7, h8⟩
  · exact .inl h2
  · refine .inr ⟨g, cap, rfl, h3, (Array.getElem?_eq_some_iff.1 h4).1, h5, h6, fun j hj => ?_, fun j hj => frozen_of_row _ _ _ _ _ h4⟩
    rw [cell_of_row _ _ j _ _ _ h4]
    have e : (cur.toList.take (n * 1))[j]? = (rowC n f)[j]? := by rw [h8]
    rw [List.getElem?_take_of_lt (by omega)] at e
    rw [← Array.getElem?_toList, e, rowC_get n f j hj]
theorem info_u8' : (Try.prog.info? 5).map (fun i => (i.zero, i.size, i.bytes)) = some (some (.int .u8 0), 1, 1) := info_u8
set_option maxHeartbeats 1000000 in
set_option maxRecDepth 100000 in
theorem clone_any (c n cap : Nat) (f : Nat → Nat) (hn : n ≤ 1000000) (w : World) (h : RowsT c n f w) :
    Calls Try.prog 33 #[.slice (some ⟨c, 0, none⟩) n cap] w fun e w' => ∃ c' cap', e = .returned (.slice (some ⟨c', 0, none⟩) n cap') ∧ w.heap.size ≤ c' ∧ c' < w'.heap.size ∧ n ≤ cap' ∧ RowsT c' n f w' ∧ Kept w w' := by
  have HR := Lib.hid h
  obtain ⟨i0, hi, hzz⟩ := Option.map_eq_some_iff.1 info_u8
  simp only [Prod.mk.injEq] at hzz
  have HI := Lib.hid hi
  have HZ := Lib.hid hzz
  have HM : Hid ((w.alloc (.cells #[] 5)).ownsRow w.heap.size 5 1 (.slice (some ⟨w.heap.size, 0, none⟩) 0 0) 0 []) := World.ownsRow_made w #[] 0 (Nat.le_refl _) (Nat.zero_le _) rfl
  have HC : Hid (∀ j u, (rowC n f)[j]? = some u → (w.alloc (.cells #[] 5)).cell? ((⟨c, 0, none⟩ : Addr).add j) = some u) := fun j u hj => by
    have hjl : j < n := by
      have := (List.getElem?_eq_some_iff.1 hj).1
      rwa [rowC_length] at this
    rw [rowC_get n f j hjl] at hj
    rw [add_at, Below.cell (p := ⟨c, j, none⟩) (Kept.alloc (Kept.refl w) _) (block_lt_of_cell (HR.out.cell j hjl)), HR.out.cell j hjl]
    exact hj
  clear h hi hzz
  have hnil : ∀ W : World, (binOp .eql 43 (.slice (some ⟨c, 0, none⟩) n cap) (.slice none 0 0)).run Try.prog W = .ok (.bool false) W := fun W => run_eql_slice_nil (P := Try.prog) W 43 5 (some ⟨c, 0, none⟩) n cap Try.underlying43
  go_enter Try.func33, Try.ntmps33
  go_wp2_with (at_builtin; refine wpList_append_own _ rfl (.tmp 5) (.tmp 6) 43 rfl w.heap.size 5 i0 (.int .u8 0) 1 1 Try.underlying43 HI.out HZ.out.1 HZ.out.2.1 HZ.out.2.2 rfl (by decide) _ 0 [] (by rfl) HM.out ⟨c, 0, none⟩ n cap (rowC n f) (by rfl) (by rw [rowC_length, Nat.mul_one]) HC.out (fun u hu => by obtain ⟨r, _, rfl⟩ := List.mem_map.1 hu; rfl) (by unfold maxLen; omega) (by omega) (by rw [size_up]; omega) ?_; intro v' w' h2 h3 h4)
  go_wp2_with fail
  go_ret
  have h2' : w'.ownsRow w.heap.size 5 1 v' n (rowC n f) := by
    have h := h2
    rw [Nat.zero_add, List.nil_append] at h
    exact h
  rcases rows_owned h2' with ⟨hv, _⟩ | ⟨c', cap', hv, h5, h6, h7, h8, h9⟩
  · have := (h4.1 hv).1
    cases this
  · subst hv
    exact ⟨c', cap', rfl, h5, h6, h7, h9, Below.grown (Kept.alloc (Kept.refl w) _) h3 (Kept.alloc (Kept.refl w) _).size (fun k hk => by cases hk; exact Nat.le_refl _)⟩
set_option maxHeartbeats 2000000 in
set_option maxRecDepth 100000 in
theorem turn_any (g c n cap : Nat) (f : Nat → Nat) (x y : Nat) (hx : 1 ≤ x ∧ x ≤ 3) (hy : 1 ≤ y ∧ y ≤ 3) (hxy : x ≠ y) (a : Option Addr) (ca : Nat) (ls : List Int) (hl : ls.length ≤ maxLen) (hr : ∀ r ∈ ls, -9223372036854775808 ≤ r ∧ r ≤ 9223372036854775807) (w : World) (h : MapAt g c n cap f w) (hI : Ints .i64 w a ls) :
    Calls Try.prog 29 #[.pointer (some ⟨g, 0, none⟩), .int .u8 (x : Nat), .int .u8 (y : Nat), .slice a ls.length ca] w fun e w' => e = .returned (.int .i64 (turnE n f x ls : Nat)) ∧ Left g c n (turnF n f x y ls) w w' := by
  have HM := Lib.hid h
  have HLK := Lib.hid (lacks_any g c n cap f a ca ls hl hr w h hI)
  obtain ⟨b1, o1, hc1⟩ := ints_at hI
  have HC := Lib.hid hc1
  have HY := Lib.hid hy
  unfold maxLen at hl
  clear h hI hr hc1 hx hy
  cases hout : outB n ls
  · have HIN := Lib.hid (outB_no hout)
    have HBH : Hid (∀ k r, k < ls.length → nthI ls k = (r : Nat) → letF f y (ls.take k) r ≠ x → turnE n f x ls = 3) := fun k r h1 h2 h3 => turnE_bad hout (bad_here hxy h1 h2 h3)
    have HOK : Hid ((∀ k, k < ls.length → ∃ r : Nat, nthI ls k = r ∧ letF f y (ls.take k) r = x) → turnE n f x ls = 0) := fun h => turnE_ok hout (bad_not hxy h)
    have HNX : Hid (∀ k r, k < ls.length → nthI ls k = (r : Nat) → ∀ j, letF f y (ls.take (k + 1)) j = if j = r then y else letF f y (ls.take k) j) := fun k r h1 h2 j => letF_next f y ls k r h1 h2 j
    have HEND : Hid (ls.take ls.length = ls) := List.take_of_length_le (Nat.le_refl _)
    rw [hout] at HLK
    clear hout hxy
    generalize hm : ls.length = m at *
    have HLM := Lib.hid hm
    clear hm
    go_enter Try.func29, Try.ntmps29
    go_wp2_with (go_at_call 27; refine (none_any g _ HM.out.made).mono ?_; rintro e w1 ⟨rfl, hw1⟩; replace hw1 := hw1.symm; subst hw1)
    refine HLK.out.mono ?_
    rintro e w1 ⟨rfl, hk1⟩
    have HK1 := Lib.hid hk1
    have HM1 := Lib.hid (HM.out.kept hk1)
    have hd := HM1.out.hd
    have hn := HM1.out.nm
    clear hk1 HLK
    go_wp2_with fail
    refine (clone_any c n cap f (by omega) w1 HM1.out.rows).mono ?_
    rintro e w2 ⟨c', cap', rfl, hc2, hlt2, hcap2, hR2, hk2⟩
    have HK2 : Hid (Kept w w2) := HK1.out.trans hk2
    have HCW : Hid (w.heap.size ≤ c' ∧ c' < w2.heap.size ∧ n ≤ cap') := ⟨Nat.le_trans HK1.out.size hc2, hlt2, hcap2⟩
    have HR2 := Lib.hid hR2
    clear hk2 hc2 hlt2 hcap2 hR2
    clear hd HM1 HK1
    go_wp2_with fail
    go_loopw [26] (fun i wr => ∃ k : Nat, k ≤ m ∧ i = .int .i64 k ∧ Hid (RowsT c' n (letF f y (ls.take k)) wr ∧ Kept w wr ∧ w2.heap.size ≤ wr.heap.size ∧ ∀ j, j < k → ∃ r : Nat, nthI ls j = r ∧ letF f y (ls.take j) r = x)) (fun i _ => m - (intOf i).toNat)
    case atStart => exact ⟨0, Nat.zero_le _, rfl, by rw [List.take_zero, letF_nil]; exact HR2.out, HK2.out, Nat.le_refl _, fun j hj => by omega⟩
    case round =>
      obtain ⟨k, hk, rfl, HI⟩ := hrel
      by_cases hlt : k < m
      · obtain ⟨ha, hc⟩ := HC.out (by omega)
        have hck : wr.cell? ⟨b1, o1 + k, none⟩ = some (.int .i64 (nthI ls k)) := by
          rw [Below.cell (p := ⟨b1, o1 + k, none⟩) HI.out.2.1 (block_lt_of_cell (hc k hlt))]; exact hc k hlt
        obtain ⟨r, hr, hrn⟩ := HIN.out k hlt
        rw [hr] at hck
        have hcell := HI.out.1.cell r hrn
        have hfree := HI.out.1.free r hrn
        subst ha
        by_cases hxx : letF f y (ls.take k) r = x
        · have hb : (((letF f y (ls.take k) r : Nat) : Int) != (x : Int)) = false := by rw [hxx]; simp
          have HALL : Hid (∀ j, j < k + 1 → ∃ r : Nat, nthI ls j = r ∧ letF f y (ls.take j) r = x) := fun j hj => by
            by_cases e : j = k
            · subst e; exact ⟨r, hr, hxx⟩
            · exact HI.out.2.2.2 j (by omega)
          have HS : Hid (RowsT c' n (letF f y (ls.take (k + 1))) (wr.setCell ⟨c', r, none⟩ (.int .u8 (y : Nat))) ∧ Kept w (wr.setCell ⟨c', r, none⟩ (.int .u8 (y : Nat))) ∧ w2.heap.size ≤ (wr.setCell ⟨c', r, none⟩ (.int .u8 (y : Nat))).heap.size) :=
            ⟨(HI.out.1.set r hrn y).congr (fun j _ => HNX.out k r hlt hr j), HI.out.2.1.setCell HCW.out.1 _, by simp [World.setCell]; exact HI.out.2.2.1⟩
          generalize letF f y (ls.take k) r = z at *
          clear hc HC HI hr HNX hxx HBH
          go_wp2_with fail
          go_roundw
          case rel => exact ⟨k + 1, by omega, by go_num, HS.out.1, HS.out.2.1, HS.out.2.2, HALL.out⟩
          case measure => simp [intOf]; omega
        · have hb : (((letF f y (ls.take k) r : Nat) : Int) != (x : Int)) = true := by simp [bne]; omega
          have HE := Lib.hid (HBH.out k r hlt hr hxx)
          have HKW := Lib.hid HI.out.2.1
          generalize letF f y (ls.take k) r = z at *
          clear hc HC HI hr HNX hxx HBH
          go_wp2_with fail
          go_ret
          rw [turnF_not (by rw [HE.out]; decide), HE.out]
          exact ⟨rfl, (HM.out.kept HKW.out).left (HKW.out.upd _ _)⟩
      · obtain rfl : k = m := by omega
        have HF : Hid (ls.take k = ls) := HEND.out
        have HE := Lib.hid (HOK.out HI.out.2.2.2)
        have HKW := Lib.hid HI.out.2.1
        have HMW := Lib.hid (HM.out.kept HKW.out)
        have hcell := HMW.out.hd
        have hfree := HMW.out.fh
        have HRR := Lib.hid HI.out.1
        have HSZ := Lib.hid HI.out.2.2.1
        clear HI HNX HBH HOK
        go_wp2_with fail
        go_ret
        rw [turnF_ok HE.out, HE.out]
        rw [HF.out] at HRR
        have hgne : c' ≠ g := fun e => by have := HM.out.glt; have := HCW.out.1; omega
        have hne : ∀ o, (⟨g, 1, none⟩ : Addr) ≠ ⟨c', o, none⟩ := fun o e => hgne (by injection e with e1; exact e1.symm)
        refine ⟨rfl, c', cap', .inr HCW.out.1, ⟨?_, ?_, ?_, ⟨fun j hj => ?_, fun j hj => ?_⟩, letF_wf HY.out HM.out.wf, HM.out.nm, HCW.out.2.2, hgne, ?_⟩, ?_⟩
        · rw [World.cell?_setCell_other _ _ _ _ (fun e => by injection e with _ e2; cases e2)]; exact HMW.out.made
        · rw [World.cell?_setCell_same _ _ _ hcell]
        · rw [World.frozen?_setCell]; exact hfree
        · rw [World.cell?_setCell_other _ _ _ _ (hne j)]; exact HRR.out.cell j hj
        · rw [World.frozen?_setCell]; exact HRR.out.free j hj
        · simp [World.setCell]; have := HCW.out.2.1; have := HSZ.out; omega
        · exact (HKW.out.upd g c).trans ((But.refl g wr).setCell 1 _ |>.upd1 c)
  · have HE : Hid (turnE n f x ls = 2) := turnE_out hout
    rw [hout] at HLK
    clear hout hxy
    generalize ls.length = m at *
    go_enter Try.func29, Try.ntmps29
    go_wp2_with (go_at_call 27; refine (none_any g _ HM.out.made).mono ?_; rintro e w1 ⟨rfl, hw1⟩; replace hw1 := hw1.symm; subst hw1)
    refine HLK.out.mono ?_
    rintro e w1 ⟨rfl, hk1⟩
    have HK1 := Lib.hid hk1
    clear hk1 HLK
    go_wp2_with fail
    go_ret
    rw [turnF_not (by rw [HE.out]; decide), HE.out]
    exact ⟨rfl, (HM.out.kept HK1.out).left (HK1.out.upd _ _)⟩
end Go.Proofs.Ytleohicgbpebnaa
