/- What the program's calls on matrices answer: Undo. -/
import Derived.Test.YtlmoeaphikdjnaaMatCode7
namespace Go.Proofs.Ytlmoeaphikdjnaa
open Go.RowKit Gf
set_option linter.unusedVariables false
/-- The rows at the beginning: the matrix, and the unit at its right. -/
def augX (ss : List ByteArray) (n i j : Nat) : UInt8 := if j < n then mt ss i j else un i (j - n)
theorem bt_app (p q : ByteArray) (j : Nat) : bt (p ++ q) j = if j < p.size then bt p j else bt q (j - p.size) := by
  unfold bt
  rw [ByteArray.data_append, Array.toList_append]
  rw [show p.size = p.data.toList.length by simp]
  by_cases h : j < p.data.toList.length
  · rw [if_pos h, getElem!_pos (p.data.toList ++ q.data.toList) j (by rw [List.length_append]; omega), getElem!_pos p.data.toList j h, List.getElem_append_left h]
  · rw [if_neg h]
    by_cases h2 : j - p.data.toList.length < q.data.toList.length
    · rw [getElem!_pos (p.data.toList ++ q.data.toList) j (by rw [List.length_append]; omega), getElem!_pos q.data.toList _ h2, List.getElem_append_right (by omega)]
    · rw [getElem!_neg (p.data.toList ++ q.data.toList) j (by rw [List.length_append]; omega), getElem!_neg q.data.toList _ h2]
theorem aug_str (ss : List ByteArray) (n i : Nat) (h : (nth ss i).size = n) : nth ss i ++ strOf n (un i) = strOf (n + n) (augX ss n i) := by
  refine str_ext' _ _ (by rw [ByteArray.size_append, strOf_size, strOf_size, h]) (fun j hj => ?_)
  rw [ByteArray.size_append, strOf_size, h] at hj
  rw [strOf_bt _ _ _ hj, bt_app, h]
  unfold augX
  by_cases h1 : j < n
  · rw [if_pos h1, if_pos h1]; rfl
  · rw [if_neg h1, if_neg h1, strOf_bt _ _ _ (by omega)]
theorem right_str (n : Nat) (Y : Nat → UInt8) : (strOf (n + n) Y).extract n (n + n) = strOf n fun j => Y (n + j) := by
  have hs : ((strOf (n + n) Y).extract n (n + n)).size = n := by rw [ByteArray.size_extract, strOf_size]; omega
  refine str_ext' _ _ (by rw [hs, strOf_size]) (fun j hj => ?_)
  rw [hs] at hj
  rw [strOf_bt _ _ _ hj]
  have h1 : j < ((strOf (n + n) Y).extract n (n + n)).size := by rw [hs]; exact hj
  rw [← bt_get _ _ h1, ByteArray.getElem_extract, bt_get _ _ (by rw [strOf_size]; omega), strOf_bt _ _ _ (by omega)]
theorem can_is (ss : List ByteArray) (n : Nat) (h : ss.length = n) : canB n (mt ss) = true ↔ CanUndo ss := by
  subst h
  unfold canB CanUndo
  simp
set_option maxHeartbeats 1000000 in
set_option maxRecDepth 100000 in
theorem pUndo_any (a : Option Addr) (ca : Nat) (ss : List ByteArray) (w : World) (hS : Strs w a ss) (hm : ss.length ≤ maxLen) (hz1 : ∀ s ∈ ss, s.size ≤ maxLen) :
    Calls Try.prog 12 #[.slice a ss.length ca] w fun e w' => GotM (undoL ss) (undoE ss) w e w' := by
  obtain ⟨b1, o1, hc1⟩ := strs_at hS
  have HS := Lib.hid hS
  have HM1 := Lib.hid hm
  have HZ1 := Lib.hid hz1
  have H1 := Lib.hid hc1
  clear hS hm hz1 hc1
  go_enter Try.func12, Try.ntmps12
  go_wp2_with fail
  refine (pMay_any a ca ss _ HS.out HM1.out HZ1.out).mono ?_
  rintro e w1 ⟨rfl, k1⟩
  cases hma : mayB ss
  · have HE : Hid (undoE ss = 8 ∧ undoL ss = []) := undo_form ss (by rw [hma]; simp)
    clear hma
    go_wp2_with fail
    go_ret2
    rw [HE.out.1, HE.out.2]
    exact GotM.nil 8 k1
  · obtain ⟨a1, a2, a3, a4, _⟩ := may_yes ss hma
    obtain ⟨ha, hc1⟩ := H1.out (by omega)
    have HC1 : Hid (∀ W, Kept w W → ∀ i, i < ss.length → W.cell? ⟨b1, o1 + i, none⟩ = some (.string (nth ss i))) := fun W hW i hi => by rw [Below.cell hW (block_lt_of_cell (hc1 i hi)), hc1 i hi]
    have HMA := Lib.hid (may_size ss hma)
    have hc0 := HC1.out w1 k1 0 (by omega)
    rw [Nat.add_zero] at hc0
    rw [ha]
    clear hc1 ha H1 HM1 HZ1 HS
    by_cases hs : (nth ss 0).size = ss.length
    · have hsb : ((ss.length : Int) != ((nth ss 0).size : Int)) = false := by simp [hs]
      have HU := Lib.hid (undo_is ss hma hs)
      have HUN := Lib.hid (undo_not ss hma hs)
      have HCI := Lib.hid (can_is ss ss.length rfl)
      rw [hs] at HMA
      have HAUG : Hid (∀ i, i < ss.length → nth ss i ++ strOf ss.length (un i) = strOf (ss.length + ss.length) (augX ss ss.length i)) := fun i hi => aug_str ss ss.length i (HMA.out i hi)
      have HE0 : Hid (∀ n, n = ss.length → Elim n (mt ss) 0 (augX ss n)) := fun n hn => elim_start n (mt ss) _ (fun i j hi hj => by unfold augX; rw [if_pos hj]) (fun i j hi hj => by unfold augX; rw [if_neg (by omega), Nat.add_sub_cancel_left])
      clear hma
      generalize nth ss 0 = p0 at *
      generalize hn : ss.length = n at *
      have HNN := Lib.hid hn
      have HE1 := Lib.hid (HE0.out n rfl)
      clear hn HE0
      have hun := fun W => pUnit_txt (n : Int) W (by omega) (by omega)
      have HUNIT := Lib.hid hun
      clear hun
      go_wp2_with fail
      refine (HUNIT.out _).mono ?_
      rintro e w2 (⟨hno, rfl, k2⟩ | ⟨G, hyes, rfl, hG, hT2, k2⟩)
      · exact absurd (show 1 ≤ (n : Int) ∧ (n : Int) ≤ 64 by omega) hno
      rw [show ((n : Int)).toNat = n from rfl] at *
      have HGW : Hid (w.heap.size ≤ G) := Nat.le_trans k1.size hG
      have HK2 := Lib.hid (k1.trans k2)
      have HT2 := Lib.hid hT2
      clear hc0 hsb hs a3 a4 k1 k2 hG hT2 hyes
      go_wp2_with fail
      go_loopw [25, 5] (fun i _ wr => ∃ k : Nat, k ≤ n ∧ i = .int .i64 k ∧ Hid (Txt G n (fun i => if i < k then strOf (n + n) (augX ss n i) else strOf n (un i)) wr ∧ Kept w wr)) (fun i _ _ => n - (intOf i).toNat)
      case atStart => exact ⟨0, Nat.zero_le _, rfl, HT2.out.congr (fun i hi => by unfold fillT; rw [if_neg (by omega), if_pos hi]), HK2.out⟩
      case round =>
        obtain ⟨k, hk, rfl, HI⟩ := hrel
        by_cases hlt : k < n
        · have hck := HC1.out wr HI.out.2 k hlt
          have hrk := HI.out.1.cell k hlt
          have hfk := HI.out.1.free k hlt
          rw [if_neg (by omega)] at hrk
          have hps := HMA.out k hlt
          have hqs : (strOf n (un k)).size = n := strOf_size _ _
          have HF : Hid (Txt G n (fun i => if i < k + 1 then strOf (n + n) (augX ss n i) else strOf n (un i)) (wr.setCell ⟨G, k, none⟩ (.string (nth ss k ++ strOf n (un k)))) ∧ Kept w (wr.setCell ⟨G, k, none⟩ (.string (nth ss k ++ strOf n (un k))))) := by
            refine ⟨(HI.out.1.set k hlt _).congr (fun i _ => ?_), HI.out.2.setCell HGW.out _⟩
            unfold updT
            by_cases e : i = k
            · subst e; rw [if_pos (by omega), if_pos rfl, HAUG.out i hlt]
            · rw [if_neg e]
              by_cases h : i < k
              · simp only [if_pos h, if_pos (show i < k + 1 by omega)]
              · simp only [if_neg h, if_neg (show ¬ i < k + 1 by omega)]
          generalize strOf n (un k) = q at *
          generalize nth ss k = p at *
          go_upto_region 9 with fail
          go_region
          all_goals
            have HF2 : Hid (Txt G n (fun i => if i < k + 1 then strOf (n + n) (augX ss n i) else strOf n (un i)) (wr.setCell ⟨G, k, none⟩ (.string (p ++ q))).drew ∧ Kept w (wr.setCell ⟨G, k, none⟩ (.string (p ++ q))).drew) := ⟨HF.out.1.drewN 1, HF.out.2.drew⟩
            generalize wr.setCell ⟨G, k, none⟩ (.string (p ++ q)) = w5 at *
            clear hck hrk hfk HF
            go_wp2_with fail
            exact ⟨⟨k + 1, by omega, by go_num, HF2⟩, by simp [intOf]; omega⟩
        · obtain rfl : k = n := by omega
          have HTA : Hid (Txt G k (fun i => strOf (k + k) (augX ss k i)) wr) := HI.out.1.congr (fun i hi => by rw [if_pos hi])
          have HKA := Lib.hid HI.out.2
          have hk1000 : k ≤ 1000 := by omega
          clear HI HT2 HK2 HAUG
          go_wp2_with fail
          refine (solve_any G k (k + k) k (mt ss) (augX ss k) _ HTA.out hk1000 rfl HE1.out).mono ?_
          rintro e w6 ⟨rfl, hb6, hy6⟩
          have HB6 : Hid (Kept w w6) := But.kept HKA.out HGW.out hb6
          cases hcb : canB k (mt ss)
          · have HN := Lib.hid (HUN.out (fun h => by rw [← HCI.out, hcb] at h; cases h))
            clear hcb hy6 hb6
            go_wp2_with fail
            go_ret2
            rw [HN.out.1, HN.out.2]
            exact GotM.nil 51 HB6.out
          · obtain ⟨Y, hY, hEY⟩ := hy6 hcb
            have HY := Lib.hid hY
            have HUU := Lib.hid (HU.out _ (elim_end hEY))
            clear hcb hy6 hb6 hY hEY
            go_wp2_with fail
            go_loopw [46, 6, 7] (fun i _ _ wr => ∃ q : Nat, q ≤ k ∧ i = .int .i64 q ∧ Hid (Txt G k (fun i => if i < q then strOf k (fun j => Y i (k + j)) else strOf (k + k) (Y i)) wr ∧ Kept w wr)) (fun i _ _ _ => k - (intOf i).toNat)
            case atStart => exact ⟨0, Nat.zero_le _, rfl, HY.out.congr (fun i _ => by rw [if_neg (by omega)]), HB6.out⟩
            case round =>
              obtain ⟨q, hq, rfl, HJ⟩ := hrel
              by_cases hlq : q < k
              · have hrq := HJ.out.1.cell q hlq
                have hfq := HJ.out.1.free q hlq
                rw [if_neg (by omega)] at hrq
                have hps : (strOf (k + k) (Y q)).size = k + k := strOf_size _ _
                have hext := right_str k (Y q)
                have hsl : ∀ W, (Instr.slice 9 (.string (strOf (k + k) (Y q))) (some (.int .i64 (k : Int))) none none).run Try.prog W = .ok (.string (strOf k fun j => Y q (k + j))) W := fun W => by
                  have h := run_slice_string_l (P := Try.prog) W 9 (strOf (k + k) (Y q)) Try.underlying9 .i64 (k : Int) (by omega) (by omega)
                  rw [hps, show ((k : Int)).toNat = k from rfl, hext] at h
                  exact h
                have HF : Hid (Txt G k (fun i => if i < q + 1 then strOf k (fun j => Y i (k + j)) else strOf (k + k) (Y i)) (wr.setCell ⟨G, q, none⟩ (.string (strOf k fun j => Y q (k + j)))) ∧ Kept w (wr.setCell ⟨G, q, none⟩ (.string (strOf k fun j => Y q (k + j))))) := by
                  refine ⟨(HJ.out.1.set q hlq _).congr (fun i _ => ?_), HJ.out.2.setCell HGW.out _⟩
                  unfold updT
                  by_cases e : i = q
                  · subst e; rw [if_pos (by omega), if_pos rfl]
                  · rw [if_neg e]
                    by_cases h : i < q
                    · simp only [if_pos h, if_pos (show i < q + 1 by omega)]
                    · simp only [if_neg h, if_neg (show ¬ i < q + 1 by omega)]
                clear hext
                generalize (strOf k fun j => Y q (k + j)) = z at *
                generalize strOf (k + k) (Y q) = p at *
                go_wp2_with fail
                exact ⟨⟨q + 1, by omega, by go_num, HF⟩, by simp [intOf]; omega⟩
              · obtain rfl : q = k := by omega
                have HT9 : Hid (Txt G q (fun i => strOf q (fun j => Y i (q + j))) wr) := HJ.out.1.congr (fun i hi => by rw [if_pos hi])
                have HK9 := Lib.hid HJ.out.2
                clear HJ HTA HY
                go_wp2_with fail
                refine (copies_any G q q _ _ HT9.out (by omega) (fun i _ => by rw [strOf_size]; omega)).mono ?_
                rintro e w9 ⟨rfl, hb9, ht9⟩
                have HF : Hid (Txt G q (fillT (fun i => strOf q (fun j => Y i (q + j))) q) w9 ∧ Kept w w9) := ⟨ht9.congr (fun i hi => by unfold fillT; rw [if_pos hi]), But.kept HK9.out HGW.out hb9⟩
                clear hb9 ht9
                go_wp2_with fail
                go_ret2
                rw [HUU.out.1, HUU.out.2]
                exact HF.out.1.gotM HF.out.2
    · have HE : Hid (undoE ss = 50 ∧ undoL ss = []) := undo_side ss hma hs
      have hsb : ((ss.length : Int) != ((nth ss 0).size : Int)) = true := by simp; omega
      clear hma
      generalize nth ss 0 = p0 at *
      go_wp2_with fail
      go_ret2
      rw [HE.out.1, HE.out.2]
      exact GotM.nil 50 k1
end Go.Proofs.Ytlmoeaphikdjnaa
