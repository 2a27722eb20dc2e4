/- The document's own map: Turn. -/
import Derived.Test.YtleohicgbpebnaaAllocRef2
namespace Go.Proofs.Ytleohicgbpebnaa
open Go.RowKit
set_option linter.unusedVariables false
/-- Turn's answer, and what it leaves. -/
def RefTurned (r c n : Nat) (a : Option Addr) (cap : Nat) (f : Nat → Nat) (x : Nat) (w : World) (e : Ending) (w' : World) : Prop :=
  e = .returned (.int .i64 (x : Nat)) ∧ RefAt r c n a cap f w' ∧ But c w w'
theorem mem_take_nth {ls : List Int} {i : Nat} {v : Int} (hi : i ≤ ls.length) : v ∈ ls.take i ↔ ∃ k, k < i ∧ nthI ls k = v := by
  rw [List.mem_take_iff_getElem]
  constructor
  · rintro ⟨k, hk, rfl⟩
    have hk' : k < i ∧ k < ls.length := by omega
    exact ⟨k, hk'.1, (nthI_get ls k hk'.2).symm⟩
  · rintro ⟨k, hk, rfl⟩
    exact ⟨k, by omega, nthI_get ls k (by omega)⟩
theorem cell_kept' {w w' : World} {b o : Nat} {v : Value} (k : Kept w w') (h : w.cell? ⟨b, o, none⟩ = some v) : w'.cell? ⟨b, o, none⟩ = some v := cell_kept h k
set_option maxHeartbeats 4000000 in
set_option maxRecDepth 100000 in
theorem refTurn_any (r c n cap : Nat) (a : Option Addr) (f : Nat → Nat) (x y : Nat) (hx : x ≤ 255) (hy : y ≤ 255) (p : Option Addr) (cp : Nat) (ls : List Int) (hl : ls.length ≤ 1000000) (hr : ∀ r ∈ ls, -9223372036854775808 ≤ r ∧ r ≤ 9223372036854775807) (w : World) (h : RefAt r c n a cap f w) (hI : Ints .i64 w p ls) (hA : 0 < n → 0 < ls.length → Apart p c) :
    Calls Try.prog 16 #[.pointer (some ⟨r, 0, none⟩), .slice p ls.length cp, .int .u8 (x : Nat), .int .u8 (y : Nat)] w fun e w' => RefTurned r c n a cap (turnF n f x y ls) (turnE n f x ls) w e w' := by
  have HM := Lib.hid h
  have hn := h.nm
  obtain ⟨b1, o1, hc1⟩ := ints_at hI
  have HC := Lib.hid hc1
  have HA := Lib.hid hA
  have HR : Hid (∀ i, i < ls.length → -9223372036854775808 ≤ nthI ls i ∧ nthI ls i ≤ 9223372036854775807) := fun i hi => hr _ (by rw [← nthI_get ls i hi]; exact List.getElem_mem hi)
  have HY : Hid (∀ i, i < ls.length → isRow n (nthI ls i) = false → turnE n f x ls = 2) := fun i hi h => turnE_out (outB_yes i hi h)
  have HOUT : Hid ((∀ i, i < ls.length → isRow n (nthI ls i) = true) → outB n ls = false) := outB_none
  have HBAD : Hid (outB n ls = false → ∀ i, i < ls.length → f (nthI ls i).toNat ≠ x → turnE n f x ls = 3) := fun ho i hi hne => turnE_bad ho ⟨i, hi, .inl hne⟩
  have HTWO : Hid (outB n ls = false → ∀ i k, i < ls.length → k < i → nthI ls k = nthI ls i → turnE n f x ls = 3) := fun ho i k hi hk he => turnE_bad ho ⟨i, hi, .inr ((mem_take_nth (by omega)).2 ⟨k, hk, he⟩)⟩
  have HOK : Hid (outB n ls = false → (∀ i, i < ls.length → f (nthI ls i).toNat = x ∧ ∀ k, k < i → nthI ls k ≠ nthI ls i) → turnE n f x ls = 0) := fun ho hall => turnE_ok ho (fun ⟨i, hi, hb⟩ => by
    rcases hb with hb | hb
    · exact hb (hall i hi).1
    · obtain ⟨k, hk, he⟩ := (mem_take_nth (by omega)).1 hb
      exact (hall i hi).2 k hk he)
  have HNX : Hid (∀ k r, k < ls.length → nthI ls k = (r : Nat) → ∀ j, letF f y (ls.take (k + 1)) j = if j = r then y else letF f y (ls.take k) j) := fun k r h1 h2 j => letF_next f y ls k r h1 h2 j
  have HEND : Hid (ls.take ls.length = ls) := List.take_of_length_le (Nat.le_refl _)
  clear h hI hr hc1 hA
  generalize hm : ls.length = m at *
  clear hm
  go_enter Try.func16, Try.ntmps16
  go_wp2_with fail
  go_loop [9] (fun i => ∃ k : Nat, k ≤ m ∧ i = .int .i64 k ∧ Hid (∀ j, j < k → isRow n (nthI ls j) = true)) (fun i => m - (intOf i).toNat)
  case atStart => exact ⟨0, Nat.zero_le _, rfl, fun j hj => by omega⟩
  case round =>
    obtain ⟨k, hk, rfl, HI⟩ := hrel
    by_cases hlt : k < m
    · obtain ⟨hp, hc⟩ := HC.out (by omega)
      have hck := hc k hlt
      have HIS := Lib.hid (is_any r c n cap a f (nthI ls k) (HR.out k hlt) w HM.out)
      have HYK := Lib.hid (HY.out k hlt)
      have HAK : Hid (isRow n (nthI ls k) = true → ∀ j, j < k + 1 → isRow n (nthI ls j) = true) := fun h j hj => by
        by_cases e : j = k
        · subst e; exact h
        · exact HI.out j (by omega)
      subst hp
      clear hc HC HY HR HI
      generalize nthI ls k = v at *
      generalize isRow n v = q at *
      cases q
      · have HE := Lib.hid (HYK.out rfl)
        clear HYK HAK
        go_wp2_with fail
        refine HIS.out.mono ?_
        rintro e w1 ⟨rfl, hw1⟩
        replace hw1 := hw1.symm
        subst hw1
        go_wp2_with fail
        go_ret
        rw [turnF_not (by rw [HE.out]; decide), HE.out]
        exact ⟨rfl, HM.out, But.refl _ _⟩
      · have HA2 := Lib.hid (HAK.out rfl)
        clear HYK HAK
        go_wp2_with fail
        refine HIS.out.mono ?_
        rintro e w1 ⟨rfl, hw1⟩
        replace hw1 := hw1.symm
        subst hw1
        go_wp2_with fail
        go_round
        case rel => exact ⟨k + 1, by omega, by go_num, HA2.out⟩
        case measure => simp [intOf]; omega
    · obtain rfl : k = m := by omega
      have HO : Hid (outB n ls = false) := HOUT.out HI.out
      have HROW : Hid (∀ i, i < k → ∃ j : Nat, nthI ls i = j ∧ j < n) := fun i hi => isRow_nat (HI.out i hi)
      have HB3 := Lib.hid (HBAD.out HO.out)
      have HT3 := Lib.hid (HTWO.out HO.out)
      have HK0 := Lib.hid (HOK.out HO.out)
      clear HOUT HBAD HTWO HOK HI HY HR HO
      go_wp2_with fail
      clear hk hlt
      go_loopw [10] (fun i wr => ∃ q : Nat, q ≤ k ∧ i = .int .i64 q ∧ Hid (Kept w wr ∧ ∀ i, i < q → f (nthI ls i).toNat = x ∧ ∀ j, j < i → nthI ls j ≠ nthI ls i)) (fun i _ => k - (intOf i).toNat)
      case atStart => exact ⟨0, Nat.zero_le _, rfl, Kept.refl _, fun i hi => by omega⟩
      case round =>
        obtain ⟨q, hq, rfl, HI⟩ := hrel
        by_cases hlt : q < k
        · obtain ⟨hp, hc⟩ := HC.out (by omega)
          have hcq := cell_kept' HI.out.1 (hc q hlt)
          have HCJ : Hid (∀ W, Kept w W → ∀ j, j < q → W.cell? ⟨b1, o1 + j, none⟩ = some (.int .i64 (nthI ls j))) := fun W hW j hj => cell_kept' hW (hc j (by omega))
          have HCQ : Hid (∀ W, Kept w W → W.cell? ⟨b1, o1 + q, none⟩ = some (.int .i64 (nthI ls q))) := fun W hW => cell_kept' hW (hc q hlt)
          obtain ⟨t, ht, htn⟩ := HROW.out q hlt
          have HMW := Lib.hid (HM.out.kept HI.out.1)
          have hd := HMW.out.hd
          obtain ⟨ha, _⟩ := HMW.out.at' (by omega)
          have hcell := HMW.out.rows.cell t htn
          have hfeq : f (nthI ls q).toNat = f t := by rw [ht]; rfl
          have HB := Lib.hid (HB3.out q hlt)
          have HT := Lib.hid (HT3.out q)
          rw [hfeq] at HB
          have HPRE := Lib.hid HI.out.2
          have HKW := Lib.hid HI.out.1
          subst hp ha
          by_cases hxx : f t = x
          · have hb : (((f t : Nat) : Int) != (x : Int)) = false := by rw [hxx]; simp
            have HFX : Hid (f (nthI ls q).toNat = x) := by rw [← hxx]; exact hfeq
            rw [ht] at hcq HCQ
            generalize f t = z at *
            clear hc HC HI HB HMW hfeq hxx
            go_wp2_with fail
            go_region
            all_goals
              clear hcq hcell
              have HKD : Hid (Kept w wr.drew) := HKW.out.drew
              generalize wr.drew = wd at *
              clear HKW hb
              go_wp2_with fail
              go_loopw [11] (fun i wr => ∃ j : Nat, j ≤ q ∧ i = .int .i64 j ∧ Hid (Kept w wr ∧ ∀ e, e < j → nthI ls e ≠ nthI ls q)) (fun i _ => q - (intOf i).toNat)
              case atStart => exact ⟨0, Nat.zero_le _, rfl, HKD.out, fun e he => by omega⟩
              case round =>
                obtain ⟨j, hj, rfl, HJ⟩ := hrel
                by_cases hjq : j < q
                · have hcj := HCJ.out wr HJ.out.1 j hjq
                  have hcq := HCQ.out wr HJ.out.1
                  have HKE := Lib.hid HJ.out.1
                  by_cases heq : nthI ls j = (t : Int)
                  · have HE := Lib.hid (HT.out j hlt hjq (by rw [heq, ht]))
                    rw [heq] at hcj
                    have hbq : ((t : Int) == (t : Int)) = true := by simp
                    clear HJ HT HPRE HCJ HCQ heq ht
                    go_wp2_with fail
                    go_region
                    all_goals
                      go_wp2_with fail
                      go_ret
                      rw [turnF_not (by rw [HE.out]; decide), HE.out]
                      exact ⟨rfl, HM.out.kept HKE.out.drew, HKE.out.drew.but _⟩
                  · have hbq : (nthI ls j == (t : Int)) = false := by simp [heq]
                    have HALL : Hid (∀ e, e < j + 1 → nthI ls e ≠ nthI ls q) := fun e he => by
                      by_cases e2 : e = j
                      · subst e2; rw [ht]; exact heq
                      · exact HJ.out.2 e (by omega)
                    clear HJ HT HPRE HCJ HCQ heq ht
                    generalize nthI ls j = v at *
                    go_wp2_with fail
                    go_region
                    all_goals
                      go_wp2_with fail
                      go_roundw
                      case rel => exact ⟨j + 1, by omega, by go_num, HKE.out.drew, HALL.out⟩
                      case measure => simp [intOf]; omega
                · obtain rfl : j = q := by omega
                  have HALL : Hid (Kept w wr ∧ ∀ i, i < j + 1 → f (nthI ls i).toNat = x ∧ ∀ e, e < i → nthI ls e ≠ nthI ls i) := ⟨HJ.out.1, fun i hi => by
                    by_cases e2 : i = j
                    · subst e2; exact ⟨HFX.out, HJ.out.2⟩
                    · exact HPRE.out i (by omega)⟩
                  clear HJ HT HPRE HCJ HCQ ht
                  go_wp2_with fail
                  go_roundw
                  case rel => exact ⟨j + 1, by omega, by go_num, HALL.out⟩
                  case measure => simp [intOf]; omega
          · have hb : (((f t : Nat) : Int) != (x : Int)) = true := by simp [bne]; omega
            have HE := Lib.hid (HB.out hxx)
            rw [ht] at hcq
            generalize f t = z at *
            clear hc HC HI HB HMW HT hfeq hxx HCJ HCQ HPRE
            go_wp2_with fail
            go_region
            all_goals
              go_wp2_with fail
              go_ret
              rw [turnF_not (by rw [HE.out]; decide), HE.out]
              exact ⟨rfl, HM.out.kept (HKW.out.drewN _), (HKW.out.drewN _).but _⟩
        · obtain rfl : q = k := by omega
          have HE := Lib.hid (HK0.out HI.out.2)
          have HKW := Lib.hid HI.out.1
          have HMW := Lib.hid (HM.out.kept HI.out.1)
          clear HI HK0 HB3 HT3 hq hlt
          go_wp2_with fail
          generalize wr = wo at *
          go_loopw [12] (fun i wr => ∃ j : Nat, j ≤ q ∧ i = .int .i64 j ∧ Hid (RefAt r c n a cap (letF f y (ls.take j)) wr ∧ But c wo wr)) (fun i _ => q - (intOf i).toNat)
          case atStart => exact ⟨0, Nat.zero_le _, rfl, by rw [List.take_zero, letF_nil]; exact HMW.out, But.refl _ _⟩
          case round =>
            obtain ⟨j, hj, rfl, HJ⟩ := hrel
            by_cases hjq : j < q
            · obtain ⟨hp, hc⟩ := HC.out (by omega)
              obtain ⟨t, ht, htn⟩ := HROW.out j hjq
              have hne : b1 ≠ c := HA.out (by omega) (by omega) _ hp
              have hcj : wr.cell? ⟨b1, o1 + j, none⟩ = some (.int .i64 (t : Nat)) := by
                have h := cell_kept' HKW.out (hc j hjq)
                rw [HJ.out.2.cell (p := ⟨b1, o1 + j, none⟩) (block_lt_of_cell h) hne, h, ht]
              have hd := HJ.out.1.hd
              obtain ⟨ha, _⟩ := HJ.out.1.at' (by omega)
              have hcell := HJ.out.1.rows.cell t htn
              have hfree := HJ.out.1.rows.free t htn
              have HS : Hid (RefAt r c n a cap (letF f y (ls.take (j + 1))) (wr.drew.setCell ⟨c, t, none⟩ (.int .u8 (y : Nat))) ∧ But c wo (wr.drew.setCell ⟨c, t, none⟩ (.int .u8 (y : Nat)))) :=
                ⟨(HJ.out.1.but t htn y).congr (fun i _ => HNX.out j t hjq ht i), HJ.out.2.put t _⟩
              subst hp ha
              generalize letF f y (ls.take j) t = z at *
              clear hc HC HJ ht
              go_wp2_with fail
              go_region
              all_goals
                go_wp2_with fail
                go_roundw
                case rel => exact ⟨j + 1, by omega, by go_num, HS.out⟩
                case measure => simp [intOf]; omega
            · obtain rfl : j = q := by omega
              have HF : Hid (ls.take j = ls) := HEND.out
              rw [HF.out] at HJ
              go_wp2_with fail
              go_ret
              rw [turnF_ok HE.out, HE.out]
              exact ⟨rfl, HJ.out.1, (HKW.out.but c).trans HJ.out.2⟩
end Go.Proofs.Ytleohicgbpebnaa
