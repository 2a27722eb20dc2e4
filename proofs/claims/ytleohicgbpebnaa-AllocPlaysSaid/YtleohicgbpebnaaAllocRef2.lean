/- The document's own map: Take, Turn. -/
import Derived.Test.YtleohicgbpebnaaAllocRef
namespace Go.Proofs.Ytleohicgbpebnaa
open Go.RowKit
set_option linter.unusedVariables false
theorem RefAt.but {r c n cap : Nat} {a : Option Addr} {f : Nat → Nat} {w : World} (h : RefAt r c n a cap f w) (k : Nat) (hk : k < n) (v : Nat) : RefAt r c n a cap (fun j => if j = k then v else f j) (w.drew.setCell ⟨c, k, none⟩ (.int .u8 (v : Nat))) := (h.kept (Kept.refl w).drew).set k hk v
theorem But.put {b : Nat} {u w : World} (h : But b u w) (o : Nat) (v : Value) : But b u (w.drew.setCell ⟨b, o, none⟩ v) := (h.trans ((Kept.refl w).drew.but b)).setCell o v
/-- Take's answer, and what it leaves. -/
def RefTook (r c n : Nat) (a : Option Addr) (cap : Nat) (f : Nat → Nat) (l : List Int) (x : Nat) (w : World) (e : Ending) (w' : World) : Prop :=
  ∃ p cp, e = .returned (.tuple #[.slice p l.length cp, .int .i64 (x : Nat)]) ∧ Ints .i64 w' p l ∧ RefAt r c n a cap f w' ∧ But c w w'
set_option maxHeartbeats 2000000 in
set_option maxRecDepth 100000 in
theorem refTake_any (r c n cap : Nat) (a : Option Addr) (f : Nat → Nat) (m : Int) (hm : -9223372036854775808 ≤ m ∧ m ≤ 9223372036854775807) (w : World) (h : RefAt r c n a cap f w) :
    Calls Try.prog 13 #[.pointer (some ⟨r, 0, none⟩), .int .i64 m] w fun e w' => RefTook r c n a cap (takeF n f m) (takeL n f m) (takeE n f m) w e w' := by
  have HM := Lib.hid h
  have hn := h.nm
  clear h
  by_cases hneg : m < 0
  · have hb : decide (m < 0) = true := decide_eq_true hneg
    have HE : Hid (takeE n f m = 2) := if_pos hneg
    have HL : Hid (takeL n f m = []) := by show _ = _; unfold takeL; rw [HE.out]; rfl
    have HF : Hid (takeF n f m = f) := by show _ = _; unfold takeF; rw [HL.out, letF_nil]
    clear hneg
    go_enter Try.func13, Try.ntmps13
    go_wp2_with fail
    go_ret2
    rw [HE.out, HL.out, HF.out]
    exact ⟨none, 0, rfl, .inl rfl, HM.out, But.refl _ _⟩
  · obtain ⟨k, rfl⟩ : ∃ k : Nat, m = k := ⟨m.toNat, by omega⟩
    have hb : decide ((k : Int) < 0) = false := decide_eq_false hneg
    have HROWS := Lib.hid (refRows_any r c n cap a f 1 (by decide) w HM.out)
    by_cases hfew : (rowsL n f 1).length < k
    · have HE : Hid (takeE n f (k : Nat) = 6) := by show _ = _; unfold takeE; rw [if_neg hneg, if_pos (by omega)]
      have HL : Hid (takeL n f (k : Nat) = []) := by show _ = _; unfold takeL; rw [HE.out]; rfl
      have HF : Hid (takeF n f (k : Nat) = f) := by show _ = _; unfold takeF; rw [HL.out, letF_nil]
      have hfw : (rowsL n f 1).length < k := hfew
      clear hneg hfew
      go_enter Try.func13, Try.ntmps13
      go_wp2_with fail
      refine HROWS.out.mono ?_
      rintro e w1 ⟨v, rfl, hG, hK⟩
      obtain ⟨a1, ca, rfl, _⟩ := hG.ints
      have HK := Lib.hid hK
      clear hG hK HROWS
      generalize (rowsL n f 1).length = N at *
      go_wp2_with fail
      go_ret2
      rw [HE.out, HL.out, HF.out]
      exact ⟨none, 0, rfl, .inl rfl, HM.out.kept HK.out, HK.out.but _⟩
    · have HE : Hid (takeE n f (k : Nat) = 0) := by show _ = _; unfold takeE; rw [if_neg hneg, if_neg (by omega)]
      have HL : Hid (takeL n f (k : Nat) = (rowsL n f 1).take k) := by show _ = _; unfold takeL; rw [HE.out]; rfl
      have hkn : k ≤ (rowsL n f 1).length := by omega
      have hrn := rowsL_le n f 1
      have HTK : Hid (((rowsL n f 1).take k).length = k) := by show _ = _; rw [List.length_take]; omega
      have HIN : Hid (∀ i, i < k → ∃ j : Nat, nthI (rowsL n f 1) i = j ∧ j < n) := fun i hi => by
        have hi' : i < (rowsL n f 1).length := by omega
        rw [← nthI_get _ i hi']
        obtain ⟨j, h1, h2, _⟩ := rowsL_mem.1 (List.getElem_mem hi')
        exact ⟨j, h1, h2⟩
      have HF : Hid (takeF n f (k : Nat) = letF f 2 ((rowsL n f 1).take k)) := by show _ = _; unfold takeF; rw [HL.out]
      have HNX : Hid (∀ i r, i < k → nthI (rowsL n f 1) i = (r : Nat) → ∀ j, letF f 2 ((rowsL n f 1).take (i + 1)) j = if j = r then 2 else letF f 2 ((rowsL n f 1).take i) j) := fun i r h1 h2 j => letF_next f 2 _ i r (by omega) h2 j
      clear hneg hfew
      generalize rowsL n f 1 = l at *
      obtain ⟨M, hM⟩ : ∃ M, M = l.length := ⟨_, rfl⟩
      rw [← hM] at hkn hrn
      have HMM := Lib.hid hM
      clear hM
      go_enter Try.func13, Try.ntmps13
      go_wp2_with fail
      refine HROWS.out.mono ?_
      rintro e w1 ⟨v, rfl, hG, hK⟩
      obtain ⟨a1, ca, rfl, hI⟩ := hG.ints
      have HCA : Hid (M ≤ ca) := by
        show _ ≤ _
        rw [HMM.out]
        rcases Nat.eq_zero_or_pos l.length with h0 | h0
        · omega
        · obtain ⟨g', c', hv, _, _, hl'⟩ := hG.lie h0
          injection hv with _ _ h3
          rw [h3]; exact hl'.le
      obtain ⟨b1, o1, hc1⟩ := ints_at hI
      rw [← HMM.out] at hc1 ⊢
      have HA1 : Hid (∀ x, a1 = some x → w.heap.size ≤ x.block) := fun x hx => by subst hx; exact (hG.lt x.block rfl).1
      have HO : Hid (∀ x, a1 = some x → x.spot = none ∧ x.off = 0 ∨ True) := fun x hx => .inr trivial
      have HG := Lib.hid hG
      have HI := Lib.hid hI
      have HC := Lib.hid hc1
      have HK := Lib.hid hK
      have HM1 := Lib.hid (HM.out.kept hK)
      have hca := HCA.out
      clear hG hI hc1 hK HROWS HO
      have hsl : ∀ W, (Instr.slice 22 (.slice a1 M ca) none (some (.int .i64 (k : Int))) none).run Try.prog W = .ok (.slice a1 k ca) W := fun W => by
        have h := run_slice_h (P := Try.prog) W 22 a1 M ca Try.underlying22 .i64 (k : Int) (by omega) (by omega)
        rw [show Try.prog.elem 22 = 3 by kernel_rfl, size_int1] at h
        rw [h]
        cases a1 <;> simp [Result.andThen, sliced, Addr.add]
      clear hca
      go_wp2_with fail
      clear hsl
      go_loopw [7] (fun i wr => ∃ j : Nat, j ≤ k ∧ i = .int .i64 j ∧ Hid (RefAt r c n a cap (letF f 2 (l.take j)) wr ∧ But c w1 wr)) (fun i _ => k - (intOf i).toNat)
      case atStart => exact ⟨0, Nat.zero_le _, rfl, by rw [List.take_zero, letF_nil]; exact HM1.out, But.refl _ _⟩
      case round =>
        obtain ⟨j, hj, rfl, HJ⟩ := hrel
        by_cases hlt : j < k
        · obtain ⟨ha1, hc⟩ := HC.out (by omega)
          obtain ⟨q, hq, hqn⟩ := HIN.out j hlt
          have hne : b1 ≠ c := by
            have h1 := HA1.out _ ha1
            have h2 := HM.out.lt (by omega)
            simp at h1
            omega
          have hcj : wr.cell? ⟨b1, o1 + j, none⟩ = some (.int .i64 (q : Nat)) := by
            have h := hc j (by omega)
            rw [HJ.out.2.cell (p := ⟨b1, o1 + j, none⟩) (block_lt_of_cell h) hne, h, hq]
          have hd := HJ.out.1.hd
          obtain ⟨ha, _⟩ := HJ.out.1.at' (by omega)
          have hcell := HJ.out.1.rows.cell q hqn
          have hfree := HJ.out.1.rows.free q hqn
          have HS : Hid (RefAt r c n a cap (letF f 2 (l.take (j + 1))) (wr.drew.setCell ⟨c, q, none⟩ (.int .u8 2)) ∧ But c w1 (wr.drew.setCell ⟨c, q, none⟩ (.int .u8 2))) :=
            ⟨(HJ.out.1.but q hqn 2).congr (fun i _ => HNX.out j q hlt hq i), HJ.out.2.put q _⟩
          subst ha1 ha
          generalize letF f 2 (l.take j) q = y at *
          clear hc HC HJ hq
          go_wp2_with fail
          go_region
          all_goals
            go_wp2_with fail
            go_roundw
            case rel => exact ⟨j + 1, by omega, by go_num, HS.out⟩
            case measure => simp [intOf]; omega
        · obtain rfl : j = k := by omega
          have HP : Hid (Ints .i64 wr a1 (l.take j)) := by
            rcases HI.out with h0 | ⟨b, o, ha, h⟩
            · left; rw [h0]; simp
            · refine .inr ⟨b, o, ha, fun i hi => ?_⟩
              rw [HTK.out] at hi
              have hne : b ≠ c := by
                have h1 := HA1.out _ ha
                have h2 := HM.out.lt (by omega)
                simp at h1
                omega
              have h' := h i (by have := HMM.out; omega)
              rw [HJ.out.2.cell (p := ⟨b, o + i, none⟩) (block_lt_of_cell h') hne, h']
              congr 2
              unfold nthI
              simp [List.getD, List.getElem?_take_of_lt hi]
          have HR := Lib.hid HJ.out.1
          have HB : Hid (But c w wr) := (HK.out.but c).trans HJ.out.2
          clear HI HC HJ
          go_wp2_with fail
          go_ret2
          rw [HE.out, HL.out, HF.out]
          refine ⟨a1, ca, ?_, HP.out, HR.out, HB.out⟩
          rw [HTK.out]
          rfl
end Go.Proofs.Ytleohicgbpebnaa
