/- What the document's own answers on matrices come to: May, Same, Unit. -/
import Derived.Test.YtlmoeaphikdjnaaMatDoc
import Derived.Test.YtlmoeaphikdjnaaGat
namespace Go.Proofs.Ytlmoeaphikdjnaa
open Go.RowKit Gf
set_option linter.unusedVariables false
theorem str_beq (x y : ByteArray) : (x.toList == y.toList) = true ↔ x = y := by
  rw [ByteArray.toList_eq, ByteArray.toList_eq, beq_iff_eq]
  exact ⟨fun h => ByteArray.ext (Array.ext' h), fun h => by rw [h]⟩
set_option maxRecDepth 100000 in
theorem refMay_any (a : Option Addr) (cap : Nat) (ss : List ByteArray) (w : World) (hS : Strs w a ss) (hm : ss.length ≤ maxLen) (hz : ∀ s ∈ ss, s.size ≤ maxLen) :
    Calls Try.prog 15 #[.slice a ss.length cap] w fun e w' => e = .returned (.bool (mayB ss)) ∧ Kept w w' := by
  obtain ⟨b, o, hc⟩ := strs_at hS
  have HC := Lib.hid hc
  have HZ : Hid (∀ i, i < ss.length → (nth ss i).size ≤ maxLen) := fun i hi => hz _ (by rw [← nth_get ss i hi]; exact List.getElem_mem hi)
  clear hc hS hz
  unfold maxLen at hm
  by_cases h1 : 1 ≤ ss.length ∧ ss.length ≤ 64
  · obtain ⟨ha, hc⟩ := HC.out (by omega)
    have hc0 := hc 0 (by omega)
    have hz0 := HZ.out 0 (by omega)
    unfold maxLen at hz0
    rw [Nat.add_zero] at hc0
    rw [ha]
    by_cases h2 : 1 ≤ (nth ss 0).size ∧ (nth ss 0).size ≤ 64
    · have HE := Lib.hid (may_even ss ⟨h1.1, h1.2, h2⟩)
      obtain ⟨q, hq⟩ : ∃ q, nth ss 0 = q := ⟨_, rfl⟩
      rw [hq] at hc0 hz0 h2
      have HQ := Lib.hid hq
      have HCC := Lib.hid hc
      have HC0 := Lib.hid hc0
      clear hc ha hq HC
      go_enter Try.func15, Try.ntmps15
      go_wp2_with fail
      go_loopw [3] (fun i wr => ∃ k : Nat, k ≤ ss.length ∧ i = .int .i64 k ∧ Hid ((∀ j, j < k → (nth ss j).size = (nth ss 0).size) ∧ Kept w wr)) (fun i _ => ss.length - (intOf i).toNat)
      case atStart => exact ⟨0, Nat.zero_le _, rfl, fun j hj => by omega, Kept.refl _⟩
      case round =>
        obtain ⟨k, hk, rfl, HY⟩ := hrel
        by_cases hlt : k < ss.length
        · have hck : wr.cell? ⟨b, o + k, none⟩ = some (.string (nth ss k)) := by rw [Below.cell HY.out.2 (block_lt_of_cell (HCC.out k hlt)), HCC.out k hlt]
          have hc0 : wr.cell? ⟨b, o, none⟩ = some (.string q) := by rw [Below.cell HY.out.2 (block_lt_of_cell HC0.out), HC0.out]
          have HKR : Hid (Kept w wr) := HY.out.2
          have hzk := HZ.out k hlt
          have HNO := Lib.hid (even_no ss k hlt)
          have HN : Hid ((nth ss k).size = (nth ss 0).size → ∀ j, j < k + 1 → (nth ss j).size = (nth ss 0).size) := fun h j hj => by
            by_cases e : j = k
            · subst e; exact h
            · exact HY.out.1 j (by omega)
          unfold maxLen at hzk
          rw [HQ.out] at HNO HN
          generalize nth ss k = p at *
          by_cases he : p.size = q.size
          · have he1 : ((p.size : Int) == (q.size : Int)) = true := by simp [he]
            have HN2 := Lib.hid (HN.out he)
            clear HN HNO
            go_wp2_with fail
            go_quiet (fail)
            go_wp2_with fail
            exact ⟨⟨k + 1, by omega, by go_num, by rw [HQ.out]; exact HN2.out, HKR.out.trans ((Kept.refl _).drewN _)⟩, by simp [intOf]; omega⟩
          · have he1 : ((p.size : Int) == (q.size : Int)) = false := by simp; omega
            have HE2 := Lib.hid (HNO.out he)
            clear HN HNO
            go_wp2_with fail
            go_quiet (fail)
            go_wp2_with fail
            go_ret
            exact ⟨by rw [HE.out, HE2.out]; rfl, HKR.out.trans ((Kept.refl _).drewN _)⟩
        · obtain rfl : k = ss.length := by omega
          have HE2 := Lib.hid (even_yes ss HY.out.1)
          have HKR : Hid (Kept w wr) := HY.out.2
          clear HY HCC HZ
          go_wp2_with fail
          go_ret
          exact ⟨by rw [HE.out, HE2.out]; rfl, HKR.out⟩
    · have HE := Lib.hid (may_no ss (fun h => h2 h.2.2))
      clear hc ha HC
      generalize nth ss 0 = q at *
      go_enter Try.func15, Try.ntmps15
      rcases Nat.lt_or_ge q.size 1 with h3 | h3
      · go_wp2_with fail
        go_ret
        exact ⟨by rw [HE.out]; rfl, Kept.refl _⟩
      · have h4 : 64 < q.size := by omega
        clear h2
        go_wp2_with fail
        go_ret
        exact ⟨by rw [HE.out]; rfl, Kept.refl _⟩
  · have HE := Lib.hid (may_no ss (fun h => h1 ⟨h.1, h.2.1⟩))
    clear HC HZ
    go_enter Try.func15, Try.ntmps15
    rcases Nat.lt_or_ge ss.length 1 with h3 | h3
    · go_wp2_with fail
      go_ret
      exact ⟨by rw [HE.out]; rfl, Kept.refl _⟩
    · have h4 : 64 < ss.length := by omega
      clear h1
      go_wp2_with fail
      go_ret
      exact ⟨by rw [HE.out]; rfl, Kept.refl _⟩
set_option maxRecDepth 100000 in
theorem same_any (a b : Option Addr) (ca cb : Nat) (ss ts : List ByteArray) (w : World) (hS : Strs w a ss) (hT : Strs w b ts) (hm : ss.length ≤ maxLen) (hn : ts.length ≤ maxLen) :
    Calls Try.prog 16 #[.slice a ss.length ca, .slice b ts.length cb] w fun e w' => e = .returned (.bool (decide (ss = ts))) ∧ Kept w w' := by
  obtain ⟨b1, o1, hc1⟩ := strs_at hS
  obtain ⟨b2, o2, hc2⟩ := strs_at hT
  have H1 := Lib.hid hc1
  have H2 := Lib.hid hc2
  clear hc1 hc2 hS hT
  unfold maxLen at hm hn
  by_cases hl : ss.length = ts.length
  · have hlb : ((ss.length : Int) == (ts.length : Int)) = true := by simp [hl]
    go_enter Try.func16, Try.ntmps16
    go_wp2_with fail
    go_loopw [5] (fun i wr => ∃ k : Nat, k ≤ ss.length ∧ i = .int .i64 k ∧ Hid ((∀ j, j < k → nth ss j = nth ts j) ∧ Kept w wr)) (fun i _ => ss.length - (intOf i).toNat)
    case atStart => exact ⟨0, Nat.zero_le _, rfl, fun j hj => by omega, Kept.refl _⟩
    case round =>
      obtain ⟨k, hk, rfl, HY⟩ := hrel
      by_cases hlt : k < ss.length
      · obtain ⟨ha, hc1⟩ := H1.out (by omega)
        obtain ⟨hb, hc2⟩ := H2.out (by omega)
        have hk1 : wr.cell? ⟨b1, o1 + k, none⟩ = some (.string (nth ss k)) := by rw [Below.cell HY.out.2 (block_lt_of_cell (hc1 k hlt)), hc1 k hlt]
        have hk2 : wr.cell? ⟨b2, o2 + k, none⟩ = some (.string (nth ts k)) := by rw [Below.cell HY.out.2 (block_lt_of_cell (hc2 k (by omega))), hc2 k (by omega)]
        have HN : Hid (nth ss k = nth ts k → ∀ j, j < k + 1 → nth ss j = nth ts j) := fun h j hj => by
          by_cases e : j = k
          · subst e; exact h
          · exact HY.out.1 j (by omega)
        have HNO : Hid (nth ss k ≠ nth ts k → decide (ss = ts) = false) := fun h => decide_eq_false fun e => h (by rw [e])
        have hkt : k < ts.length := by omega
        rw [ha, hb]
        clear hc1 hc2 ha hb
        generalize nth ss k = p at *
        generalize nth ts k = q at *
        by_cases he : p = q
        · have HN2 := Lib.hid (HN.out he)
          subst he
          clear HN HNO
          go_wp2_with fail
          go_quiet (fail)
          go_wp2_with fail
          exact ⟨⟨k + 1, by omega, by go_num, HN2.out, HY.out.2.trans ((Kept.refl _).drewN _)⟩, by simp [intOf]; omega⟩
        · have HE2 := Lib.hid (HNO.out he)
          have heb : (p.toList == q.toList) = false := by rw [← Bool.not_eq_true, str_beq]; exact he
          clear HN HNO
          go_wp2_with fail
          go_quiet (fail)
          go_wp2_with fail
          go_ret
          exact ⟨by rw [HE2.out]; rfl, HY.out.2.trans ((Kept.refl _).drewN _)⟩
      · obtain rfl : k = ss.length := by omega
        have HE : Hid (decide (ss = ts) = true) := decide_eq_true (list_ext ss ts hl HY.out.1)
        have HK := Lib.hid HY.out.2
        clear HY H1 H2
        go_wp2_with fail
        go_ret
        exact ⟨by rw [HE.out]; rfl, HK.out⟩
  · have hlb : ((ss.length : Int) == (ts.length : Int)) = false := by simp; omega
    have HE : Hid (decide (ss = ts) = false) := decide_eq_false fun e => hl (by rw [e])
    go_enter Try.func16, Try.ntmps16
    go_wp2_with fail
    go_ret
    exact ⟨by rw [HE.out]; rfl, Kept.refl _⟩
end Go.Proofs.Ytlmoeaphikdjnaa
