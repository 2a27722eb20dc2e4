/- Is one of some numbers no row; rows become something. -/
import Derived.Test.YtleohicgbpebnaaAllocCode
namespace Go.Proofs.Ytleohicgbpebnaa
open Go.RowKit
set_option linter.unusedVariables false
theorem ofN_eq {n : Nat} {f : Nat → Nat} (hf : ∀ j, j < n → 1 ≤ f j ∧ f j ≤ 3) (r : Int) : (((ofN n f r : Nat) : Int) == 0) = !isRow n r := by
  unfold ofN
  cases h : isRow n r
  · rfl
  · obtain ⟨j, rfl, hj⟩ := isRow_nat h
    have := hf j hj
    simp
    omega
theorem ofN_lt {n : Nat} {f : Nat → Nat} (hf : ∀ j, j < n → 1 ≤ f j ∧ f j ≤ 3) (r : Int) : ofN n f r ≤ 3 := by
  unfold ofN
  split
  · rename_i h
    obtain ⟨j, rfl, hj⟩ := isRow_nat h
    exact (hf j hj).2
  · omega
theorem lacks1_any (g c n cap b : Nat) (f : Nat → Nat) (r : Int) (hr : -9223372036854775808 ≤ r ∧ r ≤ 9223372036854775807) (w : World) (hb : w.cell? ⟨b, 0, none⟩ = some (.pointer (some ⟨g, 0, none⟩))) (h : MapAt g c n cap f w) :
    Calls Try.prog 31 #[.int .i64 r, .pointer (some ⟨b, 0, none⟩)] w fun e w' => e = .returned (.bool (!isRow n r)) ∧ w' = w := by
  have HM := Lib.hid h
  have HE := Lib.hid (ofN_eq h.wf r)
  have hle := ofN_lt h.wf r
  clear h
  generalize hx : ofN n f r = x at *
  have HX := Lib.hid hx
  clear hx
  obtain ⟨q, hq⟩ : ∃ q, isRow n r = q := ⟨_, rfl⟩
  rw [hq] at HE ⊢
  clear hq
  have hE := HE.out
  go_enter Try.func31, Try.ntmps31
  go_wp2_with (go_at_call 21; refine (of_any g c n cap f r hr _ HM.out).mono ?_; rintro e w1 ⟨rfl, rfl⟩; rw [HX.out])
  go_ret
  exact ⟨rfl, rfl⟩
set_option maxHeartbeats 1000000 in
theorem index_any (g c n cap b : Nat) (f : Nat → Nat) (a : Option Addr) (ca : Nat) (ls : List Int) (hl : ls.length ≤ maxLen) (hr : ∀ r ∈ ls, -9223372036854775808 ≤ r ∧ r ≤ 9223372036854775807) (w : World) (hb : w.cell? ⟨b, 0, none⟩ = some (.pointer (some ⟨g, 0, none⟩))) (h : MapAt g c n cap f w) (hI : Ints .i64 w a ls) :
    Calls Try.prog 34 #[.slice a ls.length ca, .func (.func 31) #[] #[.pointer (some ⟨b, 0, none⟩)]] w fun e w' => ∃ r : Int, e = .returned (.int .i64 r) ∧ decide (0 ≤ r) = outB n ls ∧ w' = w := by
  obtain ⟨b1, o1, hc1⟩ := ints_at hI
  have HM := Lib.hid h
  have HR : Hid (∀ i, i < ls.length → -9223372036854775808 ≤ nthI ls i ∧ nthI ls i ≤ 9223372036854775807) := fun i hi => hr _ (by rw [← nthI_get ls i hi]; exact List.getElem_mem hi)
  have HC := Lib.hid hc1
  have HY : Hid (∀ i, i < ls.length → isRow n (nthI ls i) = false → outB n ls = true) := fun i hi h => outB_yes i hi h
  have HN : Hid ((∀ i, i < ls.length → isRow n (nthI ls i) = true) → outB n ls = false) := outB_none
  unfold maxLen at hl
  clear h hI hr hc1
  generalize ls.length = m at *
  go_enter Try.func34, Try.ntmps34
  go_wp2_with fail
  go_loop [8] (fun i => ∃ k : Nat, k ≤ m ∧ i = .int .i64 k ∧ Hid (∀ j, j < k → isRow n (nthI ls j) = true)) (fun i => m - (intOf i).toNat)
  case atStart => exact ⟨0, Nat.zero_le _, rfl, fun j hj => by omega⟩
  case round =>
    obtain ⟨k, hk, rfl, HA⟩ := hrel
    by_cases hlt : k < m
    · obtain ⟨rfl, hc⟩ := HC.out (by omega)
      have hck := hc k hlt
      have HRK := Lib.hid (HR.out k hlt)
      have HYK := Lib.hid (HY.out k hlt)
      have HAK : Hid (isRow n (nthI ls k) = true → ∀ j, j < k + 1 → isRow n (nthI ls j) = true) := fun h j hj => by
        by_cases e : j = k
        · subst e; exact h
        · exact HA.out j (by omega)
      clear hc HC
      generalize nthI ls k = r at *
      go_wp2_with (go_at_call 31; refine (lacks1_any g c n cap b f r HRK.out _ hb HM.out).mono ?_; rintro e w1 ⟨rfl, rfl⟩; cases hq : isRow n r)
      · go_wp2_with fail
        go_ret
        exact ⟨_, rfl, by rw [HYK.out hq]; exact decide_eq_true (by omega), rfl⟩
      · go_wp2_with fail
        go_round
        case rel => exact ⟨k + 1, by omega, by go_num, HAK.out hq⟩
        case measure => simp [intOf]; omega
    · obtain rfl : k = m := by omega
      go_wp2_with fail
      go_ret
      exact ⟨_, rfl, by rw [HN.out HA.out]; rfl, rfl⟩
theorem contains_any (g c n cap b : Nat) (f : Nat → Nat) (a : Option Addr) (ca : Nat) (ls : List Int) (hl : ls.length ≤ maxLen) (hr : ∀ r ∈ ls, -9223372036854775808 ≤ r ∧ r ≤ 9223372036854775807) (w : World) (hb : w.cell? ⟨b, 0, none⟩ = some (.pointer (some ⟨g, 0, none⟩))) (h : MapAt g c n cap f w) (hI : Ints .i64 w a ls) :
    Calls Try.prog 30 #[.slice a ls.length ca, .func (.func 31) #[] #[.pointer (some ⟨b, 0, none⟩)]] w fun e w' => e = .returned (.bool (outB n ls)) ∧ w' = w := by
  have H := Lib.hid (index_any g c n cap b f a ca ls hl hr w hb h hI)
  obtain ⟨q, hq⟩ : ∃ q, outB n ls = q := ⟨_, rfl⟩
  rw [hq] at H ⊢
  clear hq hl hr hb h hI
  generalize ls.length = m at *
  go_enter Try.func30, Try.ntmps30
  go_wp2_with fail
  refine H.out.mono ?_
  rintro e w1 ⟨r, rfl, hd, rfl⟩
  clear H
  go_wp2_with fail
  go_ret
  exact ⟨rfl, rfl⟩
theorem lacks_any (g c n cap : Nat) (f : Nat → Nat) (a : Option Addr) (ca : Nat) (ls : List Int) (hl : ls.length ≤ maxLen) (hr : ∀ r ∈ ls, -9223372036854775808 ≤ r ∧ r ≤ 9223372036854775807) (w : World) (h : MapAt g c n cap f w) (hI : Ints .i64 w a ls) :
    Calls Try.prog 24 #[.pointer (some ⟨g, 0, none⟩), .slice a ls.length ca] w fun e w' => e = .returned (.bool (outB n ls)) ∧ Kept w w' := by
  have HK : Hid (Kept w (w.alloc (.cells #[.pointer (some ⟨g, 0, none⟩)] 26))) := (Kept.refl _).alloc _
  have H := Lib.hid (contains_any g c n cap w.heap.size f a ca ls hl hr (w.alloc (.cells #[.pointer (some ⟨g, 0, none⟩)] 26)) (by rw [World.cell?_alloc_mark]; rfl) (h.kept HK.out) (hI.kept HK.out))
  obtain ⟨q, hq⟩ : ∃ q, outB n ls = q := ⟨_, rfl⟩
  rw [hq] at H ⊢
  clear hq hl hr h hI
  generalize ls.length = m at *
  go_enter Try.func24, Try.ntmps24
  go_wp2_with fail
  refine H.out.mono ?_
  rintro e w1 ⟨rfl, rfl⟩
  go_wp2_with fail
  go_ret
  exact ⟨rfl, HK.out⟩
/-- The slice's numbers do not lie in block c. -/
def Apart (a : Option Addr) (c : Nat) : Prop := ∀ x, a = some x → x.block ≠ c
set_option maxHeartbeats 1000000 in
theorem let_any (g c n cap : Nat) (f : Nat → Nat) (x : Nat) (hx : 1 ≤ x ∧ x ≤ 3) (a : Option Addr) (ca : Nat) (ls : List Int) (hl : ls.length ≤ maxLen) (hr : ∀ i, i < ls.length → ∃ j : Nat, nthI ls i = j ∧ j < n) (w : World) (h : MapAt g c n cap f w) (hI : Ints .i64 w a ls) (hA : Apart a c) :
    Calls Try.prog 25 #[.pointer (some ⟨g, 0, none⟩), .int .u8 (x : Nat), .slice a ls.length ca] w fun e w' => e = .returned (.tuple #[]) ∧ MapAt g c n cap (letF f x ls) w' ∧ But c w w' := by
  obtain ⟨b1, o1, hc1⟩ := ints_at hI
  have HM := Lib.hid h
  have HR := Lib.hid hr
  have HC := Lib.hid hc1
  have HA := Lib.hid hA
  have HX := Lib.hid hx
  have HNX : Hid (∀ k r, k < ls.length → nthI ls k = (r : Nat) → ∀ j, letF f x (ls.take (k + 1)) j = if j = r then x else letF f x (ls.take k) j) := fun k r h1 h2 j => letF_next f x ls k r h1 h2 j
  have HEND : Hid (ls.take ls.length = ls) := List.take_of_length_le (Nat.le_refl _)
  unfold maxLen at hl
  clear h hI hr hc1 hA hx
  generalize hm : ls.length = m at *
  have HLM := Lib.hid hm
  clear hm
  go_enter Try.func25, Try.ntmps25
  go_wp2_with fail
  go_loopw [10] (fun i wr => ∃ k : Nat, k ≤ m ∧ i = .int .i64 k ∧ Hid (MapAt g c n cap (letF f x (ls.take k)) wr ∧ But c w wr)) (fun i _ => m - (intOf i).toNat)
  case atStart => exact ⟨0, Nat.zero_le _, rfl, by rw [List.take_zero, letF_nil]; exact HM.out, But.refl _ _⟩
  case round =>
    obtain ⟨k, hk, rfl, HI⟩ := hrel
    by_cases hlt : k < m
    · obtain ⟨ha, hc⟩ := HC.out (by omega)
      have hne : b1 ≠ c := HA.out _ ha
      have hck : wr.cell? ⟨b1, o1 + k, none⟩ = some (.int .i64 (nthI ls k)) := by
        rw [HI.out.2.cell (p := ⟨b1, o1 + k, none⟩) (block_lt_of_cell (hc k hlt)) hne]; exact hc k hlt
      obtain ⟨r, hr, hrn⟩ := HR.out k hlt
      rw [hr] at hck
      have hd := HI.out.1.hd
      have hcell := HI.out.1.rows.cell r hrn
      have hfree := HI.out.1.rows.free r hrn
      have HS : Hid (MapAt g c n cap (letF f x (ls.take (k + 1))) (wr.setCell ⟨c, r, none⟩ (.int .u8 (x : Nat))) ∧ But c w (wr.setCell ⟨c, r, none⟩ (.int .u8 (x : Nat)))) :=
        ⟨(HI.out.1.set r hrn x HX.out).congr (fun j _ => HNX.out k r hlt hr j), HI.out.2.setCell r _⟩
      subst ha
      generalize letF f x (ls.take k) r = y at *
      have hn := HI.out.1.nm
      clear hc HC HI hr HNX
      go_wp2_with fail
      go_roundw
      case rel => exact ⟨k + 1, by omega, by go_num, HS.out⟩
      case measure => simp [intOf]; omega
    · obtain rfl : k = m := by omega
      have HF : Hid (ls.take k = ls) := HEND.out
      go_wp2_with fail
      go_end0
      rw [HF.out] at HI
      exact ⟨rfl, HI.out⟩
end Go.Proofs.Ytleohicgbpebnaa
