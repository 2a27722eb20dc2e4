/- What the program's calls on matrices answer: side, May, Unit. -/
import Derived.Test.YtlmoeaphikdjnaaMatRef3
import Derived.Test.YtlmoeaphikdjnaaTxt
namespace Go.Proofs.Ytlmoeaphikdjnaa
open Go.RowKit Gf
set_option linter.unusedVariables false
def sideB (n : Int) : Bool := decide (1 ≤ n ∧ n ≤ 64)
set_option maxRecDepth 100000 in
theorem side_any (n : Int) (w : World) (h0 : -9223372036854775808 ≤ n) (h1 : n ≤ 9223372036854775807) :
    Calls Try.prog 31 #[.int .i64 n] w fun e w' => e = .returned (.bool (sideB n)) ∧ w' = w := by
  by_cases h2 : 1 ≤ n
  · by_cases h3 : n ≤ 64
    · have HE : Hid (sideB n = true) := decide_eq_true ⟨h2, h3⟩
      go_enter Try.func31, Try.ntmps31
      go_wp2_with fail
      go_ret
      exact ⟨by rw [HE.out]; rfl, rfl⟩
    · have HE : Hid (sideB n = false) := decide_eq_false (fun h => h3 h.2)
      go_enter Try.func31, Try.ntmps31
      go_wp2_with fail
      go_ret
      exact ⟨by rw [HE.out]; rfl, rfl⟩
  · have HE : Hid (sideB n = false) := decide_eq_false (fun h => h2 h.1)
    go_enter Try.func31, Try.ntmps31
    go_wp2_with fail
    go_ret
    exact ⟨by rw [HE.out]; rfl, rfl⟩
theorem side_nat (n : Nat) (w : World) (h1 : n ≤ 9223372036854775807) :
    Calls Try.prog 31 #[.int .i64 (n : Int)] w fun e w' => e = .returned (.bool (sideB n)) ∧ w' = w := side_any n w (by omega) (by omega)
theorem sideB_yes {n : Int} (h : sideB n = true) : 1 ≤ n ∧ n ≤ 64 := of_decide_eq_true h
theorem sideB_no {n : Int} (h : sideB n = false) : ¬ (1 ≤ n ∧ n ≤ 64) := of_decide_eq_false h
set_option maxRecDepth 100000 in
theorem pMay_any (a : Option Addr) (cap : Nat) (ss : List ByteArray) (w : World) (hS : Strs w a ss) (hm : ss.length ≤ maxLen) (hz : ∀ s ∈ ss, s.size ≤ maxLen) :
    Calls Try.prog 14 #[.slice a ss.length cap] w fun e w' => e = .returned (.bool (mayB ss)) ∧ Kept w w' := by
  obtain ⟨b, o, hc⟩ := strs_at hS
  have HC := Lib.hid hc
  have HZ : Hid (∀ i, i < ss.length → (nth ss i).size ≤ maxLen) := fun i hi => hz _ (by rw [← nth_get ss i hi]; exact List.getElem_mem hi)
  clear hc hS hz
  unfold maxLen at hm
  go_enter Try.func14, Try.ntmps14
  go_wp2_with fail
  refine (side_nat ss.length _ (by omega)).mono ?_
  rintro e w1 ⟨rfl, rfl⟩
  cases h1 : sideB ss.length
  · have HE := Lib.hid (may_no ss (fun h => sideB_no h1 ⟨by omega, by omega⟩))
    clear HC HZ
    go_wp2_with fail
    go_ret
    exact ⟨by rw [HE.out]; rfl, Kept.refl _⟩
  · have h1' := sideB_yes h1
    obtain ⟨ha, hc⟩ := HC.out (by omega)
    have hc0 := hc 0 (by omega)
    have hz0 := HZ.out 0 (by omega)
    unfold maxLen at hz0
    rw [Nat.add_zero] at hc0
    rw [ha]
    obtain ⟨q, hq⟩ : ∃ q, nth ss 0 = q := ⟨_, rfl⟩
    rw [hq] at hc0 hz0
    have HQ := Lib.hid hq
    have HCC := Lib.hid hc
    clear hc ha hq HC
    go_wp2_with fail
    refine (side_nat q.size _ (by omega)).mono ?_
    rintro e w1 ⟨rfl, rfl⟩
    cases h2 : sideB q.size
    · have HE := Lib.hid (may_no ss (fun h => sideB_no h2 ⟨by rw [HQ.out] at h; omega, by rw [HQ.out] at h; omega⟩))
      go_wp2_with fail
      go_ret
      exact ⟨by rw [HE.out]; rfl, Kept.refl _⟩
    · have h2' := sideB_yes h2
      have HE := Lib.hid (may_even ss (by rw [HQ.out]; omega))
      go_wp2_with fail
      go_loop [4, 19] (fun _ i => ∃ k : Nat, k ≤ ss.length ∧ i = .int .i64 k ∧ Hid (∀ j, j < k → (nth ss j).size = (nth ss 0).size)) (fun _ i => ss.length - (intOf i).toNat)
      case atStart => exact ⟨0, Nat.zero_le _, rfl, fun j hj => by omega⟩
      case round =>
        obtain ⟨k, hk, rfl, HY⟩ := hrel
        by_cases hlt : k < ss.length
        · have hck := HCC.out k hlt
          have hzk := HZ.out k hlt
          have HNO := Lib.hid (even_no ss k hlt)
          have HN : Hid ((nth ss k).size = (nth ss 0).size → ∀ j, j < k + 1 → (nth ss j).size = (nth ss 0).size) := fun h j hj => by
            by_cases e : j = k
            · subst e; exact h
            · exact HY.out j (by omega)
          unfold maxLen at hzk
          rw [HQ.out] at HNO HN
          generalize nth ss k = p at *
          by_cases he : p.size = q.size
          · have he1 : ((p.size : Int) == (q.size : Int)) = true := by simp [he]
            have HN2 := Lib.hid (HN.out he)
            clear HN HNO
            go_wp2_with fail
            exact ⟨⟨k + 1, by omega, by go_num, by rw [HQ.out]; exact HN2.out⟩, by simp [intOf]; omega⟩
          · have he1 : ((p.size : Int) == (q.size : Int)) = false := by simp; omega
            have HE2 := Lib.hid (HNO.out he)
            clear HN HNO
            go_wp2_with fail
            go_ret
            exact ⟨by rw [HE.out, HE2.out]; rfl, Kept.refl _⟩
        · obtain rfl : k = ss.length := by omega
          have HE2 := Lib.hid (even_yes ss HY.out)
          clear HY HCC HZ
          go_wp2_with fail
          go_ret
          exact ⟨by rw [HE.out, HE2.out]; rfl, Kept.refl _⟩
end Go.Proofs.Ytlmoeaphikdjnaa
