/- A slice of steps lies there; whether there are too many, or a text is too long. -/
import Derived.Test.YtnfehfmmpjbgdaaSteps
import Derived.Test.YtnfehfmmpjbgdaaRackAlive
namespace Go.Proofs.Ytnfehfmmpjbgdaa
open Go.RowKit
set_option linter.unusedVariables false
/-- The steps lie there, behind a pointer of the slice. -/
def Stps (w : World) (a : Option Addr) (zs : List Stp) : Prop :=
  zs = [] ∨ ∃ b o, a = some ⟨b, o, none⟩ ∧ ∀ (i : Nat) (h : i < zs.length), StpAt w b o i zs[i]
theorem IsSteps.stps {w : World} {a : Option Addr} {len cap : Nat} {zs : List Stp} (h : IsSteps w a len cap zs) : Stps w a zs ∧ zs.length = len ∧ len ≤ maxLen := by
  rcases h with ⟨rfl, rfl, rfl, rfl⟩ | ⟨p, rfl, hl, hm, hz, hq⟩
  · exact ⟨.inl rfl, rfl, by decide⟩
  · refine ⟨?_, hz, by omega⟩
    rcases Nat.eq_zero_or_pos zs.length with h0 | h0
    · exact .inl (List.length_eq_zero_iff.1 h0)
    · obtain ⟨b, o, spot⟩ := p
      have := (hq 0 h0).1
      dsimp only at this
      subst this
      exact .inr ⟨b, o, rfl, fun i hi => (hq i hi).2⟩
theorem StpAt.kept {w w' : World} {b o i : Nat} {z : Stp} (h : StpAt w b o i z) (k : Kept w w') : StpAt w' b o i z := by
  obtain ⟨h0, h1, h2, h3, h4⟩ := h
  exact ⟨cell_kept h0 k, cell_kept h1 k, cell_kept h2 k, cell_kept h3 k, h4⟩
theorem Stps.kept {w w' : World} {a : Option Addr} {zs : List Stp} (h : Stps w a zs) (k : Kept w w') : Stps w' a zs := by
  rcases h with h | ⟨b, o, rfl, h⟩
  · exact .inl h
  · exact .inr ⟨b, o, rfl, fun i hi => (h i hi).kept k⟩
/-- Too many steps, or a text that is too long. -/
def heavyB (zs : List Stp) : Bool := decide (300 < zs.length) || zs.any fun z => decide (1024 < z.t.size)
theorem heavy_not {zs : List Stp} (h : heavyB zs = false) : zs.length ≤ 300 ∧ ∀ (i : Nat) (hi : i < zs.length), zs[i].t.size ≤ 1024 := by
  unfold heavyB at h
  rw [Bool.or_eq_false_iff] at h
  refine ⟨by have := of_decide_eq_false h.1; omega, fun i hi => ?_⟩
  have h2 := List.any_eq_false.1 h.2 zs[i] (List.getElem_mem hi)
  have := of_decide_eq_false (by simpa using h2 : decide (1024 < zs[i].t.size) = false)
  omega
set_option maxHeartbeats 1000000 in
set_option maxRecDepth 100000 in
theorem heavy_any (a : Option Addr) (len cap : Nat) (zs : List Stp) (hl : zs.length = len) (hm : len ≤ maxLen) (w : World) (hS : Stps w a zs) :
    Calls Try.prog 7 #[.slice a len cap] w fun e w' => e = .returned (.bool (heavyB zs)) ∧ Kept w w' := by
  subst hl
  have hm2 : zs.length ≤ 9223372036854775807 := by unfold maxLen at hm; exact hm
  clear hm
  by_cases h300 : 300 < zs.length
  · have HB : Hid (heavyB zs = true) := by show _ = _; unfold heavyB; rw [decide_eq_true h300]; rfl
    have hb : decide ((300 : Int) < (zs.length : Nat)) = true := decide_eq_true (by omega)
    clear hS
    generalize zs.length = n at *
    go_enter Try.func7, Try.ntmps7
    go_wp2_with fail
    go_ret
    rw [HB.out]
    exact ⟨rfl, Kept.refl _⟩
  · have hb : decide ((300 : Int) < (zs.length : Nat)) = false := decide_eq_false (by omega)
    have HS := Lib.hid hS
    clear hS
    obtain ⟨n, hn⟩ : ∃ n, n = zs.length := ⟨_, rfl⟩
    rw [← hn] at hb h300 hm2
    rw [← hn]
    have HN := Lib.hid hn
    clear hn
    go_enter Try.func7, Try.ntmps7
    go_wp2_with fail
    go_loopw [3] (fun i wr => ∃ k : Nat, k ≤ n ∧ i = .int .i64 k ∧ wr = w ∧ Hid (∀ (j : Nat) (hj : j < zs.length), j < k → zs[j].t.size ≤ 1024)) (fun i _ => n - (intOf i).toNat)
    case atStart => exact ⟨0, Nat.zero_le _, rfl, rfl, fun j hj h => absurd h (by omega)⟩
    case round =>
      obtain ⟨k, hk, rfl, rfl, HA⟩ := hrel
      by_cases hlt : k < n
      · have hkz : k < zs.length := by rw [← HN.out]; exact hlt
        rcases HS.out with h0 | ⟨b, o, rfl, hq⟩
        · rw [h0] at hkz; cases hkz
        · obtain ⟨_, _, _, c3, _, _, _, hsz⟩ := hq k hkz
          have HSZ : Hid (zs[k].t.size ≤ 1024 → ∀ (j : Nat) (hj : j < zs.length), j < k + 1 → zs[j].t.size ≤ 1024) := fun h j hj hjk => by
            by_cases e : j = k
            · subst e; exact h
            · exact HA.out j hj (by omega)
          have HBT : Hid (1024 < zs[k].t.size → heavyB zs = true) := fun h => by
            unfold heavyB
            rw [List.any_eq_true.2 ⟨zs[k], List.getElem_mem hkz, decide_eq_true h⟩]
            simp
          have hsz2 : zs[k].t.size ≤ 9223372036854775807 := by unfold maxLen at hsz; exact hsz
          generalize zs[k].t = t at *
          clear hq hsz
          by_cases h2 : 1024 < t.size
          · have hb2 : decide ((1024 : Int) < (t.size : Nat)) = true := decide_eq_true (by omega)
            have HR := Lib.hid (HBT.out h2)
            clear h2
            go_wp2_with fail
            go_ret
            rw [HR.out]
            exact ⟨rfl, Kept.refl _⟩
          · have hb2 : decide ((1024 : Int) < (t.size : Nat)) = false := decide_eq_false (by omega)
            have HR := Lib.hid (HSZ.out (by omega))
            clear h2
            go_wp2_with fail
            exact ⟨⟨k + 1, by omega, by go_num, trivial, HR⟩, by simp [intOf]; omega⟩
      · have HR : Hid (heavyB zs = false) := by
          show _ = _
          unfold heavyB
          rw [Bool.or_eq_false_iff]
          refine ⟨decide_eq_false (by rw [← HN.out]; omega), List.any_eq_false.2 fun z hz => ?_⟩
          obtain ⟨j, hj, rfl⟩ := List.getElem_of_mem hz
          have := HA.out j hj (by have := HN.out; omega)
          simp; omega
        go_wp2_with fail
        go_ret
        rw [HR.out]
        exact ⟨rfl, Kept.refl _⟩
end Go.Proofs.Ytnfehfmmpjbgdaa
