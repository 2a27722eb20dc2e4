/- The walk of FieldTexts. -/
import Derived.Test.YtmfoplkpdibppaaFieldPowsWalk
namespace Go.Proofs.Ytmfoplkpdibppaa
open Go.RowKit Gf
set_option linter.unusedVariables false
/-- More texts, or longer ones, than are looked at. -/
def longB (ss : List ByteArray) : Bool := decide (40 < ss.length) || ss.any fun s => decide (512 < s.size)
theorem longB_no (ss : List ByteArray) (h : longB ss = false) : ss.length ≤ 40 ∧ ∀ s ∈ ss, s.size ≤ 512 := by
  unfold longB at h
  simp only [Bool.or_eq_false_iff, decide_eq_false_iff_not, List.any_eq_false, decide_eq_true_eq] at h
  exact ⟨by omega, fun s hs => by have := h.2 s hs; omega⟩
theorem longB_len (ss : List ByteArray) (h : 40 < ss.length) : longB ss = true := by unfold longB; simp [h]
theorem longB_one (ss : List ByteArray) (k : Nat) (hk : k < ss.length) (h : 512 < (nth ss k).size) : longB ss = true := by
  unfold longB
  rw [Bool.or_eq_true, List.any_eq_true]
  exact .inr ⟨_, List.getElem_mem hk, by rw [nth_get ss k hk]; simpa using h⟩
theorem longB_all (ss : List ByteArray) (h : ss.length ≤ 40) (hz : ∀ j, j < ss.length → (nth ss j).size ≤ 512) : longB ss = false := by
  unfold longB
  simp only [Bool.or_eq_false_iff, decide_eq_false_iff_not, List.any_eq_false, decide_eq_true_eq]
  refine ⟨by omega, fun s hs => ?_⟩
  obtain ⟨i, hi, rfl⟩ := List.getElem_of_mem hs
  rw [nth_get ss i hi]
  have := hz i hi
  omega
set_option maxRecDepth 100000 in
theorem long_any (a : Option Addr) (cap : Nat) (ss : List ByteArray) (w : World) (hS : Strs w a ss) (hm : ss.length ≤ maxLen) (hz : ∀ s ∈ ss, s.size ≤ maxLen) :
    Calls Try.prog 18 #[.slice a ss.length cap] w fun e w' => e = .returned (.bool (longB ss)) ∧ w' = w := by
  obtain ⟨b, o, hc⟩ := strs_at hS
  have HC := Lib.hid hc
  have HZ : Hid (∀ i, i < ss.length → (nth ss i).size ≤ maxLen) := fun i hi => hz _ (by rw [← nth_get ss i hi]; exact List.getElem_mem hi)
  clear hc hS hz
  unfold maxLen at hm
  rcases Nat.lt_or_ge 40 ss.length with h | h
  · go_enter Try.func18, Try.ntmps18
    go_wp2_with fail
    go_ret
    exact ⟨by rw [longB_len ss h]; rfl, rfl⟩
  · go_enter Try.func18, Try.ntmps18
    go_wp2_with fail
    go_loop [3] (fun i => ∃ k : Nat, k ≤ ss.length ∧ i = .int .i64 k ∧ Hid (∀ j, j < k → (nth ss j).size ≤ 512)) (fun i => ss.length - (intOf i).toNat)
    case atStart => exact ⟨0, Nat.zero_le _, rfl, fun j hj => by omega⟩
    case round =>
      obtain ⟨k, hk, rfl, HY⟩ := hrel
      by_cases hlt : k < ss.length
      · obtain ⟨ha, hc⟩ := HC.out (by omega)
        have hck := hc k hlt
        have hzk := HZ.out k hlt
        have HN : Hid ((nth ss k).size ≤ 512 → ∀ j, j < k + 1 → (nth ss j).size ≤ 512) := fun h j hj => by
          by_cases e : j = k
          · subst e; exact h
          · exact HY.out j (by omega)
        have HLO := Lib.hid (longB_one ss k hlt)
        rw [ha]
        clear hc ha
        generalize nth ss k = p at *
        unfold maxLen at hzk
        rcases Nat.lt_or_ge 512 p.size with hp | hp
        · have HL2 := Lib.hid (HLO.out hp)
          clear HN HLO
          go_wp2_with fail
          go_ret
          exact ⟨by rw [HL2.out]; rfl, rfl⟩
        · have HN2 := Lib.hid (HN.out hp)
          clear HN HLO
          go_wp2_with fail
          exact ⟨⟨k + 1, by omega, by go_num, HN2.out⟩, by simp [intOf]; omega⟩
      · obtain rfl : k = ss.length := by omega
        have HL2 := Lib.hid (longB_all ss h HY.out)
        clear HC HZ HY
        go_wp2_with fail
        go_ret
        exact ⟨by rw [HL2.out]; rfl, rfl⟩
set_option maxHeartbeats 4000000 in
set_option maxRecDepth 100000 in
theorem fieldTexts_walk (a0 : ByteArray) (a1 : Option Addr) (len1 cap1 : Nat) (z1 : List ByteArray) (w : World) (w0 : a0.size ≤ maxLen) (w1 : IsStrs w a1 len1 cap1 z1) :
    Calls Try.prog 4 #[.string a0, .slice a1 len1 cap1] w fun e w' => e = .returned (.bool true) ∧ Kept w w' := by
  obtain ⟨hS, hl, hz⟩ := w1.strs
  have hlm : len1 ≤ maxLen := by
    rcases w1 with ⟨_, rfl, _, _⟩ | ⟨x, _, h1, h2, _⟩
    · exact Nat.zero_le _
    · exact Nat.le_trans h1 h2
  clear w1
  generalize z1.take len1 = ss at *
  subst hl
  obtain ⟨b, o, hc⟩ := strs_at hS
  have HS := Lib.hid hS
  have HC := Lib.hid hc
  have HZ := Lib.hid hz
  have HLM := Lib.hid hlm
  clear hS hc hz
  unfold maxLen at w0 hlm
  go_enter Try.func4, Try.ntmps4
  go_wp2_with fail
  refine (long_any a1 cap1 ss _ HS.out HLM.out HZ.out).mono ?_
  rintro e w1 ⟨rfl, rfl⟩
  cases hv : longB ss
  · obtain ⟨hl40, hz512⟩ := longB_no ss hv
    have HZZ := Lib.hid hz512
    clear hz512 hv
    rcases Nat.lt_or_ge 100 a0.size with hcs | hcs
    · go_wp2_with fail
      refine (fieldAlive_any _).mono ?_
      rintro e w2 ⟨rfl, k2⟩
      go_wp2_with fail
      go_ret
      exact ⟨rfl, k2⟩
    · have HZ1 : Hid (∀ s ∈ ss, s.size ≤ 100000000) := fun s hs => Nat.le_trans (HZZ.out s hs) (by decide)
      go_wp2_with fail
      refine (plus_any a1 cap1 ss _ HS.out (by omega) HZ1.out).mono ?_
      rintro e w2 ⟨rfl, k2⟩
      go_wp2_with fail
      refine (refPlus_any a1 cap1 ss _ (HS.out.kept k2) (by omega) HZ1.out).mono ?_
      rintro e w3 ⟨rfl, k3⟩
      go_wp2_with fail
      refine (sum_any a0 a1 cap1 ss _ ((HS.out.kept k2).kept k3) (by omega) HZ1.out (by omega)).mono ?_
      rintro e w4 ⟨rfl, k4⟩
      go_wp2_with fail
      refine (refSum_any a0 a1 cap1 ss _ (((HS.out.kept k2).kept k3).kept k4) (by omega) HZ1.out (by omega)).mono ?_
      rintro e w5 ⟨rfl, k5⟩
      have HK := Lib.hid (k2.trans (k3.trans (k4.trans k5)))
      clear k2 k3 k4 k5
      generalize plS ss = p1 at *
      generalize plE ss = p2 at *
      generalize sumS a0 ss = p3 at *
      generalize sumE a0 ss = p4 at *
      go_wp2_with fail
      clear hlm w0
      go_loopw [13] (fun i wr => ∃ k : Nat, k ≤ 40 ∧ i = .int .i64 k ∧ Hid (Kept w1 wr)) (fun i _ => 40 - (intOf i).toNat)
      case atStart => exact ⟨0, Nat.zero_le _, rfl, HK.out⟩
      case round =>
        obtain ⟨k, hk, rfl, HI⟩ := hrel
        by_cases h1 : k < a0.size
        · by_cases h2 : k < ss.length
          · obtain ⟨ha, hc⟩ := HC.out (by omega)
            have HCK : Hid (∀ W, Kept w1 W → W.cell? ⟨b, o + k, none⟩ = some (.string (nth ss k))) := fun W hW => by
              rw [Below.cell hW (block_lt_of_cell (hc k h2)), hc k h2]
            have hzk : (nth ss k).size ≤ 100000000 := HZ1.out _ (by rw [← nth_get ss k h2]; exact List.getElem_mem h2)
            have hcb := a0[k].toNat_lt
            rw [ha]
            clear hc ha
            generalize nth ss k = p at *
            have hck := HCK.out wr HI.out
            go_upto_region 12 with fail
            go_cut [90] from 74 to 90 (fun x wx => x = .bool false ∧ Hid (Kept w1 wx))
            case first =>
              go_region_held3 (fun w' => w'.cell? ⟨b, o + k, none⟩ = some (.string p)) (first | assumption | exact HCK.out _ (HI.out.trans (((Kept.refl _).drewN _).trans k6)) | exact HCK.out _ (HI.out.trans (((Kept.refl _).drewN _).trans k7)) | exact HCK.out _ (HI.out.trans ((((Kept.refl _).drewN _).trans k6).trans k7)) | exact HCK.out _ (HI.out.trans ((((Kept.refl _).drewN _).trans k7).trans k6)))
                (first
                  | (go_at_call 23; refine (times_any a0[k].toNat p hcb hzk _).mono ?_; rintro e w6 ⟨rfl, k6⟩)
                  | (go_at_call 24; refine (refTimes_any a0[k].toNat p hcb hzk _).mono ?_; rintro e w7 ⟨rfl, k7⟩))
              all_goals
                go_wp2_with fail
                go_meet
                exact ⟨by simp, by first | exact HI.out.trans (((Kept.refl _).drew.trans k6).trans k7) | exact HI.out.trans (((Kept.refl _).drew.trans k7).trans k6)⟩
            case rest =>
              obtain ⟨rfl, HK9⟩ := hcut
              go_wp2_with fail
              exact ⟨⟨k + 1, by omega, by go_num, HK9⟩, by simp [intOf]; omega⟩
          · clear HC
            go_wp2_with fail
            refine (fieldAlive_any _).mono ?_
            rintro e w8 ⟨rfl, k8⟩
            go_wp2_with fail
            go_ret
            exact ⟨rfl, HI.out.trans k8⟩
        · clear HC
          go_wp2_with fail
          refine (fieldAlive_any _).mono ?_
          rintro e w8 ⟨rfl, k8⟩
          go_wp2_with fail
          go_ret
          exact ⟨rfl, HI.out.trans k8⟩
  · clear hv
    go_wp2_with fail
    refine (fieldAlive_any _).mono ?_
    rintro e w2 ⟨rfl, k2⟩
    go_wp2_with fail
    go_ret
    exact ⟨rfl, k2⟩
end Go.Proofs.Ytmfoplkpdibppaa
