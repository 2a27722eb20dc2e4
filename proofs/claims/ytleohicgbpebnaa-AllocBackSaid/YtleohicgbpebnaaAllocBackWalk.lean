/- AllocBack's walk. -/
import Derived.Test.YtleohicgbpebnaaAllocPlay
import Derived.BigQuiet
namespace Go.Proofs.Ytleohicgbpebnaa
open Go.RowKit
set_option linter.unusedVariables false
theorem out_rows (n : Nat) (f : Nat → Nat) (x : Nat) : outB n (rowsL n f x) = false := outB_none fun i hi => by
  rw [← nthI_get _ i hi]
  obtain ⟨j, h1, h2, _⟩ := rowsL_mem.1 (List.getElem_mem hi)
  rw [h1]
  exact decide_eq_true ⟨by omega, by omega⟩
theorem rows_small (n : Nat) (hn : n ≤ 4096) (f : Nat → Nat) (x : Nat) : ∀ r ∈ rowsL n f x, -9223372036854775808 ≤ r ∧ r ≤ 9223372036854775807 := fun r hr => by
  obtain ⟨j, h1, h2, _⟩ := rowsL_mem.1 hr
  omega
theorem may_back (n : Nat) (hn : n ≤ 4096) (f : Nat → Nat) : mayLoad (n : Nat) (rowsL n f 2) (rowsL n f 3) = true := by
  unfold mayLoad
  rw [Int.toNat_natCast, out_rows, out_rows, show mayRows (n : Nat) = true from decide_eq_true ⟨by omega, by omega⟩]
  rfl
theorem back_is (n : Nat) (f : Nat → Nat) (h : ∀ j, j < n → 1 ≤ f j ∧ f j ≤ 3) : ∀ j, j < n → f j = loadF (rowsL n f 2) (rowsL n f 3) j := fun j hj => by
  have hm : ∀ x, ((j : Int) ∈ rowsL n f x) ↔ f j = x := fun x => by
    rw [rowsL_mem]
    constructor
    · rintro ⟨i, h1, _, h3⟩
      obtain rfl : j = i := by omega
      exact h3
    · intro h2; exact ⟨j, rfl, hj, h2⟩
  have := h j hj
  unfold loadF letF
  by_cases h2 : f j = 2
  · rw [if_pos ((hm 2).2 h2), h2]
  · rw [if_neg (fun h => h2 ((hm 2).1 h))]
    by_cases h3 : f j = 3
    · rw [if_pos ((hm 3).2 h3), h3]
    · rw [if_neg (fun h => h3 ((hm 3).1 h))]
      show f j = 1
      omega
theorem wf_u16 {x : Int} (h : (Lit.int .u16 x).wf = true) : 0 ≤ x ∧ x ≤ 65535 := by
  have := bounds_u16 h
  omega
set_option maxHeartbeats 8000000 in
set_option maxRecDepth 100000 in
theorem allocBack_walk (a0 : Int) (a1 : Option Addr) (len1 cap1 : Nat) (z1 : List AStp) (a2 : Option Addr) (len2 cap2 : Nat) (z2 : List AStp) (w : World) (w0 : (Lit.int .u16 a0).wf = true) (w1 : IsASteps w a1 len1 cap1 z1) (w2 : IsASteps w a2 len2 cap2 z2) :
    Calls Try.prog 6 #[.int .u16 a0, .slice a1 len1 cap1, .slice a2 len2 cap2] w fun e w' => e = .returned (.bool true) ∧ Kept w w' := by
  obtain ⟨N, rfl⟩ : ∃ N : Nat, a0 = N := ⟨a0.toNat, by have := (wf_u16 w0).1; omega⟩
  have hN := (wf_u16 w0).2
  obtain ⟨hs1, rfl, hm1⟩ := w1.stps
  obtain ⟨hs2, rfl, hm2⟩ := w2.stps
  have HS1 := Lib.hid hs1
  have HS2 := Lib.hid hs2
  have HH1 := Lib.hid (heavy_any a1 z1.length cap1 z1 rfl hm1 w hs1 none none 0 0 0 0 (Nat.zero_le _) (Nat.zero_le _))
  have HH2 := Lib.hid (heavy_any a2 z2.length cap2 z2 rfl hm2 w hs2 none none 0 0 0 0 (Nat.zero_le _) (Nat.zero_le _))
  have HP1 : Hid (Light z1 0 0 → ∀ g c n cap f W, MapAt g c n cap f W → Kept w W → w.heap.size ≤ g → w.heap.size ≤ c → Calls Try.prog 23 #[.pointer (some ⟨g, 0, none⟩), .slice a1 z1.length cap1] W fun e w' => PlayPost g c n (playF n f z1) (playE n f z1) W e w') :=
    fun hL g c n cap f W h k hg hc => play_any g c n cap f a1 cap1 z1 hL.1 hL.2.2.2 W h (fun wr hU => hs1.kept (hU.kept k hg hc))
  have HP2 : Hid (Light z2 0 0 → ∀ g c n cap f W, MapAt g c n cap f W → Kept w W → w.heap.size ≤ g → w.heap.size ≤ c → Calls Try.prog 23 #[.pointer (some ⟨g, 0, none⟩), .slice a2 z2.length cap2] W fun e w' => PlayPost g c n (playF n f z2) (playE n f z2) W e w') :=
    fun hL g c n cap f W h k hg hc => play_any g c n cap f a2 cap2 z2 hL.1 hL.2.2.2 W h (fun wr hU => hs2.kept (hU.kept k hg hc))
  have HZ2 : Hid (Light z2 0 0 → z2.length ≤ 200) := fun h => h.1
  have HLE2 : Hid (∀ n f, (playE n f z2).length = z2.length) := fun n f => playE_length n z2 f
  clear hs1 hs2 w0 w1 w2 hm1 hm2
  generalize hl1 : z1.length = l1 at *
  generalize hl2 : z2.length = l2 at *
  clear hl1 hl2
  go_enter Try.func6, Try.ntmps6
  go_wp2_with fail
  refine HH1.out.mono ?_
  rintro e w1 ⟨v1, rfl, hv1, hw1⟩
  replace hw1 := hw1.symm
  subst hw1
  cases v1
  · have HL1 := Lib.hid (hv1 rfl)
    clear hv1 HH1
    go_wp2_with fail
    refine HH2.out.mono ?_
    rintro e w1 ⟨v1, rfl, hv1, hw1⟩
    replace hw1 := hw1.symm
    subst hw1
    cases v1
    · have HL2 := Lib.hid (hv1 rfl)
      clear hv1 HH2
      go_wp2_with fail
      obtain ⟨n, hn, hn3⟩ : ∃ n : Nat, (N : Int) % 300 = n ∧ n ≤ 299 := ⟨N % 300, by omega, by omega⟩
      rw [hn]
      clear hn hN
      have HPA := Lib.hid (HP1.out HL1.out)
      have HPB := Lib.hid (HP2.out HL2.out)
      have hl2b : l2 ≤ 200 := HZ2.out HL2.out
      clear HP1 HP2 HL1 HL2 HZ2
      refine (new_ok n (by omega) _).mono ?_
      rintro e w1 ⟨g, c, cap, rfl, hM, hg, hc, hk⟩
      have HG : Hid (w.heap.size ≤ g ∧ w.heap.size ≤ c) := ⟨hg, hc⟩
      have HM1 := Lib.hid hM
      have HK1 := Lib.hid hk
      clear hM hg hc hk
      go_wp2_with fail
      refine (HPA.out g c n cap _ _ HM1.out HK1.out HG.out.1 HG.out.2).mono ?_
      rintro e w2 ⟨v0, rfl, hP⟩
      obtain ⟨c2, cap2', hc2, hM2, _⟩ := hP.left
      have HM2 := Lib.hid hM2
      have HK2 : Hid (Kept w w2) := Upd.kept HK1.out HG.out.1 HG.out.2 hP.upd
      have HG2 : Hid (w.heap.size ≤ g ∧ w.heap.size ≤ c2) := ⟨HG.out.1, by have := HG.out.2; have := HK1.out.size; rcases hc2 with rfl | h <;> omega⟩
      clear hP hM2 hc2 HM1 HPA
      generalize playF n (fun _ => 1) z1 = f1 at *
      go_wp2_with fail
      refine (rows_any g c2 n cap2' f1 2 (by decide) _ HM2.out).mono ?_
      rintro e w3 ⟨v2, rfl, hG2, hk⟩
      have HR2 := Lib.hid hG2
      have HM3 := Lib.hid (HM2.out.kept hk)
      have HK3 : Hid (Kept w w3) := HK2.out.trans hk
      clear hk hG2
      go_wp2_with fail
      refine (rows_any g c2 n cap2' f1 3 (by decide) _ HM3.out).mono ?_
      rintro e w4 ⟨v3, rfl, hG3, hk⟩
      obtain ⟨p2, q2, hv2, hI2⟩ := (HR2.out.kept hk).ints
      obtain ⟨p3, q3, hv3, hI3⟩ := hG3.ints
      have HR2' := Lib.hid (HR2.out.kept hk)
      have HR3 := Lib.hid hG3
      have HM4 := Lib.hid (HM3.out.kept hk)
      have HK4 : Hid (Kept w w4) := HK3.out.trans hk
      subst hv2 hv3
      have hlo := load_ok n p2 p3 q2 q3 (rowsL n f1 2) (rowsL n f1 3) (may_back n (by omega) f1) (by have := rowsL_le n f1 2; unfold maxLen; omega) (by have := rowsL_le n f1 3; unfold maxLen; omega) (rows_small n (by omega) f1 2) (rows_small n (by omega) f1 3) w4 hI2 hI3 (fun x hx => by subst hx; exact (HR2'.out.lt x.block rfl).2) (fun x hx => by subst hx; exact (HR3.out.lt x.block rfl).2)
      have HLO := Lib.hid hlo
      have HBK := Lib.hid (back_is n f1 HM4.out.wf)
      clear hk hG3 hI2 hI3 hlo HR2 HR2' HR3 HM3 HM2
      generalize rowsL n f1 2 = l2' at *
      generalize rowsL n f1 3 = l3' at *
      generalize hN2 : l2'.length = N2 at *
      generalize hN3 : l3'.length = N3 at *
      clear hN2 hN3
      go_wp2_with fail
      refine HLO.out.mono ?_
      rintro e w5 ⟨g2, c5, cap5, rfl, hM, hg, hc, hk⟩
      have HMB5 := Lib.hid (hM.congr HBK.out)
      have HMA5 := Lib.hid (HM4.out.kept hk)
      have HK5 : Hid (Kept w w5) := HK4.out.trans hk
      have HSEP : Hid (g < g2 ∧ g < c5 ∧ c2 < g2 ∧ c2 < c5) := ⟨by have := HM4.out.glt; omega, by have := HM4.out.glt; omega, by have := HM4.out.lt; omega, by have := HM4.out.lt; omega⟩
      have HGB : Hid (w.heap.size ≤ g2 ∧ w.heap.size ≤ c5) := ⟨Nat.le_trans HK4.out.size hg, Nat.le_trans HK4.out.size hc⟩
      clear hM hg hc hk HLO HBK HM4
      go_wp2_with fail
      refine (HPB.out g c2 n cap2' _ _ HMA5.out HK5.out HG2.out.1 HG2.out.2).mono ?_
      rintro e w6 ⟨x1, rfl, hP⟩
      obtain ⟨c6, cap6, hc6, hM6, hx6⟩ := hP.left
      have HX6 := Lib.hid hP.gat
      have HMA6 := Lib.hid hM6
      have HMB6 := Lib.hid (HMB5.out.other hP.upd (by have := HSEP.out; omega) (by have := HSEP.out; omega) (by have := HSEP.out; omega) (by have := HSEP.out; omega))
      have HK6 : Hid (Kept w w6) := Upd.kept HK5.out HG2.out.1 HG2.out.2 hP.upd
      have HSP6 : Hid (g ≠ g2 ∧ g ≠ c5 ∧ c6 ≠ g2 ∧ c6 ≠ c5) := by
        have h1 := HSEP.out
        have h2 := HMB5.out.glt
        have h3 := HMB5.out.lt
        show _ ∧ _
        rcases hc6 with rfl | h <;> omega
      have HXB : Hid (∀ b, x1.ownBlock = some b → b ≠ g2 ∧ b ≠ c5) := fun b hb => by
        have h1 := HX6.out.lt b hb
        have h2 := HMB5.out.glt
        have h3 := HMB5.out.lt
        omega
      clear hP hc6 hM6 hx6 HMA5
      go_wp2_with fail
      refine (HPB.out g2 c5 n cap5 _ _ HMB6.out HK6.out HGB.out.1 HGB.out.2).mono ?_
      rintro e w7 ⟨x2, rfl, hP⟩
      obtain ⟨c7, cap7, hc7, hM7, hx7⟩ := hP.left
      have HY7 := Lib.hid hP.gat
      have HMB7 := Lib.hid hM7
      have HMA7 := Lib.hid (HMA6.out.other hP.upd HSP6.out.1 HSP6.out.2.1 HSP6.out.2.2.1 HSP6.out.2.2.2)
      have HX7 := Lib.hid (HX6.out.block fun b hb => hP.upd.block b (HX6.out.lt b hb).2 (HXB.out b hb).1 (HXB.out b hb).2)
      have HK7 : Hid (Kept w w7) := Upd.kept HK6.out HGB.out.1 HGB.out.2 hP.upd
      have HLN2 := HLE2.out n f1
      clear hP hc7 hM7 hx7 HMB6 HMA6 HX6 HXB HSP6 HSEP HGB HMB5 HPB HLE2
      generalize playF n f1 z2 = f2 at *
      generalize playE n f1 z2 = rs at *
      obtain ⟨b1, d1, hvx, hX⟩ := HX7.out.ints
      obtain ⟨b2, d2, hvy, hY⟩ := HY7.out.ints
      subst hvx hvy
      obtain ⟨e1, o1, hX1⟩ := ints_at hX
      obtain ⟨e2, o2, hY1⟩ := ints_at hY
      have HX := Lib.hid hX1
      have HY := Lib.hid hY1
      clear hX hY hX1 hY1 HX7 HY7
      rw [HLN2] at HX HY ⊢
      clear HLN2
      go_wp2_with fail
      go_loopw [13] (fun i wr => ∃ k : Nat, k ≤ l2 ∧ i = .int .i64 k ∧ Hid (Kept w7 wr)) (fun i _ => l2 - (intOf i).toNat)
      case atStart => exact ⟨0, Nat.zero_le _, rfl, Kept.refl _⟩
      case round =>
        obtain ⟨k, hk, rfl, HI⟩ := hrel
        by_cases hlt : k < l2
        · obtain ⟨rfl, h1⟩ := HX.out (by omega)
          obtain ⟨rfl, h2⟩ := HY.out (by omega)
          have hx := cell_kept (h1 k hlt) HI.out
          have hy := cell_kept (h2 k hlt) HI.out
          clear h1 h2 HX HY
          generalize nthI rs k = x at *
          have hb : (x != x) = false := by simp
          go_wp2_with fail
          go_region
          all_goals
            go_wp2_with fail
            go_roundw
            case rel => exact ⟨k + 1, by omega, by go_num, (HI.out.drewN _)⟩
            case measure => simp [intOf]; omega
        · obtain rfl : k = l2 := by omega
          have HMA8 := Lib.hid (HMA7.out.kept HI.out)
          have HMB8 := Lib.hid (HMB7.out.kept HI.out)
          have HK8 : Hid (Kept w wr) := HK7.out.trans HI.out
          clear HI HX HY HMA7 HMB7
          go_wp2_with fail
          go_loop [14] (fun i => ∃ j : Nat, j ≤ n ∧ i = .int .i64 j) (fun i => n - (intOf i).toNat)
          case atStart => exact ⟨0, Nat.zero_le _, rfl⟩
          case round =>
            obtain ⟨j, hj, rfl⟩ := hrel
            by_cases hjn : j < n
            · have HOA := Lib.hid (of_any g c6 n cap6 f2 (j : Nat) (by omega) wr HMA8.out)
              have HOB := Lib.hid (of_any g2 c7 n cap7 f2 (j : Nat) (by omega) wr HMB8.out)
              generalize ofN n f2 (j : Nat) = x at *
              have hb : ((x : Int) != (x : Int)) = false := by simp
              go_wp2_with fail
              refine HOA.out.mono ?_
              rintro e w9 ⟨rfl, hw9⟩
              replace hw9 := hw9.symm
              subst hw9
              go_wp2_with fail
              refine HOB.out.mono ?_
              rintro e w9 ⟨rfl, hw9⟩
              replace hw9 := hw9.symm
              subst hw9
              go_wp2_with fail
              go_round
              case rel => exact ⟨j + 1, by omega, by go_num⟩
              case measure => simp [intOf]; omega
            · obtain rfl : j = n := by omega
              go_wp2_with fail
              refine (works_any _).mono ?_
              rintro e w9 ⟨rfl, hk9⟩
              have K9 : Hid (Kept w w9) := HK8.out.trans hk9
              clear hk9
              go_wp2_with fail
              go_ret
              exact ⟨rfl, K9.out⟩
    · go_wp2_with fail
      refine (works_any _).mono ?_
      rintro e w1 ⟨rfl, hk⟩
      have K1 := Lib.hid hk
      clear hk
      go_wp2_with fail
      go_ret
      exact ⟨rfl, K1.out⟩
  · go_wp2_with fail
    refine (works_any _).mono ?_
    rintro e w1 ⟨rfl, hk⟩
    have K1 := Lib.hid hk
    clear hk
    go_wp2_with fail
    go_ret
    exact ⟨rfl, K1.out⟩
end Go.Proofs.Ytleohicgbpebnaa
