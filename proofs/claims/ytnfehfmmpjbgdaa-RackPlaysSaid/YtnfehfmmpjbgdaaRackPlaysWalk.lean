/- RackPlays' walk. -/
import Derived.Test.YtnfehfmmpjbgdaaDoStep
import Derived.OpenShut
namespace Go.Proofs.Ytnfehfmmpjbgdaa
open Go.RowKit Go.ChangeShapes Go.WideShapes
set_option linter.unusedVariables false
open RSt
set_option maxHeartbeats 4000000 in
set_option maxRecDepth 100000 in
theorem rackPlays_walk (a0 a1 : Int) (a2 : Option Addr) (len2 cap2 : Nat) (z2 : List Stp) (w : World) (w0 : (Lit.int .i64 a0).wf = true) (w1 : (Lit.int .i64 a1).wf = true) (w2 : IsSteps w a2 len2 cap2 z2) :
    Calls Try.prog 3 #[.int .i64 a0, .int .i64 a1, .slice a2 len2 cap2] w fun e w' => e = .returned (.bool true) ∧ Kept w w' := by
  obtain ⟨d1, d2⟩ := bounds_i64 w0
  obtain ⟨s1, s2⟩ := bounds_i64 w1
  obtain ⟨hS, hzl, hml⟩ := w2.stps
  have HS := Lib.hid hS
  have HZL := Lib.hid hzl
  have HHV := Lib.hid (heavy_any a2 len2 cap2 z2 hzl hml w hS)
  clear w0 w1 w2 hS hzl
  have hml2 : len2 ≤ 9223372036854775807 := by unfold maxLen at hml; exact hml
  clear hml
  cases hh : heavyB z2
  · obtain ⟨h300, ht⟩ := heavy_not hh
    have HT := Lib.hid ht
    have hcall := HHV.out
    rw [hh] at hcall
    have HCALL0 := Lib.hid hcall
    have H3 : len2 ≤ 300 := by rw [← HZL.out]; exact h300
    clear h300 ht hh HHV hcall
    by_cases hbig : 64 < a1 ∧ a1 ≤ 4096
    · have b1 : decide (64 < a1) = true := decide_eq_true hbig.1
      have b2 : decide (a1 ≤ 4096) = true := decide_eq_true hbig.2
      clear hbig
      go_enter Try.func3, Try.ntmps3
      go_wp2_with fail
      refine HCALL0.out.mono ?_
      rintro e wa ⟨rfl, hk⟩
      have KA : Hid (Kept w wa) := hk
      clear hk HCALL0
      go_wp2_with fail
      refine (alive_any _).mono ?_
      rintro e w9 ⟨rfl, hk2⟩
      have K9 : Hid (Kept w w9) := KA.out.trans hk2
      clear hk2
      go_wp2_with fail
      go_ret
      exact ⟨rfl, K9.out⟩
    · by_cases hok : 1 ≤ a0 ∧ a0 ≤ 12 ∧ 1 ≤ a1 ∧ a1 ≤ 4096
      · have b1 : decide (64 < a1) = false := decide_eq_false (by omega)
        obtain ⟨n, rfl⟩ : ∃ n : Nat, a0 = n := ⟨a0.toNat, by omega⟩
        obtain ⟨m, rfl⟩ : ∃ m : Nat, a1 = m := ⟨a1.toNat, by omega⟩
        have hn1 : 1 ≤ n := by omega
        have hn2 : n ≤ 12 := by omega
        have hm1 : 1 ≤ m := by omega
        have hm2 : m ≤ 4096 := by omega
        clear hbig hok
        go_enter Try.func3, Try.ntmps3
        go_wp2_with fail
        refine HCALL0.out.mono ?_
        rintro e wa ⟨rfl, hk⟩
        have KA : Hid (Kept w wa) := hk
        clear hk HCALL0
        go_wp2_with fail
        refine (pNew_ok n m hn1 hn2 hm1 hm2 _).mono ?_
        rintro e wb ⟨rfl, hk, hR, hsz⟩
        obtain ⟨g, hg⟩ : ∃ g, g = wa.heap.size := ⟨_, rfl⟩
        rw [← hg] at hR hsz
        rw [← hg]
        have HG : Hid (w.heap.size ≤ g) := by show _ ≤ _; rw [hg]; exact KA.out.size
        have KB : Hid (Kept w wb) := KA.out.trans hk
        have RB := Lib.hid hR
        have HSZ := Lib.hid hsz
        clear hk hR hg hsz
        go_wp2_with fail
        refine (dNew_ok n m hn1 hn2 hm1 hm2 _).mono ?_
        rintro e wc ⟨rfl, hk, L, hL, hD⟩
        rw [← hL]
        have KC : Hid (Kept w wc) := KB.out.trans hk
        have HP : Hid (Pair g n m L wb.heap.size wc.heap.size wc (rack0 n m) (rack0 n m) wc) := ⟨RB.out.kept hk, hD, Only.refl _ _ _, rfl, rfl, rfl, rfl, Nat.le_of_eq HSZ.out.symm, hk.size⟩
        clear hk hL hD
        have HWC : Hid (Kept w wc) := KC
        clear KA KB RB HSZ
        go_wp2_with fail
        go_loopw [11] (fun i wr => ∃ k : Nat, k ≤ len2 ∧ i = .int .i64 k ∧ Hid (∃ s : RSt, Pair g n m L wb.heap.size wc.heap.size wc s s wr)) (fun i _ => len2 - (intOf i).toNat)
        case atStart => exact ⟨0, Nat.zero_le _, rfl, ⟨_, HP.out⟩⟩
        case round =>
          obtain ⟨k, hk, rfl, HE⟩ := hrel
          by_cases hlt : k < len2
          · obtain ⟨s, hP⟩ := HE.out
            have HPS := Lib.hid hP
            have hkw : Kept w wr := Only.kept KC.out HG.out hP.o
            have hkz : k < z2.length := by rw [HZL.out]; exact hlt
            rcases HS.out with h0 | ⟨b, o, rfl, hq⟩
            · rw [h0] at hkz; cases hkz
            · obtain ⟨op, d, i, x, hst, hts⟩ : ∃ op d i x, StpAt w b o k ⟨op, d, i, x⟩ ∧ x.size ≤ 9223372036854775807 := ⟨z2[k].op, z2[k].d, z2[k].s, z2[k].t, hq k hkz, by have := HT.out k hkz; omega⟩
              obtain ⟨c0, c1, c2, c3, bo, bd, bi, _⟩ := hst.kept hkw
              dsimp only at c0 c1 c2 c3 bo bd bi
              have hcall := do_any g n m L wb.heap.size wc.heap.size s op d i x bo.1 bo.2 bd.1 bd.2 bi.1 bi.2 hts wr hP.o.size { hP with o := Only.refl _ _ _ }
              unfold stepV at hcall
              have HCALL := Lib.hid hcall
              clear hP hq hst hcall bo bd bi hts hkw HE
              go_wp2_with fail
              refine HCALL.out.mono ?_
              rintro e wd ⟨rfl, hp2⟩
              have HE2 : Hid (∃ s : RSt, Pair g n m L wb.heap.size wc.heap.size wc s s wd) := ⟨_, { hp2 with o := HPS.out.o.trans hp2.o }⟩
              clear hp2
              go_wp2_with fail
              exact ⟨⟨k + 1, by omega, by go_num, HE2⟩, by simp [intOf]; omega⟩
          · obtain rfl : k = len2 := by omega
            obtain ⟨s, hP⟩ := HE.out
            have HPS := Lib.hid hP
            clear hP HE HP
            go_wp2_with fail
            go_loopw [12] (fun i wr => ∃ q : Nat, q ≤ n + 2 ∧ i = .int .i64 ((q : Int) - 1) ∧ Hid (Pair g n m L wb.heap.size wc.heap.size wc s s wr)) (fun i _ => n + 2 - (intOf i + 1).toNat)
            case atStart => exact ⟨0, by omega, rfl, HPS⟩
            case round =>
              obtain ⟨q, hq, rfl, HQ⟩ := hrel
              by_cases hle : q ≤ n + 1
              · have hb : decide ((q : Int) - 1 ≤ (n : Int)) = true := decide_eq_true (by omega)
                have e1 : -9223372036854775808 ≤ (q : Int) - 1 := by omega
                have e2 : (q : Int) - 1 ≤ 9223372036854775807 := by omega
                have h1 := HQ.out.allP ((q : Int) - 1) e1 e2
                have h2 : ∀ W, Pair g n m L wb.heap.size wc.heap.size wc s s W → Calls Try.prog 13 #[.pointer (some ⟨L.x, 0, none⟩), .int .i64 ((q : Int) - 1)] W fun r w' => r = .returned (.string (s.all ((q : Int) - 1))) ∧ Pair g n m L wb.heap.size wc.heap.size wc s s w' := fun W h => h.allD _
                have h3 : ∀ W, Pair g n m L wb.heap.size wc.heap.size wc s s W → Calls Try.prog 14 #[.pointer (some ⟨g + 1, 0, none⟩), .int .i64 ((q : Int) - 1)] W fun r w' => r = .returned (.int .u64 (s.writes ((q : Int) - 1) : Nat)) ∧ Pair g n m L wb.heap.size wc.heap.size wc s s w' := fun W h => h.writesP _ e1 e2
                have h4 : ∀ W, Pair g n m L wb.heap.size wc.heap.size wc s s W → Calls Try.prog 15 #[.pointer (some ⟨L.x, 0, none⟩), .int .i64 ((q : Int) - 1)] W fun r w' => r = .returned (.int .u64 (s.writes ((q : Int) - 1) : Nat)) ∧ Pair g n m L wb.heap.size wc.heap.size wc s s w' := fun W h => h.writesD _
                generalize s.all ((q : Int) - 1) = Y at *
                generalize s.writes ((q : Int) - 1) = V at *
                have H1 := Lib.hid h1
                have H2 := Lib.hid h2
                have HW3 := Lib.hid h3
                have HW4 := Lib.hid h4
                clear h1 h2 h3 h4
                go_wp2_with fail
                refine H1.out.mono ?_
                rintro e v1 ⟨rfl, hp⟩
                have P1 := Lib.hid hp
                clear hp H1
                go_wp2_with fail
                refine (H2.out _ P1.out).mono ?_
                rintro e v2 ⟨rfl, hp⟩
                have P2 := Lib.hid hp
                clear hp H2 P1
                go_wp2_with fail
                refine (HW3.out _ P2.out).mono ?_
                rintro e v3 ⟨rfl, hp⟩
                have P3 := Lib.hid hp
                clear hp HW3 P2
                go_wp2_with fail
                refine (HW4.out _ P3.out).mono ?_
                rintro e v4 ⟨rfl, hp⟩
                have P4 := Lib.hid hp
                clear hp HW4 P3
                go_wp2_with fail
                exact ⟨⟨q + 1, by omega, by congr 1; omega, P4⟩, by simp [intOf]; omega⟩
              · obtain rfl : q = n + 2 := by omega
                have hb : decide (((n + 2 : Nat) : Int) - 1 ≤ (n : Int)) = false := decide_eq_false (by omega)
                have HNA := Lib.hid HQ.out.na
                have HMA := Lib.hid HQ.out.ma
                go_wp2_with fail
                refine (drives_any _ s.n _ HQ.out.r.has).mono ?_
                rintro e v1 ⟨rfl, hv⟩
                have P1 : Hid (Pair g n m L wb.heap.size wc.heap.size wc s s v1) := by show Pair _ _ _ _ _ _ _ _ _ _; rw [hv]; exact HQ.out
                rw [HNA.out]
                clear hv HQ
                go_wp2_with fail
                refine (sectors_any g s _ P1.out.r).mono ?_
                rintro e v2 ⟨rfl, hk2⟩
                have P2 : Hid (Pair g n m L wb.heap.size wc.heap.size wc s s v2) := P1.out.kept hk2
                rw [HMA.out]
                clear hk2 P1
                go_wp2_with fail
                refine (alive_any _).mono ?_
                rintro e w9 ⟨rfl, hk2⟩
                have K9 : Hid (Kept w w9) := (Only.kept KC.out HG.out P2.out.o).trans hk2
                clear hk2
                go_wp2_with fail
                go_ret
                exact ⟨rfl, K9.out⟩
      · have b1 : (decide (64 < a1) && decide (a1 ≤ 4096)) = false := by
          cases hc : decide (64 < a1)
          · rfl
          · rw [Bool.true_and]
            exact decide_eq_false (fun c => hbig ⟨of_decide_eq_true hc, c⟩)
        by_cases hc : 64 < a1
        · have b2 : decide (64 < a1) = true := decide_eq_true hc
          have b3 : decide (a1 ≤ 4096) = false := decide_eq_false (fun c => hbig ⟨hc, c⟩)
          clear b1 hc hbig
          have HP1 := Lib.hid (fun W => pNew_bad a0 a1 d1 d2 s1 s2 hok W)
          have HD1 := Lib.hid (fun W => dNew_bad a0 a1 d1 d2 s1 s2 hok W)
          clear hok
          go_enter Try.func3, Try.ntmps3
          go_wp2_with fail
          refine HCALL0.out.mono ?_
          rintro e wa ⟨rfl, hk⟩
          have KA : Hid (Kept w wa) := hk
          clear hk HCALL0
          go_wp2_with fail
          refine (HP1.out _).mono ?_
          rintro e wb ⟨rfl, hk⟩
          have KB : Hid (Kept w wb) := KA.out.trans hk
          clear hk
          go_wp2_with fail
          refine (HD1.out _).mono ?_
          rintro e wc ⟨rfl, hk⟩
          have KC : Hid (Kept w wc) := KB.out.trans hk
          clear hk
          go_wp2_with fail
          refine (alive_any _).mono ?_
          rintro e w9 ⟨rfl, hk2⟩
          have K9 : Hid (Kept w w9) := KC.out.trans hk2
          clear hk2
          go_wp2_with fail
          go_ret
          exact ⟨rfl, K9.out⟩
        · have b2 : decide (64 < a1) = false := decide_eq_false hc
          clear b1 hc hbig
          have HP1 := Lib.hid (fun W => pNew_bad a0 a1 d1 d2 s1 s2 hok W)
          have HD1 := Lib.hid (fun W => dNew_bad a0 a1 d1 d2 s1 s2 hok W)
          clear hok
          go_enter Try.func3, Try.ntmps3
          go_wp2_with fail
          refine HCALL0.out.mono ?_
          rintro e wa ⟨rfl, hk⟩
          have KA : Hid (Kept w wa) := hk
          clear hk HCALL0
          go_wp2_with fail
          refine (HP1.out _).mono ?_
          rintro e wb ⟨rfl, hk⟩
          have KB : Hid (Kept w wb) := KA.out.trans hk
          clear hk
          go_wp2_with fail
          refine (HD1.out _).mono ?_
          rintro e wc ⟨rfl, hk⟩
          have KC : Hid (Kept w wc) := KB.out.trans hk
          clear hk
          go_wp2_with fail
          refine (alive_any _).mono ?_
          rintro e w9 ⟨rfl, hk2⟩
          have K9 : Hid (Kept w w9) := KC.out.trans hk2
          clear hk2
          go_wp2_with fail
          go_ret
          exact ⟨rfl, K9.out⟩
  · have hcall := HHV.out
    rw [hh] at hcall
    clear HHV
    go_enter Try.func3, Try.ntmps3
    go_wp2_with fail
    refine hcall.mono ?_
    rintro e wa ⟨rfl, hk⟩
    have KA : Hid (Kept w wa) := hk
    clear hk hcall
    go_wp2_with fail
    refine (alive_any _).mono ?_
    rintro e w9 ⟨rfl, hk2⟩
    have K9 : Hid (Kept w w9) := KA.out.trans hk2
    clear hk2
    go_wp2_with fail
    go_ret
    exact ⟨rfl, K9.out⟩
end Go.Proofs.Ytnfehfmmpjbgdaa
