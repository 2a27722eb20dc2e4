/- AllocPlays' walk. -/
import Derived.Test.YtleohicgbpebnaaAllocBoth
import Derived.Test.YtleohicgbpebnaaAllocPlay
import Derived.Deep.RegionLaw
import Derived.Deep.CutBlock
import Derived.IntWalk
namespace Go.Proofs.Ytleohicgbpebnaa
open Go.RowKit
set_option linter.unusedVariables false
theorem may_none (m : Int) : mayLoad m [] [] = mayRows m := by unfold mayLoad outB; simp
theorem load_none : loadF [] [] = fun _ => 1 := by unfold loadF; rw [letF_nil, letF_nil]
set_option maxHeartbeats 8000000 in
set_option maxRecDepth 100000 in
theorem allocPlays_walk (a0 : Int) (a1 : Option Addr) (len1 cap1 : Nat) (z1 : List Int) (a2 : Option Addr) (len2 cap2 : Nat) (z2 : List Int) (a3 : Option Addr) (len3 cap3 : Nat) (z3 : List AStp) (w : World) (w0 : (Lit.int .i64 a0).wf = true) (w1 : IsRow .i64 w a1 len1 cap1 z1) (w2 : IsRow .i64 w a2 len2 cap2 z2) (w3 : IsASteps w a3 len3 cap3 z3) :
    Calls Try.prog 3 #[.int .i64 a0, .slice a1 len1 cap1, .slice a2 len2 cap2, .slice a3 len3 cap3] w fun e w' => e = .returned (.bool true) ∧ Kept w w' := by
  obtain ⟨d1, d2⟩ := wf_i64 w0
  obtain ⟨hU, hul, hum, huw⟩ := w1.ints
  obtain ⟨hD, hdl, hdm, hdw⟩ := w2.ints
  obtain ⟨hS, hsl, hsm⟩ := w3.stps
  clear w1 w2 w3 w0
  generalize z1.take len1 = us at *
  generalize z2.take len2 = ds at *
  subst hul hdl hsl
  have HH := Lib.hid (heavy_any a3 z3.length cap3 z3 rfl hsm w hS a1 a2 us.length cap1 ds.length cap2 hum hdm)
  have HU := Lib.hid hU
  have HD := Lib.hid hD
  have HS := Lib.hid hS
  have HUW : Hid (∀ r ∈ us, -9223372036854775808 ≤ r ∧ r ≤ 9223372036854775807) := fun r hr => wf_i64 (huw r hr)
  have HDW : Hid (∀ r ∈ ds, -9223372036854775808 ≤ r ∧ r ≤ 9223372036854775807) := fun r hr => wf_i64 (hdw r hr)
  have HLIGHT : Hid (Light z3 us.length ds.length → z3.length ≤ 200 ∧ us.length ≤ 2000 ∧ ds.length ≤ 2000 ∧ ∀ (i : Nat) (hi : i < z3.length), z3[i].ln ≤ 200) := fun h => h
  clear hU hD hS hum hdm hsm huw hdw
  obtain ⟨nu, hnu⟩ : ∃ nu, nu = us.length := ⟨_, rfl⟩
  obtain ⟨nd, hnd⟩ : ∃ nd, nd = ds.length := ⟨_, rfl⟩
  obtain ⟨ns, hns⟩ : ∃ ns, ns = z3.length := ⟨_, rfl⟩
  rw [← hnu, ← hnd] at HLIGHT
  rw [← hnu, ← hnd, ← hns] at HH ⊢
  have HNU := Lib.hid hnu
  have HND := Lib.hid hnd
  have HNS := Lib.hid hns
  clear hnu hnd hns
  go_enter Try.func3, Try.ntmps3
  go_wp2_with fail
  refine HH.out.mono ?_
  rintro e w1 ⟨v1, rfl, hv1, hw1⟩
  replace hw1 := hw1.symm
  subst hw1
  cases v1
  · obtain ⟨hl1, hl2, hl3, hl4⟩ := HLIGHT.out (hv1 rfl)
    rw [← HNS.out] at hl1
    have HLN := Lib.hid hl4
    clear hv1 HH HLIGHT hl4
    go_wp2_with (at_builtin; first
      | (refine wpList_copyI _ rfl (.const (.slice none 0 0)) (.tmp 34) rfl a1 cap1 us (by rfl) (by rw [← HNU.out]; rfl) HU.out (by rw [← HNU.out]; omega) ?_; intro v8 w8 hC8; obtain ⟨a8, ca8, hv8, hI8, hK8, hO8⟩ := hC8; rw [← HNU.out] at hv8; subst hv8)
      | (refine wpList_copyI _ rfl (.const (.slice none 0 0)) (.tmp 36) rfl a2 cap2 ds (by rfl) (by rw [← HND.out]; rfl) (HD.out.kept hK8) (by rw [← HND.out]; omega) ?_; intro v9 w9 hC9; obtain ⟨a9, ca9, hv9, hI9, hK9, hO9⟩ := hC9; rw [← HND.out] at hv9; subst hv9))
    have HK9 : Hid (Kept w w9) := hK8.trans hK9
    have HI8 : Hid (Ints .i64 w9 a8 us) := hI8.kept hK9
    have HI9 : Hid (Ints .i64 w9 a9 ds) := hI9
    have HO8 : Hid (∀ x, a8 = some x → x.block < w9.heap.size) := fun x hx => Nat.lt_of_lt_of_le (hO8 x hx).2 hK9.size
    have HO9 : Hid (∀ x, a9 = some x → x.block < w9.heap.size) := fun x hx => (hO9 x hx).2
    clear hK8 hK9 hI8 hI9 hO8 hO9
    have HREF : Hid (∀ W, Kept w W → Calls Try.prog 10 #[.int .i64 a0, .slice a1 nu cap1, .slice a2 nd cap2] W fun e w' => GotRef a0 us ds W e w') := fun W hW => by
      have h := refLoad_any a0 ⟨d1, d2⟩ a1 a2 cap1 cap2 us ds (by rw [← HNU.out]; omega) (by rw [← HND.out]; omega) HUW.out HDW.out W (HU.out.kept hW) (HD.out.kept hW)
      rwa [← HNU.out, ← HND.out] at h
    have HEMP : Hid (nu + nd = 0 → us = [] ∧ ds = []) := fun h => ⟨List.length_eq_zero_iff.1 (by rw [← HNU.out]; omega), List.length_eq_zero_iff.1 (by rw [← HND.out]; omega)⟩
    cases hml : mayLoad a0 us ds
    · have HLB := Lib.hid (load_bad a0 a8 a9 ca8 ca9 us ds hml (by rw [← HNU.out]; unfold maxLen; omega) (by rw [← HND.out]; unfold maxLen; omega) HUW.out HDW.out w9 HI8.out HI9.out)
      rw [← HNU.out, ← HND.out] at HLB
      have HML := Lib.hid hml
      clear hml HI8 HI9 HO8 HO9
      refine HLB.out.mono ?_
      rintro e w10 ⟨rfl, hk⟩
      have HK10 : Hid (Kept w w10) := HK9.out.trans hk
      clear hk HLB
      go_wp2_with fail
      refine (HREF.out _ HK10.out).mono ?_
      rintro e w11 ⟨hk, ⟨_, rfl⟩ | ⟨ht, _⟩⟩
      · have HK11 : Hid (Kept w w11) := HK10.out.trans hk
        clear hk
        by_cases h0 : nu + nd = 0
        · have hb : (((nu : Int) + (nd : Int)) == 0) = true := by simp; omega
          have HMR : Hid (mayRows a0 = false) := by
            have h := HML.out
            rw [(HEMP.out h0).1, (HEMP.out h0).2, may_none] at h
            exact h
          clear h0
          go_wp2_with fail
          refine (new_bad a0 HMR.out _).mono ?_
          rintro e w12 ⟨rfl, hk⟩
          have HK12 : Hid (Kept w w12) := HK11.out.trans hk
          clear hk
          go_wp2_with fail
          refine (works_any _).mono ?_
          rintro e w13 ⟨rfl, hk⟩
          have HK13 : Hid (Kept w w13) := HK12.out.trans hk
          clear hk
          go_wp2_with fail
          go_ret
          exact ⟨rfl, HK13.out⟩
        · have hb : (((nu : Int) + (nd : Int)) == 0) = false := by simp; omega
          clear h0
          go_wp2_with fail
          refine (works_any _).mono ?_
          rintro e w13 ⟨rfl, hk⟩
          have HK13 : Hid (Kept w w13) := HK11.out.trans hk
          clear hk
          go_wp2_with fail
          go_ret
          exact ⟨rfl, HK13.out⟩
      · rw [HML.out] at ht
        cases ht
    · obtain ⟨n, rfl, hn⟩ : ∃ n : Nat, a0 = n ∧ n ≤ 4096 := by
        have h := hml
        unfold mayLoad at h
        rw [Bool.and_eq_true] at h
        have := of_decide_eq_true h.1
        exact ⟨a0.toNat, by omega, by omega⟩
      have HLO := Lib.hid (load_ok n a8 a9 ca8 ca9 us ds hml (by rw [← HNU.out]; unfold maxLen; omega) (by rw [← HND.out]; unfold maxLen; omega) HUW.out HDW.out w9 HI8.out HI9.out HO8.out HO9.out)
      rw [← HNU.out, ← HND.out] at HLO
      have HML := Lib.hid hml
      clear hml HI8 HI9 HO8 HO9 HU HD HUW HDW
      refine HLO.out.mono ?_
      rintro e w10 ⟨g, c, cap, rfl, hM, hg, hc, hk⟩
      have HM10 := Lib.hid hM
      have HK10 : Hid (Kept w w10) := HK9.out.trans hk
      have HG10 : Hid (w.heap.size ≤ g ∧ w.heap.size ≤ c) := ⟨Nat.le_trans HK9.out.size hg, Nat.le_trans HK9.out.size hc⟩
      clear hk HLO hM hg hc HK9
      go_wp2_with fail
      refine (HREF.out _ HK10.out).mono ?_
      rintro e w11 ⟨hk, ⟨ht, _⟩ | ⟨_, r, cr, a, rc, rfl, hR, hr, hcr, hcl⟩⟩
      · rw [HML.out] at ht
        cases ht
      · have HK11 : Hid (Kept w w11) := HK10.out.trans hk
        have HM11 := Lib.hid (HM10.out.kept hk)
        have HR11 : Hid (RefAt r cr n a rc (loadF us ds) w11) := hR
        have HSEP : Hid (w.heap.size ≤ r ∧ w.heap.size ≤ cr ∧ cr < w11.heap.size ∧ g < r ∧ g < cr ∧ c < r ∧ c < cr) := by
          have h1 := HK10.out.size
          have h2 := HM10.out.glt
          have h3 := HM10.out.lt
          show _ ∧ _
          omega
        clear hk hR hr hcr hcl HM10 HK10 HREF HML
        have HSTART : ∃ f0 : Nat → Nat, Hid (f0 = loadF us ds) := ⟨_, rfl⟩
        obtain ⟨f0, HF0⟩ := HSTART
        rw [← HF0.out] at HR11 HM11
        have HG11 := Lib.hid HG10.out
        go_upto_if 50 with fail
        go_cut [9, 10, 12, 13, 50] from 51 to 57 (fun s9 s10 _ _ _ wx => ∃ gg : Nat, s9 = .pointer (some ⟨gg, 0, none⟩) ∧ s10 = .int .i64 0 ∧ Hid (Both (fun _ => False) gg r cr n a rc f0 f0 w wx))
        case first =>
          by_cases h0 : nu + nd = 0
          · have hb : (((nu : Int) + (nd : Int)) == 0) = true := by simp; omega
            have HFN : Hid (f0 = fun _ => 1) := by
              show _ = _
              rw [HF0.out, (HEMP.out h0).1, (HEMP.out h0).2, load_none]
            clear h0 HF0 HEMP HM11
            go_wp2_with fail
            refine (new_ok n hn _).mono ?_
            rintro e ww ⟨gg, c2, cap2', rfl, hM, hg, hc, hk⟩
            rw [← HFN.out] at hM
            have HB : Hid (Both (fun _ => False) gg r cr n a rc f0 f0 w ww) := by
              have h1 := HSEP.out
              have h2 := HR11.out.rlt
              have h3 := HK11.out.size
              exact ⟨⟨c2, cap2', hM, by omega, by omega, by omega, fun _ h => h.elim⟩, HR11.out.kept hk, HK11.out.trans hk, by omega, by omega, by omega, by omega, by have := hk.size; omega, fun _ h => h.elim⟩
            clear hM hg hc hk HFN HSEP HR11 HK11 HG10
            go_wp2_with fail
            go_meet
            exact ⟨gg, rfl, rfl, HB.out⟩
          · have hb : (((nu : Int) + (nd : Int)) == 0) = false := by simp; omega
            have HB : Hid (Both (fun _ => False) g r cr n a rc f0 f0 w w11) := by
              have h1 := HSEP.out
              have h2 := HG10.out
              exact ⟨⟨c, cap, HM11.out, by omega, by omega, by omega, fun _ h => h.elim⟩, HR11.out, HK11.out, by omega, by omega, by omega, by omega, by omega, fun _ h => h.elim⟩
            clear h0 HF0 HEMP HM11 HSEP HR11 HK11 HG10
            go_wp2_with fail
            go_meet
            exact ⟨g, rfl, rfl, HB.out⟩
        case rest =>
          obtain ⟨gg, rfl, rfl, HB⟩ := hcut
          clear HF0 HEMP HM11 HSEP HR11 HK11 HG10 HG11
          go_wp2_with fail
          go_loopw [14] (fun i wr => ∃ k : Nat, k ≤ ns ∧ i = .int .i64 k ∧ Hid (∃ f, Both (fun _ => False) gg r cr n a rc f f w wr)) (fun i _ => ns - (intOf i).toNat)
          case atStart => exact ⟨0, Nat.zero_le _, rfl, _, HB.out⟩
          case round =>
            obtain ⟨k, hk, rfl, HE⟩ := hrel
            by_cases hlt : k < ns
            · obtain ⟨f, hB⟩ := HE.out
              have HBF := Lib.hid hB
              have hkz : k < z3.length := by rw [← HNS.out]; exact hlt
              rcases HS.out with h0 | ⟨b, o, rfl, hq⟩
              · rw [h0] at hkz; cases hkz
              · obtain ⟨_, _, _, _, _, _, _, hIw, _⟩ := hq k hkz
                obtain ⟨c0, c1, c2, ho, hkk, hlen, hmx, hI, hr⟩ := (hq k hkz).kept hB.kept
                have HL2 := Lib.hid (HLN.out k hkz)
                clear hq hB HE
                generalize z3[k] = z at *
                obtain ⟨q, q1, q2, q3, q4, l⟩ := z
                dsimp only at c0 c1 c2 ho hkk hlen hmx hI hr HL2 hIw
                have HOLDW := Lib.hid hIw
                have HQCR : Hid (0 < l.length → ∀ x, q2 = some x → x.block ≠ cr) := fun h0 x hx => by
                  rcases HOLDW.out with h1 | ⟨b, o, ha, h1⟩
                  · rw [h1] at h0; cases h0
                  · rw [hx] at ha
                    injection ha with ha
                    subst ha
                    have h2 := block_lt_of_cell (h1 0 h0)
                    have h3 := HBF.out.cw
                    simp at h2
                    show b ≠ cr
                    omega
                clear hIw
                subst hlen
                have HKK := Lib.hid hkk
                have HINT : Hid (Ints .i64 wr q2 l) := hI
                have HLW : Hid (l.length ≤ 1000000 ∧ ∀ r ∈ l, -9223372036854775808 ≤ r ∧ r ≤ 9223372036854775807) := ⟨by have := HL2.out; omega, hr⟩
                have HBX := Lib.hid (HBF.out.more (.cells #[.int .i64 q, .int .i64 q1, .slice q2 l.length q4] 34))
                have hx2 : (wr.alloc (.cells #[.int .i64 q, .int .i64 q1, .slice q2 l.length q4] 34)).cell? ⟨wr.heap.size, 2, none⟩ = some (.slice q2 l.length q4) := by rw [World.cell?_alloc_mark]; rfl
                have hx1 : (wr.alloc (.cells #[.int .i64 q, .int .i64 q1, .slice q2 l.length q4] 34)).cell? ⟨wr.heap.size, 1, none⟩ = some (.int .i64 q1) := by rw [World.cell?_alloc_mark]; rfl
                have HIX : Hid (Ints .i64 (wr.alloc (.cells #[.int .i64 q, .int .i64 q1, .slice q2 l.length q4] 34)) q2 l) := HINT.out.kept ((Kept.refl _).alloc _)
                have HOLD0 : Hid (∀ fm fr W, Both (fun b => b = wr.heap.size) gg r cr n a rc fm fr w W → Ints .i64 W q2 l) := fun fm fr W h => HOLDW.out.kept h.kept
                have HCLR0 : Hid (∀ fm fr W, Both (fun b => b = wr.heap.size) gg r cr n a rc fm fr w W → Clear cr W q2 l) := fun fm fr W h => ⟨HOLDW.out.kept h.kept, HQCR.out⟩
                have HNCR : Hid (∀ W, Both (fun b => b = wr.heap.size) gg r cr n a rc f f w W → ∀ y : Addr, W.heap.size ≤ y.block → y.block ≠ cr) := fun W h y hy => by have := h.cl; omega
                clear hkk hI hmx hr HL2 HBF HINT
                go_upto_block 2 with fail
                clear c0 c1 c2
                generalize wr.alloc (.cells #[.int .i64 q, .int .i64 q1, .slice q2 l.length q4] 34) = wa at *
                generalize wr.heap.size = X at *
                go_cut [16, 17, 18, 19, 20] from 87 to 134 (fun s16 _ _ _ _ wx => s16 = .bool true ∧ Hid (∃ f, Both (fun _ => False) gg r cr n a rc f f w wx))
                case first =>
                  have HOLD : Hid (∀ fm fr W, Both (fun b => b = X) gg r cr n a rc fm fr w W → Ints .i64 W q2 l) := HOLD0.out
                  have HCLR : Hid (∀ fm fr W, Both (fun b => b = X) gg r cr n a rc fm fr w W → Clear cr W q2 l) := HCLR0.out
                  by_cases h0 : q = 0
                  · subst h0
                    clear ho
                    go_wp2_with fail
                    refine (HBX.out.takeM q1 HKK.out).mono ?_
                    rintro e w2 ⟨p2, cp2, rfl, hC2, hB2, hS2⟩
                    have HB2 := Lib.hid hB2
                    have HC2 := Lib.hid hC2
                    have hx := hS2.cell (b := X) (o := 1) rfl hx1
                    have HTD := Lib.hid (hB2.takeD q1 HKK.out)
                    have HSM : Hid (∀ W p cp p' cp', Ints .i64 W p (takeL n f q1) → Ints .i64 W p' (takeL n f q1) → Calls Try.prog 14 #[.slice p (takeL n f q1).length cp, .slice p' (takeL n f q1).length cp'] W fun e w' => e = .returned (.bool true) ∧ Kept W w') := fun W p cp p' cp' h1 h2 => by
                      have hle : (takeL n f q1).length ≤ maxLen := by
                        unfold takeL
                        split
                        · have := rowsL_le n f 1
                          rw [List.length_take]; unfold maxLen; omega
                        · exact Nat.zero_le _
                      have h := same_any p p' cp cp' _ _ hle hle W h1 h2
                      rwa [show sameB (takeL n f q1) (takeL n f q1) = true from decide_eq_true rfl] at h
                    clear hC2 hB2 hS2 HBX HIX hx1 hx2
                    generalize takeF n f q1 = f1 at *
                    generalize takeE n f q1 = x at *
                    generalize takeL n f q1 = tl at *
                    generalize htn : tl.length = T at *
                    clear htn
                    have hbb : ((x : Int) == (x : Int)) = true := by simp
                    go_wp2_with fail
                    refine HTD.out.mono ?_
                    rintro e w3 ⟨p3, cp3, rfl, hI3, hB3, hBt, _⟩
                    have HB3 := Lib.hid hB3
                    have HI3 := Lib.hid hI3
                    have HI2 := Lib.hid (HC2.out.but hBt).1
                    clear hI3 hB3 hBt HTD HC2
                    go_wp2_with fail
                    refine (HSM.out _ _ _ _ _ HI2.out HI3.out).mono ?_
                    rintro e w4 ⟨rfl, hk⟩
                    have HB4 := Lib.hid (HB3.out.keep hk).forget
                    clear hk HSM HI2 HI3 HB3
                    go_wp2_with fail
                    go_meet
                    exact ⟨rfl, _, HB4.out⟩
                  · have hb0 : (q == 0) = false := by simp [h0]
                    by_cases h1 : q = 1
                    · subst h1
                      clear ho h0
                      have HDR : Hid (∀ W fr p cp, Both (fun b => b = X) gg r cr n a rc f fr w W → Ints .i64 W p l → Calls Try.prog 15 #[.pointer (some ⟨gg, 0, none⟩), .slice p l.length cp] W fun e w' => e = .returned (.int .i64 (turnE n f 2 l : Nat)) ∧ Both (fun b => b = X) gg r cr n a rc (turnF n f 2 3 l) fr w w' ∧ Same (fun b => b = X) W w') := fun W fr p cp h hi => h.dropM p cp l HLW.out.1 HLW.out.2 hi
                      have HTU : Hid (∀ W fm, Both (fun b => b = X) gg r cr n a rc fm f w W → Clear cr W q2 l → Calls Try.prog 16 #[.pointer (some ⟨r, 0, none⟩), .slice q2 l.length q4, .int .u8 2, .int .u8 3] W fun e w' => e = .returned (.int .i64 (turnE n f 2 l : Nat)) ∧ Both (fun b => b = X) gg r cr n a rc fm (turnF n f 2 3 l) w w' ∧ But cr W w' ∧ Same (fun b => b = X) W w') := fun W fm h hi => h.turnD 2 3 (by decide) (by decide) q2 q4 l HLW.out.1 HLW.out.2 hi
                      have hbb : (((turnE n f 2 l : Nat) : Int) == ((turnE n f 2 l : Nat) : Int)) = true := by simp
                      have HLL : Hid (l.length ≤ 1000000000) := by show _ ≤ _; have := HLW.out.1; omega
                      generalize turnF n f 2 3 l = f1 at *
                      generalize turnE n f 2 l = x at *
                      clear HLW
                      go_wp2_with fail
                      go_region_law (first
                        | (first
                          | (refine step_copyI _ rfl (.const (.slice none 0 0)) (.tmp 115) rfl q2 q4 l (by go_simp) (by go_simp) (HOLD.out _ _ _ qT) HLL.out ?_; intro v8 w8 hC8; obtain ⟨a8, ca8, hv8, hI8, hK8, hO8⟩ := hC8; subst hv8; have qTC := qT.keep hK8; have hx8 := (qT.same hK8).cell (b := X) (o := 2) rfl hxT)
                          | (refine step_copyI _ rfl (.const (.slice none 0 0)) (.tmp 115) rfl q2 q4 l (by go_simp) (by go_simp) (HOLD.out _ _ _ (HBX.out.drewN _)) HLL.out ?_; intro v8 w8 hC8; obtain ⟨a8, ca8, hv8, hI8, hK8, hO8⟩ := hC8; subst hv8; have qC := (HBX.out.drewN _).keep hK8; have hx8 := ((HBX.out.drewN _).same hK8).cell (b := X) (o := 2) rfl hx2; have HO8 : Hid (0 < l.length → ∀ y, a8 = some y → y.block ≠ cr) := fun _ y hy => HNCR.out _ (HBX.out.drewN _) y (hO8 y hy).1))
                        | (go_simp; go_at_call 15; first
                          | (refine (HDR.out _ _ a8 ca8 qTC hI8).mono ?_; rintro e w9 ⟨rfl, qF, hS9⟩)
                          | (refine (HDR.out _ _ a8 ca8 qCT hICT).mono ?_; rintro e w9 ⟨rfl, qF, hS9⟩)
                          | (refine (HDR.out _ _ a8 ca8 qC hI8).mono ?_; rintro e w9 ⟨rfl, qCD, hS9⟩; have hx9 := hS9.cell (b := X) (o := 2) rfl hx8))
                        | (go_simp; go_at_call 16; first
                          | (refine (HTU.out _ _ qCD (HCLR.out _ _ _ qCD)).mono ?_; rintro e w7 ⟨rfl, qF, _, _⟩)
                          | (refine (HTU.out _ _ qC (HCLR.out _ _ _ qC)).mono ?_; rintro e w7 ⟨rfl, qCT, hB7, hS7⟩; have hxT := hS7.cell (b := X) (o := 2) rfl hx8; have hICT := ((⟨hI8, HO8.out⟩ : Clear cr _ a8 l).but hB7).1)
                          | (refine (HTU.out _ _ (HBX.out.drewN _) (HCLR.out _ _ _ (HBX.out.drewN _))).mono ?_; rintro e w7 ⟨rfl, qT, hB7, hS7⟩; have hxT := hS7.cell (b := X) (o := 2) rfl hx2)))
                      all_goals
                        have HFIN := Lib.hid qF.forget
                        clear qF
                        go_wp2_with fail
                        go_meet
                        exact ⟨rfl, _, HFIN.out⟩
                    · have hb1 : (q == 1) = false := by simp [h1]
                      by_cases h2 : q = 2
                      · subst h2
                        clear ho h0 h1
                        have HDR : Hid (∀ W fr p cp, Both (fun b => b = X) gg r cr n a rc f fr w W → Ints .i64 W p l → Calls Try.prog 17 #[.pointer (some ⟨gg, 0, none⟩), .slice p l.length cp] W fun e w' => e = .returned (.int .i64 (turnE n f 3 l : Nat)) ∧ Both (fun b => b = X) gg r cr n a rc (turnF n f 3 1 l) fr w w' ∧ Same (fun b => b = X) W w') := fun W fr p cp h hi => h.clearM p cp l HLW.out.1 HLW.out.2 hi
                        have HTU : Hid (∀ W fm, Both (fun b => b = X) gg r cr n a rc fm f w W → Clear cr W q2 l → Calls Try.prog 16 #[.pointer (some ⟨r, 0, none⟩), .slice q2 l.length q4, .int .u8 3, .int .u8 1] W fun e w' => e = .returned (.int .i64 (turnE n f 3 l : Nat)) ∧ Both (fun b => b = X) gg r cr n a rc fm (turnF n f 3 1 l) w w' ∧ But cr W w' ∧ Same (fun b => b = X) W w') := fun W fm h hi => h.turnD 3 1 (by decide) (by decide) q2 q4 l HLW.out.1 HLW.out.2 hi
                        have hbb : (((turnE n f 3 l : Nat) : Int) == ((turnE n f 3 l : Nat) : Int)) = true := by simp
                        have HLL : Hid (l.length ≤ 1000000000) := by show _ ≤ _; have := HLW.out.1; omega
                        generalize turnF n f 3 1 l = f1 at *
                        generalize turnE n f 3 l = x at *
                        clear HLW
                        go_wp2_with fail
                        go_region_law (first
                          | (first
                            | (refine step_copyI _ rfl (.const (.slice none 0 0)) (.tmp 127) rfl q2 q4 l (by go_simp) (by go_simp) (HOLD.out _ _ _ qT) HLL.out ?_; intro v8 w8 hC8; obtain ⟨a8, ca8, hv8, hI8, hK8, hO8⟩ := hC8; subst hv8; have qTC := qT.keep hK8; have hx8 := (qT.same hK8).cell (b := X) (o := 2) rfl hxT)
                            | (refine step_copyI _ rfl (.const (.slice none 0 0)) (.tmp 127) rfl q2 q4 l (by go_simp) (by go_simp) (HOLD.out _ _ _ (HBX.out.drewN _)) HLL.out ?_; intro v8 w8 hC8; obtain ⟨a8, ca8, hv8, hI8, hK8, hO8⟩ := hC8; subst hv8; have qC := (HBX.out.drewN _).keep hK8; have hx8 := ((HBX.out.drewN _).same hK8).cell (b := X) (o := 2) rfl hx2; have HO8 : Hid (0 < l.length → ∀ y, a8 = some y → y.block ≠ cr) := fun _ y hy => HNCR.out _ (HBX.out.drewN _) y (hO8 y hy).1))
                          | (go_simp; go_at_call 17; first
                            | (refine (HDR.out _ _ a8 ca8 qTC hI8).mono ?_; rintro e w9 ⟨rfl, qF, hS9⟩)
                            | (refine (HDR.out _ _ a8 ca8 qCT hICT).mono ?_; rintro e w9 ⟨rfl, qF, hS9⟩)
                            | (refine (HDR.out _ _ a8 ca8 qC hI8).mono ?_; rintro e w9 ⟨rfl, qCD, hS9⟩; have hx9 := hS9.cell (b := X) (o := 2) rfl hx8))
                          | (go_simp; go_at_call 16; first
                            | (refine (HTU.out _ _ qCD (HCLR.out _ _ _ qCD)).mono ?_; rintro e w7 ⟨rfl, qF, _, _⟩)
                            | (refine (HTU.out _ _ qC (HCLR.out _ _ _ qC)).mono ?_; rintro e w7 ⟨rfl, qCT, hB7, hS7⟩; have hxT := hS7.cell (b := X) (o := 2) rfl hx8; have hICT := ((⟨hI8, HO8.out⟩ : Clear cr _ a8 l).but hB7).1)
                            | (refine (HTU.out _ _ (HBX.out.drewN _) (HCLR.out _ _ _ (HBX.out.drewN _))).mono ?_; rintro e w7 ⟨rfl, qT, hB7, hS7⟩; have hxT := hS7.cell (b := X) (o := 2) rfl hx2)))
                        all_goals
                          have HFIN := Lib.hid qF.forget
                          clear qF
                          go_wp2_with fail
                          go_meet
                          exact ⟨rfl, _, HFIN.out⟩
                      · have hb2 : (q == 2) = false := by simp [h2]
                        have HFIN := Lib.hid HBX.out.forget
                        clear ho h0 h1 h2
                        go_wp2_with fail
                        go_meet
                        exact ⟨rfl, _, HFIN.out⟩
                case rest =>
                  obtain ⟨rfl, HE⟩ := hcut
                  obtain ⟨f1, hB1⟩ := HE.out
                  have HB2 := Lib.hid hB1
                  clear hB1 HE HBX HIX hx1 hx2
                  have HCNT := Lib.hid HB2.out.countM
                  have HR1 : Hid (∀ W, Both (fun _ => False) gg r cr n a rc f1 f1 w W → Calls Try.prog 19 #[.pointer (some ⟨r, 0, none⟩), .int .u8 1] W fun e w' => ∃ p cp, e = .returned (.slice p (rowsL n f1 1).length cp) ∧ Both (fun _ => False) gg r cr n a rc f1 f1 w w') := fun W h => (h.rowsD 1 (by decide)).mono fun e w' ⟨p, cp, he, _, hB, _⟩ => ⟨p, cp, he, hB⟩
                  have HR2 : Hid (∀ W, Both (fun _ => False) gg r cr n a rc f1 f1 w W → Calls Try.prog 19 #[.pointer (some ⟨r, 0, none⟩), .int .u8 2] W fun e w' => ∃ p cp, e = .returned (.slice p (rowsL n f1 2).length cp) ∧ Both (fun _ => False) gg r cr n a rc f1 f1 w w') := fun W h => (h.rowsD 2 (by decide)).mono fun e w' ⟨p, cp, he, _, hB, _⟩ => ⟨p, cp, he, hB⟩
                  have HR3 : Hid (∀ W, Both (fun _ => False) gg r cr n a rc f1 f1 w W → Calls Try.prog 19 #[.pointer (some ⟨r, 0, none⟩), .int .u8 3] W fun e w' => ∃ p cp, e = .returned (.slice p (rowsL n f1 3).length cp) ∧ Both (fun _ => False) gg r cr n a rc f1 f1 w w') := fun W h => (h.rowsD 3 (by decide)).mono fun e w' ⟨p, cp, he, _, hB, _⟩ => ⟨p, cp, he, hB⟩
                  generalize (rowsL n f1 1).length = N1 at *
                  generalize (rowsL n f1 2).length = N2 at *
                  generalize (rowsL n f1 3).length = N3 at *
                  have hn1 : ((N1 : Int) != (N1 : Int)) = false := by simp
                  have hn2 : ((N2 : Int) != (N2 : Int)) = false := by simp
                  have hn3 : ((N3 : Int) != (N3 : Int)) = false := by simp
                  go_wp2_with fail
                  refine HCNT.out.mono ?_
                  rintro e w2 ⟨rfl, hB⟩
                  have HB3 := Lib.hid hB
                  clear hB HCNT HB2
                  go_wp2_with fail
                  refine (HR1.out _ HB3.out).mono ?_
                  rintro e w3 ⟨p, cp, rfl, hB⟩
                  have HB4 := Lib.hid hB
                  clear hB HR1 HB3
                  go_wp2_with fail
                  refine (HR2.out _ HB4.out).mono ?_
                  rintro e w4 ⟨p, cp, rfl, hB⟩
                  have HB5 := Lib.hid hB
                  clear hB HR2 HB4
                  go_wp2_with fail
                  refine (HR3.out _ HB5.out).mono ?_
                  rintro e w5 ⟨p, cp, rfl, hB⟩
                  have HB6 := Lib.hid hB
                  clear hB HR3 HB5
                  go_wp2_with fail
                  go_roundw
                  case rel => exact ⟨k + 1, by omega, by go_num, _, HB6.out⟩
                  case measure => simp [intOf]; omega
            · obtain ⟨f, hB⟩ := HE.out
              have HBF := Lib.hid hB
              clear hB HE HB
              go_wp2_with fail
              go_loop [24] (fun i => ∃ t : Int, -1 ≤ t ∧ t ≤ n + 1 ∧ i = .int .i64 t) (fun i => (n + 1 - intOf i).toNat)
              case atStart => exact ⟨-1, by omega, by omega, rfl⟩
              case round =>
                obtain ⟨t, ht1, ht2, rfl⟩ := hrel
                have hd := HBF.out.d.hd
                by_cases hle : t ≤ n
                · have hb : decide (t ≤ (n : Int)) = true := decide_eq_true hle
                  have HIS := Lib.hid (is_any r cr n rc a f t (by omega) wr HBF.out.d)
                  have HOF := Lib.hid (HBF.out.ofM t (by omega))
                  cases hrow : isRow n t
                  · have HO : Hid (ofN n f t = 0) := by show _ = _; unfold ofN; rw [hrow]; rfl
                    rw [hrow] at HIS
                    rw [HO.out] at HOF
                    clear hrow HO
                    go_wp2_with fail
                    refine HIS.out.mono ?_
                    rintro e w2 ⟨rfl, hw⟩
                    replace hw := hw.symm
                    subst hw
                    go_wp2_with fail
                    refine HOF.out.mono ?_
                    rintro e w2 ⟨rfl, hw⟩
                    replace hw := hw.symm
                    subst hw
                    go_wp2_with fail
                    go_round
                    case rel => exact ⟨t + 1, by omega, by omega, rfl⟩
                    case measure => simp [intOf]; omega
                  · obtain ⟨j, rfl, hj⟩ := isRow_nat hrow
                    have HO : Hid (ofN n f (j : Nat) = f j) := by show _ = _; unfold ofN; rw [hrow]; rfl
                    have hcell := HBF.out.d.rows.cell j hj
                    obtain ⟨ha, _⟩ := HBF.out.d.at' (by omega)
                    rw [hrow] at HIS
                    rw [HO.out] at HOF
                    subst ha
                    have hfb : (((f j : Nat) : Int) != ((f j : Nat) : Int)) = false := by simp
                    generalize f j = y at *
                    clear hrow HO
                    go_wp2_with fail
                    refine HIS.out.mono ?_
                    rintro e w2 ⟨rfl, hw⟩
                    replace hw := hw.symm
                    subst hw
                    go_wp2_with fail
                    refine HOF.out.mono ?_
                    rintro e w2 ⟨rfl, hw⟩
                    replace hw := hw.symm
                    subst hw
                    go_wp2_with fail
                    go_round
                    case rel => exact ⟨(j : Int) + 1, by omega, by omega, rfl⟩
                    case measure => simp [intOf]; omega
                · have hb : decide (t ≤ (n : Int)) = false := decide_eq_false hle
                  go_wp2_with fail
                  clear hb hle ht1 ht2 hd
                  go_loopw [26] (fun v wr => ∃ t : Nat, 1 ≤ t ∧ t ≤ 4 ∧ v = .int .u8 (t : Nat) ∧ Hid (Both (fun _ => False) gg r cr n a rc f f w wr)) (fun v _ => 4 - (intOf v).toNat)
                  case atStart => exact ⟨1, by omega, by omega, rfl, HBF.out⟩
                  case round =>
                    obtain ⟨t, ht1, ht2, rfl, HBT⟩ := hrel
                    by_cases h4 : t < 4
                    · have HRM := Lib.hid (HBT.out.rowsM t (by omega))
                      have HRD : Hid (∀ W, Both (fun _ => False) gg r cr n a rc f f w W → Calls Try.prog 19 #[.pointer (some ⟨r, 0, none⟩), .int .u8 (t : Nat)] W fun e w' => ∃ p cp, e = .returned (.slice p (rowsL n f t).length cp) ∧ Ints .i64 w' p (rowsL n f t) ∧ Both (fun _ => False) gg r cr n a rc f f w w' ∧ Kept W w') := fun W h => h.rowsD t (by omega)
                      have HSM : Hid (∀ W p cp p' cp', Ints .i64 W p (rowsL n f t) → Ints .i64 W p' (rowsL n f t) → Calls Try.prog 14 #[.slice p (rowsL n f t).length cp, .slice p' (rowsL n f t).length cp'] W fun e w' => e = .returned (.bool true) ∧ Kept W w') := fun W p cp p' cp' h1 h2 => by
                        have hle : (rowsL n f t).length ≤ maxLen := by have := rowsL_le n f t; unfold maxLen; omega
                        have h := same_any p p' cp cp' _ _ hle hle W h1 h2
                        rwa [show sameB (rowsL n f t) (rowsL n f t) = true from decide_eq_true rfl] at h
                      have hb4 : decide ((t : Int) < 4) = true := decide_eq_true (by omega)
                      generalize rowsL n f t = tl at *
                      generalize htn : tl.length = T at *
                      clear htn
                      go_wp2_with fail
                      refine HRM.out.mono ?_
                      rintro e w2 ⟨p, cp, rfl, hI, hB⟩
                      have HI := Lib.hid hI
                      have HB2 := Lib.hid hB
                      clear hI hB HRM
                      go_wp2_with fail
                      refine (HRD.out _ HB2.out).mono ?_
                      rintro e w3 ⟨p', cp', rfl, hI, hB, hk⟩
                      have HI2 := Lib.hid (HI.out.kept hk)
                      have HI3 := Lib.hid hI
                      have HB3 := Lib.hid hB
                      clear hI hB hk HRD HB2 HI
                      go_wp2_with fail
                      refine (HSM.out _ _ _ _ _ HI2.out HI3.out).mono ?_
                      rintro e w4 ⟨rfl, hk⟩
                      have HB4 := Lib.hid (HB3.out.keep hk)
                      clear hk HSM HI2 HI3 HB3
                      go_wp2_with fail
                      go_roundw
                      case rel => exact ⟨t + 1, by omega, by omega, by go_num, HB4.out⟩
                      case measure => simp [intOf]; omega
                    · obtain rfl : t = 4 := by omega
                      have hwf : ∀ j, j < n → 1 ≤ f j ∧ f j ≤ 3 := by
                        obtain ⟨c, cap, hM, _⟩ := HBT.out.m
                        exact hM.wf
                      have HZ : Hid (∀ x, (x = 0 ∨ x = 4) → (rowsL n f x).length = 0) := fun x hx => by
                        rw [List.length_eq_zero_iff, List.eq_nil_iff_forall_not_mem]
                        intro q hq
                        obtain ⟨j, _, h1, h2⟩ := rowsL_mem.1 hq
                        have := hwf j h1
                        omega
                      have HR0 := Lib.hid (HBT.out.rowsM 0 (by decide))
                      have HR4 : Hid (∀ W, Both (fun _ => False) gg r cr n a rc f f w W → Calls Try.prog 22 #[.pointer (some ⟨gg, 0, none⟩), .int .u8 4] W fun e w' => ∃ p cp, e = .returned (.slice p (rowsL n f 4).length cp) ∧ Ints .i64 w' p (rowsL n f 4) ∧ Both (fun _ => False) gg r cr n a rc f f w w') := fun W h => h.rowsM 4 (by decide)
                      rw [HZ.out 0 (.inl rfl)] at HR0
                      rw [HZ.out 4 (.inr rfl)] at HR4
                      clear hwf HZ
                      go_wp2_with fail
                      refine HR0.out.mono ?_
                      rintro e w2 ⟨p, cp, rfl, _, hB⟩
                      have HB2 := Lib.hid hB
                      clear hB HR0
                      go_wp2_with fail
                      refine (HR4.out _ HB2.out).mono ?_
                      rintro e w3 ⟨p', cp', rfl, _, hB⟩
                      have HK3 : Hid (Kept w w3) := hB.kept
                      clear hB HR4
                      go_wp2_with fail
                      refine (works_any _).mono ?_
                      rintro e w4 ⟨rfl, hk⟩
                      have HK4 : Hid (Kept w w4) := HK3.out.trans hk
                      clear hk
                      go_wp2_with fail
                      go_ret
                      exact ⟨rfl, HK4.out⟩
  · go_wp2_with fail
    refine (works_any _).mono ?_
    rintro e w1 ⟨rfl, hk⟩
    have K1 := Lib.hid hk
    clear hk
    go_wp2_with fail
    go_ret
    exact ⟨rfl, K1.out⟩
end Go.Proofs.Ytleohicgbpebnaa
