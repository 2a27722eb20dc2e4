/- The walk of MatrixAny. -/
import Derived.Test.YtlmoeaphikdjnaaMatrixUnitsWalk
import Derived.Test.YtlmoeaphikdjnaaMatAnyMath
import Derived.Test.YtlmoeaphikdjnaaGatI2
import Derived.Test.YtlmoeaphikdjnaaPool
import Derived.Deep.DeepMust
import Derived.Deep.DeepCutAuto
import Derived.IntWalk
namespace Go.Proofs.Ytlmoeaphikdjnaa
open Go.RowKit Gf
set_option linter.unusedVariables false
/-- What is left of the numbers, as the walk meets it. -/
def FreeAt (v : Value) (F : List Int) (w : World) : Prop := ∃ g c, v = .slice (some ⟨g, 0, none⟩) F.length c ∧ g < w.heap.size ∧ LieI g c F w
theorem small_cau (n m : Int) : small (cauL n m) := by
  unfold cauL
  split
  · rename_i h
    unfold cauE at h
    split at h
    · exact small_matL _ _ _ (by omega) (by omega)
    · exact absurd h (by decide)
  · exact small_nil
set_option maxHeartbeats 1000000 in
set_option maxRecDepth 100000 in
theorem matrixAny_walk (a0 a1 : Int) (a2 : Option Addr) (len2 cap2 : Nat) (z2 : List Int) (w : World) (w0 : (Lit.int .u8 a0).wf = true) (w1 : (Lit.int .u8 a1).wf = true) (w2 : IsRow .u8 w a2 len2 cap2 z2) :
    Calls Try.prog 6 #[.int .u8 a0, .int .u8 a1, .slice a2 len2 cap2] w fun e w' => e = .returned (.bool true) ∧ Kept w w' := by
  obtain ⟨x0, x1⟩ := bounds_u8 w0
  obtain ⟨y0, y1⟩ := bounds_u8 w1
  obtain ⟨c, rfl⟩ := Int.eq_ofNat_of_zero_le x0
  obtain ⟨d, rfl⟩ := Int.eq_ofNat_of_zero_le y0
  obtain ⟨hR, hl, hlm, hwf⟩ := w2.ints
  clear w0 w1 w2
  generalize z2.take len2 = rs at *
  subst hl
  have HRB : Hid (∀ i, i < rs.length → 0 ≤ nthI rs i ∧ nthI rs i ≤ 255) := fun i hi => bounds_u8 (hwf _ (by rw [← nthI_get rs i hi]; exact List.getElem_mem hi))
  obtain ⟨bR, oR, hcR⟩ := ints_at hR
  have HCR := Lib.hid hcR
  unfold maxLen at hlm
  clear hR hwf hcR
  obtain ⟨k, hk⟩ : ∃ k : Nat, 1 + (c : Int) % 12 = (k : Int) := ⟨1 + c % 12, by omega⟩
  obtain ⟨q, hq⟩ : ∃ q : Nat, 1 + (d : Int) % 12 = (q : Int) := ⟨1 + d % 12, by omega⟩
  have hn : (k : Int) + 1 + (d : Int) % 12 = ((k + q : Nat) : Int) := by omega
  have k1 : 1 ≤ k := by omega
  have k2 : k ≤ 12 := by omega
  have q1 : 1 ≤ q := by omega
  have q2 : q ≤ 12 := by omega
  clear hq
  obtain ⟨n, hnn⟩ : ∃ n, k + q = n := ⟨_, rfl⟩
  rw [hnn] at hn
  have HN := Lib.hid hnn
  have hnk : (n : Int) - (k : Int) = (q : Int) := by omega
  have n1 : k + 1 ≤ n := by omega
  have n2 : n ≤ 24 := by omega
  obtain ⟨M1, M2, M3⟩ := any_mat k q k1 k2 q1 q2
  rw [hnn] at M3
  have HM1 := Lib.hid M1
  have HM2 := Lib.hid M2
  have HM3 := Lib.hid M3
  clear hnn M1 M2 M3
  go_enter Try.func6, Try.ntmps6
  rcases Nat.lt_or_ge 100 rs.length with hr1 | hr1
  · go_wp2_with fail
    refine (matAlive_any _).mono ?_
    rintro e w99 ⟨rfl, j99⟩
    go_wp2_with fail
    go_ret
    exact ⟨rfl, j99⟩
  · go_wp2_with fail
    refine (pCauchy_any (q : Nat) (k : Nat) _ (by omega) (by omega) (by omega) (by omega)).mono ?_
    rintro e w3 ⟨b3, c3, rfl, s3, j3⟩
    rw [HM1.out]
    have SC := small_cau (q : Nat) (k : Nat)
    go_wp2_with fail
    refine (pUnit_any (k : Nat) _ (by omega) (by omega)).mono ?_
    rintro e w4 ⟨b4, c4, rfl, s4, j4⟩
    have SU := small_unit (k : Nat)
    go_wp2_with fail
    refine (pBelow_any b4 b3 c4 c3 _ _ _ s4 (s3.kept j4) SU.1 SC.1 SU.2 SC.2).mono ?_
    rintro e w5 ⟨b5, c5, rfl, s5, j5⟩
    rw [HM2.out, HM3.out, matL_length]
    rw [HM3.out] at s5
    have K5 : Hid (Kept w w5) := (j3.trans j4).trans j5
    have S5 := Lib.hid s5
    clear s3 s4 s5 j3 j4 j5 SC SU hk hn hnk
    have hmk := fun W => make_ints n (by omega) W
    have HIM := Lib.hid (IntT.made w5 n)
    have HK : Hid (Kept w5 (w5.alloc (.cells (row n fun _ => .int .i64 0) 3))) := (Kept.refl _).alloc _
    have HLT : Hid (w5.heap.size < (w5.alloc (.cells (row n fun _ => .int .i64 0) 3)).heap.size) := by rw [size_one]; exact Nat.lt_succ_self _
    generalize (row n fun _ => Value.int .i64 0) = R0 at *
    go_upto_region 10 with fail
    generalize w5.alloc (.cells R0 3) = w6 at *
    obtain ⟨G, hG⟩ : ∃ G, w5.heap.size = G := ⟨_, rfl⟩
    have HG : Hid (w5.heap.size ≤ G) := by show _ ≤ _; omega
    rw [hG] at HIM HLT ⊢
    clear hG hmk
    go_wp2_with fail
    go_loopw [14] (fun i wr => ∃ t : Nat, t ≤ n ∧ i = .int .i64 t ∧ Hid (IntT G n (fun j => if j < t then (j : Int) else 0) wr ∧ Kept w5 wr ∧ G < wr.heap.size)) (fun i _ => n - (intOf i).toNat)
    case atStart => exact ⟨0, Nat.zero_le _, rfl, HIM.out.congr (fun j _ => by rw [if_neg (by omega)]), HK.out, HLT.out⟩
    case round =>
      obtain ⟨t, ht, rfl, HI⟩ := hrel
      by_cases hlt : t < n
      · have hcell := HI.out.1.cell t hlt
        have hfree := HI.out.1.free t hlt
        have HF : Hid (IntT G n (fun j => if j < t + 1 then (j : Int) else 0) (wr.setCell ⟨G, t, none⟩ (.int .i64 (t : Int))) ∧ Kept w5 (wr.setCell ⟨G, t, none⟩ (.int .i64 (t : Int))) ∧ G < (wr.setCell ⟨G, t, none⟩ (.int .i64 (t : Int))).heap.size) := by
          refine ⟨(HI.out.1.set t hlt _).congr (fun j _ => ?_), HI.out.2.1.setCell HG.out _, by rw [World.size_setCell]; exact HI.out.2.2⟩
          by_cases e : j = t
          · subst e; rw [if_pos (by omega), if_pos rfl]
          · rw [if_neg e]
            by_cases h : j < t
            · rw [if_pos h, if_pos (by omega)]
            · rw [if_neg h, if_neg (by omega)]
        go_wp2_with fail
        exact ⟨⟨t + 1, by omega, by go_num, HF⟩, by simp [intOf]; omega⟩
      · obtain rfl : t = n := by omega
        have HFR : Hid (FreeAt (.slice (some ⟨G, 0, none⟩) t t) (below0 t) wr) :=
          ⟨G, t, by rw [below0_length], HI.out.2.2, HI.out.1.lie _ (below0_length t) (fun i hi => by rw [nthI_below0 t i hi, if_pos hi]) (Nat.le_refl _) (by unfold maxLen; omega)⟩
        have HK6 := Lib.hid HI.out.2.1
        clear HI HIM HK HLT
        generalize hwr : wr = w7 at *
        clear hwr
        generalize (Value.slice (some ⟨G, 0, none⟩) t t) = vF0 at *
        go_wp2_with fail
        go_loopw [13, 15, 16, 17] (fun vf vr i _ wr => ∃ s : Nat, s ≤ k ∧ i = .int .i64 s ∧ Hid (∃ R F, R.length = s ∧ F.length = t - s ∧ Pool t R F ∧ GatI w7.heap.size vr R wr ∧ FreeAt vf F wr ∧ (∀ b, vr.ownBlock = some b → vf.ownBlock ≠ some b) ∧ Kept w7 wr)) (fun _ _ i _ _ => k - (intOf i).toNat)
        case atStart => exact ⟨0, Nat.zero_le _, rfl, [], below0 t, rfl, below0_length t, pool_start t, GatI.nil _ _, HFR.out, (fun b hb => by injection hb), Kept.refl _⟩
        case round =>
          obtain ⟨s, hs, rfl, HI⟩ := hrel
          obtain ⟨R, F, hR1, hF1, hP, hG, ⟨g, cF, hvf, hgl, hL⟩, hne, hKw⟩ := HI.out
          have HR1 := Lib.hid hR1
          have HP := Lib.hid hP
          have HGR := Lib.hid hG
          have HL := Lib.hid hL
          have HNE : Hid (∀ b, u15.ownBlock = some b → b ≠ g) := fun b hb e => hne b hb (by rw [hvf, e]; rfl)
          have HGL := Lib.hid hgl
          have HKW := Lib.hid hKw
          subst hvf
          have hFc := hL.le
          have hFm := hL.max
          unfold maxLen at hFm
          clear hR1 hP hG hgl hL hne hKw HI
          by_cases hlt : s < k
          · have hF0 : 0 < F.length := by omega
            generalize hfl : F.length = f at *
            have HFL := Lib.hid hfl
            have HF1 := Lib.hid hF1
            have hf24 : f ≤ 24 := by omega
            clear hfl hF1
            go_upto_if 82 with fail
            go_cut [17] (fun v wx => ∃ A : Nat, v = .int .i64 A ∧ A < f ∧ wx = wr)
            case first =>
              rcases Nat.lt_or_ge s rs.length with hsl | hsl
              · obtain ⟨ha2, hcR⟩ := HCR.out (by omega)
                have hck : wr.cell? ⟨bR, oR + s, none⟩ = some (.int .u8 (nthI rs s)) := by rw [Below.cell ((K5.out.trans HK6.out).trans HKW.out) (block_lt_of_cell (hcR s hsl)), hcR s hsl]
                obtain ⟨r0, r1⟩ := HRB.out s hsl
                rw [ha2]
                have HA2 := Lib.hid ha2
                clear hcR ha2
                generalize nthI rs s = r at *
                obtain ⟨A, hA⟩ : ∃ A : Nat, r % (f : Int) = (A : Int) := ⟨(r % (f : Int)).toNat, by have := Int.emod_nonneg r (show (f : Int) ≠ 0 by omega); omega⟩
                have hAf : A < f := by have := Int.emod_lt_of_pos r (show 0 < (f : Int) by omega); omega
                have HAF := Lib.hid hAf
                clear hAf
                go_wp2_with fail
                rw [← HA2.out]
                go_meet
                exact ⟨A, by rw [hA], HAF.out, rfl⟩
              · go_wp2_with fail
                go_meet
                exact ⟨0, rfl, hF0, rfl⟩
            case rest =>
              obtain ⟨A, rfl, hA, rfl⟩ := hcut
              have hcA := HL.out.cell A (by rw [HFL.out]; exact hA)
              have HLN : Hid (R.length ≤ 1000000000) := by show _ ≤ _; have := HR1.out; omega
              have HPN := Lib.hid (pool_next HP.out A (by rw [HFL.out]; exact hA))
              generalize hr : nthI F A = r at *
              clear hr
              go_upto_region 22 with (first | (at_builtin; go_must (refine wpList_gati2 _ rfl (.tmp 91) (.tmp 96) rfl w7 _ R (by rfl) (HGR.out.kept ((Kept.refl _).alloc _)) (HKW.out.alloc _) r wc.heap.size rfl (by rw [World.cell?_alloc_mark]; rfl) HLN.out ?_); intro v9 w9 hG9 hK9 hs9 hb9 ho9))
              have HL9 : Hid (LieI g cF F w9) := by
                have hlt9 : g < (wc.alloc (.cells #[.int .i64 r] 3)).heap.size := by rw [size_one]; exact Nat.lt_succ_of_lt HGL.out
                exact (HL.out.kept ((Kept.refl _).alloc _) HGL.out).keptBlock (hb9 g hlt9 (fun e => HNE.out g e rfl))
              have HGL9 : Hid (g < w9.heap.size) := Nat.lt_of_lt_of_le (Nat.lt_of_lt_of_le HGL.out ((Kept.refl wc).alloc _).size) hs9
              have HGR9 := Lib.hid hG9
              have HKW9 := Lib.hid hK9
              clear hG9 hK9 hs9 hb9 ho9 hcA HGR HL HGL HNE HKW
              have hsl1 := slice_low g f cF A (by omega)
              have hsl2 := slice_high g f cF (A + 1) hA
              rw [show ((A + 1 : Nat) : Int) = (A : Int) + 1 from rfl] at hsl2
              generalize ho2 : (if cF = A + 1 then 0 else A + 1) = o2 at *
              have HTL : Hid ((F.take A).length = A) := by show _ = _; rw [List.length_take, HFL.out]; omega
              have HDL : Hid ((F.drop (A + 1)).length = f - (A + 1)) := by show _ = _; rw [List.length_drop, HFL.out]
              have HC1 : Hid (∀ W, Kept w9 W → ∀ i, i < A → W.cell? ⟨g, 0 + i, none⟩ = some (.int .i64 (nthI (F.take A) i))) := fun W hW i hi => by
                rw [Nat.zero_add, nthI_take F A i hi (by rw [HFL.out]; omega)]
                exact (HL9.out.kept hW HGL9.out).cell i (by rw [HFL.out]; omega)
              have HC2 : Hid (∀ W, Kept w9 W → ∀ i, i < f - (A + 1) → W.cell? ⟨g, o2 + i, none⟩ = some (.int .i64 (nthI (F.drop (A + 1)) i))) := fun W hW i hi => by
                have e : o2 = A + 1 := by rw [← ho2, if_neg (by have := HL9.out.le; have := HFL.out; omega)]
                rw [e, nthI_drop F (A + 1) i (by rw [HFL.out]; omega)]
                exact (HL9.out.kept hW HGL9.out).cell _ (by rw [HFL.out]; omega)
              have HLA : Hid (([] : List Int).length + A ≤ 1000000000) := by show 0 + A ≤ _; omega
              have HLB : Hid (([] ++ F.take A).length + (f - (A + 1)) ≤ 1000000000) := by show _ ≤ _; rw [List.nil_append, HTL.out]; omega
              have HMD : Hid (GatI w9.heap.size (.slice (some ⟨w9.heap.size, 0, none⟩) 0 0) [] (w9.alloc (.cells #[] 3)).drew ∧ Kept w9 (w9.alloc (.cells #[] 3)).drew) := ⟨(GatI.made (Kept.refl _)).kept ((Kept.refl _).drew), ((Kept.refl _).alloc _).drew⟩
              have hwr1 : IntKind.i64.wrap ((A : Int) + 1) = (A : Int) + 1 := IntWalk.i64_in _ (by omega)
              go_region_law (first
                | (refine step_gati rfl (.tmp 98) (.tmp 101) rfl w9 _ [] (by rfl) HMD.out.1 HMD.out.2 (F.take A) g 0 A cF (by rfl) HTL.out (HC1.out _ HMD.out.2) HLA.out ?_; intro v10 w10 hG10 hK10 hn10)
                | (refine step_gati rfl (.tmp 102) (.tmp 106) rfl w9 _ ([] ++ F.take A) (by rfl) hG10 hK10 (F.drop (A + 1)) g o2 (f - (A + 1)) (cF - (A + 1)) (by rfl) HDL.out (HC2.out _ hK10) HLB.out ?_; intro v11 w11 hG11 hK11 hn11))
              clear hwr1 hsl1 hsl2 ho2 HMD HC1 HC2
              have HF : Hid (∃ R F, R.length = s + 1 ∧ F.length = t - (s + 1) ∧ Pool t R F ∧ GatI w7.heap.size v9 R w11 ∧ FreeAt v11 F w11 ∧ (∀ b, v9.ownBlock = some b → v11.ownBlock ≠ some b) ∧ Kept w7 w11) := by
                rw [List.nil_append] at hG11
                have hlen : (F.take A ++ F.drop (A + 1)).length = t - (s + 1) := by
                  rw [List.length_append, HTL.out, HDL.out]
                  have := HF1.out
                  omega
                obtain ⟨g2, c2, hv, hB2, hl2, hL2⟩ := hG11.lie (by rw [hlen]; omega)
                refine ⟨R ++ [r], _, by rw [List.length_append, HR1.out]; rfl, hlen, HPN.out, HGR9.out.kept hK11, ⟨g2, c2, hv, hl2, hL2⟩, fun b hb e => ?_, HKW9.out.trans hK11⟩
                have h1 := (HGR9.out.lt b hb).2
                rw [hv] at e
                injection e with e
                subst e
                exact absurd hB2 (Nat.not_le.2 h1)
              clear hG10 hK10 hn10 hG11 hK11 hn11
              go_wp2_with fail
              exact ⟨⟨s + 1, by omega, by go_num, HF⟩, by simp [intOf]; omega⟩
          · obtain rfl : s = k := by omega
            obtain ⟨g2, c2, hv, hB2, hl2, hL2⟩ := HGR.out.lie (by rw [HR1.out]; omega)
            rw [HR1.out] at hv
            obtain ⟨E1, E2⟩ := pool_end HP.out
            rw [HR1.out] at E2
            rw [← HN.out] at E1
            obtain ⟨P1, P2, P3⟩ := any_pick s q R k1 k2 q1 q2 HR1.out E1
            have U1 := any_undo s q R k1 k2 q1 q2 HR1.out E1 E2
            have HAB : Hid (∀ L : List Int, (∀ r ∈ L, 0 ≤ r ∧ r < ((s + q : Nat) : Int)) → (L.all fun r => decide (-200 ≤ r ∧ r ≤ 200)) = true) := fun L h => by
              rw [List.all_eq_true]
              intro r hr
              have := h r hr
              exact decide_eq_true (by omega)
            have HE1 := Lib.hid E1
            have HP1 := Lib.hid (And.intro P1 (And.intro P2 U1))
            have HL2 := Lib.hid hL2
            have HB2 : Hid (w7.heap.size ≤ g2) := hB2
            have HGL2 := Lib.hid hl2
            have HS5 : Hid (Strs w5 b5 (matL (s + q) s (below s))) := by show Strs _ _ _; rw [HN.out]; exact S5.out
            have HML : Hid ((matL (s + q) s (below s)).length = t) := by show _ = _; rw [matL_length]; exact HN.out
            have HTW : Hid (2 ≤ s → ∀ x, x = nthI R 1 → pickE (matL (s + q) s (below s)) (R.set 0 x) = 0 ∧ pickL (matL (s + q) s (below s)) (R.set 0 x) = matL s s (fun i j => below s (nthI (R.set 0 x) i).toNat j) ∧ undoE (pickL (matL (s + q) s (below s)) (R.set 0 x)) = 51 ∧ ∀ r ∈ R.set 0 x, 0 ≤ r ∧ r < ((s + q : Nat) : Int)) := fun h2 x hx => by
              have hmem : ∀ r ∈ R.set 0 x, 0 ≤ r ∧ r < ((s + q : Nat) : Int) := fun r hr => by
                rcases List.mem_or_eq_of_mem_set hr with h | h
                · exact HE1.out r h
                · rw [h, hx, ← nthI_get R 1 (by rw [HR1.out]; omega)]
                  exact HE1.out _ (List.getElem_mem _)
              have hlen : (R.set 0 x).length = s := by rw [List.length_set]; exact HR1.out
              obtain ⟨p1, p2, _⟩ := any_pick s q (R.set 0 x) k1 k2 q1 q2 hlen hmem
              exact ⟨p1, p2, any_twice s q (R.set 0 x) h2 k2 q1 q2 hlen hmem (by rw [nthI_set R x 0 (by rw [HR1.out]; omega), nthI_set R x 1 (by rw [HR1.out]; omega), if_pos rfl, if_neg (by decide), hx]), hmem⟩
            subst hv
            clear E1 E2 P1 P2 P3 U1 hL2 hB2 hl2 HL HGL HNE HGR HP hFc hFm hF1 HM1 HM2 HM3 S5 HFR
            go_wp2_with fail
            refine (pPick_c b5 _ t s c5 c2 (matL (s + q) s (below s)) R (pickL (matL (s + q) s (below s)) R) s 0 _ (HS5.out.kept (HK6.out.trans HKW.out)) HL2.out.ints HML.out HR1.out (small_matL _ _ _ (by omega) (by omega)) (by omega) (HAB.out R HE1.out) ⟨rfl, HP1.out.1⟩ (by rw [HP1.out.2.1, matL_length])).mono ?_
            rintro e w8 ⟨b8, c8, rfl, s8, j8⟩
            have SP : Hid (small (pickL (matL (s + q) s (below s)) R)) := by show small _; rw [HP1.out.2.1]; exact small_matL _ _ _ (by omega) (by omega)
            have hpl : (pickL (matL (s + q) s (below s)) R).length = s := by rw [HP1.out.2.1, matL_length]
            have HPL := Lib.hid hpl
            clear hpl
            go_wp2_with fail
            refine (pUndo_c b8 s c8 (pickL (matL (s + q) s (below s)) R) _ _ 0 _ s8 HPL.out SP.out ⟨HP1.out.2.2, rfl⟩ rfl).mono ?_
            rintro e w9 ⟨b9, c9, rfl, s9, j9⟩
            have HK9 := Lib.hid ((HKW.out.trans j8).trans j9)
            have HL9 := Lib.hid (HL2.out.kept (j8.trans j9) HGL2.out)
            clear s8 s9 j8 j9 HP1 SP HPL
            generalize (undoL (pickL (matL (s + q) s (below s)) R)).length = l9 at *
            rcases Nat.lt_or_ge 1 s with h1s | h1s
            · have hc0 := HL9.out.cell 0 (by rw [HR1.out]; omega)
              have hc1 := HL9.out.cell 1 (by rw [HR1.out]; omega)
              have hf0 := HL9.out.free 0 (by rw [HR1.out]; omega)
              have HTW2 := Lib.hid (HTW.out h1s (nthI R 1) rfl)
              have HI9 : Hid (∀ x, Ints .i64 (w9.setCell ⟨g2, 0, none⟩ (.int .i64 x)) (some ⟨g2, 0, none⟩) (R.set 0 x)) := fun x => by
                refine .inr ⟨g2, 0, rfl, fun i hi => ?_⟩
                rw [List.length_set] at hi
                rw [Nat.zero_add, nthI_set R x i hi]
                by_cases e : i = 0
                · subst e
                  rw [if_pos rfl, World.cell?_setCell_same _ _ _ hc0]
                · rw [if_neg e, World.cell?_setCell_other _ _ _ _ (fun h => e (by injection h with _ e2; exact e2.symm)), HL9.out.cell i hi]
              have HK10 : Hid (∀ x, Kept w7 (w9.setCell ⟨g2, 0, none⟩ (.int .i64 x))) := fun x => HK9.out.setCell HB2.out _
              have HRL : Hid (∀ x, (R.set 0 x).length = s) := fun x => by rw [List.length_set]; exact HR1.out
              clear HTW
              generalize nthI R 1 = x at *
              generalize nthI R 0 = y at *
              go_upto_region 29 with fail
              have HI10 := Lib.hid (HI9.out x)
              have HK11 := Lib.hid (HK10.out x)
              have HRX := Lib.hid (HRL.out x)
              generalize w9.setCell ⟨g2, 0, none⟩ (.int .i64 x) = w10 at *
              generalize R.set 0 x = R2 at *
              clear HI9 HK10 HRL hc0 hc1 hf0
              go_wp2_with fail
              refine (pPick_c b5 _ t s c5 c2 (matL (s + q) s (below s)) R2 (pickL (matL (s + q) s (below s)) R2) s 0 _ (HS5.out.kept (HK6.out.trans HK11.out)) HI10.out HML.out HRX.out (small_matL _ _ _ (by omega) (by omega)) (by omega) (HAB.out R2 HTW2.out.2.2.2) ⟨rfl, HTW2.out.1⟩ (by rw [HTW2.out.2.1, matL_length])).mono ?_
              rintro e w11 ⟨b11, c11, rfl, s11, j11⟩
              have SP : Hid (small (pickL (matL (s + q) s (below s)) R2)) := by show small _; rw [HTW2.out.2.1]; exact small_matL _ _ _ (by omega) (by omega)
              have hpl : (pickL (matL (s + q) s (below s)) R2).length = s := by rw [HTW2.out.2.1, matL_length]
              have HPL := Lib.hid hpl
              clear hpl
              go_wp2_with fail
              refine (pUndo_c b11 s c11 (pickL (matL (s + q) s (below s)) R2) _ _ 51 _ s11 HPL.out SP.out ⟨HTW2.out.2.2.1, rfl⟩ rfl).mono ?_
              rintro e w12 ⟨b12, c12, rfl, s12, j12⟩
              have HK12 := Lib.hid ((HK11.out.trans j11).trans j12)
              clear s11 s12 j11 j12
              generalize (undoL (pickL (matL (s + q) s (below s)) R2)).length = l12 at *
              go_wp2_with fail
              refine (matAlive_any _).mono ?_
              rintro e w99 ⟨rfl, j99⟩
              go_wp2_with fail
              go_ret
              exact ⟨rfl, ((K5.out.trans HK6.out).trans HK12.out).trans j99⟩
            · clear HTW
              go_wp2_with fail
              refine (matAlive_any _).mono ?_
              rintro e w99 ⟨rfl, j99⟩
              go_wp2_with fail
              go_ret
              exact ⟨rfl, ((K5.out.trans HK6.out).trans HK9.out).trans j99⟩
end Go.Proofs.Ytlmoeaphikdjnaa
