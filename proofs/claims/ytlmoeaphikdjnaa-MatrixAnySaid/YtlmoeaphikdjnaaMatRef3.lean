/- What the document's own answers on matrices come to: Cauchy, Pick. -/
import Derived.Test.YtlmoeaphikdjnaaMatRef2
import Derived.Test.YtlmoeaphikdjnaaInts
namespace Go.Proofs.Ytlmoeaphikdjnaa
open Go.RowKit Gf
set_option linter.unusedVariables false
theorem cau_at (M i j : Nat) (hM : M ≤ 64) (hi : i < 64) (hj : j < M) : ((quo 1 ((M + i) ^^^ j) : Nat)) = (gi (UInt8.ofNat (M + i) ^^^ UInt8.ofNat j)).toNat ∧ (M + i) ^^^ j < 256 := by
  have hy : (M + i) ^^^ j < 256 := Nat.xor_lt_two_pow (n := 8) (by omega) (by omega)
  have hne : (M + i) ^^^ j ≠ 0 := fun h => by
    have h2 : (M + i) ^^^ j ^^^ j = 0 ^^^ j := by rw [h]
    rw [Nat.xor_assoc, Nat.xor_self, Nat.xor_zero, Nat.zero_xor] at h2
    omega
  refine ⟨?_, hy⟩
  rw [quo_one _ hy hne, gi_nat, UInt8.toNat_xor, UInt8.toNat_ofNat', UInt8.toNat_ofNat', Nat.mod_eq_of_lt (by omega), Nat.mod_eq_of_lt (by omega)]
set_option maxHeartbeats 1000000 in
set_option maxRecDepth 100000 in
theorem refCauchy_any (n m : Int) (w : World) (h0 : -9223372036854775808 ≤ n) (h1 : n ≤ 9223372036854775807) (h2 : -9223372036854775808 ≤ m) (h3 : m ≤ 9223372036854775807) :
    Calls Try.prog 20 #[.int .i64 n, .int .i64 m] w fun e w' => GotM (cauL n m) (cauE n m) w e w' := by
  by_cases h : 1 ≤ n ∧ n ≤ 64 ∧ 1 ≤ m ∧ m ≤ 64
  · obtain ⟨N, rfl⟩ := Int.eq_ofNat_of_zero_le (show 0 ≤ n by omega)
    obtain ⟨M, rfl⟩ := Int.eq_ofNat_of_zero_le (show 0 ≤ m by omega)
    obtain ⟨A, hA⟩ : ∃ A : Nat → Nat → UInt8, (fun i j => gi (UInt8.ofNat (M + i) ^^^ UInt8.ofNat j)) = A := ⟨_, rfl⟩
    have HE : Hid (matL N M A = cauL (N : Int) (M : Int) ∧ 0 = cauE (N : Int) (M : Int)) := by
      have he : cauE (N : Int) (M : Int) = 0 := by unfold cauE; rw [if_pos h]
      refine ⟨?_, he.symm⟩
      unfold cauL
      rw [if_pos he, ← hA]
      rfl
    have hN1 : 1 ≤ N := by omega
    have hN2 : N ≤ 64 := by omega
    have hM1 : 1 ≤ M := by omega
    have hM2 : M ≤ 64 := by omega
    have HA : Hid (∀ i j, i < N → j < M → (quo 1 ((M + i) ^^^ j)) = (A i j).toNat ∧ (M + i) ^^^ j < 256) := fun i j hi hj => by rw [← hA]; exact cau_at M i j hM2 (by omega) hj
    clear h h0 h1 h2 h3 hA
    go_enter Try.func20, Try.ntmps20
    go_wp2_with fail
    go_loopw [6, 7, 8, 9, 10, 11] (fun v i _ _ _ _ wr => ∃ k : Nat, k ≤ N ∧ i = .int .i64 k ∧ Hid (Gat w.heap.size v (matL k M A) wr ∧ Kept w wr)) (fun _ i _ _ _ _ _ => N - (intOf i).toNat)
    case atStart => exact ⟨0, Nat.zero_le _, rfl, Gat.nil _ _, Kept.refl _⟩
    case round =>
      obtain ⟨i, hi, rfl, HI⟩ := hrel
      by_cases hlt : i < N
      · have hmk := fun W => run_make_row' (P := Try.prog) 43 5 (.int .u8 0) 1 Try.underlying43 info_byte rfl .i64 .i64 M (by omega) (by omega) W
        rw [made_zero] at hmk
        have HGW := Lib.hid (fun W (hW : Kept wr W) => (⟨HI.out.1.kept hW, HI.out.2.trans hW⟩ : Gat w.heap.size _ (matL i M _) W ∧ Kept w W))
        have HB := Lib.hid (Byt.made wr M)
        have HK0 : Hid (Kept wr (wr.alloc (.cells (row M fun _ => .int .u8 0) 5))) := (Kept.refl _).alloc _
        clear HI
        generalize hwr : wr = w4 at *
        clear hwr
        generalize (row M fun _ => Value.int .u8 0) = R at *
        go_upto_region 8 with fail
        generalize w4.alloc (.cells R 5) = w5 at *
        obtain ⟨g, hg⟩ : ∃ g, w4.heap.size = g := ⟨_, rfl⟩
        have HGG := Lib.hid hg
        rw [hg] at HB ⊢
        clear hg hmk
        have HSN := Lib.hid (matL_snoc i M A)
        go_wp2_with fail
        go_loopw [9, 10, 11] (fun j _ _ ws => ∃ q : Nat, q ≤ M ∧ j = .int .i64 q ∧ Hid (Kept w4 ws ∧ Byt g M (part (A i) q 0) ws)) (fun j _ _ _ => M - (intOf j).toNat)
        case atStart => exact ⟨0, Nat.zero_le _, rfl, HK0.out, HB.out.congr (fun t ht => by unfold part; rw [if_neg (by omega)]; split <;> rfl)⟩
        case round =>
          obtain ⟨q, hq, rfl, HJ⟩ := hrel
          by_cases hlq : q < M
          · obtain ⟨y, hy⟩ : ∃ y, (M + i) ^^^ q = y := ⟨_, rfl⟩
            have hx := u8_xor_nat (M + i) q (by omega) (by omega)
            have hqv := (HA.out i q hlt hlq).1
            have hy8 := (HA.out i q hlt hlq).2
            rw [hy] at hx hqv hy8
            rw [Int.natCast_add] at hx
            have HQV := Lib.hid hqv
            have hcell := HJ.out.2.cell q hlq
            have hfree := HJ.out.2.free q hlq
            have HB7 : Hid (Kept w4 (wr.setCell ⟨g, q, none⟩ (.int .u8 ((A i q).toNat : Nat))) ∧ Byt g M (part (A i) (q + 1) 0) (wr.setCell ⟨g, q, none⟩ (.int .u8 ((A i q).toNat : Nat)))) :=
              ⟨HJ.out.1.setCell (by rw [HGG.out]; exact Nat.le_refl _) _, (HJ.out.2.set q hlq (A i q)).congr (fun t _ => by rw [part_next, part_set _ _ 0])⟩
            clear hy hqv
            go_wp2_with fail
            refine (refInv_any y hy8 _).mono ?_
            rintro e w6 ⟨rfl, rfl⟩
            rw [HQV.out]
            generalize quoE y = g7 at *
            go_wp2_with fail
            exact ⟨⟨q + 1, by omega, by go_num, HB7⟩, by simp [intOf]; omega⟩
          · obtain rfl : q = M := by omega
            have hcv := byt_string g q q _ wr HJ.out.2
            rw [strOf_congr q _ (A i) (fun t ht => by unfold part; rw [if_pos ht])] at hcv
            have HGJ := Lib.hid (HGW.out wr HJ.out.1)
            have HLN : Hid ((matL i q A).length ≤ 1000000000) := by show _ ≤ _; rw [matL_length]; omega
            clear HJ HGW HB HK0
            go_wp2_with (first | (at_builtin; go_must (refine wpList_gat _ rfl (.tmp 53) (.tmp 56) 23 rfl Try.underlying23 w _ (matL i q A) rfl (HGJ.out.1.kept ((Kept.refl _).alloc _)) (HGJ.out.2.alloc _) (strOf q (A i)) wr.heap.size rfl (by rw [World.cell?_alloc_mark]; rfl) HLN.out ?_); intro v9 w9 hG9 hK9))
            exact ⟨⟨i + 1, by omega, by go_num, by rw [HSN.out]; exact ⟨hG9, hK9⟩⟩, by simp [intOf]; omega⟩
      · obtain rfl : i = N := by omega
        rw [HE.out.1] at HI
        have HR := Lib.hid HI.out.1
        have HK := Lib.hid HI.out.2
        clear HI
        go_wp2_with fail
        go_ret2
        rw [← HE.out.2]
        exact HR.out.gotM HK.out 0
  · have HE : Hid ([] = cauL n m ∧ 2 = cauE n m) := by
      have he : cauE n m = 2 := by unfold cauE; rw [if_neg h]
      exact ⟨by unfold cauL; rw [he]; rfl, he.symm⟩
    go_enter Try.func20, Try.ntmps20
    rcases Int.lt_or_le n 1 with k1 | k1
    · go_wp2_with fail
      go_ret2
      rw [← HE.out.1, ← HE.out.2]
      exact GotM.nil 2 (Kept.refl _)
    · rcases Int.lt_or_le 64 n with k2 | k2
      · go_wp2_with fail
        go_ret2
        rw [← HE.out.1, ← HE.out.2]
        exact GotM.nil 2 (Kept.refl _)
      · rcases Int.lt_or_le m 1 with k3 | k3
        · go_wp2_with fail
          go_ret2
          rw [← HE.out.1, ← HE.out.2]
          exact GotM.nil 2 (Kept.refl _)
        · have k4 : 64 < m := by omega
          clear h
          go_wp2_with fail
          go_ret2
          rw [← HE.out.1, ← HE.out.2]
          exact GotM.nil 2 (Kept.refl _)
set_option maxHeartbeats 1000000 in
set_option maxRecDepth 100000 in
theorem refPick_any (a b : Option Addr) (ca cb : Nat) (ss : List ByteArray) (rs : List Int) (w : World) (hS : Strs w a ss) (hR : Ints .i64 w b rs) (hm : ss.length ≤ maxLen) (hn : rs.length ≤ maxLen) (hz : ∀ s ∈ ss, s.size ≤ maxLen) (hb : ∀ r ∈ rs, -9223372036854775808 ≤ r ∧ r ≤ 9223372036854775807) :
    Calls Try.prog 22 #[.slice a ss.length ca, .slice b rs.length cb] w fun e w' => GotM (pickL ss rs) (pickE ss rs) w e w' := by
  obtain ⟨b1, o1, hc1⟩ := strs_at hS
  obtain ⟨b2, o2, hc2⟩ := ints_at hR
  have HS := Lib.hid hS
  have HM1 := Lib.hid hm
  have HZ1 := Lib.hid hz
  have HB : Hid (∀ i, i < rs.length → -9223372036854775808 ≤ nthI rs i ∧ nthI rs i ≤ 9223372036854775807) := fun i hi => hb _ (by rw [← nthI_get rs i hi]; exact List.getElem_mem hi)
  have H1 := Lib.hid hc1
  have H2 := Lib.hid hc2
  unfold maxLen at hn
  clear hS hR hm hz hb hc1 hc2
  go_enter Try.func22, Try.ntmps22
  go_wp2_with fail
  refine (refMay_any a ca ss _ HS.out HM1.out HZ1.out).mono ?_
  rintro e w1 ⟨rfl, k1⟩
  cases hma : mayB ss
  · have HE : Hid ([] = pickL ss rs ∧ 8 = pickE ss rs) := by
      have h8 : pickE ss rs = 8 := by unfold pickE; rw [hma]; simp
      exact ⟨by unfold pickL; rw [h8]; rfl, h8.symm⟩
    clear hma
    go_wp2_with fail
    go_ret2
    rw [← HE.out.1, ← HE.out.2]
    exact GotM.nil 8 k1
  · by_cases hl : 1 ≤ rs.length ∧ rs.length ≤ 64
    · obtain ⟨a1, a2, a3, a4, _⟩ := may_yes ss hma
      obtain ⟨ha, hc1⟩ := H1.out (by omega)
      obtain ⟨hb, hc2⟩ := H2.out (by omega)
      have HC1 : Hid (∀ W, Kept w W → ∀ i, i < ss.length → W.cell? ⟨b1, o1 + i, none⟩ = some (.string (nth ss i))) := fun W hW i hi => by rw [Below.cell hW (block_lt_of_cell (hc1 i hi)), hc1 i hi]
      have HC2 : Hid (∀ W, Kept w W → ∀ i, i < rs.length → W.cell? ⟨b2, o2 + i, none⟩ = some (.int .i64 (nthI rs i))) := fun W hW i hi => by rw [Below.cell hW (block_lt_of_cell (hc2 i hi)), hc2 i hi]
      have HP : Hid (∀ k, k < rs.length → ¬ (0 ≤ nthI rs k ∧ nthI rs k < ss.length) → [] = pickL ss rs ∧ 2 = pickE ss rs) := fun k hk hno => by
        have h2 : pickE ss rs = 2 := by
          unfold pickE
          rw [if_pos hma, if_neg]
          unfold pickOk
          rw [Bool.and_eq_true, List.all_eq_true]
          intro h
          have := h.2 _ (List.getElem_mem hk)
          rw [nthI_get rs k hk] at this
          exact hno (by simpa using this)
        exact ⟨by unfold pickL; rw [h2]; rfl, h2.symm⟩
      have HQ : Hid ((∀ k, k < rs.length → 0 ≤ nthI rs k ∧ nthI rs k < ss.length) → rs.map (fun r => nth ss r.toNat) = pickL ss rs ∧ 0 = pickE ss rs) := fun hall => by
        have h0 : pickE ss rs = 0 := by
          unfold pickE
          rw [if_pos hma, if_pos]
          unfold pickOk
          rw [Bool.and_eq_true, List.all_eq_true]
          refine ⟨decide_eq_true hl, fun r hr => ?_⟩
          obtain ⟨i, hi, rfl⟩ := List.getElem_of_mem hr
          rw [nthI_get rs i hi]
          exact decide_eq_true (hall i hi)
        exact ⟨by unfold pickL; rw [if_pos h0], h0.symm⟩
      rw [ha, hb]
      clear hc1 hc2 ha hb H1 H2 HM1 HZ1 HS hma
      go_wp2_with fail
      go_loopw [6, 7] (fun v i wr => ∃ k : Nat, k ≤ rs.length ∧ i = .int .i64 k ∧ Hid (Gat w.heap.size v ((rs.take k).map fun r => nth ss r.toNat) wr ∧ Kept w wr ∧ ∀ j, j < k → 0 ≤ nthI rs j ∧ nthI rs j < ss.length)) (fun _ i _ => rs.length - (intOf i).toNat)
      case atStart => exact ⟨0, Nat.zero_le _, rfl, Gat.nil _ _, k1, fun j hj => by omega⟩
      case round =>
        obtain ⟨k, hk, rfl, HI⟩ := hrel
        by_cases hlt : k < rs.length
        · have hcr := HC2.out wr HI.out.2.1 k hlt
          have hbr := HB.out k hlt
          have HP2 := Lib.hid (HP.out k hlt)
          have HTK : Hid ((rs.take (k + 1)).map (fun r => nth ss r.toNat) = (rs.take k).map (fun r => nth ss r.toNat) ++ [nth ss (nthI rs k).toNat]) := by
            show _ = _
            rw [List.take_succ_eq_append_getElem hlt, List.map_append, nthI_get rs k hlt]
            rfl
          have HAL : Hid (0 ≤ nthI rs k ∧ nthI rs k < ss.length → ∀ j, j < k + 1 → 0 ≤ nthI rs j ∧ nthI rs j < ss.length) := fun h j hj => by
            by_cases e : j = k
            · subst e; exact h
            · exact HI.out.2.2 j (by omega)
          generalize nthI rs k = r at *
          obtain ⟨hr1, hr2⟩ := hbr
          by_cases hok : 0 ≤ r ∧ r < ss.length
          · obtain ⟨R, rfl⟩ := Int.eq_ofNat_of_zero_le hok.1
            have hR : R < ss.length := by omega
            have hcs := HC1.out wr HI.out.2.1 R hR
            have HAL2 := Lib.hid (HAL.out hok)
            have HLN : Hid (((rs.take k).map fun r => nth ss r.toNat).length ≤ 1000000000) := by show _ ≤ _; rw [List.length_map, List.length_take]; omega
            clear HP2 HAL hok
            rw [show ((R : Int)).toNat = R from rfl] at HTK
            generalize nth ss R = p at *
            go_wp2_with (first | (at_builtin; go_must (refine wpList_gat _ rfl (.tmp 39) (.tmp 47) 23 rfl Try.underlying23 w _ ((rs.take k).map fun r => nth ss r.toNat) (by rfl) (HI.out.1.kept ((Kept.refl _).alloc _)) (HI.out.2.1.alloc _) p wr.heap.size rfl (by rw [World.cell?_alloc_mark]; rfl) HLN.out ?_); intro v9 w9 hG9 hK9))
            exact ⟨⟨k + 1, by omega, by go_num, by rw [HTK.out]; exact ⟨hG9, hK9, HAL2.out⟩⟩, by simp [intOf]; omega⟩
          · have HP3 := Lib.hid (HP2.out hok)
            have HK := Lib.hid HI.out.2.1
            clear HP2 HAL HI
            rcases Int.lt_or_le r 0 with k2 | k2
            · go_wp2_with fail
              go_ret2
              rw [← HP3.out.1, ← HP3.out.2]
              exact GotM.nil 2 HK.out
            · have k3 : (ss.length : Int) ≤ r := by omega
              clear hok
              go_wp2_with fail
              go_ret2
              rw [← HP3.out.1, ← HP3.out.2]
              exact GotM.nil 2 HK.out
        · obtain rfl : k = rs.length := by omega
          rw [List.take_length] at HI
          have HQ2 := Lib.hid (HQ.out HI.out.2.2)
          rw [HQ2.out.1] at HI
          have HR := Lib.hid HI.out.1
          have HK := Lib.hid HI.out.2.1
          clear HI HQ HP
          go_wp2_with fail
          go_ret2
          rw [← HQ2.out.2]
          exact HR.out.gotM HK.out 0
    · have HE : Hid ([] = pickL ss rs ∧ 2 = pickE ss rs) := by
        have h2 : pickE ss rs = 2 := by
          unfold pickE pickOk
          rw [if_pos hma, decide_eq_false hl]
          rfl
        exact ⟨by unfold pickL; rw [h2]; rfl, h2.symm⟩
      clear hma
      rcases Nat.lt_or_ge rs.length 1 with k2 | k2
      · go_wp2_with fail
        go_ret2
        rw [← HE.out.1, ← HE.out.2]
        exact GotM.nil 2 k1
      · have k3 : 64 < rs.length := by omega
        clear hl
        go_wp2_with fail
        go_ret2
        rw [← HE.out.1, ← HE.out.2]
        exact GotM.nil 2 k1
end Go.Proofs.Ytlmoeaphikdjnaa
