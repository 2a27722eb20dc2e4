/- What the document's own answers on matrices come to: Unit, Times. -/
import Derived.Test.YtlmoeaphikdjnaaMatRef
import Derived.OwnWalk
import Derived.Deep.DeepMust
import Derived.StillTailTactics
namespace Go.Proofs.Ytlmoeaphikdjnaa
open Go.RowKit Gf
set_option linter.unusedVariables false
theorem GotL.nil (w : World) : GotL [] w (.returned (.slice none 0 0)) w := ⟨none, 0, rfl, .inl rfl, Kept.refl _⟩
/-- What a call that has gathered rows leaves. -/
theorem Gat.gotL {B : Nat} {v : Value} {ss : List ByteArray} {w0 w : World} (h : Gat B v ss w) (k : Kept w0 w) : GotL ss w0 (.returned v) w := by
  obtain ⟨a, cap, rfl, hS⟩ := h.strs
  exact ⟨a, cap, rfl, hS, k⟩
theorem Gat.gotM {B : Nat} {v : Value} {ss : List ByteArray} {w0 w : World} (h : Gat B v ss w) (k : Kept w0 w) (err : Int) : GotM ss err w0 (.returned (.tuple #[v, .int .i64 err])) w := by
  obtain ⟨a, cap, rfl, hS⟩ := h.strs
  exact ⟨a, cap, rfl, hS, k⟩
theorem GotM.nil (err : Int) {w0 w : World} (k : Kept w0 w) : GotM [] err w0 (.returned (.tuple #[.slice none 0 0, .int .i64 err])) w := ⟨none, 0, rfl, .inl rfl, k⟩
theorem unit_bt (n k j : Nat) : upd (fun _ => 0) k 1 j = un k j := by
  unfold upd un
  by_cases e : j = k
  · rw [if_pos e, if_pos e.symm]
  · rw [if_neg e, if_neg (fun h => e h.symm)]
set_option maxHeartbeats 1000000 in
set_option maxRecDepth 100000 in
theorem refUnit_any (n : Int) (w : World) (h0 : -9223372036854775808 ≤ n) (h1 : n ≤ 9223372036854775807) :
    Calls Try.prog 18 #[.int .i64 n] w fun e w' => GotL (unitL n) w e w' := by
  by_cases h : 1 ≤ n ∧ n ≤ 64
  · obtain ⟨N, rfl⟩ := Int.eq_ofNat_of_zero_le (show 0 ≤ n by omega)
    have HU : Hid (matL N N un = unitL (N : Int)) := by show _ = _; unfold unitL; rw [if_pos h]; rfl
    have hN1 : 1 ≤ N := by omega
    have hN2 : N ≤ 64 := by omega
    clear h h0 h1
    go_enter Try.func18, Try.ntmps18
    go_wp2_with fail
    go_loopw [3, 4, 5] (fun v i _ wr => ∃ k : Nat, k ≤ N ∧ i = .int .i64 k ∧ Hid (Gat w.heap.size v (matL k N un) wr ∧ Kept w wr)) (fun _ i _ _ => N - (intOf i).toNat)
    case atStart => exact ⟨0, Nat.zero_le _, rfl, Gat.nil _ _, Kept.refl _⟩
    case round =>
      obtain ⟨k, hk, rfl, HI⟩ := hrel
      by_cases hlt : k < N
      · have hmk := fun W => run_make_row' (P := Try.prog) 43 5 (.int .u8 0) 1 Try.underlying43 info_byte rfl .i64 .i64 N (by omega) (by omega) W
        rw [made_zero] at hmk
        have HB := Lib.hid (Byt.made wr N)
        have HK : Hid (Kept w (wr.alloc (.cells (row N fun _ => .int .u8 0) 5))) := HI.out.2.alloc _
        have HK0 : Hid (Kept wr (wr.alloc (.cells (row N fun _ => .int .u8 0) 5))) := (Kept.refl _).alloc _
        have HSZ : Hid (w.heap.size ≤ wr.heap.size) := HI.out.2.size
        generalize (row N fun _ => Value.int .u8 0) = R at *
        go_upto_region 8 with fail
        generalize wr.alloc (.cells R 5) = w5 at *
        obtain ⟨g, hg⟩ : ∃ g, wr.heap.size = g := ⟨_, rfl⟩
        have HGG := Lib.hid hg
        rw [hg] at HB HSZ ⊢
        clear hg hmk
        have hcell := HB.out.cell k hlt
        have hfree := HB.out.free k hlt
        have HB6 := HB.out.set k hlt 1
        have hcv := byt_string g N N _ _ HB6
        rw [strOf_congr N _ (un k) (fun j _ => unit_bt N k j)] at hcv
        rw [show ((1 : UInt8).toNat : Int) = 1 from rfl] at hcv
        have HW6 : Hid (Kept wr (w5.setCell ⟨g, k, none⟩ (.int .u8 1)) ∧ Kept w (w5.setCell ⟨g, k, none⟩ (.int .u8 1))) := ⟨HK0.out.setCell (by rw [HGG.out]; exact Nat.le_refl _) _, HK.out.setCell HSZ.out _⟩
        have HLN : Hid ((matL k N un).length ≤ 1000000000) := by show _ ≤ _; rw [matL_length]; omega
        have HSN := Lib.hid (matL_snoc k N un)
        clear HB6
        go_upto_region 9 with fail
        generalize w5.setCell ⟨g, k, none⟩ (.int .u8 1) = w6 at *
        clear hcell hfree
        go_wp2_with (first | (at_builtin; go_must (refine wpList_gat _ rfl (.tmp 22) (.tmp 25) 23 rfl Try.underlying23 w _ (matL k N un) rfl (HI.out.1.kept (HW6.out.1.alloc _)) (HW6.out.2.alloc _) (strOf N (un k)) w6.heap.size rfl (by rw [World.cell?_alloc_mark]; rfl) HLN.out ?_); intro v9 w9 hG9 hK9))
        exact ⟨⟨k + 1, by omega, by go_num, by rw [HSN.out]; exact ⟨hG9, hK9⟩⟩, by simp [intOf]; omega⟩
      · obtain rfl : k = N := by omega
        have HR := Lib.hid HI.out.1
        have HK := Lib.hid HI.out.2
        clear HI
        go_wp2_with fail
        go_ret
        rw [← HU.out]
        exact HR.out.gotL HK.out
  · have HU : Hid ([] = unitL n) := by show _ = _; unfold unitL; rw [if_neg h]
    go_enter Try.func18, Try.ntmps18
    rcases Int.lt_or_le n 1 with h2 | h2
    · go_wp2_with fail
      go_ret
      rw [← HU.out]
      exact GotL.nil _
    · have h3 : 64 < n := by omega
      clear h
      go_wp2_with fail
      go_ret
      rw [← HU.out]
      exact GotL.nil _
/-- A row of the product, the first j elements of it, and of the next one the first k products. -/
def part (P : Nat → UInt8) (j : Nat) (x : UInt8) (t : Nat) : UInt8 := if t < j then P t else if t = j then x else 0
theorem part_set (P : Nat → UInt8) (j : Nat) (x y : UInt8) (t : Nat) : part P j y t = upd (part P j x) j y t := by
  unfold upd
  by_cases e : t = j
  · subst e; unfold part; rw [if_neg (by omega), if_pos rfl, if_pos rfl]
  · rw [if_neg e]
    unfold part
    by_cases h : t < j
    · rw [if_pos h, if_pos h]
    · rw [if_neg h, if_neg h, if_neg e, if_neg e]
theorem part_next (P : Nat → UInt8) (j t : Nat) : part P (j + 1) 0 t = part P j (P j) t := by
  unfold part
  by_cases h : t < j
  · rw [if_pos (by omega), if_pos h]
  · by_cases e : t = j
    · subst e; rw [if_pos (by omega), if_neg h, if_pos rfl]
    · rw [if_neg (by omega), if_neg h, if_neg e]
      split <;> rfl
theorem part_at (P : Nat → UInt8) (j : Nat) (x : UInt8) : part P j x j = x := by unfold part; rw [if_neg (by omega), if_pos rfl]
theorem all_nth {ss : List ByteArray} {n : Nat} (hz : ∀ s ∈ ss, s.size ≤ n) (i : Nat) (hi : i < ss.length) : (nth ss i).size ≤ n := hz _ (by rw [← nth_get ss i hi]; exact List.getElem_mem hi)
set_option maxHeartbeats 1000000 in
set_option maxRecDepth 100000 in
theorem refTimes5_any (a b : Option Addr) (ca cb : Nat) (ss ts : List ByteArray) (w : World) (hS : Strs w a ss) (hT : Strs w b ts) (hm : ss.length ≤ maxLen) (hn : ts.length ≤ maxLen) (hz1 : ∀ s ∈ ss, s.size ≤ maxLen) (hz2 : ∀ s ∈ ts, s.size ≤ maxLen) :
    Calls Try.prog 11 #[.slice a ss.length ca, .slice b ts.length cb] w fun e w' => GotM (prodL ss ts) (prodE ss ts) w e w' := by
  obtain ⟨b1, o1, hc1⟩ := strs_at hS
  obtain ⟨b2, o2, hc2⟩ := strs_at hT
  have HS := Lib.hid hS
  have HT := Lib.hid hT
  have HM1 := Lib.hid hm
  have HM2 := Lib.hid hn
  have HZ1 := Lib.hid hz1
  have HZ2 := Lib.hid hz2
  have H1 := Lib.hid hc1
  have H2 := Lib.hid hc2
  clear hS hT hm hn hz1 hz2 hc1 hc2
  go_enter Try.func11, Try.ntmps11
  go_wp2_with fail
  refine (refMay_any a ca ss _ HS.out HM1.out HZ1.out).mono ?_
  rintro e w1 ⟨rfl, k1⟩
  cases hma : mayB ss
  · have HE : Hid ([] = prodL ss ts ∧ 8 = prodE ss ts) := by
      have h8 : prodE ss ts = 8 := by unfold prodE; rw [hma]; simp
      exact ⟨by unfold prodL; rw [h8]; rfl, h8.symm⟩
    clear hma
    go_wp2_with fail
    go_ret2
    rw [← HE.out.1, ← HE.out.2]
    exact GotM.nil 8 k1
  · go_wp2_with fail
    refine (refMay_any b cb ts _ (HT.out.kept k1) HM2.out HZ2.out).mono ?_
    rintro e w2 ⟨rfl, k2⟩
    have k12 := k1.trans k2
    clear k1 k2
    cases hmb : mayB ts
    · have HE : Hid ([] = prodL ss ts ∧ 8 = prodE ss ts) := by
        have h8 : prodE ss ts = 8 := by unfold prodE; rw [hmb]; simp
        exact ⟨by unfold prodL; rw [h8]; rfl, h8.symm⟩
      clear hma hmb
      go_wp2_with fail
      go_ret2
      rw [← HE.out.1, ← HE.out.2]
      exact GotM.nil 8 k12
    · obtain ⟨a1, a2, a3, a4, _⟩ := may_yes ss hma
      obtain ⟨b1', b2', b3', b4', _⟩ := may_yes ts hmb
      obtain ⟨ha, hc1⟩ := H1.out (by omega)
      obtain ⟨hb, hc2⟩ := H2.out (by omega)
      have HC1 : Hid (∀ W, Kept w W → ∀ i, i < ss.length → W.cell? ⟨b1, o1 + i, none⟩ = some (.string (nth ss i))) := fun W hW i hi => by rw [Below.cell hW (block_lt_of_cell (hc1 i hi)), hc1 i hi]
      have HC2 : Hid (∀ W, Kept w W → ∀ i, i < ts.length → W.cell? ⟨b2, o2 + i, none⟩ = some (.string (nth ts i))) := fun W hW i hi => by rw [Below.cell hW (block_lt_of_cell (hc2 i hi)), hc2 i hi]
      have HMA := Lib.hid (may_size ss hma)
      have HMB := Lib.hid (may_size ts hmb)
      have hc0 := HC1.out w2 k12 0 (by omega)
      rw [Nat.add_zero] at hc0
      rw [ha, hb]
      clear hc1 hc2 ha hb H1 H2 HM1 HM2 HZ1 HZ2 HS HT
      by_cases hs : (nth ss 0).size = ts.length
      · have hsb : (((nth ss 0).size : Int) == (ts.length : Int)) = true := by simp [hs]
        have HE : Hid (matL ss.length (nth ts 0).size (mm ts.length (mt ss) (mt ts)) = prodL ss ts ∧ 0 = prodE ss ts) := by
          have h0 : prodE ss ts = 0 := by unfold prodE; rw [if_pos ⟨hma, hmb⟩, if_pos hs]
          exact ⟨by unfold prodL; rw [if_pos h0], h0.symm⟩
        obtain ⟨m, hm⟩ : ∃ m, (nth ts 0).size = m := ⟨_, rfl⟩
        rw [hm] at HE HMB b3' b4'
        rw [hs] at HMA
        have HM := Lib.hid hm
        clear hma hmb hm
        generalize nth ss 0 = p0 at *
        go_wp2_with fail
        clear hc0 hsb hs a3 a4
        go_loopw [6, 7, 8, 9, 10] (fun v i _ _ _ wr => ∃ k : Nat, k ≤ ss.length ∧ i = .int .i64 k ∧ Hid (Gat w.heap.size v (matL k m (mm ts.length (mt ss) (mt ts))) wr ∧ Kept w wr)) (fun _ i _ _ _ _ => ss.length - (intOf i).toNat)
        case atStart => exact ⟨0, Nat.zero_le _, rfl, Gat.nil _ _, k12⟩
        case round =>
          obtain ⟨i, hi, rfl, HI⟩ := hrel
          by_cases hlt : i < ss.length
          · have hcb0 := HC2.out wr HI.out.2 0 (by omega)
            rw [Nat.add_zero] at hcb0
            have hmk := fun W => run_make_row' (P := Try.prog) 43 5 (.int .u8 0) 1 Try.underlying43 info_byte rfl .i64 .i64 m (by omega) (by omega) W
            rw [made_zero] at hmk
            have hm := HM.out
            generalize nth ts 0 = q0 at *
            have HGW := Lib.hid (fun W (hW : Kept wr W) => (⟨HI.out.1.kept hW, HI.out.2.trans hW⟩ : Gat w.heap.size _ (matL i m _) W ∧ Kept w W))
            have HB := Lib.hid (Byt.made wr m)
            have HK0 : Hid (Kept wr (wr.alloc (.cells (row m fun _ => .int .u8 0) 5))) := (Kept.refl _).alloc _
            clear HI
            generalize hwr : wr = w4 at *
            clear hwr
            generalize (row m fun _ => Value.int .u8 0) = R at *
            go_upto_region 10 with fail
            generalize w4.alloc (.cells R 5) = w5 at *
            obtain ⟨g, hg⟩ : ∃ g, w4.heap.size = g := ⟨_, rfl⟩
            have HGG := Lib.hid hg
            rw [hg] at HB ⊢
            clear hg hmk hcb0
            obtain ⟨P, hP⟩ : ∃ P : Nat → UInt8, mm ts.length (mt ss) (mt ts) i = P := ⟨_, rfl⟩
            have HP : Hid (∀ q, sm ts.length (fun t => gm (mt ss i t) (mt ts t q)) = P q) := fun q => by rw [← hP]; rfl
            have HSN := Lib.hid (matL_snoc i m (mm ts.length (mt ss) (mt ts)))
            rw [hP] at HSN
            clear hP
            go_wp2_with fail
            go_loopw [9, 10] (fun j _ ws => ∃ q : Nat, q ≤ m ∧ j = .int .i64 q ∧ Hid (Kept w4 ws ∧ Byt g m (part P q 0) ws)) (fun j _ _ => m - (intOf j).toNat)
            case atStart => exact ⟨0, Nat.zero_le _, rfl, HK0.out, HB.out.congr (fun t ht => by unfold part; rw [if_neg (by omega)]; split <;> rfl)⟩
            case round =>
              obtain ⟨q, hq, rfl, HJ⟩ := hrel
              by_cases hlq : q < m
              · go_wp2_with fail
                have HJ0 : Hid (Kept w4 wr ∧ Byt g m (part P q (sm 0 fun t => gm (mt ss i t) (mt ts t q))) wr) := HJ.out
                clear HJ
                go_loopw [10] (fun k ws => ∃ r : Nat, r ≤ ts.length ∧ k = .int .i64 r ∧ Hid (Kept w4 ws ∧ Byt g m (part P q (sm r fun t => gm (mt ss i t) (mt ts t q))) ws)) (fun k _ => ts.length - (intOf k).toNat)
                case atStart => exact ⟨0, Nat.zero_le _, rfl, HJ0⟩
                case round =>
                  obtain ⟨r, hr, rfl, HL⟩ := hrel
                  by_cases hlr : r < ts.length
                  · have hca := HC1.out wr (HGW.out wr HL.out.1).2 i hlt
                    have hcb := HC2.out wr (HGW.out wr HL.out.1).2 r hlr
                    have hza := HMA.out i hlt
                    have hzb := HMB.out r hlr
                    have hcell := HL.out.2.cell q hlq
                    have hfree := HL.out.2.free q hlq
                    rw [part_at] at hcell
                    have hra : r < (nth ss i).size := by omega
                    have hrb : q < (nth ts r).size := by omega
                    have HSM : Hid (sm (r + 1) (fun t => gm (mt ss i t) (mt ts t q)) = sm r (fun t => gm (mt ss i t) (mt ts t q)) ^^^ gm (nth ss i)[r] (nth ts r)[q]) := by
                      show _ = _
                      rw [sm, bt_get _ r hra, bt_get _ q hrb]
                      rfl
                    obtain ⟨x, hx⟩ : ∃ x, sm r (fun t => gm (mt ss i t) (mt ts t q)) = x := ⟨_, rfl⟩
                    rw [hx] at hcell HSM HL
                    clear hx
                    generalize nth ss i = pa at *
                    generalize nth ts r = pb at *
                    have ha8 := pa[r].toNat_lt
                    have hb8 := pb[q].toNat_lt
                    have HXX := Lib.hid (xor_mb x pa[r].toNat pb[q] ha8)
                    go_wp2_with fail
                    obtain ⟨wd, hwd⟩ : ∃ wd, wr.drew = wd := ⟨_, rfl⟩
                    have hca2 : wd.cell? ⟨b1, o1 + i, none⟩ = some (.string pa) := by rw [← hwd]; exact hca
                    have hcb2 : wd.cell? ⟨b2, o2 + r, none⟩ = some (.string pb) := by rw [← hwd]; exact hcb
                    have hcell2 : wd.cell? ⟨g, q, none⟩ = some (.int .u8 (x.toNat : Nat)) := by rw [← hwd]; exact hcell
                    have hfree2 : wd.frozen? ⟨g, q, none⟩ = false := by rw [← hwd]; exact hfree
                    have HLD : Hid (Kept w4 wd ∧ Byt g m (part P q x) wd) := by rw [← hwd]; exact ⟨HL.out.1.drew, HL.out.2.drewN 1⟩
                    refine wp_region_still_tail 20 (by kernel_rfl) (by kernel_rfl) ?_
                    simp only [List.take_succ_cons, List.take_zero, List.drop_succ_cons, List.drop_zero]
                    change wpStill _ _ wr.drew (fun a' => wpList _ _ _ _ a' wr.drew) _ _
                    rw [hwd]
                    clear hwd hca hcb hcell hfree HL
                    repeat still_step
                    still_call (refMul_any pa[r].toNat pb[q].toNat ha8 hb8 _)
                    repeat still_step
                    refine wpStill_nil ?_
                    rw [HXX.out]
                    have HF : Hid (Kept w4 (wd.setCell ⟨g, q, none⟩ (.int .u8 ((x ^^^ mb pa[r].toNat pb[q]).toNat : Nat))) ∧ Byt g m (part P q (sm (r + 1) fun t => gm (mt ss i t) (mt ts t q))) (wd.setCell ⟨g, q, none⟩ (.int .u8 ((x ^^^ mb pa[r].toNat pb[q]).toNat : Nat)))) := by
                      show _ ∧ _
                      rw [HSM.out]
                      exact ⟨HLD.out.1.setCell (by rw [HGG.out]; exact Nat.le_refl _) _, (HLD.out.2.set q hlq _).congr (fun t _ => part_set P q x _ t)⟩
                    go_wp2_with fail
                    exact ⟨⟨r + 1, by omega, by go_num, HF⟩, by simp [intOf]; omega⟩
                  · obtain rfl : r = ts.length := by omega
                    rw [HP.out q] at HL
                    have HL2 : Hid (Kept w4 wr ∧ Byt g m (part P (q + 1) 0) wr) := ⟨HL.out.1, HL.out.2.congr (fun t _ => part_next P q t)⟩
                    clear HL
                    go_wp2_with fail
                    exact ⟨⟨q + 1, by omega, by go_num, HL2⟩, by simp [intOf]; omega⟩
              · obtain rfl : q = m := by omega
                have hcv := byt_string g q q _ wr HJ.out.2
                rw [strOf_congr q _ P (fun t ht => by unfold part; rw [if_pos ht])] at hcv
                have HGJ := Lib.hid (HGW.out wr HJ.out.1)
                have HLN : Hid ((matL i q (mm ts.length (mt ss) (mt ts))).length ≤ 1000000000) := by show _ ≤ _; rw [matL_length]; omega
                clear HJ HGW HB HK0
                go_wp2_with (first | (at_builtin; go_must (refine wpList_gat _ rfl (.tmp 70) (.tmp 73) 23 rfl Try.underlying23 w _ (matL i q (mm ts.length (mt ss) (mt ts))) rfl (HGJ.out.1.kept ((Kept.refl _).alloc _)) (HGJ.out.2.alloc _) (strOf q P) wr.heap.size rfl (by rw [World.cell?_alloc_mark]; rfl) HLN.out ?_); intro v9 w9 hG9 hK9))
                exact ⟨⟨i + 1, by omega, by go_num, by rw [HSN.out]; exact ⟨hG9, hK9⟩⟩, by simp [intOf]; omega⟩
          · obtain rfl : i = ss.length := by omega
            rw [HE.out.1] at HI
            have HR := Lib.hid HI.out.1
            have HK := Lib.hid HI.out.2
            clear HI
            go_wp2_with fail
            go_ret2
            rw [← HE.out.2]
            exact HR.out.gotM HK.out 0
      · have hsb : (((nth ss 0).size : Int) == (ts.length : Int)) = false := by simp; omega
        have HE : Hid ([] = prodL ss ts ∧ 50 = prodE ss ts) := by
          have h0 : prodE ss ts = 50 := by unfold prodE; rw [if_pos ⟨hma, hmb⟩, if_neg hs]
          exact ⟨by unfold prodL; rw [h0]; rfl, h0.symm⟩
        clear hma hmb
        generalize nth ss 0 = p0 at *
        go_wp2_with fail
        go_ret2
        rw [← HE.out.1, ← HE.out.2]
        exact GotM.nil 50 k12
end Go.Proofs.Ytlmoeaphikdjnaa
