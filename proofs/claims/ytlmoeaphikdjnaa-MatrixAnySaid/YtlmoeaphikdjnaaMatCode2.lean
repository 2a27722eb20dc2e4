/- What the program's calls on matrices answer: Unit, Times, Cauchy. -/
import Derived.Test.YtlmoeaphikdjnaaMatCode
namespace Go.Proofs.Ytlmoeaphikdjnaa
open Go.RowKit Gf
set_option linter.unusedVariables false
/-- The first k texts are there, the others not yet. -/
def fillT (A : Nat → ByteArray) (k j : Nat) : ByteArray := if j < k then A j else ByteArray.empty
theorem fillT_next (A : Nat → ByteArray) (k j : Nat) : fillT A (k + 1) j = updT (fillT A k) k (A k) j := by
  unfold updT
  by_cases e : j = k
  · subst e; unfold fillT; rw [if_pos (by omega), if_pos rfl]
  · rw [if_neg e]
    unfold fillT
    by_cases h : j < k
    · rw [if_pos (by omega), if_pos h]
    · rw [if_neg (by omega), if_neg h]
/-- What a call that has filled a row of its own leaves. -/
theorem Txt.mat {w : World} {g n m : Nat} {A : Nat → Nat → UInt8} (h : Txt g n (fillT (fun i => strOf m (A i)) n) w) : Strs w (some ⟨g, 0, none⟩) (matL n m A) :=
  h.strs _ (matL_length _ _ _) (fun i hi => by rw [nth_matL _ _ _ _ hi]; unfold fillT; rw [if_pos hi])
theorem Txt.gotL {w0 w : World} {g n m cap : Nat} {A : Nat → Nat → UInt8} (h : Txt g n (fillT (fun i => strOf m (A i)) n) w) (k : Kept w0 w) : GotL (matL n m A) w0 (.returned (.slice (some ⟨g, 0, none⟩) n cap)) w :=
  ⟨_, cap, by rw [matL_length], h.mat, k⟩
theorem Txt.gotM {w0 w : World} {g n m cap : Nat} {A : Nat → Nat → UInt8} (h : Txt g n (fillT (fun i => strOf m (A i)) n) w) (k : Kept w0 w) : GotM (matL n m A) 0 w0 (.returned (.tuple #[.slice (some ⟨g, 0, none⟩) n cap, .int .i64 0])) w :=
  ⟨_, cap, by rw [matL_length], h.mat, k⟩
/-- Room for n texts, made just now. -/
theorem make_txt (n : Nat) (hn : n ≤ 1000000) (W : World) : (Instr.makeSlice 23 (.int .i64 (n : Int)) (.int .i64 (n : Int))).run Try.prog W = .ok (.slice (some ⟨W.heap.size, 0, none⟩) n n) (W.alloc (.cells (row n fun _ => .string ByteArray.empty) 9)) := by
  have hmk := run_make_row' (P := Try.prog) 23 9 (.string ByteArray.empty) 16 Try.underlying23 info_string rfl .i64 .i64 n (by omega) (by omega) W
  rw [made_none] at hmk
  exact hmk
/-- What Unit leaves: a row of its own. -/
def UnitT (n : Int) (w : World) (e : Ending) (w' : World) : Prop :=
  (¬ (1 ≤ n ∧ n ≤ 64) ∧ e = .returned (.slice none 0 0) ∧ Kept w w') ∨
  ∃ G, (1 ≤ n ∧ n ≤ 64) ∧ e = .returned (.slice (some ⟨G, 0, none⟩) n.toNat n.toNat) ∧ w.heap.size ≤ G ∧ Txt G n.toNat (fillT (fun i => strOf n.toNat (un i)) n.toNat) w' ∧ Kept w w'
set_option maxHeartbeats 1000000 in
set_option maxRecDepth 100000 in
theorem pUnit_txt (n : Int) (w : World) (h0 : -9223372036854775808 ≤ n) (h1 : n ≤ 9223372036854775807) :
    Calls Try.prog 17 #[.int .i64 n] w fun e w' => UnitT n w e w' := by
  go_enter Try.func17, Try.ntmps17
  go_wp2_with fail
  refine (side_any n _ h0 h1).mono ?_
  rintro e w1 ⟨rfl, rfl⟩
  cases hs : sideB n
  · have hno := sideB_no hs
    have HNO := Lib.hid hno
    clear hno
    go_wp2_with fail
    go_ret
    exact .inl ⟨HNO.out, rfl, Kept.refl _⟩
  · obtain ⟨h2, h3⟩ := sideB_yes hs
    obtain ⟨N, rfl⟩ := Int.eq_ofNat_of_zero_le (show 0 ≤ n by omega)
    have HSD : Hid (1 ≤ (N : Int) ∧ (N : Int) ≤ 64) := ⟨h2, h3⟩
    have hN1 : 1 ≤ N := by omega
    have hN2 : N ≤ 64 := by omega
    have hmk := fun W => make_txt N (by omega) W
    have HT := Lib.hid (Txt.made w1 N)
    have HK : Hid (Kept w1 (w1.alloc (.cells (row N fun _ => .string ByteArray.empty) 9))) := (Kept.refl _).alloc _
    clear h0 h1 h2 h3
    generalize (row N fun _ => Value.string ByteArray.empty) = R0 at *
    go_upto_region 4 with fail
    generalize w1.alloc (.cells R0 9) = w2 at *
    obtain ⟨G, hG⟩ : ∃ G, w1.heap.size = G := ⟨_, rfl⟩
    have HG := Lib.hid hG
    rw [hG] at HT ⊢
    clear hG hmk
    go_wp2_with fail
    go_loopw [13, 4, 5] (fun i _ _ wr => ∃ k : Nat, k ≤ N ∧ i = .int .i64 k ∧ Hid (Txt G N (fillT (fun i => strOf N (un i)) k) wr ∧ Kept w1 wr)) (fun i _ _ _ => N - (intOf i).toNat)
    case atStart => exact ⟨0, Nat.zero_le _, rfl, HT.out.congr (fun j hj => by unfold fillT; rw [if_neg (by omega)]), HK.out⟩
    case round =>
      obtain ⟨k, hk, rfl, HI⟩ := hrel
      by_cases hlt : k < N
      · have hmk := fun W => run_make_row' (P := Try.prog) 43 5 (.int .u8 0) 1 Try.underlying43 info_byte rfl .i64 .i64 N (by omega) (by omega) W
        rw [made_zero] at hmk
        have HB := Lib.hid (Byt.made wr N)
        have HK0 : Hid (Kept wr (wr.alloc (.cells (row N fun _ => .int .u8 0) 5))) := (Kept.refl _).alloc _
        generalize (row N fun _ => Value.int .u8 0) = R at *
        go_upto_region 8 with fail
        generalize wr.alloc (.cells R 5) = w5 at *
        obtain ⟨g, hg⟩ : ∃ g, wr.heap.size = g := ⟨_, rfl⟩
        have HGG := Lib.hid hg
        rw [hg] at HB ⊢
        clear hg hmk
        have hcell := HB.out.cell k hlt
        have hfree := HB.out.free k hlt
        have HB6 := HB.out.set k hlt 1
        have hcv := byt_string g N N _ _ HB6
        rw [strOf_congr N _ (un k) (fun j _ => unit_bt N k j)] at hcv
        rw [show ((1 : UInt8).toNat : Int) = 1 from rfl] at hcv
        have HW6 : Hid (Kept wr (w5.setCell ⟨g, k, none⟩ (.int .u8 1))) := HK0.out.setCell (by rw [HGG.out]; exact Nat.le_refl _) _
        clear HB6
        go_upto_region 9 with fail
        generalize w5.setCell ⟨g, k, none⟩ (.int .u8 1) = w6 at *
        clear hcell hfree
        have HT6 := Lib.hid (HI.out.1.kept HW6.out)
        have hcell := HT6.out.cell k hlt
        have hfree := HT6.out.free k hlt
        have HF : Hid (Txt G N (fillT (fun i => strOf N (un i)) (k + 1)) (w6.setCell ⟨G, k, none⟩ (.string (strOf N (un k)))) ∧ Kept w1 (w6.setCell ⟨G, k, none⟩ (.string (strOf N (un k))))) :=
          ⟨(HT6.out.set k hlt _).congr (fun j _ => fillT_next _ k j), (HI.out.2.trans HW6.out).setCell (by rw [HG.out]; exact Nat.le_refl _) _⟩
        generalize strOf N (un k) = s at *
        go_wp2_with fail
        exact ⟨⟨k + 1, by omega, by go_num, HF⟩, by simp [intOf]; omega⟩
      · obtain rfl : k = N := by omega
        have HR := Lib.hid HI.out.1
        have HK := Lib.hid HI.out.2
        clear HI
        go_wp2_with fail
        go_ret
        exact .inr ⟨G, HSD.out, rfl, HG.out ▸ Nat.le_refl _, HR.out, HK.out⟩
theorem pUnit_any (n : Int) (w : World) (h0 : -9223372036854775808 ≤ n) (h1 : n ≤ 9223372036854775807) :
    Calls Try.prog 17 #[.int .i64 n] w fun e w' => GotL (unitL n) w e w' := by
  refine (pUnit_txt n w h0 h1).mono ?_
  rintro e w' (⟨hn, rfl, hk⟩ | ⟨G, hn, rfl, hG, hT, hk⟩)
  · have hu : unitL n = [] := by unfold unitL; rw [if_neg hn]
    rw [hu]
    exact ⟨none, 0, rfl, .inl rfl, hk⟩
  · have hu : unitL n = matL n.toNat n.toNat un := by unfold unitL; rw [if_pos hn]
    rw [hu]
    exact hT.gotL hk
/-- The product's row is a sum of rows. -/
theorem acc_sm (c : ByteArray) (ts : List ByteArray) (K j : Nat) : acc c ts K j = sm K fun t => gm (bt c t) (mt ts t j) := by
  induction K with
  | zero => rfl
  | succ K ih =>
    rw [acc, sm, ih]
    congr 1
theorem sum_row (ss ts : List ByteArray) (i m : Nat) (h1 : (nth ss i).size = ts.length) (h2 : evenB ts = true) (h3 : (nth ts 0).size = m) : sumS (nth ss i) ts = strOf m (mm ts.length (mt ss) (mt ts) i) := by
  unfold sumS sumOk
  rw [h2, decide_eq_true h1, if_pos (by rfl), h3]
  exact strOf_congr _ _ _ (fun j _ => acc_sm _ _ _ _)
set_option maxHeartbeats 1000000 in
set_option maxRecDepth 100000 in
theorem pTimes_any (a b : Option Addr) (ca cb : Nat) (ss ts : List ByteArray) (w : World) (hS : Strs w a ss) (hT : Strs w b ts) (hm : ss.length ≤ maxLen) (hn : ts.length ≤ maxLen) (hz1 : ∀ s ∈ ss, s.size ≤ maxLen) (hz2 : ∀ s ∈ ts, s.size ≤ maxLen) :
    Calls Try.prog 10 #[.slice a ss.length ca, .slice b ts.length cb] w fun e w' => GotM (prodL ss ts) (prodE ss ts) w e w' := by
  obtain ⟨b1, o1, hc1⟩ := strs_at hS
  have HS := Lib.hid hS
  have HT := Lib.hid hT
  have HM1 := Lib.hid hm
  have HM2 := Lib.hid hn
  have HZ1 := Lib.hid hz1
  have HZ2 := Lib.hid hz2
  have H1 := Lib.hid hc1
  clear hS hT hm hn hz1 hz2 hc1
  go_enter Try.func10, Try.ntmps10
  go_wp2_with fail
  refine (pMay_any a ca ss _ HS.out HM1.out HZ1.out).mono ?_
  rintro e w1 ⟨rfl, k1⟩
  cases hma : mayB ss
  · have HE : Hid ([] = prodL ss ts ∧ 8 = prodE ss ts) := by
      have h8 : prodE ss ts = 8 := by unfold prodE; rw [hma]; simp
      exact ⟨by unfold prodL; rw [h8]; rfl, h8.symm⟩
    clear hma
    go_wp2_with fail
    go_ret2
    rw [← HE.out.1, ← HE.out.2]
    exact GotM.nil 8 k1
  · go_wp2_with fail
    refine (pMay_any b cb ts _ (HT.out.kept k1) HM2.out HZ2.out).mono ?_
    rintro e w2 ⟨rfl, k2⟩
    have k12 := k1.trans k2
    clear k1 k2
    cases hmb : mayB ts
    · have HE : Hid ([] = prodL ss ts ∧ 8 = prodE ss ts) := by
        have h8 : prodE ss ts = 8 := by unfold prodE; rw [hmb]; simp
        exact ⟨by unfold prodL; rw [h8]; rfl, h8.symm⟩
      clear hma hmb
      go_wp2_with fail
      go_ret2
      rw [← HE.out.1, ← HE.out.2]
      exact GotM.nil 8 k12
    · obtain ⟨a1, a2, a3, a4, _⟩ := may_yes ss hma
      obtain ⟨b1', b2', b3', b4', hev⟩ := may_yes ts hmb
      obtain ⟨ha, hc1⟩ := H1.out (by omega)
      have HC1 : Hid (∀ W, Kept w W → ∀ i, i < ss.length → W.cell? ⟨b1, o1 + i, none⟩ = some (.string (nth ss i))) := fun W hW i hi => by rw [Below.cell hW (block_lt_of_cell (hc1 i hi)), hc1 i hi]
      have HMA := Lib.hid (may_size ss hma)
      have HMB := Lib.hid (may_size ts hmb)
      have hc0 := HC1.out w2 k12 0 (by omega)
      rw [Nat.add_zero] at hc0
      rw [ha]
      clear hc1 ha H1 HM1 HM2 HZ1 HZ2 HS
      by_cases hs : (nth ss 0).size = ts.length
      · have hsb : (((nth ss 0).size : Int) == (ts.length : Int)) = true := by simp [hs]
        have HE : Hid (matL ss.length (nth ts 0).size (mm ts.length (mt ss) (mt ts)) = prodL ss ts ∧ 0 = prodE ss ts) := by
          have h0 : prodE ss ts = 0 := by unfold prodE; rw [if_pos ⟨hma, hmb⟩, if_pos hs]
          exact ⟨by unfold prodL; rw [if_pos h0], h0.symm⟩
        obtain ⟨m, hm⟩ : ∃ m, (nth ts 0).size = m := ⟨_, rfl⟩
        rw [hm] at HE HMB b3' b4'
        rw [hs] at HMA
        have HROW : Hid (∀ i, i < ss.length → sumS (nth ss i) ts = strOf m (mm ts.length (mt ss) (mt ts) i)) := fun i hi => sum_row ss ts i m (HMA.out i hi) hev hm
        have HZT : Hid (∀ s ∈ ts, s.size ≤ 100000000) := fun s hs => by
          obtain ⟨j, hj, rfl⟩ := List.getElem_of_mem hs
          rw [nth_get ts j hj, HMB.out j hj]
          omega
        clear hma hmb hm hev
        generalize nth ss 0 = p0 at *
        have hmk := fun W => make_txt ss.length (by omega) W
        have HTM := Lib.hid (Txt.made w2 ss.length)
        have HK : Hid (Kept w2 (w2.alloc (.cells (row ss.length fun _ => .string ByteArray.empty) 9))) := (Kept.refl _).alloc _
        generalize (row ss.length fun _ => Value.string ByteArray.empty) = R0 at *
        go_upto_region 6 with fail
        clear hc0 hsb hs a3 a4
        generalize w2.alloc (.cells R0 9) = w3 at *
        obtain ⟨G, hG⟩ : ∃ G, w2.heap.size = G := ⟨_, rfl⟩
        have HG := Lib.hid hG
        rw [hG] at HTM ⊢
        have HGW : Hid (w.heap.size ≤ G) := by rw [← hG]; exact k12.size
        clear hG hmk
        have HK3 := Lib.hid (k12.trans HK.out)
        obtain ⟨A, hA⟩ : ∃ A, mm ts.length (mt ss) (mt ts) = A := ⟨_, rfl⟩
        rw [hA] at HE HROW
        clear hA
        go_wp2_with fail
        go_loopw [31, 7, 8] (fun i _ _ wr => ∃ k : Nat, k ≤ ss.length ∧ i = .int .i64 k ∧ Hid (Txt G ss.length (fillT (fun i => strOf m (A i)) k) wr ∧ Kept w wr)) (fun i _ _ _ => ss.length - (intOf i).toNat)
        case atStart => exact ⟨0, Nat.zero_le _, rfl, HTM.out.congr (fun j hj => by unfold fillT; rw [if_neg (by omega)]), HK3.out⟩
        case round =>
          obtain ⟨k, hk, rfl, HI⟩ := hrel
          by_cases hlt : k < ss.length
          · have hck := HC1.out wr HI.out.2 k hlt
            have hzk := HMA.out k hlt
            have HRK := Lib.hid (HROW.out k hlt)
            generalize nth ss k = p at *
            go_wp2_with fail
            refine (sum_any p b cb ts _ (HT.out.kept HI.out.2) (by omega) HZT.out (by omega)).mono ?_
            rintro e w4 ⟨rfl, k4⟩
            rw [HRK.out]
            have HT6 := Lib.hid (HI.out.1.kept k4)
            have hcell := HT6.out.cell k hlt
            have hfree := HT6.out.free k hlt
            have HF : Hid (Txt G ss.length (fillT (fun i => strOf m (A i)) (k + 1)) (w4.setCell ⟨G, k, none⟩ (.string (strOf m (A k)))) ∧ Kept w (w4.setCell ⟨G, k, none⟩ (.string (strOf m (A k))))) :=
              ⟨(HT6.out.set k hlt _).congr (fun j _ => fillT_next _ k j), (HI.out.2.trans k4).setCell HGW.out _⟩
            generalize strOf m (A k) = s at *
            generalize sumE p ts = se at *
            go_wp2_with fail
            exact ⟨⟨k + 1, by omega, by go_num, HF⟩, by simp [intOf]; omega⟩
          · obtain rfl : k = ss.length := by omega
            have HR := Lib.hid HI.out.1
            have HK := Lib.hid HI.out.2
            clear HI
            go_wp2_with fail
            go_ret2
            rw [← HE.out.1, ← HE.out.2]
            exact HR.out.gotM HK.out
      · have hsb : (((nth ss 0).size : Int) == (ts.length : Int)) = false := by simp; omega
        have HE : Hid ([] = prodL ss ts ∧ 50 = prodE ss ts) := by
          have h0 : prodE ss ts = 50 := by unfold prodE; rw [if_pos ⟨hma, hmb⟩, if_neg hs]
          exact ⟨by unfold prodL; rw [h0]; rfl, h0.symm⟩
        clear hma hmb hev
        generalize nth ss 0 = p0 at *
        go_wp2_with fail
        go_ret2
        rw [← HE.out.1, ← HE.out.2]
        exact GotM.nil 50 k12
end Go.Proofs.Ytlmoeaphikdjnaa
