/- SMatCode4, SMatCode5, SElim, SElim2, SMatCode6, SMatCode7, SMatCode8, SCodeEql, SCodeSums, SCodeSmall. -/
import Derived.Test.YthifdfbdekkmgaaPart13
import Derived.Test.YthifdfbdekkmgaaPart14
import Derived.Test.YthifdfbdekkmgaaPart15
import Derived.Test.YthifdfbdekkmgaaPart10
import Derived.IntWalk
import Derived.BigRegion
set_option linter.unusedVariables false
set_option linter.unusedSimpArgs false
set_option linter.unusedSectionVars false
set_option linter.unnecessarySimpa false
set_option linter.deprecated false
/- What the program's calls on matrices answer: copies, Pick, Below. -/
namespace Go.Proofs.Ythifdfbdekkmgaa
open Go.RowKit Gf
set_option linter.unusedVariables false
set_option maxHeartbeats 1000000 in
set_option maxRecDepth 100000 in
theorem copies_any (G n cap : Nat) (f : Nat → ByteArray) (w : World) (hT : Txt G n f w) (hn : n ≤ 1000000) (hz : ∀ i, i < n → (f i).size ≤ 281474976710656) :
    Calls Seq.prog 80 #[.slice (some ⟨G, 0, none⟩) n cap] w fun e w' => e = .returned (.slice (some ⟨G, 0, none⟩) n cap) ∧ But G w w' ∧ Txt G n f w' := by
  have HT := Lib.hid hT
  have HZ := Lib.hid hz
  clear hT hz
  go_enter Seq.func80, Seq.ntmps80
  go_wp2_with fail
  go_loopw [7, 3, 4] (fun i _ _ wr => ∃ k : Nat, k ≤ n ∧ i = .int .i64 k ∧ Hid (Txt G n f wr ∧ But G w wr)) (fun i _ _ _ => n - (intOf i).toNat)
  case atStart => exact ⟨0, Nat.zero_le _, rfl, HT.out, But.refl _ _⟩
  case round =>
    obtain ⟨k, hk, rfl, HI⟩ := hrel
    by_cases hlt : k < n
    · have hck := HI.out.1.cell k hlt
      have hzk := HZ.out k hlt
      have HSET := Lib.hid (fun W (hW : Txt G n f W) => (hW.set k hlt (f k)).congr (f' := f) (fun j _ => by unfold updT; split <;> simp [*]))
      generalize f k = p at *
      go_wp2_with fail
      refine (clone_any p _ hzk).mono ?_
      rintro e w4 ⟨rfl, k4⟩
      have HT4 := Lib.hid (HI.out.1.kept k4)
      have hcell : ∃ v, w4.cell? ⟨G, k, none⟩ = some v := ⟨_, HT4.out.cell k hlt⟩
      obtain ⟨v, hcell⟩ := hcell
      have hfree := HT4.out.free k hlt
      have HF : Hid (Txt G n f (w4.setCell ⟨G, k, none⟩ (.string p)) ∧ But G w (w4.setCell ⟨G, k, none⟩ (.string p))) := ⟨HSET.out _ HT4.out, (HI.out.2.trans (k4.but G)).setCell _ _⟩
      go_wp2_with fail
      exact ⟨⟨k + 1, by omega, by go_num, HF⟩, by simp [intOf]; omega⟩
    · obtain rfl : k = n := by omega
      go_wp2_with fail
      go_ret
      exact ⟨rfl, HI.out.2, HI.out.1⟩
theorem bel_form (ss ts : List ByteArray) (h : ¬ (mayB ss = true ∧ mayB ts = true)) : [] = belL ss ts ∧ 8 = belE ss ts := by
  have h8 : belE ss ts = 8 := by unfold belE; rw [if_neg h]
  exact ⟨by unfold belL; rw [h8]; rfl, h8.symm⟩
theorem slices_two (W : World) (t : TypeId) (v1 v2 : Value) (j : Nat) (hj : j < 2) : (W.alloc (.cells #[v1, v2] t)).cell? ⟨W.heap.size, j, none⟩ = some (if j = 0 then v1 else v2) := by
  rw [World.cell?_alloc_mark]
  match j, hj with
  | 0, _ => rfl
  | 1, _ => rfl
/-- GotM, and the slice has no less room than texts. -/
def GotC (rows : List ByteArray) (err : Int) (w : World) (e : Ending) (w' : World) : Prop := ∃ a cap, e = .returned (.tuple #[.slice a rows.length cap, .int .i64 err]) ∧ Strs w' a rows ∧ Kept w w' ∧ rows.length ≤ cap
theorem GotC.nil (err : Int) {w0 w : World} (k : Kept w0 w) : GotC [] err w0 (.returned (.tuple #[.slice none 0 0, .int .i64 err])) w := ⟨none, 0, rfl, .inl rfl, k, Nat.le_refl _⟩
theorem Gat.txtc {B : Nat} {v : Value} {ss : List ByteArray} {w : World} (h : Gat B v ss w) (h0 : 0 < ss.length) : ∃ g cap, v = .slice (some ⟨g, 0, none⟩) ss.length cap ∧ B ≤ g ∧ Txt g ss.length (nth ss) w ∧ ss.length ≤ cap := by
  obtain ⟨g, cap, e, h1, h2⟩ := h.txt h0
  subst e
  refine ⟨g, cap, rfl, h1, h2, ?_⟩
  obtain ⟨_, h4⟩ := h
  rcases h4 with ⟨h5, _⟩ | ⟨g', cap', cur, h5, h6⟩
  · cases h5
  · injection h5 with e1 e2 e3
    subst e3
    obtain ⟨_, _, h7, _⟩ := h6
    exact h7
set_option maxHeartbeats 1000000 in
set_option maxRecDepth 100000 in
theorem pBelow_c (a b : Option Addr) (ca cb : Nat) (ss ts : List ByteArray) (w : World) (hS : Strs w a ss) (hT : Strs w b ts) (hm : ss.length ≤ maxLen) (hn : ts.length ≤ maxLen) (hz1 : ∀ s ∈ ss, s.size ≤ maxLen) (hz2 : ∀ s ∈ ts, s.size ≤ maxLen) :
    Calls Seq.prog 41 #[.slice a ss.length ca, .slice b ts.length cb] w fun e w' => GotC (belL ss ts) (belE ss ts) w e w' := by
  obtain ⟨b1, o1, hc1⟩ := strs_at hS
  obtain ⟨b2, o2, hc2⟩ := strs_at hT
  have HS := Lib.hid hS
  have HT := Lib.hid hT
  have HM1 := Lib.hid hm
  have HM2 := Lib.hid hn
  have HZ1 := Lib.hid hz1
  have HZ2 := Lib.hid hz2
  have H1 := Lib.hid hc1
  have H2 := Lib.hid hc2
  clear hS hT hm hn hz1 hz2 hc1 hc2
  go_enter Seq.func41, Seq.ntmps41
  go_wp2_with fail
  refine (pMay_any a ca ss _ HS.out HM1.out HZ1.out).mono ?_
  rintro e w1 ⟨rfl, k1⟩
  cases hma : mayB ss
  · have HE := Lib.hid (bel_form ss ts (by rw [hma]; simp))
    clear hma
    go_wp2_with fail
    go_ret2
    rw [← HE.out.1, ← HE.out.2]
    exact GotC.nil 8 k1
  · go_wp2_with fail
    refine (pMay_any b cb ts _ (HT.out.kept k1) HM2.out HZ2.out).mono ?_
    rintro e w2 ⟨rfl, k2⟩
    have k12 := k1.trans k2
    clear k1 k2
    cases hmb : mayB ts
    · have HE := Lib.hid (bel_form ss ts (by rw [hmb]; simp))
      clear hma hmb
      go_wp2_with fail
      go_ret2
      rw [← HE.out.1, ← HE.out.2]
      exact GotC.nil 8 k12
    · obtain ⟨a1, a2, a3, a4, _⟩ := may_yes ss hma
      obtain ⟨b1', b2', b3', b4', _⟩ := may_yes ts hmb
      obtain ⟨ha, hc1⟩ := H1.out (by omega)
      obtain ⟨hb, hc2⟩ := H2.out (by omega)
      have HC1 : Hid (∀ W, Kept w W → ∀ i, i < ss.length → W.cell? ⟨b1, o1 + i, none⟩ = some (.string (nth ss i))) := fun W hW i hi => by rw [Below.cell hW (block_lt_of_cell (hc1 i hi)), hc1 i hi]
      have HC2 : Hid (∀ W, Kept w W → ∀ i, i < ts.length → W.cell? ⟨b2, o2 + i, none⟩ = some (.string (nth ts i))) := fun W hW i hi => by rw [Below.cell hW (block_lt_of_cell (hc2 i hi)), hc2 i hi]
      have HMA := Lib.hid (may_size ss hma)
      have HMB := Lib.hid (may_size ts hmb)
      have hp0 := HC1.out w2 k12 0 (by omega)
      have hq0 := HC2.out w2 k12 0 (by omega)
      rw [Nat.add_zero] at hp0 hq0
      have HE0 : Hid ((nth ss 0).size ≠ (nth ts 0).size → [] = belL ss ts ∧ 50 = belE ss ts) := fun hs => by
        have h0 : belE ss ts = 50 := by unfold belE; rw [if_pos ⟨hma, hmb⟩, if_neg hs]
        exact ⟨by unfold belL; rw [h0]; rfl, h0.symm⟩
      have HE1 : Hid ((nth ss 0).size = (nth ts 0).size → 64 < ss.length + ts.length → [] = belL ss ts ∧ 2 = belE ss ts) := fun hs hl => by
        have h0 : belE ss ts = 2 := by unfold belE; rw [if_pos ⟨hma, hmb⟩, if_pos hs, if_neg (by omega)]
        exact ⟨by unfold belL; rw [h0]; rfl, h0.symm⟩
      have HE2 : Hid ((nth ss 0).size = (nth ts 0).size → ss.length + ts.length ≤ 64 → ss ++ ts = belL ss ts ∧ 0 = belE ss ts) := fun hs hl => by
        have h0 : belE ss ts = 0 := by unfold belE; rw [if_pos ⟨hma, hmb⟩, if_pos hs, if_pos hl]
        exact ⟨by unfold belL; rw [if_pos h0], h0.symm⟩
      rw [ha, hb]
      clear hc1 hc2 ha hb H1 H2 HM1 HM2 HZ1 HZ2 HS HT hma hmb
      generalize nth ss 0 = p at *
      generalize nth ts 0 = q at *
      by_cases he : p.size = q.size
      · have heb : ((p.size : Int) == (q.size : Int)) = true := by simp [he]
        have HE3 := Lib.hid (HE1.out he)
        have HE4 := Lib.hid (HE2.out he)
        clear HE0 HE1 HE2
        have hside := fun W => side_any ((ss.length : Int) + (ts.length : Int)) W (by omega) (by omega)
        have HSD := Lib.hid hside
        clear hside
        go_wp2_with fail
        go_quiet (fail)
        go_wp2_with fail
        refine (HSD.out _).mono ?_
        rintro e w3 ⟨rfl, rfl⟩
        cases hsd : sideB ((ss.length : Int) + (ts.length : Int))
        · have HE5 := Lib.hid (HE3.out (by have := sideB_no hsd; omega))
          go_wp2_with fail
          go_ret2
          rw [← HE5.out.1, ← HE5.out.2]
          exact GotC.nil 2 (k12.trans ((Kept.refl _).drewN _))
        · have h64 := (sideB_yes hsd).2
          have HE5 := Lib.hid (HE4.out (by omega))
          have HK5 : Hid (Kept w (w2.drewN nq)) := k12.trans ((Kept.refl _).drewN _)
          generalize w2.drewN nq = w5 at *
          clear hp0 hq0 k12 HSD
          go_wp2_with fail
          have HK6 : Hid (Kept w (w5.alloc (.cells #[.slice (some ⟨b1, o1, none⟩) ss.length ca, .slice (some ⟨b2, o2, none⟩) ts.length cb] 50))) := HK5.out.alloc _
          refine (concatS_any w5.heap.size 2 2 (fun j => if j = 0 then ss else ts) (fun j => if j = 0 then b1 else b2) (fun j => if j = 0 then o1 else o2) (fun j => if j = 0 then ca else cb) _ (by decide) (fun j hj => ?_) ?_ (fun j hj => ?_) (fun j hj i hi => ?_)).mono ?_
          · by_cases h : j = 0 <;> simp [h] <;> omega
          · show (([] ++ ss) ++ ts).length ≤ _
            rw [List.nil_append, List.length_append]
            omega
          · rw [slices_two _ _ _ _ _ hj]
            by_cases h : j = 0 <;> simp [h]
          · by_cases h : j = 0
            · simp only [h, if_pos] at hi ⊢
              exact HC1.out _ HK6.out i hi
            · simp only [h, if_false] at hi ⊢
              exact HC2.out _ HK6.out i hi
          rintro e w7 ⟨v7, rfl, hg7, hk7⟩
          have hcat : catK (fun j => if j = 0 then ss else ts) 2 = ss ++ ts := by
            show ([] ++ ss) ++ ts = _
            rw [List.nil_append]
          rw [hcat] at hg7
          obtain ⟨g8, c8, rfl, hg8, ht8, hc8⟩ := hg7.txtc (by rw [List.length_append]; omega)
          have HK8 : Hid (Kept w w7 ∧ w.heap.size ≤ g8) := ⟨HK6.out.trans hk7, Nat.le_trans HK6.out.size hg8⟩
          have HT8 := Lib.hid ht8
          have HC8 := Lib.hid hc8
          have HZ8 : Hid (∀ i, i < (ss ++ ts).length → (nth (ss ++ ts) i).size ≤ 281474976710656) := fun i hi => by
            rw [← nth_get _ i hi]
            rcases List.mem_append.1 (List.getElem_mem hi) with h | h
            · obtain ⟨j, hj, e⟩ := List.getElem_of_mem h
              rw [← e, nth_get ss j hj, HMA.out j hj]
              omega
            · obtain ⟨j, hj, e⟩ := List.getElem_of_mem h
              rw [← e, nth_get ts j hj, HMB.out j hj]
              omega
          have hlen : (ss ++ ts).length ≤ 1000000 := by rw [List.length_append]; omega
          rw [HE5.out.1] at *
          clear hcat hg7 hg8 ht8 hk7 hc8
          go_wp2_with fail
          refine (copies_any g8 _ c8 _ _ HT8.out hlen HZ8.out).mono ?_
          rintro e w9 ⟨rfl, hb9, ht9⟩
          have HF : Hid (Strs w9 (some ⟨g8, 0, none⟩) (belL ss ts) ∧ Kept w w9) := ⟨ht9.strs _ rfl (fun _ _ => rfl), But.kept HK8.out.1 HK8.out.2 hb9⟩
          clear hb9 ht9
          go_wp2_with fail
          go_ret2
          rw [← HE5.out.2]
          exact ⟨_, _, rfl, HF.out.1, HF.out.2, HC8.out⟩
      · have heb : ((p.size : Int) == (q.size : Int)) = false := by simp; omega
        have HE5 := Lib.hid (HE0.out he)
        clear HE0 HE1 HE2
        go_wp2_with fail
        go_quiet (fail)
        go_wp2_with fail
        go_ret2
        rw [← HE5.out.1, ← HE5.out.2]
        exact GotC.nil 50 (k12.trans ((Kept.refl _).drewN _))
theorem pBelow_any (a b : Option Addr) (ca cb : Nat) (ss ts : List ByteArray) (w : World) (hS : Strs w a ss) (hT : Strs w b ts) (hm : ss.length ≤ maxLen) (hn : ts.length ≤ maxLen) (hz1 : ∀ s ∈ ss, s.size ≤ maxLen) (hz2 : ∀ s ∈ ts, s.size ≤ maxLen) :
    Calls Seq.prog 41 #[.slice a ss.length ca, .slice b ts.length cb] w fun e w' => GotM (belL ss ts) (belE ss ts) w e w' := by
  refine (pBelow_c a b ca cb ss ts w hS hT hm hn hz1 hz2).mono ?_
  rintro e w' ⟨x, cap, h1, h2, h3, _⟩
  exact ⟨x, cap, h1, h2, h3⟩
end Go.Proofs.Ythifdfbdekkmgaa

/- What the program's calls on matrices answer: Pick. -/
namespace Go.Proofs.Ythifdfbdekkmgaa
open Go.RowKit Gf
set_option linter.unusedVariables false
set_option maxHeartbeats 1000000 in
set_option maxRecDepth 100000 in
theorem pPick_any (a b : Option Addr) (ca cb : Nat) (ss : List ByteArray) (rs : List Int) (w : World) (hS : Strs w a ss) (hR : Ints .i64 w b rs) (hm : ss.length ≤ maxLen) (hn : rs.length ≤ maxLen) (hz : ∀ s ∈ ss, s.size ≤ maxLen) (hb : ∀ r ∈ rs, -9223372036854775808 ≤ r ∧ r ≤ 9223372036854775807) :
    Calls Seq.prog 52 #[.slice a ss.length ca, .slice b rs.length cb] w fun e w' => GotM (pickL ss rs) (pickE ss rs) w e w' := by
  obtain ⟨b1, o1, hc1⟩ := strs_at hS
  obtain ⟨b2, o2, hc2⟩ := ints_at hR
  have HS := Lib.hid hS
  have HM1 := Lib.hid hm
  have HZ1 := Lib.hid hz
  have HB : Hid (∀ i, i < rs.length → -9223372036854775808 ≤ nthI rs i ∧ nthI rs i ≤ 9223372036854775807) := fun i hi => hb _ (by rw [← nthI_get rs i hi]; exact List.getElem_mem hi)
  have H1 := Lib.hid hc1
  have H2 := Lib.hid hc2
  unfold maxLen at hn
  clear hS hR hm hz hb hc1 hc2
  go_enter Seq.func52, Seq.ntmps52
  go_wp2_with fail
  refine (pMay_any a ca ss _ HS.out HM1.out HZ1.out).mono ?_
  rintro e w1 ⟨rfl, k1⟩
  cases hma : mayB ss
  · have HE : Hid ([] = pickL ss rs ∧ 8 = pickE ss rs) := by
      have h8 : pickE ss rs = 8 := by unfold pickE; rw [hma]; simp
      exact ⟨by unfold pickL; rw [h8]; rfl, h8.symm⟩
    clear hma
    go_wp2_with fail
    go_ret2
    rw [← HE.out.1, ← HE.out.2]
    exact GotM.nil 8 k1
  · go_wp2_with fail
    refine (side_nat rs.length _ (by omega)).mono ?_
    rintro e w1 ⟨rfl, rfl⟩
    cases hsd : sideB rs.length
    · have HE : Hid ([] = pickL ss rs ∧ 2 = pickE ss rs) := by
        have h2 : pickE ss rs = 2 := by
          unfold pickE pickOk
          rw [if_pos hma, decide_eq_false (fun h => sideB_no hsd ⟨by omega, by omega⟩)]
          rfl
        exact ⟨by unfold pickL; rw [h2]; rfl, h2.symm⟩
      clear hma
      go_wp2_with fail
      go_ret2
      rw [← HE.out.1, ← HE.out.2]
      exact GotM.nil 2 k1
    · have hl' := sideB_yes hsd
      have hl : 1 ≤ rs.length ∧ rs.length ≤ 64 := by omega
      obtain ⟨a1, a2, a3, a4, _⟩ := may_yes ss hma
      obtain ⟨ha, hc1⟩ := H1.out (by omega)
      obtain ⟨hb, hc2⟩ := H2.out (by omega)
      have HC1 : Hid (∀ W, Kept w W → ∀ i, i < ss.length → W.cell? ⟨b1, o1 + i, none⟩ = some (.string (nth ss i))) := fun W hW i hi => by rw [Below.cell hW (block_lt_of_cell (hc1 i hi)), hc1 i hi]
      have HC2 : Hid (∀ W, Kept w W → ∀ i, i < rs.length → W.cell? ⟨b2, o2 + i, none⟩ = some (.int .i64 (nthI rs i))) := fun W hW i hi => by rw [Below.cell hW (block_lt_of_cell (hc2 i hi)), hc2 i hi]
      have HMA := Lib.hid (may_size ss hma)
      have HP : Hid (∀ k, k < rs.length → ¬ (0 ≤ nthI rs k ∧ nthI rs k < ss.length) → [] = pickL ss rs ∧ 2 = pickE ss rs) := fun k hk hno => by
        have h2 : pickE ss rs = 2 := by
          unfold pickE
          rw [if_pos hma, if_neg]
          unfold pickOk
          rw [Bool.and_eq_true, List.all_eq_true]
          intro h
          have := h.2 _ (List.getElem_mem hk)
          rw [nthI_get rs k hk] at this
          exact hno (by simpa using this)
        exact ⟨by unfold pickL; rw [h2]; rfl, h2.symm⟩
      have HQ : Hid ((∀ k, k < rs.length → 0 ≤ nthI rs k ∧ nthI rs k < ss.length) → rs.map (fun r => nth ss r.toNat) = pickL ss rs ∧ 0 = pickE ss rs) := fun hall => by
        have h0 : pickE ss rs = 0 := by
          unfold pickE
          rw [if_pos hma, if_pos]
          unfold pickOk
          rw [Bool.and_eq_true, List.all_eq_true]
          refine ⟨decide_eq_true hl, fun r hr => ?_⟩
          obtain ⟨i, hi, rfl⟩ := List.getElem_of_mem hr
          rw [nthI_get rs i hi]
          exact decide_eq_true (hall i hi)
        exact ⟨by unfold pickL; rw [if_pos h0], h0.symm⟩
      rw [ha, hb]
      clear hc1 hc2 ha hb H1 H2 HM1 HZ1 HS hma hl'
      have hmk := fun W => make_txt rs.length (by omega) W
      have HTM := Lib.hid (Txt.made w1 rs.length)
      have HK : Hid (Kept w1 (w1.alloc (.cells (row rs.length fun _ => .string ByteArray.empty) 9))) := (Kept.refl _).alloc _
      generalize (row rs.length fun _ => Value.string ByteArray.empty) = R0 at *
      go_upto_region 6 with fail
      generalize w1.alloc (.cells R0 9) = w3 at *
      obtain ⟨G, hG⟩ : ∃ G, w1.heap.size = G := ⟨_, rfl⟩
      rw [hG] at HTM ⊢
      have HGW : Hid (w.heap.size ≤ G) := by rw [← hG]; exact k1.size
      have HK3 := Lib.hid (k1.trans HK.out)
      clear hG hmk
      go_wp2_with fail
      go_loopw [23, 7, 8] (fun i _ _ wr => ∃ k : Nat, k ≤ rs.length ∧ i = .int .i64 k ∧ Hid (Txt G rs.length (fillT (fun i => nth ss (nthI rs i).toNat) k) wr ∧ Kept w wr ∧ ∀ j, j < k → 0 ≤ nthI rs j ∧ nthI rs j < ss.length)) (fun i _ _ _ => rs.length - (intOf i).toNat)
      case atStart => exact ⟨0, Nat.zero_le _, rfl, HTM.out.congr (fun j hj => by unfold fillT; rw [if_neg (by omega)]), HK3.out, fun j hj => by omega⟩
      case round =>
        obtain ⟨k, hk, rfl, HI⟩ := hrel
        by_cases hlt : k < rs.length
        · have hcr := HC2.out wr HI.out.2.1 k hlt
          have hbr := HB.out k hlt
          have HP2 := Lib.hid (HP.out k hlt)
          have HAL : Hid (0 ≤ nthI rs k ∧ nthI rs k < ss.length → ∀ j, j < k + 1 → 0 ≤ nthI rs j ∧ nthI rs j < ss.length) := fun h j hj => by
            by_cases e : j = k
            · subst e; exact h
            · exact HI.out.2.2 j (by omega)
          have hcell : ∃ v, wr.cell? ⟨G, k, none⟩ = some v := ⟨_, HI.out.1.cell k hlt⟩
          obtain ⟨v, hcell⟩ := hcell
          have hfree := HI.out.1.free k hlt
          have HF : Hid (Txt G rs.length (fillT (fun i => nth ss (nthI rs i).toNat) (k + 1)) (wr.setCell ⟨G, k, none⟩ (.string (nth ss (nthI rs k).toNat))) ∧ Kept w (wr.setCell ⟨G, k, none⟩ (.string (nth ss (nthI rs k).toNat)))) :=
            ⟨(HI.out.1.set k hlt _).congr (fun j _ => fillT_next _ k j), HI.out.2.1.setCell HGW.out _⟩
          have HKW := Lib.hid HI.out.2.1
          clear HI
          generalize nthI rs k = r at *
          obtain ⟨hr1, hr2⟩ := hbr
          by_cases hok : 0 ≤ r ∧ r < ss.length
          · obtain ⟨R, rfl⟩ := Int.eq_ofNat_of_zero_le hok.1
            have hR : R < ss.length := by omega
            have hcs := HC1.out wr HKW.out R hR
            have HAL2 := Lib.hid (HAL.out hok)
            clear HP2 HAL hok
            rw [show ((R : Int)).toNat = R from rfl] at HF
            generalize nth ss R = p at *
            go_wp2_with fail
            exact ⟨⟨k + 1, by omega, by go_num, HF.out.1, HF.out.2, HAL2.out⟩, by simp [intOf]; omega⟩
          · have HP3 := Lib.hid (HP2.out hok)
            clear HP2 HAL HF
            rcases Int.lt_or_le r 0 with k2 | k2
            · go_wp2_with fail
              go_ret2
              rw [← HP3.out.1, ← HP3.out.2]
              exact GotM.nil 2 HKW.out
            · have k3 : (ss.length : Int) ≤ r := by omega
              clear hok
              go_wp2_with fail
              go_ret2
              rw [← HP3.out.1, ← HP3.out.2]
              exact GotM.nil 2 HKW.out
        · obtain rfl : k = rs.length := by omega
          have HQ2 := Lib.hid (HQ.out HI.out.2.2)
          have HT8 := Lib.hid HI.out.1
          have HK8 := Lib.hid HI.out.2.1
          have HZ8 : Hid (∀ i, i < rs.length → (fillT (fun i => nth ss (nthI rs i).toNat) rs.length i).size ≤ 281474976710656) := fun i hi => by
            have h9 := HI.out.2.2 i hi
            unfold fillT
            rw [if_pos hi, HMA.out _ (by omega)]
            omega
          have HN8 : Hid (∀ i, i < rs.length → nth (rs.map fun r => nth ss r.toNat) i = fillT (fun i => nth ss (nthI rs i).toNat) rs.length i) := fun i hi => by
            unfold fillT
            rw [if_pos hi, ← nth_get _ i (by rw [List.length_map]; exact hi), List.getElem_map, nthI_get rs i hi]
          clear HI HQ HP
          go_wp2_with fail
          refine (copies_any G rs.length rs.length _ _ HT8.out (by omega) HZ8.out).mono ?_
          rintro e w9 ⟨rfl, hb9, ht9⟩
          have HF : Hid (Strs w9 (some ⟨G, 0, none⟩) (rs.map fun r => nth ss r.toNat) ∧ Kept w w9) := ⟨ht9.strs _ (List.length_map _) HN8.out, But.kept HK8.out HGW.out hb9⟩
          clear hb9 ht9 HN8
          have HLM : Hid ((rs.map fun r => nth ss r.toNat).length = rs.length) := List.length_map _
          rw [HQ2.out.1] at HF HLM
          go_wp2_with fail
          go_ret2
          rw [← HQ2.out.2]
          exact ⟨_, _, by rw [HLM.out]; rfl, HF.out⟩
end Go.Proofs.Ythifdfbdekkmgaa

/- Plain facts: rows that are changed till the unit stands there: what has no row that goes to 0 is undone. -/
namespace Go.Proofs.Ythifdfbdekkmgaa.Gf

/-- Rows exchanged. -/
def swp (p c i : Nat) : Nat := if i = p then c else if i = c then p else i
theorem swp_lt {p c i n : Nat} (hp : p < n) (hc : c < n) (hi : i < n) : swp p c i < n := by unfold swp; split <;> (try split) <;> omega
theorem swp_swp (p c i : Nat) : swp p c (swp p c i) = i := by
  unfold swp
  by_cases h1 : i = p
  · rw [if_pos h1]
    by_cases h2 : c = p
    · rw [if_pos h2]; omega
    · rw [if_neg h2, if_pos rfl]; omega
  · rw [if_neg h1]
    by_cases h2 : i = c
    · rw [if_pos h2, if_pos rfl]; omega
    · rw [if_neg h2, if_neg h1, if_neg h2]
def swapM (p c i j : Nat) : UInt8 := un (swp p c i) j
theorem swap_mm {n p c : Nat} (hp : p < n) (hc : c < n) (X : Nat → Nat → UInt8) (i j : Nat) (hi : i < n) : mm n (swapM p c) X i j = X (swp p c i) j := by
  have h := swp_lt hp hc hi
  show sm n (fun k => gm (un (swp p c i) k) (X k j)) = _
  exact un_mm n X (swp p c i) j h
theorem swap_inv {n p c : Nat} (hp : p < n) (hc : c < n) : Inv n (swapM p c) (swapM p c) := by
  have h : Eq2 n (mm n (swapM p c) (swapM p c)) un := fun i j hi _ => by
    rw [swap_mm hp hc _ i j hi]
    unfold swapM
    rw [swp_swp]
  exact ⟨h, h⟩
/-- Row c multiplied. -/
def scaleM (c : Nat) (s : UInt8) (i j : Nat) : UInt8 := if i = j then (if i = c then s else 1) else 0
theorem scale_mm {n : Nat} (c : Nat) (s : UInt8) (X : Nat → Nat → UInt8) (i j : Nat) (hi : i < n) : mm n (scaleM c s) X i j = if i = c then gm s (X i j) else X i j := by
  unfold mm
  rw [sm_one hi]
  · unfold scaleM
    rw [if_pos rfl]
    by_cases h : i = c
    · rw [if_pos h, if_pos h]
    · rw [if_neg h, if_neg h, one_gm]
  · intro k _ h
    unfold scaleM
    rw [if_neg (fun e => h e.symm), zero_gm]
theorem scale_inv {n : Nat} (c : Nat) {s : UInt8} (h : s ≠ 0) : Inv n (scaleM c s) (scaleM c (gi s)) := by
  constructor
  · intro i j hi _
    rw [scale_mm c s _ i j hi]
    unfold scaleM un
    by_cases hij : i = j
    · rw [if_pos hij, if_pos hij]
      by_cases hc : i = c
      · rw [if_pos hc, if_pos hc, gm_gi h]
      · rw [if_neg hc, if_neg hc]
    · rw [if_neg hij, if_neg hij, gm_zero]; split <;> rfl
  · intro i j hi _
    rw [scale_mm c (gi s) _ i j hi]
    unfold scaleM un
    by_cases hij : i = j
    · rw [if_pos hij, if_pos hij]
      by_cases hc : i = c
      · rw [if_pos hc, if_pos hc, gm_comm, gm_gi h]
      · rw [if_neg hc, if_neg hc]
    · rw [if_neg hij, if_neg hij, gm_zero]; split <;> rfl
/-- Row c's multiples added to the others. -/
def clearM (c : Nat) (v : Nat → UInt8) (i j : Nat) : UInt8 := un i j ^^^ if i ≠ c ∧ j = c then v i else 0
theorem clear_mm {n c : Nat} (hc : c < n) (v : Nat → UInt8) (X : Nat → Nat → UInt8) (i j : Nat) (hi : i < n) : mm n (clearM c v) X i j = if i = c then X i j else X i j ^^^ gm (v i) (X c j) := by
  have e : mm n (clearM c v) X i j = mm n un X i j ^^^ sm n (fun k => gm (if i ≠ c ∧ k = c then v i else 0) (X k j)) := by
    unfold mm
    rw [← sm_add]
    exact sm_congr fun k _ => by unfold clearM; rw [add_gm]
  rw [e, un_mm n X i j hi]
  by_cases h : i = c
  · rw [if_pos h, sm_zero, add_zero]
    intro k _
    rw [if_neg (fun e => e.1 h), zero_gm]
  · rw [if_neg h, sm_one hc]
    · rw [if_pos ⟨h, rfl⟩]
    · intro k _ hk
      rw [if_neg (fun e => hk e.2), zero_gm]
theorem clear_inv {n c : Nat} (hc : c < n) (v : Nat → UInt8) : Inv n (clearM c v) (clearM c v) := by
  have h : Eq2 n (mm n (clearM c v) (clearM c v)) un := fun i j hi _ => by
    rw [clear_mm hc v _ i j hi]
    by_cases h : i = c
    · rw [if_pos h]
      unfold clearM
      rw [if_neg (fun e => e.1 h), add_zero]
    · rw [if_neg h]
      unfold clearM
      rw [if_neg (show ¬ (c ≠ c ∧ j = c) from fun e => e.1 rfl), add_zero]
      by_cases hj : j = c
      · rw [if_pos ⟨h, hj⟩, hj]
        unfold un
        rw [if_neg h, if_pos rfl, gm_one, zero_add, self_add]
      · have e : un c j = 0 := by unfold un; rw [if_neg (fun e => hj e.symm)]
        rw [if_neg (fun e => hj e.2), add_zero, e, gm_zero, add_zero]
  exact ⟨h, h⟩
/-- One column's step: rows exchanged, the row scaled, the others cleared. -/
def stepM (n p c : Nat) (L : Nat → Nat → UInt8) : Nat → Nat → UInt8 :=
  let L1 := mm n (swapM p c) L
  let s := gi (L1 c c)
  let L2 := mm n (scaleM c s) L1
  mm n (clearM c fun i => L2 i c) L2
/-- What that step leaves, place by place. -/
theorem step_at {n p c : Nat} (hp : p < n) (hc : c < n) (L : Nat → Nat → UInt8) (i j : Nat) (hi : i < n) :
    stepM n p c L i j = if i = c then gm (gi (L p c)) (L p j) else L (swp p c i) j ^^^ gm (L (swp p c i) c) (gm (gi (L p c)) (L p j)) := by
  have hsc : swp p c c = p := by unfold swp; by_cases h : c = p <;> simp [h]
  have e1 : ∀ i j, i < n → mm n (swapM p c) L i j = L (swp p c i) j := fun i j hi => swap_mm hp hc L i j hi
  have e2 : ∀ i j, i < n → mm n (scaleM c (gi (L p c))) (mm n (swapM p c) L) i j = if i = c then gm (gi (L p c)) (L p j) else L (swp p c i) j := fun i j hi => by
    rw [scale_mm c _ _ i j hi, e1 i j hi]
    by_cases h : i = c
    · rw [if_pos h, if_pos h, h, hsc]
    · rw [if_neg h, if_neg h]
  unfold stepM
  simp only [e1 c c hc, hsc]
  rw [clear_mm hc _ _ i j hi, e2 i j hi, e2 c j hc, if_pos rfl]
  by_cases h : i = c
  · simp only [if_pos h]
  · simp only [if_neg h]
    rw [e2 i c hi, if_neg h]
theorem step_un {n p c : Nat} (hp : p < n) (hc : c < n) (hpc : c ≤ p) (L : Nat → Nat → UInt8) (hL : ∀ i j, i < n → j < c → L i j = un i j) (hne : L p c ≠ 0) (i j : Nat) (hi : i < n) (hj : j < c + 1) : stepM n p c L i j = un i j := by
  rw [step_at hp hc L i j hi]
  by_cases hjc : j = c
  · subst hjc
    rw [gm_comm (gi (L p j)), gm_gi hne, gm_one]
    by_cases h : i = j
    · rw [if_pos h]; unfold un; rw [if_pos h]
    · rw [if_neg h, self_add]; unfold un; rw [if_neg h]
  · have hj2 : j < c := by omega
    have hpj : L p j = 0 := by rw [hL p j hp hj2]; unfold un; rw [if_neg (by omega)]
    rw [hpj, gm_zero, gm_zero, add_zero]
    by_cases h : i = c
    · rw [if_pos h]; unfold un; rw [if_neg (by omega)]
    · rw [if_neg h]
      unfold swp
      by_cases hip : i = p
      · rw [if_pos hip, hL c j hc hj2]
        unfold un
        rw [if_neg (by omega), if_neg (by omega)]
      · rw [if_neg hip, if_neg h, hL i j hi hj2]
theorem step_inv {n p c : Nat} (hp : p < n) (hc : c < n) (L : Nat → Nat → UInt8) (hne : L p c ≠ 0) : ∃ P Q, Inv n P Q ∧ (∀ X, ∀ i j, i < n → mm n P X i j = mm n (clearM c fun i => mm n (scaleM c (gi (L p c))) (mm n (swapM p c) L) i c) (mm n (scaleM c (gi (L p c))) (mm n (swapM p c) X)) i j) := by
  refine ⟨mm n (clearM c fun i => mm n (scaleM c (gi (L p c))) (mm n (swapM p c) L) i c) (mm n (scaleM c (gi (L p c))) (swapM p c)), _, (clear_inv hc _).mul ((scale_inv c (gi_ne hne)).mul (swap_inv hp hc)), fun X i j _ => ?_⟩
  rw [mm_assoc]
  exact sm_congr fun l _ => by rw [mm_assoc]
/-- No column without a pivot, or a row that goes to 0. -/
theorem elim (n : Nat) (A : Nat → Nat → UInt8) (c : Nat) (hcn : c ≤ n) :
    (∃ E F, Inv n E F ∧ ∀ i j, i < n → j < c → mm n E A i j = un i j) ∨ ∃ x, Ker n A x := by
  induction c with
  | zero => exact Or.inl ⟨un, un, inv_un n, fun _ _ _ h => by omega⟩
  | succ c ih =>
    rcases ih (by omega) with ⟨E, F, hE, hL⟩ | h
    · have hc : c < n := by omega
      by_cases hex : ∃ p, c ≤ p ∧ p < n ∧ mm n E A p c ≠ 0
      · obtain ⟨p, hpc, hp, hne⟩ := hex
        left
        obtain ⟨P, Q, hPQ, hP⟩ := step_inv hp hc (mm n E A) hne
        refine ⟨mm n P E, mm n F Q, hPQ.mul hE, fun i j hi hj => ?_⟩
        rw [mm_assoc, hP _ i j hi]
        have e := step_un hp hc hpc (mm n E A) hL hne i j hi hj
        unfold stepM at e
        have hsc : mm n (swapM p c) (mm n E A) c c = mm n E A p c := by
          rw [swap_mm hp hc _ c c hc]
          unfold swp
          by_cases h : c = p <;> simp [h]
        simp only [hsc] at e
        exact e
      · right
        have hz : ∀ p, c ≤ p → p < n → mm n E A p c = 0 := fun p h1 h2 => Classical.byContradiction fun h3 => hex ⟨p, h1, h2, h3⟩
        refine ⟨fun j => if j < c then mm n E A j c else if j = c then 1 else 0, ⟨c, hc, by simp⟩, ?_⟩
        have hv : ∀ i, i < n → mv n (mm n E A) (fun j => if j < c then mm n E A j c else if j = c then 1 else 0) i = 0 := fun i hi => by
          have e : mv n (mm n E A) (fun j => if j < c then mm n E A j c else if j = c then 1 else 0) i = sm n (fun k => if k < c then gm (un i k) (mm n E A k c) else 0) ^^^ sm n (fun k => if k = c then mm n E A i c else 0) := by
            unfold mv
            rw [← sm_add]
            refine sm_congr fun k hk => ?_
            show gm (mm n E A i k) (if k < c then mm n E A k c else if k = c then 1 else 0) = _
            by_cases h1 : k < c
            · rw [if_pos h1, if_pos h1, if_neg (by omega), hL i k hi h1, add_zero]
            · rw [if_neg h1, if_neg h1, zero_add]
              by_cases h2 : k = c
              · rw [if_pos h2, if_pos h2, h2, gm_one]
              · rw [if_neg h2, if_neg h2, gm_zero]
          rw [e, sm_one (n := n) (j := c) hc (fun k => if k = c then mm n E A i c else 0) (fun k _ h => if_neg h), if_pos rfl]
          by_cases h1 : i < c
          · rw [sm_one hi, if_pos h1]
            · unfold un; rw [if_pos rfl, one_gm, self_add]
            · intro k _ h
              by_cases h2 : k < c
              · rw [if_pos h2]; unfold un; rw [if_neg (fun e => h e.symm), zero_gm]
              · rw [if_neg h2]
          · rw [hz i (by omega) hi, add_zero]
            refine sm_zero fun k _ => ?_
            by_cases h2 : k < c
            · rw [if_pos h2]; unfold un; rw [if_neg (by omega), zero_gm]
            · rw [if_neg h2]
        intro i hi
        have e1 : mv n A (fun j => if j < c then mm n E A j c else if j = c then 1 else 0) i = mv n (mm n F E) (mv n A (fun j => if j < c then mm n E A j c else if j = c then 1 else 0)) i := by
          rw [mv_congr hE.2 (fun _ _ => rfl) i hi, mv_un n _ i hi]
        rw [e1, mv_mm]
        rw [mv_congr (A := F) (A' := F) (fun _ _ _ _ => rfl) (x' := fun _ => 0) (fun l hl => by rw [← mv_mm]; exact hv l hl) i hi, mv_zero]
    · exact Or.inr h
/-- Undone, or a row goes to 0. -/
theorem undone_or (n : Nat) (A : Nat → Nat → UInt8) : (∃ U, Inv n A U) ∨ ∃ x, Ker n A x := by
  rcases elim n A n (Nat.le_refl _) with ⟨E, F, hE, hL⟩ | h
  · left
    have h1 : Eq2 n (mm n E A) un := hL
    have hF : Eq2 n F A := inv_unique (A := E) hE.2 (Eq2.trans (fun i j hi hj => rfl) h1)
    exact ⟨E, (mm_congr (hF.symm) (fun _ _ _ _ => rfl)).trans hE.2, h1⟩
  · exact Or.inr h
theorem right_inv {n : Nat} {A U : Nat → Nat → UInt8} (h : Eq2 n (mm n A U) un) : Inv n A U := by
  rcases undone_or n U with ⟨E, hE⟩ | ⟨y, hy⟩
  · have hAE : Eq2 n A E := inv_unique h hE.1
    exact ⟨h, (mm_congr (fun _ _ _ _ => rfl) hAE).trans hE.1⟩
  · exact (no_ker h hy).elim
theorem left_inv {n : Nat} {A U : Nat → Nat → UInt8} (h : Eq2 n (mm n U A) un) : Inv n A U := (right_inv h).symm
end Go.Proofs.Ythifdfbdekkmgaa.Gf

/- Plain facts: rows changed, the unit's along with them. Nothing here names the program. -/
namespace Go.Proofs.Ythifdfbdekkmgaa.Gf

/-- A column without a pivot: a row goes to 0. -/
theorem no_pivot (n : Nat) (A E F : Nat → Nat → UInt8) (c : Nat) (hc : c < n) (hE : Inv n E F) (hL : ∀ i j, i < n → j < c → mm n E A i j = un i j) (hz : ∀ p, c ≤ p → p < n → mm n E A p c = 0) : ∃ x, Ker n A x := by
  refine ⟨fun j => if j < c then mm n E A j c else if j = c then 1 else 0, ⟨c, hc, by simp⟩, ?_⟩
  have hv : ∀ i, i < n → mv n (mm n E A) (fun j => if j < c then mm n E A j c else if j = c then 1 else 0) i = 0 := fun i hi => by
    have e : mv n (mm n E A) (fun j => if j < c then mm n E A j c else if j = c then 1 else 0) i = sm n (fun k => if k < c then gm (un i k) (mm n E A k c) else 0) ^^^ sm n (fun k => if k = c then mm n E A i c else 0) := by
      unfold mv
      rw [← sm_add]
      refine sm_congr fun k hk => ?_
      show gm (mm n E A i k) (if k < c then mm n E A k c else if k = c then 1 else 0) = _
      by_cases h1 : k < c
      · rw [if_pos h1, if_pos h1, if_neg (by omega), hL i k hi h1, add_zero]
      · rw [if_neg h1, if_neg h1, zero_add]
        by_cases h2 : k = c
        · rw [if_pos h2, if_pos h2, h2, gm_one]
        · rw [if_neg h2, if_neg h2, gm_zero]
    rw [e, sm_one (n := n) (j := c) hc (fun k => if k = c then mm n E A i c else 0) (fun k _ h => if_neg h), if_pos rfl]
    by_cases h1 : i < c
    · rw [sm_one hi, if_pos h1]
      · unfold un; rw [if_pos rfl, one_gm, self_add]
      · intro k _ h
        by_cases h2 : k < c
        · rw [if_pos h2]; unfold un; rw [if_neg (fun e => h e.symm), zero_gm]
        · rw [if_neg h2]
    · rw [hz i (by omega) hi, add_zero]
      refine sm_zero fun k _ => ?_
      by_cases h2 : k < c
      · rw [if_pos h2]; unfold un; rw [if_neg (by omega), zero_gm]
      · rw [if_neg h2]
  intro i hi
  have e1 : mv n A (fun j => if j < c then mm n E A j c else if j = c then 1 else 0) i = mv n (mm n F E) (mv n A (fun j => if j < c then mm n E A j c else if j = c then 1 else 0)) i := by
    rw [mv_congr hE.2 (fun _ _ => rfl) i hi, mv_un n _ i hi]
  rw [e1, mv_mm]
  rw [mv_congr (A := F) (A' := F) (fun _ _ _ _ => rfl) (x' := fun _ => 0) (fun l hl => by rw [← mv_mm]; exact hv l hl) i hi, mv_zero]
/-- The step over any columns, its numbers taken of L. -/
theorem step_any {n p c : Nat} (hp : p < n) (hc : c < n) (L X : Nat → Nat → UInt8) (s : UInt8) (i j : Nat) (hi : i < n) :
    mm n (clearM c fun i => mm n (scaleM c s) (mm n (swapM p c) L) i c) (mm n (scaleM c s) (mm n (swapM p c) X)) i j = if i = c then gm s (X p j) else X (swp p c i) j ^^^ gm (L (swp p c i) c) (gm s (X p j)) := by
  have hsc : swp p c c = p := by unfold swp; by_cases h : c = p <;> simp [h]
  have e2 : ∀ (X : Nat → Nat → UInt8) i j, i < n → mm n (scaleM c s) (mm n (swapM p c) X) i j = if i = c then gm s (X p j) else X (swp p c i) j := fun X i j hi => by
    rw [scale_mm c _ _ i j hi, swap_mm hp hc X i j hi]
    by_cases h : i = c
    · rw [if_pos h, if_pos h, h, hsc]
    · rw [if_neg h, if_neg h]
  rw [clear_mm hc _ _ i j hi, e2 X i j hi, e2 X c j hc, if_pos rfl]
  by_cases h : i = c
  · simp only [if_pos h]
  · simp only [if_neg h]
    rw [e2 L i c hi, if_neg h]
/-- Where rows stand whose first c columns are the unit's: left what is undone, right what undoes. -/
def Elim (n : Nat) (A : Nat → Nat → UInt8) (c : Nat) (X : Nat → Nat → UInt8) : Prop :=
  ∃ E F, Inv n E F ∧ (∀ i j, i < n → j < n → X i j = mm n E A i j) ∧ (∀ i j, i < n → j < n → X i (n + j) = E i j) ∧ ∀ i j, i < n → j < c → mm n E A i j = un i j
theorem elim_start (n : Nat) (A X : Nat → Nat → UInt8) (h1 : ∀ i j, i < n → j < n → X i j = A i j) (h2 : ∀ i j, i < n → j < n → X i (n + j) = un i j) : Elim n A 0 X :=
  ⟨un, un, inv_un n, fun i j hi hj => by rw [un_mm n A i j hi, h1 i j hi hj], h2, fun _ _ _ h => by omega⟩
theorem elim_congr {n : Nat} {A : Nat → Nat → UInt8} {c : Nat} {X Y : Nat → Nat → UInt8} (h : Elim n A c X) (e : ∀ i j, i < n → j < n + n → Y i j = X i j) : Elim n A c Y := by
  obtain ⟨E, F, h1, h2, h3, h4⟩ := h
  exact ⟨E, F, h1, fun i j hi hj => by rw [e i j hi (by omega), h2 i j hi hj], fun i j hi hj => by rw [e i _ hi (by omega), h3 i j hi hj], h4⟩
theorem elim_step {n : Nat} {A : Nat → Nat → UInt8} {c p : Nat} {X Y : Nat → Nat → UInt8} (h : Elim n A c X) (hcp : c ≤ p) (hp : p < n) (hne : X p c ≠ 0)
    (hY : ∀ i j, i < n → j < n + n → Y i j = if i = c then gm (gi (X p c)) (X p j) else X (swp p c i) j ^^^ gm (X (swp p c i) c) (gm (gi (X p c)) (X p j))) : Elim n A (c + 1) Y := by
  obtain ⟨E, F, hE, h2, h3, h4⟩ := h
  have hc : c < n := by omega
  have hpc : X p c = mm n E A p c := h2 p c hp hc
  have hne2 : mm n E A p c ≠ 0 := by rw [← hpc]; exact hne
  obtain ⟨P, Q, hPQ, hP⟩ := step_inv hp hc (mm n E A) hne2
  have hf : ∀ (Z : Nat → Nat → UInt8) i j, i < n → mm n P Z i j = if i = c then gm (gi (X p c)) (Z p j) else Z (swp p c i) j ^^^ gm (X (swp p c i) c) (gm (gi (X p c)) (Z p j)) := fun Z i j hi => by
    rw [hP Z i j hi, step_any hp hc (mm n E A) Z _ i j hi, hpc, h2 _ c (swp_lt hp hc hi) hc]
  refine ⟨mm n P E, mm n F Q, hPQ.mul hE, fun i j hi hj => ?_, fun i j hi hj => ?_, fun i j hi hj => ?_⟩
  · rw [hY i j hi (by omega), mm_assoc, hf _ i j hi, h2 p j hp hj, h2 _ j (swp_lt hp hc hi) hj]
  · rw [hY i _ hi (by omega), hf _ i j hi, h3 p j hp hj, h3 _ j (swp_lt hp hc hi) hj]
  · rw [mm_assoc, hP _ i j hi]
    have e := step_un hp hc hcp (mm n E A) h4 hne2 i j hi hj
    unfold stepM at e
    have hsc : mm n (swapM p c) (mm n E A) c c = mm n E A p c := by
      rw [swap_mm hp hc _ c c hc]
      unfold swp
      by_cases h : c = p <;> simp [h]
    simp only [hsc] at e
    exact e
theorem elim_end {n : Nat} {A X : Nat → Nat → UInt8} (h : Elim n A n X) : Inv n A (fun i j => X i (n + j)) := by
  obtain ⟨E, F, hE, _, h3, h4⟩ := h
  have h5 : Eq2 n (mm n E A) un := h4
  have h6 : Eq2 n (mm n (fun i j => X i (n + j)) A) un := (mm_congr (fun i j hi hj => h3 i j hi hj) (fun _ _ _ _ => rfl)).trans h5
  exact left_inv h6
theorem elim_none {n : Nat} {A X : Nat → Nat → UInt8} {c : Nat} (h : Elim n A c X) (hc : c < n) (hz : ∀ p, c ≤ p → p < n → X p c = 0) : ¬ ∃ U, Inv n A U := by
  obtain ⟨E, F, hE, h2, _, h4⟩ := h
  obtain ⟨x, hx⟩ := no_pivot n A E F c hc hE h4 (fun p h1 hp => by rw [← h2 p c hp hc]; exact hz p h1 hp)
  rintro ⟨U, hU⟩
  exact no_ker hU.2 hx
end Go.Proofs.Ythifdfbdekkmgaa.Gf

/- What the program's calls on matrices answer: lead. -/
namespace Go.Proofs.Ythifdfbdekkmgaa
open Go.RowKit Gf
set_option linter.unusedVariables false
/-- The rows when one of them has been divided, and taken from the others. -/
def leadX (X : Nat → Nat → UInt8) (c i j : Nat) : UInt8 := if i = c then gm (gi (X c c)) (X c j) else X i j ^^^ gm (X i c) (gm (gi (X c c)) (X c j))
def midX (X : Nat → Nat → UInt8) (c k i : Nat) : Nat → UInt8 := if i < k ∨ i = c then leadX X c i else X i
theorem midX_same (X : Nat → Nat → UInt8) (c i : Nat) : midX X c (c + 1) i = midX X c c i := by
  unfold midX
  by_cases h : i < c ∨ i = c
  · rw [if_pos h, if_pos (by omega)]
  · rw [if_neg h, if_neg (by omega)]
theorem midX_zero (X : Nat → Nat → UInt8) (c k i : Nat) (h : X k c = 0) (hk : k ≠ c) (j : Nat) : midX X c (k + 1) i j = midX X c k i j := by
  unfold midX
  by_cases e : i = k
  · subst e
    rw [if_pos (by omega), if_neg (by omega)]
    unfold leadX
    rw [if_neg hk, h, zero_gm, add_zero]
  · by_cases h : i < k ∨ i = c
    · rw [if_pos h, if_pos (by omega)]
    · rw [if_neg h, if_neg (by omega)]
theorem midX_next (X : Nat → Nat → UInt8) (c k m i : Nat) (s : ByteArray) (hs : s = strOf m (leadX X c k)) : strOf m (midX X c (k + 1) i) = updT (fun i => strOf m (midX X c k i)) k s i := by
  unfold updT
  by_cases e : i = k
  · subst e
    rw [if_pos rfl, hs]
    unfold midX
    rw [if_pos (by omega)]
  · rw [if_neg e]
    unfold midX
    by_cases h : i < k ∨ i = c
    · simp only [if_pos h, if_pos (show i < k + 1 ∨ i = c by omega)]
    · simp only [if_neg h, if_neg (show ¬ (i < k + 1 ∨ i = c) by omega)]
theorem bt_of_data (s : ByteArray) (j : Nat) : bt s j = s.data.toList[j]! := rfl
theorem one_bt (s : ByteArray) (a : Nat) (h : a < s.size) : ((⟨#[1]⟩ : ByteArray) ++ s.extract a (a + 1)).size = 2 ∧ bt (⟨#[1]⟩ ++ s.extract a (a + 1)) 0 = 1 ∧ bt (⟨#[1]⟩ ++ s.extract a (a + 1)) 1 = bt s a := by
  have hd : (((⟨#[1]⟩ : ByteArray) ++ s.extract a (a + 1)).data.toList) = [1, bt s a] := by
    rw [ByteArray.data_append, ByteArray.data_extract, Array.toList_append, Array.toList_extract]
    show 1 :: (s.data.toList.drop a).take (a + 1 - a) = _
    rw [show a + 1 - a = 1 by omega, List.drop_eq_getElem_cons (show a < s.data.toList.length by simpa using h), ← bt_get s a h]
    rfl
  refine ⟨?_, ?_, ?_⟩
  · show (((⟨#[1]⟩ : ByteArray) ++ s.extract a (a + 1)).data).size = 2
    rw [← Array.length_toList, hd]
    rfl
  · rw [bt_of_data, hd]; rfl
  · rw [bt_of_data, hd]; rfl
theorem sum_two (c p q : ByteArray) (m : Nat) (hc : c.size = 2) (h1 : bt c 0 = 1) (hp : p.size = m) (hq : q.size = m) : sumS c [p, q] = strOf m fun j => bt p j ^^^ gm (bt c 1) (bt q j) := by
  unfold sumS sumOk
  have he : evenB [p, q] = true := even_yes _ (fun k hk => by
    match k, hk with
    | 0, _ => rfl
    | 1, _ => show q.size = p.size; omega)
  rw [he, decide_eq_true (by exact hc), if_pos (by rfl), show (nth [p, q] 0).size = m from hp]
  refine strOf_congr _ _ _ (fun j _ => ?_)
  rw [acc_sm]
  show 0 ^^^ gm (bt c 0) (bt p j) ^^^ gm (bt c 1) (bt q j) = _
  rw [h1, one_gm]
  simp
theorem two_strs (W : World) (p q : ByteArray) (t : TypeId) : Strs (W.alloc (.cells #[.string p, .string q] t)) (some ⟨W.heap.size, 0, none⟩) [p, q] := by
  refine .inr ⟨_, 0, rfl, fun i hi => ?_⟩
  rw [Nat.zero_add, World.cell?_alloc_mark]
  match i, hi with
  | 0, _ => rfl
  | 1, _ => rfl
theorem sum_call (W : World) (c p q : ByteArray) (m : Nat) (t : TypeId) (hc : c.size = 2) (h1 : bt c 0 = 1) (hp : p.size = m) (hq : q.size = m) (hm : m ≤ 1000000) :
    Calls Seq.prog 37 #[.string c, .slice (some ⟨W.heap.size, 0, none⟩) 2 2] (W.alloc (.cells #[.string p, .string q] t)).drew fun e w' => ∃ er, e = .returned (.tuple #[.string (sumS c [p, q]), .int .i64 er]) ∧ Kept W w' := by
  have h := sum_any c (some ⟨W.heap.size, 0, none⟩) 2 [p, q] (W.alloc (.cells #[.string p, .string q] t)).drew ((two_strs W p q t).kept ((Kept.refl _).drew)) (show 2 ≤ 100000000 by decide) (fun s hs => by
    simp only [List.mem_cons, List.not_mem_nil, or_false] at hs
    rcases hs with rfl | rfl <;> omega) (by omega)
  rw [show [p, q].length = 2 from rfl] at h
  refine h.mono ?_
  rintro e w' ⟨rfl, hk'⟩
  exact ⟨_, rfl, Kept.trans (((Kept.refl W).alloc _).drew) hk'⟩
set_option maxHeartbeats 1000000 in
set_option maxRecDepth 100000 in
theorem lead_any (G n m cap c : Nat) (X : Nat → Nat → UInt8) (w : World) (hT : Txt G n (fun i => strOf m (X i)) w) (hn : n ≤ 1000000) (hm : m ≤ 1000000) (hc : c < n) (hcm : c < m) (hx : X c c ≠ 0) :
    Calls Seq.prog 101 #[.slice (some ⟨G, 0, none⟩) n cap, .int .i64 (c : Int)] w fun e w' => e = .returned (.tuple #[]) ∧ But G w w' ∧ Txt G n (fun i => strOf m (leadX X c i)) w' := by
  have hp0 := hT.cell c hc
  have hsz : ∀ i, (strOf m (X i)).size = m := fun i => strOf_size _ _
  have hb0 : bt (strOf m (X c)) c = X c c := strOf_bt _ _ _ hcm
  have hq : quo 1 (X c c).toNat = (gi (X c c)).toNat := by rw [quo_one _ (X c c).toNat_lt (fun e => hx (UInt8.toNat_inj.1 e)), gi_nat]
  have htb : timesB (gi (X c c)).toNat (strOf m (X c)) = strOf m (leadX X c c) := by
    unfold timesB
    rw [strOf_size]
    refine strOf_congr _ _ _ (fun j hj => ?_)
    rw [strOf_bt _ _ _ hj, mb_gm]
    unfold leadX
    rw [if_pos rfl]
  have hs0 := hsz c
  have HT := Lib.hid hT
  have hcp : c < (strOf m (X c)).size := by rw [strOf_size]; exact hcm
  have hget := bt_get (strOf m (X c)) c hcp
  rw [hb0] at hget
  rw [← hget] at hq
  have HQ := Lib.hid hq
  rw [← hget] at htb
  have HTB := Lib.hid htb
  clear hT hsz hb0 hq htb hx hget
  generalize hpp : strOf m (X c) = p0 at *
  have HPP := Lib.hid hpp
  clear hpp
  have hy8 := p0[c].toNat_lt
  go_enter Seq.func101, Seq.ntmps101
  go_wp2_with fail
  refine (inv_any p0[c].toNat hy8 _).mono ?_
  rintro e w1 ⟨rfl, k1⟩
  rw [HQ.out]
  have HG8 : Hid ((gi p0[c]).toNat < 256) := (gi p0[c]).toNat_lt
  have hT1 := HT.out.kept k1
  have hp1 := hT1.cell c hc
  rw [HPP.out] at hp1
  have HT1 := Lib.hid hT1
  have HK1 := Lib.hid k1
  have HTB2 := Lib.hid HTB.out
  obtain ⟨y, hy⟩ : ∃ y, gi p0[c] = y := ⟨_, rfl⟩
  rw [hy] at HTB2 HG8 ⊢
  generalize quoE p0[c].toNat = g7 at *
  clear hp0 hT1 k1 HTB HQ hy8
  go_wp2_with fail
  refine (times_any y.toNat p0 HG8.out (by omega) _).mono ?_
  rintro e w2 ⟨rfl, k2⟩
  rw [HTB2.out]
  have hT2 := HT1.out.kept k2
  have hcell : ∃ v, w2.cell? ⟨G, c, none⟩ = some v := ⟨_, hT2.cell c hc⟩
  obtain ⟨v, hcell⟩ := hcell
  have hfree := hT2.free c hc
  have HI0 : Hid (Txt G n (fun i => strOf m (midX X c 0 i)) (w2.setCell ⟨G, c, none⟩ (.string (strOf m (leadX X c c)))) ∧ But G w (w2.setCell ⟨G, c, none⟩ (.string (strOf m (leadX X c c))))) := by
    refine ⟨(hT2.set c hc _).congr (fun i _ => ?_), (((HK1.out.trans k2).but G).setCell _ _)⟩
    unfold updT midX
    by_cases e : i = c
    · rw [if_pos (.inr e), if_pos e, e]
    · rw [if_neg (by omega), if_neg e]
  clear hp1 hT2 k2
  go_upto_region 2 with fail
  generalize w2.setCell ⟨G, c, none⟩ (.string (strOf m (leadX X c c))) = w3 at *
  clear hcell hfree
  go_wp2_with fail
  go_loopw [29, 6, 7] (fun i _ _ wr => ∃ k : Nat, k ≤ n ∧ i = .int .i64 k ∧ Hid (Txt G n (fun i => strOf m (midX X c k i)) wr ∧ But G w wr)) (fun i _ _ _ => n - (intOf i).toNat)
  case atStart => exact ⟨0, Nat.zero_le _, rfl, HI0⟩
  case round =>
    obtain ⟨k, hk, rfl, HI⟩ := hrel
    by_cases hlt : k < n
    · have hck := HI.out.1.cell k hlt
      by_cases hkc : k = c
      · subst hkc
        have HF : Hid (Txt G n (fun i => strOf m (midX X k (k + 1) i)) wr ∧ But G w wr) := ⟨HI.out.1.congr (fun i _ => by rw [midX_same]), HI.out.2⟩
        generalize strOf m (midX X k k k) = p at *
        go_wp2_with fail
        exact ⟨⟨k + 1, by omega, by go_num, HF⟩, by simp [intOf]; omega⟩
      · have hkcb : ((k : Int) != (c : Int)) = true := by simp; omega
        have hmk : midX X c k k = X k := by unfold midX; rw [if_neg (by omega)]
        rw [hmk] at hck
        have hpb : bt (strOf m (X k)) c = X k c := strOf_bt _ _ _ hcm
        have hps : (strOf m (X k)).size = m := strOf_size _ _
        have HKC := Lib.hid hkc
        clear hkc hmk
        by_cases hz : X k c = 0
        · have HF : Hid (Txt G n (fun i => strOf m (midX X c (k + 1) i)) wr ∧ But G w wr) := ⟨HI.out.1.congr (fun i _ => strOf_congr _ _ _ (fun j _ => midX_zero X c k i hz HKC.out j)), HI.out.2⟩
          rw [hz] at hpb
          clear hz
          generalize strOf m (X k) = p at *
          have hcp : c < p.size := by omega
          have hget := bt_get p c hcp
          rw [hpb] at hget
          have hxb : (((p[c].toNat : Nat) : Int) != 0) = false := by rw [hget]; rfl
          clear hpb hget
          go_wp2_with fail
          exact ⟨⟨k + 1, by omega, by go_num, HF⟩, by simp [intOf]; omega⟩
        · have hcc := HI.out.1.cell c hc
          have hmc : strOf m (midX X c k c) = strOf m (leadX X c c) := by unfold midX; rw [if_pos (.inr rfl)]
          rw [hmc] at hcc
          have hqs : (strOf m (leadX X c c)).size = m := strOf_size _ _
          have HQB : Hid (∀ j, j < m → bt (strOf m (leadX X c c)) j = leadX X c c j) := fun j hj => strOf_bt _ _ _ hj
          have HPB : Hid (∀ j, j < m → bt (strOf m (X k)) j = X k j) := fun j hj => strOf_bt _ _ _ hj
          have hne : bt (strOf m (X k)) c ≠ 0 := by rw [hpb]; exact hz
          have HSET := Lib.hid (fun W s (hW : Txt G n (fun i => strOf m (midX X c k i)) W) (hs : s = strOf m (leadX X c k)) => ((hW.set k hlt s).congr (fun i _ => midX_next X c k m i s hs) : Txt G n (fun i => strOf m (midX X c (k + 1) i)) (W.setCell ⟨G, k, none⟩ (.string s))))
          clear hz hmc hpb
          generalize strOf m (leadX X c c) = q at *
          generalize strOf m (X k) = p at *
          have hcp : c < p.size := by omega
          have hget := bt_get p c hcp
          rw [← hget] at hne
          have hxb : (((p[c].toNat : Nat) : Int) != 0) = true := bne_iff_ne.2 (fun e => hne (UInt8.toNat_inj.1 (by simpa using e)))
          obtain ⟨o1, o2, o3⟩ := one_bt p c hcp
          have HSUM : Hid (sumS (⟨#[1]⟩ ++ p.extract c (c + 1)) [p, q] = strOf m (leadX X c k)) := by
            show _ = _
            rw [sum_two _ _ _ m o1 o2 hps hqs, o3]
            refine strOf_congr _ _ _ (fun j hj => ?_)
            rw [HPB.out j hj, HPB.out c hcm, HQB.out j hj]
            unfold leadX
            rw [if_neg HKC.out, if_pos rfl]
          have hsl : ∀ W, (Instr.slice 9 (.string p) (some (.int .i64 (c : Int))) (some (.int .i64 ((c : Int) + 1))) none).run Seq.prog W = .ok (.string (p.extract c (c + 1))) W := fun W => by
            have h := run_slice_string (P := Seq.prog) W 9 p .i64 .i64 (c : Int) ((c : Int) + 1) Seq.underlying9 (by omega) (by omega) (by omega)
            exact h
          have hwr1 : IntKind.i64.wrap ((c : Int) + 1) = (c : Int) + 1 := IntWalk.i64_in _ (by omega)
          generalize hz3 : p.extract c (c + 1) = z3 at *
          clear hz3 o3
          have hz1 : z3.size = 1 := by rw [ByteArray.size_append] at o1; have h1 : (⟨#[1]⟩ : ByteArray).size = 1 := rfl; omega
          have HZ3 := Lib.hid (And.intro o1 o2)
          clear o1 o2 hne hget
          have HCALL : Hid (Calls Seq.prog 37 #[.string (⟨#[1]⟩ ++ z3), .slice (some ⟨wr.heap.size, 0, none⟩) 2 2] (wr.alloc (.cells #[.string p, .string q] 9)).drew fun e w' => ∃ er, e = .returned (.tuple #[.string (strOf m (leadX X c k)), .int .i64 er]) ∧ Kept wr w') := by
            have h := sum_call wr (⟨#[1]⟩ ++ z3) p q m 9 HZ3.out.1 HZ3.out.2 hps hqs hm
            rw [HSUM.out] at h
            exact h
          have HTC := Lib.hid HI.out.1
          have HBC := Lib.hid HI.out.2
          go_upto_region 6 with fail
          go_region_with (go_at_call 37; refine HCALL.out.mono ?_; rintro e w5 ⟨er, rfl, k5⟩; have hT5 := HTC.out.kept k5; obtain ⟨v5, hcell5⟩ : ∃ v, w5.cell? ⟨G, k, none⟩ = some v := ⟨_, hT5.cell k hlt⟩; have hfree5 := hT5.free k hlt)
          all_goals
            have HF : Hid (Txt G n (fun i => strOf m (midX X c (k + 1) i)) (w5.setCell ⟨G, k, none⟩ (.string (strOf m (leadX X c k)))) ∧ But G w (w5.setCell ⟨G, k, none⟩ (.string (strOf m (leadX X c k))))) := ⟨HSET.out w5 _ hT5 rfl, (HBC.out.trans (k5.but G)).setCell _ _⟩
            generalize w5.setCell ⟨G, k, none⟩ (.string (strOf m (leadX X c k))) = w6 at *
            clear hcell5 hfree5 hT5 hsl hwr1 hck hcc
            go_wp2_with fail
            exact ⟨⟨k + 1, by omega, by go_num, HF⟩, by simp [intOf]; omega⟩
    · obtain rfl : k = n := by omega
      have HE : Hid (Txt G k (fun i => strOf m (leadX X c i)) wr ∧ But G w wr) := ⟨HI.out.1.congr (fun i hi => by unfold midX; rw [if_pos (.inl hi)]), HI.out.2⟩
      clear HI
      go_wp2_with fail
      go_end0
      exact ⟨rfl, HE.out.2, HE.out.1⟩
end Go.Proofs.Ythifdfbdekkmgaa

/- What the program's calls on matrices answer: solve. -/
namespace Go.Proofs.Ythifdfbdekkmgaa
open Go.RowKit Gf
set_option linter.unusedVariables false
open Classical in
noncomputable def canB (n : Nat) (A : Nat → Nat → UInt8) : Bool := decide (∃ U, Inv n A U)
theorem canB_yes {n : Nat} {A : Nat → Nat → UInt8} (h : ∃ U, Inv n A U) : canB n A = true := @decide_eq_true _ (Classical.propDecidable _) h
theorem canB_no {n : Nat} {A : Nat → Nat → UInt8} (h : ¬ ∃ U, Inv n A U) : canB n A = false := @decide_eq_false _ (Classical.propDecidable _) h
theorem Txt.swap {G n : Nat} {f : Nat → ByteArray} {w : World} (h : Txt G n f w) (p c : Nat) (hp : p < n) (hc : c < n) : Txt G n (fun i => f (swp p c i)) ((w.setCell ⟨G, c, none⟩ (.string (f p))).setCell ⟨G, p, none⟩ (.string (f c))) := by
  refine ((h.set c hc (f p)).set p hp (f c)).congr (fun i _ => ?_)
  unfold updT swp
  by_cases e : i = p
  · subst e
    rw [if_pos rfl, if_pos rfl]
  · rw [if_neg e, if_neg e]
    by_cases e2 : i = c
    · rw [if_pos e2, if_pos e2]
    · rw [if_neg e2, if_neg e2]
set_option maxHeartbeats 1000000 in
set_option maxRecDepth 100000 in
theorem solve_any (G n m cap : Nat) (A X : Nat → Nat → UInt8) (w : World) (hT : Txt G n (fun i => strOf m (X i)) w) (hn : n ≤ 1000) (hm : m = n + n) (hE : Elim n A 0 X) :
    Calls Seq.prog 89 #[.slice (some ⟨G, 0, none⟩) n cap] w fun e w' => e = .returned (.bool (canB n A)) ∧ But G w w' ∧ (canB n A = true → ∃ Y, Txt G n (fun i => strOf m (Y i)) w' ∧ Elim n A n Y) := by
  have HI0 : Hid (∃ Y, Txt G n (fun i => strOf m (Y i)) w ∧ Elim n A 0 Y ∧ But G w w) := ⟨X, hT, hE, But.refl _ _⟩
  clear hT hE
  go_enter Seq.func89, Seq.ntmps89
  go_wp2_with fail
  go_step3
  go_wp2_with fail
  go_step3
  go_wp2_with fail
  go_loopw [7, 3, 4] (fun c _ _ wr => ∃ k : Nat, k ≤ n ∧ c = .int .i64 k ∧ Hid (∃ Y, Txt G n (fun i => strOf m (Y i)) wr ∧ Elim n A k Y ∧ But G w wr)) (fun c _ _ _ => n - (intOf c).toNat)
  case atStart => exact ⟨0, Nat.zero_le _, rfl, HI0⟩
  case round =>
    obtain ⟨c, hc, rfl, HI⟩ := hrel
    obtain ⟨Y, hY, hEY, hBY⟩ := HI.out
    have HY := Lib.hid hY
    have HEY := Lib.hid hEY
    have HBY := Lib.hid hBY
    clear hY hEY hBY HI
    by_cases hlt : c < n
    · go_wp2_with fail
      go_loop [4] (fun i => ∃ p : Nat, c ≤ p ∧ p ≤ n ∧ i = .int .i64 p ∧ Hid (∀ q, c ≤ q → q < p → Y q c = 0)) (fun i => n - (intOf i).toNat)
      case atStart => exact ⟨c, Nat.le_refl _, hc, rfl, fun q h1 h2 => by omega⟩
      case round =>
        obtain ⟨p, hcp, hpn, rfl, HZ⟩ := hrel
        by_cases hp : p < n
        · have hrp := HY.out.cell p hp
          have hps : (strOf m (Y p)).size = m := strOf_size _ _
          have hpb : bt (strOf m (Y p)) c = Y p c := strOf_bt _ _ _ (by omega)
          by_cases hx0 : Y p c = 0
          · have HZ2 : Hid (∀ q, c ≤ q → q < p + 1 → Y q c = 0) := fun q h1 h2 => by
              by_cases e : q = p
              · subst e; exact hx0
              · exact HZ.out q h1 (by omega)
            rw [hx0] at hpb
            clear hx0
            generalize strOf m (Y p) = s at *
            have hcs : c < s.size := by omega
            have hget := bt_get s c hcs
            rw [hpb] at hget
            have hxb : (((s[c].toNat : Nat) : Int) != 0) = false := by rw [hget]; rfl
            clear hpb hget
            go_wp2_with fail
            exact ⟨⟨p + 1, by omega, by omega, by go_num, HZ2⟩, by simp [intOf]; omega⟩
          · have hne : bt (strOf m (Y p)) c ≠ 0 := by rw [hpb]; exact hx0
            have HX0 := Lib.hid hx0
            have hrc := HY.out.cell c hlt
            have hfp := HY.out.free p hp
            have hfc := HY.out.free c hlt
            have HSW := Lib.hid (HY.out.swap p c hp hlt)
            have hcs2 : (wr.setCell ⟨G, c, none⟩ (.string (strOf m (Y p)))).cell? ⟨G, p, none⟩ = some (.string (strOf m (Y p))) := by
              by_cases e : p = c
              · subst e; rw [World.cell?_setCell_same _ _ _ hrp]
              · rw [World.cell?_setCell_other _ _ _ _ (fun h => e (by injection h with _ e2; exact e2.symm)), hrp]
            have HB2 : Hid (But G w ((wr.setCell ⟨G, c, none⟩ (.string (strOf m (Y p)))).setCell ⟨G, p, none⟩ (.string (strOf m (Y c))))) := (HBY.out.setCell _ _).setCell _ _
            clear hx0 hpb
            generalize strOf m (Y p) = s at *
            generalize strOf m (Y c) = t at *
            have hcs : c < s.size := by omega
            have hget := bt_get s c hcs
            rw [← hget] at hne
            have hxb : (((s[c].toNat : Nat) : Int) != 0) = true := bne_iff_ne.2 (fun e => hne (UInt8.toNat_inj.1 (by simpa using e)))
            clear hne hget
            go_upto_region 8 with fail
            go_region
            generalize (wr.setCell ⟨G, c, none⟩ (.string s)).setCell ⟨G, p, none⟩ (.string t) = w2 at *
            have hscc : swp p c c = p := by unfold swp; by_cases h : c = p <;> simp [h]
            obtain ⟨X1, hX1⟩ : ∃ X1, (fun i => Y (swp p c i)) = X1 := ⟨_, rfl⟩
            have HX1 : Hid (∀ i, X1 i = Y (swp p c i)) := fun i => by rw [← hX1]
            have HSW1 : Hid (Txt G n (fun i => strOf m (X1 i)) w2) := HSW.out.congr (fun i _ => by rw [HX1.out])
            have hne1 : X1 c c ≠ 0 := by rw [HX1.out, hscc]; exact HX0.out
            have HEL : Hid (Elim n A (c + 1) (leadX X1 c)) := elim_step HEY.out hcp hp HX0.out (fun r j hr hj => by unfold leadX; rw [HX1.out, HX1.out, hscc])
            clear hX1 HSW HX1 HX0 hscc hcs2 hrp hrc hfp hfc
            go_wp2_with fail
            refine (lead_any G n m cap c X1 _ (HSW1.out.drewN 1) (by omega) (by omega) hlt (by omega) hne1).mono ?_
            rintro e w3 ⟨rfl, hb3, ht3⟩
            have HF : Hid (∃ Y, Txt G n (fun i => strOf m (Y i)) w3 ∧ Elim n A (c + 1) Y ∧ But G w w3) := ⟨_, ht3, HEL.out, (HB2.out.trans (((Kept.refl _).drewN 1).but G)).trans hb3⟩
            clear ht3 hb3 HEL HSW1 HB2
            go_wp2_with fail
            exact ⟨⟨c + 1, by omega, by go_num, HF⟩, by simp [intOf]; omega⟩
        · obtain rfl : p = n := by omega
          have HN := Lib.hid (canB_no (elim_none HEY.out hlt (fun q h1 h2 => HZ.out q h1 h2)))
          go_wp2_with fail
          (try rw [Exit.noGoto_ret])
          go_ret
          exact ⟨by rw [HN.out]; rfl, HBY.out, fun h => by rw [HN.out] at h; cases h⟩
    · obtain rfl : c = n := by omega
      have HC : Hid (canB c A = true) := by
        show _ = _
        exact canB_yes ⟨_, elim_end HEY.out⟩
      go_wp2_with fail
      (try rw [Exit.noGoto_ret])
      go_ret
      exact ⟨by rw [HC.out]; rfl, HBY.out, fun _ => ⟨Y, HY.out, HEY.out⟩⟩
end Go.Proofs.Ythifdfbdekkmgaa

/- What the program's calls on matrices answer: Undo. -/
namespace Go.Proofs.Ythifdfbdekkmgaa
open Go.RowKit Gf
set_option linter.unusedVariables false
/-- The rows at the beginning: the matrix, and the unit at its right. -/
def augX (ss : List ByteArray) (n i j : Nat) : UInt8 := if j < n then mt ss i j else un i (j - n)
theorem bt_app (p q : ByteArray) (j : Nat) : bt (p ++ q) j = if j < p.size then bt p j else bt q (j - p.size) := by
  unfold bt
  rw [ByteArray.data_append, Array.toList_append]
  rw [show p.size = p.data.toList.length by simp]
  by_cases h : j < p.data.toList.length
  · rw [if_pos h, getElem!_pos (p.data.toList ++ q.data.toList) j (by rw [List.length_append]; omega), getElem!_pos p.data.toList j h, List.getElem_append_left h]
  · rw [if_neg h]
    by_cases h2 : j - p.data.toList.length < q.data.toList.length
    · rw [getElem!_pos (p.data.toList ++ q.data.toList) j (by rw [List.length_append]; omega), getElem!_pos q.data.toList _ h2, List.getElem_append_right (by omega)]
    · rw [getElem!_neg (p.data.toList ++ q.data.toList) j (by rw [List.length_append]; omega), getElem!_neg q.data.toList _ h2]
theorem aug_str (ss : List ByteArray) (n i : Nat) (h : (nth ss i).size = n) : nth ss i ++ strOf n (un i) = strOf (n + n) (augX ss n i) := by
  refine str_ext' _ _ (by rw [ByteArray.size_append, strOf_size, strOf_size, h]) (fun j hj => ?_)
  rw [ByteArray.size_append, strOf_size, h] at hj
  rw [strOf_bt _ _ _ hj, bt_app, h]
  unfold augX
  by_cases h1 : j < n
  · rw [if_pos h1, if_pos h1]; rfl
  · rw [if_neg h1, if_neg h1, strOf_bt _ _ _ (by omega)]
theorem right_str (n : Nat) (Y : Nat → UInt8) : (strOf (n + n) Y).extract n (n + n) = strOf n fun j => Y (n + j) := by
  have hs : ((strOf (n + n) Y).extract n (n + n)).size = n := by rw [ByteArray.size_extract, strOf_size]; omega
  refine str_ext' _ _ (by rw [hs, strOf_size]) (fun j hj => ?_)
  rw [hs] at hj
  rw [strOf_bt _ _ _ hj]
  have h1 : j < ((strOf (n + n) Y).extract n (n + n)).size := by rw [hs]; exact hj
  rw [← bt_get _ _ h1, ByteArray.getElem_extract, bt_get _ _ (by rw [strOf_size]; omega), strOf_bt _ _ _ (by omega)]
theorem can_is (ss : List ByteArray) (n : Nat) (h : ss.length = n) : canB n (mt ss) = true ↔ CanUndo ss := by
  subst h
  unfold canB CanUndo
  simp
set_option maxHeartbeats 1000000 in
set_option maxRecDepth 100000 in
theorem pUndo_any (a : Option Addr) (ca : Nat) (ss : List ByteArray) (w : World) (hS : Strs w a ss) (hm : ss.length ≤ maxLen) (hz1 : ∀ s ∈ ss, s.size ≤ maxLen) :
    Calls Seq.prog 53 #[.slice a ss.length ca] w fun e w' => GotM (undoL ss) (undoE ss) w e w' := by
  obtain ⟨b1, o1, hc1⟩ := strs_at hS
  have HS := Lib.hid hS
  have HM1 := Lib.hid hm
  have HZ1 := Lib.hid hz1
  have H1 := Lib.hid hc1
  clear hS hm hz1 hc1
  go_enter Seq.func53, Seq.ntmps53
  go_wp2_with fail
  refine (pMay_any a ca ss _ HS.out HM1.out HZ1.out).mono ?_
  rintro e w1 ⟨rfl, k1⟩
  cases hma : mayB ss
  · have HE : Hid (undoE ss = 8 ∧ undoL ss = []) := undo_form ss (by rw [hma]; simp)
    clear hma
    go_wp2_with fail
    go_ret2
    rw [HE.out.1, HE.out.2]
    exact GotM.nil 8 k1
  · obtain ⟨a1, a2, a3, a4, _⟩ := may_yes ss hma
    obtain ⟨ha, hc1⟩ := H1.out (by omega)
    have HC1 : Hid (∀ W, Kept w W → ∀ i, i < ss.length → W.cell? ⟨b1, o1 + i, none⟩ = some (.string (nth ss i))) := fun W hW i hi => by rw [Below.cell hW (block_lt_of_cell (hc1 i hi)), hc1 i hi]
    have HMA := Lib.hid (may_size ss hma)
    have hc0 := HC1.out w1 k1 0 (by omega)
    rw [Nat.add_zero] at hc0
    rw [ha]
    clear hc1 ha H1 HM1 HZ1 HS
    by_cases hs : (nth ss 0).size = ss.length
    · have hsb : ((ss.length : Int) != ((nth ss 0).size : Int)) = false := by simp [hs]
      have HU := Lib.hid (undo_is ss hma hs)
      have HUN := Lib.hid (undo_not ss hma hs)
      have HCI := Lib.hid (can_is ss ss.length rfl)
      rw [hs] at HMA
      have HAUG : Hid (∀ i, i < ss.length → nth ss i ++ strOf ss.length (un i) = strOf (ss.length + ss.length) (augX ss ss.length i)) := fun i hi => aug_str ss ss.length i (HMA.out i hi)
      have HE0 : Hid (∀ n, n = ss.length → Elim n (mt ss) 0 (augX ss n)) := fun n hn => elim_start n (mt ss) _ (fun i j hi hj => by unfold augX; rw [if_pos hj]) (fun i j hi hj => by unfold augX; rw [if_neg (by omega), Nat.add_sub_cancel_left])
      clear hma
      generalize nth ss 0 = p0 at *
      generalize hn : ss.length = n at *
      have HNN := Lib.hid hn
      have HE1 := Lib.hid (HE0.out n rfl)
      clear hn HE0
      have hun := fun W => pUnit_txt (n : Int) W (by omega) (by omega)
      have HUNIT := Lib.hid hun
      clear hun
      go_wp2_with fail
      refine (HUNIT.out _).mono ?_
      rintro e w2 (⟨hno, rfl, k2⟩ | ⟨G, hyes, rfl, hG, hT2, k2⟩)
      · exact absurd (show 1 ≤ (n : Int) ∧ (n : Int) ≤ 64 by omega) hno
      rw [show ((n : Int)).toNat = n from rfl] at *
      have HGW : Hid (w.heap.size ≤ G) := Nat.le_trans k1.size hG
      have HK2 := Lib.hid (k1.trans k2)
      have HT2 := Lib.hid hT2
      clear hc0 hsb hs a3 a4 k1 k2 hG hT2 hyes
      go_wp2_with fail
      go_loopw [25, 5] (fun i _ wr => ∃ k : Nat, k ≤ n ∧ i = .int .i64 k ∧ Hid (Txt G n (fun i => if i < k then strOf (n + n) (augX ss n i) else strOf n (un i)) wr ∧ Kept w wr)) (fun i _ _ => n - (intOf i).toNat)
      case atStart => exact ⟨0, Nat.zero_le _, rfl, HT2.out.congr (fun i hi => by unfold fillT; rw [if_neg (by omega), if_pos hi]), HK2.out⟩
      case round =>
        obtain ⟨k, hk, rfl, HI⟩ := hrel
        by_cases hlt : k < n
        · have hck := HC1.out wr HI.out.2 k hlt
          have hrk := HI.out.1.cell k hlt
          have hfk := HI.out.1.free k hlt
          rw [if_neg (by omega)] at hrk
          have hps := HMA.out k hlt
          have hqs : (strOf n (un k)).size = n := strOf_size _ _
          have HF : Hid (Txt G n (fun i => if i < k + 1 then strOf (n + n) (augX ss n i) else strOf n (un i)) (wr.setCell ⟨G, k, none⟩ (.string (nth ss k ++ strOf n (un k)))) ∧ Kept w (wr.setCell ⟨G, k, none⟩ (.string (nth ss k ++ strOf n (un k))))) := by
            refine ⟨(HI.out.1.set k hlt _).congr (fun i _ => ?_), HI.out.2.setCell HGW.out _⟩
            unfold updT
            by_cases e : i = k
            · subst e; rw [if_pos (by omega), if_pos rfl, HAUG.out i hlt]
            · rw [if_neg e]
              by_cases h : i < k
              · simp only [if_pos h, if_pos (show i < k + 1 by omega)]
              · simp only [if_neg h, if_neg (show ¬ i < k + 1 by omega)]
          generalize strOf n (un k) = q at *
          generalize nth ss k = p at *
          go_upto_region 9 with fail
          go_region
          all_goals
            have HF2 : Hid (Txt G n (fun i => if i < k + 1 then strOf (n + n) (augX ss n i) else strOf n (un i)) (wr.setCell ⟨G, k, none⟩ (.string (p ++ q))).drew ∧ Kept w (wr.setCell ⟨G, k, none⟩ (.string (p ++ q))).drew) := ⟨HF.out.1.drewN 1, HF.out.2.drew⟩
            generalize wr.setCell ⟨G, k, none⟩ (.string (p ++ q)) = w5 at *
            clear hck hrk hfk HF
            go_wp2_with fail
            exact ⟨⟨k + 1, by omega, by go_num, HF2⟩, by simp [intOf]; omega⟩
        · obtain rfl : k = n := by omega
          have HTA : Hid (Txt G k (fun i => strOf (k + k) (augX ss k i)) wr) := HI.out.1.congr (fun i hi => by rw [if_pos hi])
          have HKA := Lib.hid HI.out.2
          have hk1000 : k ≤ 1000 := by omega
          clear HI HT2 HK2 HAUG
          go_wp2_with fail
          refine (solve_any G k (k + k) k (mt ss) (augX ss k) _ HTA.out hk1000 rfl HE1.out).mono ?_
          rintro e w6 ⟨rfl, hb6, hy6⟩
          have HB6 : Hid (Kept w w6) := But.kept HKA.out HGW.out hb6
          cases hcb : canB k (mt ss)
          · have HN := Lib.hid (HUN.out (fun h => by rw [← HCI.out, hcb] at h; cases h))
            clear hcb hy6 hb6
            go_wp2_with fail
            go_ret2
            rw [HN.out.1, HN.out.2]
            exact GotM.nil 51 HB6.out
          · obtain ⟨Y, hY, hEY⟩ := hy6 hcb
            have HY := Lib.hid hY
            have HUU := Lib.hid (HU.out _ (elim_end hEY))
            clear hcb hy6 hb6 hY hEY
            go_wp2_with fail
            go_loopw [46, 6, 7] (fun i _ _ wr => ∃ q : Nat, q ≤ k ∧ i = .int .i64 q ∧ Hid (Txt G k (fun i => if i < q then strOf k (fun j => Y i (k + j)) else strOf (k + k) (Y i)) wr ∧ Kept w wr)) (fun i _ _ _ => k - (intOf i).toNat)
            case atStart => exact ⟨0, Nat.zero_le _, rfl, HY.out.congr (fun i _ => by rw [if_neg (by omega)]), HB6.out⟩
            case round =>
              obtain ⟨q, hq, rfl, HJ⟩ := hrel
              by_cases hlq : q < k
              · have hrq := HJ.out.1.cell q hlq
                have hfq := HJ.out.1.free q hlq
                rw [if_neg (by omega)] at hrq
                have hps : (strOf (k + k) (Y q)).size = k + k := strOf_size _ _
                have hext := right_str k (Y q)
                have hsl : ∀ W, (Instr.slice 9 (.string (strOf (k + k) (Y q))) (some (.int .i64 (k : Int))) none none).run Seq.prog W = .ok (.string (strOf k fun j => Y q (k + j))) W := fun W => by
                  have h := run_slice_string_l (P := Seq.prog) W 9 (strOf (k + k) (Y q)) Seq.underlying9 .i64 (k : Int) (by omega) (by omega)
                  rw [hps, show ((k : Int)).toNat = k from rfl, hext] at h
                  exact h
                have HF : Hid (Txt G k (fun i => if i < q + 1 then strOf k (fun j => Y i (k + j)) else strOf (k + k) (Y i)) (wr.setCell ⟨G, q, none⟩ (.string (strOf k fun j => Y q (k + j)))) ∧ Kept w (wr.setCell ⟨G, q, none⟩ (.string (strOf k fun j => Y q (k + j))))) := by
                  refine ⟨(HJ.out.1.set q hlq _).congr (fun i _ => ?_), HJ.out.2.setCell HGW.out _⟩
                  unfold updT
                  by_cases e : i = q
                  · subst e; rw [if_pos (by omega), if_pos rfl]
                  · rw [if_neg e]
                    by_cases h : i < q
                    · simp only [if_pos h, if_pos (show i < q + 1 by omega)]
                    · simp only [if_neg h, if_neg (show ¬ i < q + 1 by omega)]
                clear hext
                generalize (strOf k fun j => Y q (k + j)) = z at *
                generalize strOf (k + k) (Y q) = p at *
                go_wp2_with fail
                exact ⟨⟨q + 1, by omega, by go_num, HF⟩, by simp [intOf]; omega⟩
              · obtain rfl : q = k := by omega
                have HT9 : Hid (Txt G q (fun i => strOf q (fun j => Y i (q + j))) wr) := HJ.out.1.congr (fun i hi => by rw [if_pos hi])
                have HK9 := Lib.hid HJ.out.2
                clear HJ HTA HY
                go_wp2_with fail
                refine (copies_any G q q _ _ HT9.out (by omega) (fun i _ => by rw [strOf_size]; omega)).mono ?_
                rintro e w9 ⟨rfl, hb9, ht9⟩
                have HF : Hid (Txt G q (fillT (fun i => strOf q (fun j => Y i (q + j))) q) w9 ∧ Kept w w9) := ⟨ht9.congr (fun i hi => by unfold fillT; rw [if_pos hi]), But.kept HK9.out HGW.out hb9⟩
                clear hb9 ht9
                go_wp2_with fail
                go_ret2
                rw [HUU.out.1, HUU.out.2]
                exact HF.out.1.gotM HF.out.2
    · have HE : Hid (undoE ss = 50 ∧ undoL ss = []) := undo_side ss hma hs
      have hsb : ((ss.length : Int) != ((nth ss 0).size : Int)) = true := by simp; omega
      clear hma
      generalize nth ss 0 = p0 at *
      go_wp2_with fail
      go_ret2
      rw [HE.out.1, HE.out.2]
      exact GotM.nil 50 k1
end Go.Proofs.Ythifdfbdekkmgaa

/- Two addresses in different blocks. -/
namespace Go.Proofs.Ythifdfbdekkmgaa
open Go.RowKit Gf
set_option linter.unusedVariables false
theorem equal_uptrS (p q : Addr) (w : World) : (Op.equal 100 (.pointer (some p)) (.pointer (some q))).run Seq.prog w = (sameAddr p q).run Seq.prog w := by
  unfold Op.equal
  rw [show Op.maxDepth = 9999 + 1 from rfl]
  unfold Op.equalIn
  simp only [Sem.run_bind, run_underlying (P := Seq.prog) Seq.underlying100, Result.andThen, samePointer]
theorem run_noViewS {w : World} {p : Addr} {v : Value} (h : w.cell? p = some v) : (noView p).run Seq.prog w = .ok () w := by
  have hs : ∃ e n, w.shape? p.block = some (e, n) := by
    unfold World.cell? at h
    unfold World.shape?
    split at h
    · rename_i c e fr hb
      exact ⟨e, c.size, rfl⟩
    · cases h
  obtain ⟨e, n, hs⟩ := hs
  simp [noView, viewAt, shape, Sem.run, hs, Sem.bind, bind, pure]
theorem eql_new {w : World} {p : Addr} {q : Nat} {v : Value} {t : TypeId} (hp : w.cell? p = some v) (hq : w.heap[q]? = some (.cells #[.string ByteArray.empty] t (0, 0))) (hne : p.block ≠ q) :
    (binOp .eql 100 (.pointer (some p)) (.pointer (some ⟨q, 0, none⟩))).run Seq.prog w = .ok (.bool false) w := by
  have hqc : w.cell? ⟨q, 0, none⟩ = some (.string ByteArray.empty) := by simp [World.cell?, hq]
  have hqf : w.frozen? ⟨q, 0, none⟩ = false := by simp [World.frozen?, hq]
  have hqf1 : w.frozen? ⟨q, 1, none⟩ = false := by simp [World.frozen?, hq]
  have hqs : w.shape? q = some (t, 1) := by simp [World.shape?, hq]
  obtain ⟨e, m, hs⟩ : ∃ e m, w.shape? p.block = some (e, m + 1) := by
    unfold World.cell? at hp
    unfold World.shape?
    split at hp
    · rename_i c e fr hb
      have : 0 < c.size := by
        split at hp
        · cases hp
        · have := (Array.getElem?_eq_some_iff.1 hp).1; omega
      exact ⟨e, c.size - 1, by rw [Nat.sub_add_cancel this]⟩
    · cases hp
  show (do Pure.pure (Value.bool (← Op.equal _ _ _)) : Sem Value).run Seq.prog w = _
  rw [Sem.run_bind, equal_uptrS]
  have hb : (p.block == q) = false := by simp [hne]
  have hsame : (sameAddr p ⟨q, 0, none⟩).run Seq.prog w = .ok false w := by
    have h1 := run_noViewS hp
    have h2 := run_noViewS hqc
    have h3 : (stringish ⟨q, 0, none⟩).run Seq.prog w = .ok false w := by
      simp [stringish, Result.andThen, hqf, hqs, hqf1]
    have h4 : ∃ b, (stringish p).run Seq.prog w = .ok b w := by
      by_cases hf : w.frozen? p = true
      · exact ⟨true, by simp [stringish, Result.andThen, hf]⟩
      · exact ⟨_, by simp [stringish, Result.andThen, hf, hs]; rfl⟩
    obtain ⟨b, h4⟩ := h4
    have h5 : (mayBeOne p ⟨q, 0, none⟩).run Seq.prog w = .ok false w := by
      unfold mayBeOne
      simp only [Sem.run_bind, h3, h4, Result.andThen, run_shape, hqs, hs]
      cases b <;> rfl
    unfold sameAddr
    simp only [hb, Bool.false_eq_true, if_false]
    simp only [Sem.run_bind, run_frozen, Result.andThen, hqf, Bool.and_false, Bool.false_eq_true, if_false, h1, h2, h5]
    rfl
  rw [hsame]
  rfl
end Go.Proofs.Ythifdfbdekkmgaa

/- The sums, in one goroutine. -/
namespace Go.Proofs.Ythifdfbdekkmgaa
open Go.RowKit Gf
set_option linter.unusedVariables false
theorem cellk {w w' : World} {b o : Nat} {v : Value} (h : w.cell? ⟨b, o, none⟩ = some v) (k : Kept w w') : w'.cell? ⟨b, o, none⟩ = some v := by
  rw [Below.cell k (p := ⟨b, o, none⟩) (block_lt_of_cell h)]; exact h
theorem stub_ntmps : Seq.stub.ntmps = 20 := rfl
theorem make_strs (n : Nat) (hn : n ≤ 1000000) (W : World) : (Instr.makeSlice 23 (.int .i64 (n : Int)) (.int .i64 (n : Int))).run Seq.prog W = .ok (.slice (some ⟨W.heap.size, 0, none⟩) n n) (W.alloc (.cells (row n fun _ => .string ByteArray.empty) 9)) := by
  have hmk := run_make_row' (P := Seq.prog) 23 9 (.string ByteArray.empty) 16 Seq.underlying23 info_string rfl .i64 .i64 n (by omega) (by omega) W
  rw [made_none] at hmk
  exact hmk
/-- The sums of the texts by each row. -/
def sumsL (rows texts : List ByteArray) : List ByteArray := rows.map fun c => sumS c texts
/-- A block of n texts told by a function, whole: made by the call itself. -/
def Big (G n : Nat) (f : Nat → ByteArray) (w : World) : Prop := ∃ cs, w.heap[G]? = some (.cells cs 9 (0, 0)) ∧ cs.size = n ∧ ∀ j, j < n → cs[j]? = some (.string (f j))
theorem Big.lt {G n : Nat} {f : Nat → ByteArray} {w : World} (h : Big G n f w) : G < w.heap.size := by
  obtain ⟨cs, h1, _⟩ := h
  exact (Array.getElem?_eq_some_iff.1 h1).1
theorem Big.txt {G n : Nat} {f : Nat → ByteArray} {w : World} (h : Big G n f w) : Txt G n f w := by
  obtain ⟨cs, h1, h2, h3⟩ := h
  exact ⟨fun j hj => by simp [World.cell?, h1, h3 j hj], fun j hj => by simp [World.frozen?, h1]⟩
theorem Big.kept {G n : Nat} {f : Nat → ByteArray} {w w' : World} (h : Big G n f w) (k : Kept w w') : Big G n f w' := by
  obtain ⟨cs, h1, h2, h3⟩ := h
  exact ⟨cs, (k.block G (Array.getElem?_eq_some_iff.1 h1).1).trans h1, h2, h3⟩
theorem Big.congr {G n : Nat} {f g : Nat → ByteArray} {w : World} (h : Big G n f w) (e : ∀ j, j < n → g j = f j) : Big G n g w := by
  obtain ⟨cs, h1, h2, h3⟩ := h
  exact ⟨cs, h1, h2, fun j hj => by rw [h3 j hj, e j hj]⟩
theorem Big.made (w : World) (n : Nat) : Big w.heap.size n (fun _ => ByteArray.empty) (w.alloc (.cells (row n fun _ => .string ByteArray.empty) 9)) := by
  refine ⟨_, ?_, ?_, fun j hj => row_get n _ j hj⟩
  · show (w.heap.push _)[w.heap.size]? = _
    rw [Array.getElem?_push, if_pos rfl]
  · unfold row; rw [Array.size_ofFn]
theorem Big.set {G n : Nat} {f : Nat → ByteArray} {w : World} (h : Big G n f w) (k : Nat) (hk : k < n) (v : ByteArray) : Big G n (updT f k v) (w.setCell ⟨G, k, none⟩ (.string v)) := by
  obtain ⟨cs, h1, h2, h3⟩ := h
  refine ⟨cs.setIfInBounds k (.string v), ?_, by simp [h2], fun j hj => ?_⟩
  · have hlt : G < w.heap.size := (Array.getElem?_eq_some_iff.1 h1).1
    have hv := (Array.getElem?_eq_some_iff.1 h1).2
    show (w.heap.modify G _)[G]? = _
    rw [Array.getElem?_modify, if_pos rfl, h1]
    rfl
  · unfold updT
    rw [Array.getElem?_setIfInBounds]
    by_cases e : k = j
    · subst e; rw [if_pos rfl, if_pos (by omega), if_pos rfl]
    · rw [if_neg e, if_neg (fun h => e h.symm), h3 j hj]
theorem Big.exact {G n : Nat} {f : Nat → ByteArray} {w : World} (h : Big G n f w) : w.heap[G]? = some (.cells (Array.ofFn (n := n) fun j => .string (f j.val)) 9 (0, 0)) := by
  obtain ⟨cs, h1, h2, h3⟩ := h
  rw [h1]
  congr 2
  apply Array.ext
  · simp [h2]
  · intro i i1 i2
    have := h3 i (by omega)
    rw [Array.getElem?_eq_getElem i1] at this
    rw [Option.some.inj this, Array.getElem_ofFn]
set_option maxHeartbeats 4000000 in
set_option maxRecDepth 100000 in
theorem sums_big (a b : Option Addr) (ca cb : Nat) (rows texts : List ByteArray) (w : World) (hR : Strs w a rows) (hT : Strs w b texts) (hr : rows.length ≤ 64) (ht : texts.length ≤ 64) (hz : ∀ s ∈ texts, s.size ≤ 100000000) (hcs : ∀ s ∈ rows, s.size ≤ 100000000) :
    Calls Seq.prog 22 #[.slice a rows.length ca, .slice b texts.length cb] w fun e w' => ∃ G, e = .returned (.slice (some ⟨G, 0, none⟩) rows.length rows.length) ∧ Big G rows.length (nth (sumsL rows texts)) w' ∧ Kept w w' ∧ w.heap.size ≤ G := by
  obtain ⟨b1, o1, hc1⟩ := strs_at hR
  obtain ⟨b2, o2, hc2⟩ := strs_at hT
  have HC1 := Lib.hid hc1
  have HC2 := Lib.hid hc2
  have HR := Lib.hid hR
  have HT := Lib.hid hT
  have HZ := Lib.hid hz
  have HCS := Lib.hid hcs
  clear hc1 hc2 hR hT hz hcs
  go_enter Seq.func22, stub_ntmps
  unfold Seq.code Seq.sums Seq.test
  obtain ⟨n, hn⟩ : ∃ n, n = rows.length := ⟨_, rfl⟩
  obtain ⟨m, hm⟩ : ∃ m, m = texts.length := ⟨_, rfl⟩
  rw [← hn] at hr ⊢
  rw [← hm] at ht ⊢
  have HN := Lib.hid hn
  have HM := Lib.hid hm
  clear hn hm
  have hn64 : ¬ ((64 : Int) < (n : Int)) := by omega
  have hm64 : ¬ ((64 : Int) < (m : Int)) := by omega
  go_wp2_with fail
  obtain ⟨QB, hQB⟩ : ∃ QB, w.heap.size = QB := ⟨_, rfl⟩
  have HQB := Lib.hid hQB
  rw [hQB]
  have HQ : Hid ((w.alloc (.cells #[.string ⟨#[]⟩] 9)).heap[QB]? = some (.cells #[.string ByteArray.empty] 9 (0, 0))) := by
    show (w.heap.push _)[QB]? = _
    rw [← hQB, Array.getElem?_push, if_pos rfl]
    rfl
  have HK00 : Hid (Kept w (w.alloc (.cells #[.string ⟨#[]⟩] 9))) := (Kept.refl _).alloc _
  generalize w.alloc (.cells #[.string ⟨#[]⟩] 9) = w0 at *
  clear hQB
  go_loopw [9] (fun i wr => ∃ k : Nat, k ≤ n ∧ i = .int .i64 k ∧ Hid (wr = w0)) (fun i _ => n - (intOf i).toNat)
  case atStart => exact ⟨0, Nat.zero_le _, rfl, rfl⟩
  case round =>
    obtain ⟨k, hk, rfl, HI⟩ := hrel
    have hwr := HI.out
    subst hwr
    by_cases hlt : k < n
    · have hkr : k < rows.length := by rw [← HN.out]; exact hlt
      obtain ⟨ha, hcell⟩ := HC1.out (by omega)
      subst ha
      have hc := cellk (hcell k hkr) HK00.out
      have hb1 : b1 ≠ QB := by
        have := block_lt_of_cell (hcell k hkr)
        have hq := HQB.out
        simp only at this
        omega
      have heql := eql_new hc HQ.out hb1
      have hsz : (nth rows k).size ≤ 100000000 := HCS.out _ (by rw [← nth_get rows k hkr]; exact List.getElem_mem hkr)
      have hszi : ¬ ((100000000 : Int) < ((nth rows k).size : Int)) := by omega
      clear hcell
      generalize nth rows k = p at *
      go_wp2_with fail
      exact ⟨⟨k + 1, by omega, by go_num, trivial⟩, by simp [intOf]; omega⟩
    · obtain rfl : k = n := by omega
      go_wp2_with fail
      clear hlt hk
      go_loopw [9] (fun i wr2 => ∃ k2 : Nat, k2 ≤ m ∧ i = .int .i64 k2 ∧ Hid (wr2 = wr)) (fun i _ => m - (intOf i).toNat)
      case atStart => exact ⟨0, Nat.zero_le _, rfl, rfl⟩
      case round =>
        obtain ⟨k2, hk2, rfl, HI2⟩ := hrel
        have hwr := HI2.out
        subst hwr
        by_cases hlt : k2 < m
        · have hkr : k2 < texts.length := by rw [← HM.out]; exact hlt
          obtain ⟨ha, hcell⟩ := HC2.out (by omega)
          subst ha
          have hc := cellk (hcell k2 hkr) HK00.out
          have hb1 : b2 ≠ QB := by
            have := block_lt_of_cell (hcell k2 hkr)
            have hq := HQB.out
            simp only at this
            omega
          have heql := eql_new hc HQ.out hb1
          have hsz : (nth texts k2).size ≤ 100000000 := HZ.out _ (by rw [← nth_get texts k2 hkr]; exact List.getElem_mem hkr)
          have hszi : ¬ ((100000000 : Int) < ((nth texts k2).size : Int)) := by omega
          clear hcell
          generalize nth texts k2 = p at *
          go_wp2_with fail
          exact ⟨⟨k2 + 1, by omega, by go_num, trivial⟩, by simp [intOf]; omega⟩
        · obtain rfl : k2 = m := by omega
          have HMK := Lib.hid (fun W => make_strs k (by omega) W)
          have hmk := HMK.out
          clear hlt hk2
          have HT0 := Lib.hid (Big.made wr k)
          have HK0 : Hid (Kept w (wr.alloc (.cells (row k fun _ => .string ByteArray.empty) 9))) := HK00.out.alloc _
          have HWS : Hid (w.heap.size ≤ wr.heap.size) := HK00.out.size
          generalize (row k fun _ => Value.string ByteArray.empty) = R0 at *
          go_wp2_with fail
          obtain ⟨G, hG⟩ : ∃ G, wr.heap.size = G := ⟨_, rfl⟩
          have HG : Hid (w.heap.size ≤ G) := by rw [← hG]; exact HWS.out
          rw [hG] at HT0 ⊢
          clear HQ
          generalize wr.alloc (.cells R0 9) = w0 at *
          clear hG hmk
          go_loopw [9] (fun i wr => ∃ k1 : Nat, k1 ≤ k ∧ i = .int .i64 k1 ∧ Hid (Big G k (fillT (fun i => sumS (nth rows i) texts) k1) wr ∧ Kept w wr)) (fun i _ => k - (intOf i).toNat)
          case atStart => exact ⟨0, Nat.zero_le _, rfl, HT0.out.congr (fun j hj => by unfold fillT; rw [if_neg (by omega)]), HK0.out⟩
          case round =>
            obtain ⟨k1, hk1, rfl, HI⟩ := hrel
            by_cases hlt : k1 < k
            · have hkr : k1 < rows.length := by rw [← HN.out]; exact hlt
              obtain ⟨ha, hcell⟩ := HC1.out (by omega)
              subst ha
              have hc := cellk (hcell k1 hkr) HI.out.2
              have hsz : (nth rows k1).size ≤ 100000000 := HCS.out _ (by rw [← nth_get rows k1 hkr]; exact List.getElem_mem hkr)
              have hcall := fun W hW => sum_any (nth rows k1) b cb texts W hW (by rw [← HM.out]; omega) HZ.out hsz
              rw [← HM.out] at hcall
              have HCALL := Lib.hid hcall
              have HNX := Lib.hid (fillT_next (fun i => sumS (nth rows i) texts) k1)
              clear hcell hcall hsz
              generalize hrk : nth rows k1 = p at *
              have HP := Lib.hid hrk
              clear hrk
              go_wp2_with fail
              refine (HCALL.out _ (HT.out.kept HI.out.2)).mono ?_
              rintro e w2 ⟨rfl, hk2⟩
              have HY := Lib.hid (HI.out.1.kept hk2)
              have HK2 : Hid (Kept w w2) := HI.out.2.trans hk2
              have hcg := HY.out.txt.cell k1 hlt
              have hfg := HY.out.txt.free k1 hlt
              have HSET := Lib.hid (HY.out.set k1 hlt (sumS p texts))
              have HKS : Hid (Kept w (w2.setCell ⟨G, k1, none⟩ (.string (sumS p texts)))) := HK2.out.setCell HG.out _
              generalize sumS p texts = Y at *
              generalize sumE p texts = E at *
              clear hk2 HCALL
              go_wp2_with fail
              exact ⟨⟨k1 + 1, by omega, by go_num, HSET.out.congr (fun j _ => HNX.out j), HKS.out⟩, by simp [intOf]; omega⟩
            · obtain rfl : k1 = k := by omega
              go_wp2_with fail
              go_ret
              refine ⟨G, rfl, HI.out.1.congr (fun i hi => ?_), HI.out.2, HG.out⟩
              have hi2 : i < rows.length := by rw [← HN.out]; exact hi
              unfold fillT sumsL
              rw [if_pos hi, ← nth_get _ i (by rw [List.length_map]; exact hi2), List.getElem_map, nth_get rows i hi2]
theorem sums_new (a b : Option Addr) (ca cb : Nat) (rows texts : List ByteArray) (w : World) (hR : Strs w a rows) (hT : Strs w b texts) (hr : rows.length ≤ 64) (ht : texts.length ≤ 64) (hz : ∀ s ∈ texts, s.size ≤ 100000000) (hcs : ∀ s ∈ rows, s.size ≤ 100000000) :
    Calls Seq.prog 22 #[.slice a rows.length ca, .slice b texts.length cb] w fun e w' => ∃ G, e = .returned (.slice (some ⟨G, 0, none⟩) rows.length rows.length) ∧ Txt G rows.length (nth (sumsL rows texts)) w' ∧ Kept w w' ∧ w.heap.size ≤ G := by
  refine (sums_big a b ca cb rows texts w hR hT hr ht hz hcs).mono ?_
  rintro e w' ⟨G, h0, h1, h2⟩
  exact ⟨G, h0, h1.txt, h2⟩
theorem sums_txt (a b : Option Addr) (ca cb : Nat) (rows texts : List ByteArray) (w : World) (hR : Strs w a rows) (hT : Strs w b texts) (hr : rows.length ≤ 64) (ht : texts.length ≤ 64) (hz : ∀ s ∈ texts, s.size ≤ 100000000) (hcs : ∀ s ∈ rows, s.size ≤ 100000000) :
    Calls Seq.prog 22 #[.slice a rows.length ca, .slice b texts.length cb] w fun e w' => ∃ G, e = .returned (.slice (some ⟨G, 0, none⟩) rows.length rows.length) ∧ Txt G rows.length (nth (sumsL rows texts)) w' ∧ Kept w w' := by
  refine (sums_new a b ca cb rows texts w hR hT hr ht hz hcs).mono ?_
  rintro e w' ⟨G, h0, h1, h2, _⟩
  exact ⟨G, h0, h1, h2⟩
theorem sumsL_length (rows texts : List ByteArray) : (sumsL rows texts).length = rows.length := by unfold sumsL; rw [List.length_map]
theorem sums_any (a b : Option Addr) (ca cb : Nat) (rows texts : List ByteArray) (w : World) (hR : Strs w a rows) (hT : Strs w b texts) (hr : rows.length ≤ 64) (ht : texts.length ≤ 64) (hz : ∀ s ∈ texts, s.size ≤ 100000000) (hcs : ∀ s ∈ rows, s.size ≤ 100000000) :
    Calls Seq.prog 22 #[.slice a rows.length ca, .slice b texts.length cb] w fun e w' => GotL (sumsL rows texts) w e w' := by
  refine (sums_txt a b ca cb rows texts w hR hT hr ht hz hcs).mono ?_
  rintro e w' ⟨G, rfl, h1, h2⟩
  exact ⟨_, rows.length, by rw [sumsL_length], h1.strs _ (sumsL_length _ _) (fun _ _ => rfl), h2⟩
end Go.Proofs.Ythifdfbdekkmgaa

/- May a text be spread so; how many bytes a part has; all rows. -/
namespace Go.Proofs.Ythifdfbdekkmgaa
open Go.RowKit Gf
set_option linter.unusedVariables false
/-- May a text be spread over k parts and r more? -/
def spB (k r : Int) : Bool := decide (1 ≤ k ∧ k ≤ 32 ∧ 0 ≤ r ∧ r ≤ 32 - k)
theorem spB_iff {k r : Int} (h : spB k r = true) : ∃ k' r' : Nat, k = k' ∧ r = r' ∧ 1 ≤ k' ∧ k' + r' ≤ 32 := by
  unfold spB at h
  have := of_decide_eq_true h
  exact ⟨k.toNat, r.toNat, by omega, by omega, by omega, by omega⟩
set_option maxRecDepth 100000 in
theorem spreadable_any (k r : Int) (w : World) (h0 : -9223372036854775808 ≤ k) (h1 : k ≤ 9223372036854775807) (h2 : -9223372036854775808 ≤ r) (h3 : r ≤ 9223372036854775807) :
    Calls Seq.prog 20 #[.int .i64 k, .int .i64 r] w fun e w' => e = .returned (.bool (spB k r)) ∧ w' = w := by
  by_cases a1 : 1 ≤ k
  · have b1 : decide (1 ≤ k) = true := decide_eq_true a1
    by_cases a2 : k ≤ 32
    · have b2 : decide (k ≤ 32) = true := decide_eq_true a2
      by_cases a3 : 0 ≤ r
      · have b3 : decide (0 ≤ r) = true := decide_eq_true a3
        by_cases a4 : r ≤ 32 - k
        · have b4 : decide (r ≤ 32 - k) = true := decide_eq_true a4
          rw [show spB k r = true from decide_eq_true ⟨a1, a2, a3, a4⟩]
          go_enter Seq.func20, Seq.ntmps20
          go_wp2_with fail
          go_ret
          exact ⟨rfl, rfl⟩
        · have b4 : decide (r ≤ 32 - k) = false := decide_eq_false a4
          rw [show spB k r = false from decide_eq_false (fun c => a4 c.2.2.2)]
          go_enter Seq.func20, Seq.ntmps20
          go_wp2_with fail
          go_ret
          exact ⟨rfl, rfl⟩
      · have b3 : decide (0 ≤ r) = false := decide_eq_false a3
        rw [show spB k r = false from decide_eq_false (fun c => a3 c.2.2.1)]
        go_enter Seq.func20, Seq.ntmps20
        go_wp2_with fail
        go_ret
        exact ⟨rfl, rfl⟩
    · have b2 : decide (k ≤ 32) = false := decide_eq_false a2
      rw [show spB k r = false from decide_eq_false (fun c => a2 c.2.1)]
      go_enter Seq.func20, Seq.ntmps20
      go_wp2_with fail
      go_ret
      exact ⟨rfl, rfl⟩
  · have b1 : decide (1 ≤ k) = false := decide_eq_false a1
    rw [show spB k r = false from decide_eq_false (fun c => a1 c.1)]
    go_enter Seq.func20, Seq.ntmps20
    go_wp2_with fail
    go_ret
    exact ⟨rfl, rfl⟩
/-- How many bytes each part has. -/
def sizeN (k t : Nat) : Nat := t / k + (if t % k = 0 then 0 else 1)
theorem sizeN_le (k t : Nat) (hk : 1 ≤ k) : sizeN k t ≤ t := by
  unfold sizeN
  rcases Nat.lt_or_ge 1 k with h | h
  · by_cases h0 : t % k = 0
    · rw [if_pos h0]; have := Nat.div_le_self t k; omega
    · rw [if_neg h0]
      have ht : 0 < t := by
        rcases Nat.eq_zero_or_pos t with e | e
        · rw [e] at h0; simp at h0
        · exact e
      have h2 : t / k < t := Nat.div_lt_self ht h
      omega
  · obtain rfl : k = 1 := by omega
    rw [if_pos (Nat.mod_one t), Nat.div_one]; omega
theorem sizeN_wrap (k t : Nat) (hk : 1 ≤ k) (ht : t ≤ 9223372036854775807) : wrap64 (wrap64 ((t : Int) / (k : Int)) + min ((t : Int) % (k : Int)) 1) = ((sizeN k t : Nat) : Int) := by
  have h1 := sizeN_le k t hk
  have h2 := Nat.div_le_self t k
  have e1 : (t : Int) / (k : Int) = ((t / k : Nat) : Int) := by simp
  have e2 : (t : Int) % (k : Int) = ((t % k : Nat) : Int) := by simp
  rw [e1, e2]
  unfold sizeN at *
  generalize t / k = q at *
  generalize t % k = r at *
  have hm : min ((r : Nat) : Int) 1 = ((if r = 0 then 0 else 1 : Nat) : Int) := by
    split
    · rename_i h; subst h; rfl
    · omega
  rw [hm, show wrap64 ((q : Nat) : Int) = (q : Int) from IntWalk.wrap64_in _ ⟨by omega, by omega⟩]
  rw [show ((q : Nat) : Int) + ((if r = 0 then 0 else 1 : Nat) : Int) = ((q + if r = 0 then 0 else 1 : Nat) : Int) from by omega]
  exact IntWalk.wrap64_in _ ⟨by omega, by omega⟩
def sizeI (k t : Int) : Nat := if spB k 0 = true ∧ 0 ≤ t then sizeN k.toNat t.toNat else 0
set_option maxHeartbeats 1000000 in
set_option maxRecDepth 100000 in
theorem pSize_any (k t : Int) (w : World) (h0 : -9223372036854775808 ≤ k) (h1 : k ≤ 9223372036854775807) (h2 : -9223372036854775808 ≤ t) (h3 : t ≤ 9223372036854775807) :
    Calls Seq.prog 12 #[.int .i64 k, .int .i64 t] w fun e w' => e = .returned (.int .i64 (sizeI k t : Nat)) ∧ Kept w w' := by
  have hcall := spreadable_any k 0 w h0 h1 (by decide) (by decide)
  cases hc : spB k 0
  · rw [hc] at hcall
    rw [show sizeI k t = 0 from if_neg (fun c => by rw [hc] at c; cases c.1)]
    go_enter Seq.func12, Seq.ntmps12
    go_wp2_with fail
    refine hcall.mono ?_
    rintro e w1 ⟨rfl, rfl⟩
    clear hcall
    go_wp2_with fail
    go_ret
    exact ⟨rfl, Kept.refl _⟩
  · rw [hc] at hcall
    by_cases ht : t < 0
    · have hb : decide (t < 0) = true := decide_eq_true ht
      rw [show sizeI k t = 0 from if_neg (fun c => by omega)]
      go_enter Seq.func12, Seq.ntmps12
      go_wp2_with fail
      refine hcall.mono ?_
      rintro e w1 ⟨rfl, rfl⟩
      clear hcall
      go_wp2_with fail
      go_ret
      exact ⟨rfl, Kept.refl _⟩
    · have hb : decide (t < 0) = false := decide_eq_false ht
      have hs : sizeI k t = sizeN k.toNat t.toNat := if_pos ⟨hc, by omega⟩
      rw [hs]
      obtain ⟨k', r', rfl, hr0, hk1, hk2⟩ := spB_iff hc
      have hk3 : k' ≤ 32 := by omega
      clear hr0 hk2 hs
      obtain ⟨t', rfl⟩ : ∃ t' : Nat, t = t' := ⟨t.toNat, by omega⟩
      rw [Int.toNat_natCast, Int.toNat_natCast]
      go_enter Seq.func12, Seq.ntmps12
      go_wp2_with fail
      refine hcall.mono ?_
      rintro e w1 ⟨rfl, rfl⟩
      clear hcall
      go_wp2_with fail
      go_region
      have hv := sizeN_wrap k' t' hk1 (by omega)
      rw [hv]
      go_wp2_with fail
      go_ret
      exact ⟨rfl, (Kept.refl _).drewN 1⟩
/-- What allRows leaves. -/
def allL (k r : Int) : List ByteArray := if r = 0 then unitL k else belL (unitL k) (cauL r k)
theorem mat_sizes {n m : Nat} {A : Nat → Nat → UInt8} : ∀ s ∈ matL n m A, s.size = m := by
  intro s hs
  unfold matL at hs
  obtain ⟨i, _, rfl⟩ := List.mem_map.1 hs
  exact strOf_size _ _
theorem unitL_is (k : Nat) (h1 : 1 ≤ k) (h2 : k ≤ 64) : unitL k = matL k k un := by
  unfold unitL
  rw [if_pos (by omega), Int.toNat_natCast]
/-- Cauchy's rows, below the unit. -/
def cf (k i j : Nat) : UInt8 := gi (UInt8.ofNat (k + i) ^^^ UInt8.ofNat j)
theorem cauL_is (k r : Nat) (h1 : 1 ≤ k) (h2 : k ≤ 64) (h3 : 1 ≤ r) (h4 : r ≤ 64) : cauL r k = matL r k (cf k) := by
  unfold cauL
  rw [if_pos (show cauE r k = 0 from if_pos (by omega)), Int.toNat_natCast, Int.toNat_natCast]
  rfl
theorem bel_is (k r : Nat) (h1 : 1 ≤ k) (h2 : k + r ≤ 32) (h3 : 1 ≤ r) : belE (unitL k) (cauL r k) = 0 ∧ belL (unitL k) (cauL r k) = matL k k un ++ matL r k (cf k) := by
  rw [unitL_is k h1 (by omega), cauL_is k r h1 (by omega) h3 (by omega)]
  have he : belE (matL k k un) (matL r k (cf k)) = 0 := by
    unfold belE
    rw [if_pos ⟨may_matL k k un h1 (by omega) h1 (by omega), may_matL r k (cf k) h3 (by omega) h1 (by omega)⟩, nth_matL _ _ _ _ (by omega), nth_matL _ _ _ _ (by omega), strOf_size, strOf_size, if_pos rfl, matL_length, matL_length, if_pos (by omega)]
  exact ⟨he, if_pos he⟩
theorem allL_facts (k r : Nat) (h1 : 1 ≤ k) (h2 : k + r ≤ 32) : (allL k r).length = k + r ∧ ∀ s ∈ allL k r, s.size = k := by
  unfold allL
  by_cases h0 : r = 0
  · subst h0
    rw [if_pos (show ((0 : Nat) : Int) = 0 from rfl), unitL_is k h1 (by omega), matL_length]
    exact ⟨rfl, mat_sizes⟩
  · rw [if_neg (by omega), (bel_is k r h1 h2 (by omega)).2, List.length_append, matL_length, matL_length]
    refine ⟨rfl, fun s hs => ?_⟩
    rcases List.mem_append.1 hs with h | h
    · exact mat_sizes s h
    · exact mat_sizes s h
set_option maxHeartbeats 1000000 in
set_option maxRecDepth 100000 in
theorem allRows_any (k r : Nat) (w : World) (hk1 : 1 ≤ k) (hkr : k + r ≤ 32) :
    Calls Seq.prog 23 #[.int .i64 (k : Nat), .int .i64 (r : Nat)] w fun e w' => ∃ a cap, e = .returned (.slice a (allL k r).length cap) ∧ Strs w' a (allL k r) ∧ Kept w w' ∧ (r = 0 ∨ k + r ≤ cap) := by
  by_cases h0 : r = 0
  · subst h0
    rw [show allL (k : Nat) ((0 : Nat) : Int) = unitL k from if_pos (show ((0 : Nat) : Int) = 0 from rfl)]
    go_enter Seq.func23, Seq.ntmps23
    go_wp2_with fail
    refine (pUnit_any k _ (by omega) (by omega)).mono ?_
    rintro e w1 ⟨a1, cap1, rfl, hs1, hk⟩
    have HS := Lib.hid hs1
    have HK := Lib.hid hk
    clear hs1 hk
    go_wp2_with fail
    go_ret
    exact ⟨_, _, rfl, HS.out, HK.out, .inl trivial⟩
  · have hb : ((r : Int) == 0) = false := by simp [h0]
    have hA : allL (k : Nat) (r : Nat) = belL (unitL k) (cauL r k) := if_neg (by omega)
    have HLEN := Lib.hid (allL_facts k r hk1 hkr).1
    rw [hA] at HLEN ⊢
    clear hA
    go_enter Seq.func23, Seq.ntmps23
    go_wp2_with fail
    refine (pUnit_any k _ (by omega) (by omega)).mono ?_
    rintro e w1 ⟨a1, cap1, rfl, hs1, hk⟩
    have HS := Lib.hid hs1
    have HK := Lib.hid hk
    clear hs1 hk
    go_wp2_with fail
    refine (pCauchy_any r k _ (by omega) (by omega) (by omega) (by omega)).mono ?_
    rintro e w2 ⟨a2, cap2, rfl, hs2, hk⟩
    have HS2 := Lib.hid hs2
    have HK2 : Hid (Kept w w2) := HK.out.trans hk
    have HS1 := Lib.hid (HS.out.kept hk)
    clear hs2 hk HS HK
    have hu := unitL_is k hk1 (by omega)
    have hc := cauL_is k r hk1 (by omega) (by omega) (by omega)
    have hcall := pBelow_c a1 a2 cap1 cap2 (unitL k) (cauL r k) w2 HS1.out HS2.out (by rw [hu, matL_length]; unfold maxLen; omega) (by rw [hc, matL_length]; unfold maxLen; omega) (fun s hs => by rw [hu] at hs; rw [mat_sizes s hs]; unfold maxLen; omega) (fun s hs => by rw [hc] at hs; rw [mat_sizes s hs]; unfold maxLen; omega)
    have HCALL := Lib.hid hcall
    clear hcall hu hc
    go_wp2_with fail
    refine HCALL.out.mono ?_
    rintro e w3 ⟨a3, cap3, rfl, hs3, hk, hcap⟩
    have HCAP : Hid (k + r ≤ cap3) := by have h := HLEN.out; rw [h] at hcap; exact hcap
    clear hcap
    have HS3 := Lib.hid hs3
    have HK3 : Hid (Kept w w3) := HK2.out.trans hk
    clear hs3 hk HCALL
    go_wp2_with fail
    go_ret
    exact ⟨_, _, rfl, HS3.out, HK3.out, .inr HCAP.out⟩
end Go.Proofs.Ythifdfbdekkmgaa

