/- What the program's calls on matrices answer: copies, Pick, Below. -/
import Derived.Test.YtlmoeaphikdjnaaMatCode3
import Derived.Test.YtlmoeaphikdjnaaConcatS
import Derived.Test.YtlmoeaphikdjnaaClone
namespace Go.Proofs.Ytlmoeaphikdjnaa
open Go.RowKit Gf
set_option linter.unusedVariables false
set_option maxHeartbeats 1000000 in
set_option maxRecDepth 100000 in
theorem copies_any (G n cap : Nat) (f : Nat → ByteArray) (w : World) (hT : Txt G n f w) (hn : n ≤ 1000000) (hz : ∀ i, i < n → (f i).size ≤ 281474976710656) :
    Calls Try.prog 28 #[.slice (some ⟨G, 0, none⟩) n cap] w fun e w' => e = .returned (.slice (some ⟨G, 0, none⟩) n cap) ∧ But G w w' ∧ Txt G n f w' := by
  have HT := Lib.hid hT
  have HZ := Lib.hid hz
  clear hT hz
  go_enter Try.func28, Try.ntmps28
  go_wp2_with fail
  go_loopw [7, 3, 4] (fun i _ _ wr => ∃ k : Nat, k ≤ n ∧ i = .int .i64 k ∧ Hid (Txt G n f wr ∧ But G w wr)) (fun i _ _ _ => n - (intOf i).toNat)
  case atStart => exact ⟨0, Nat.zero_le _, rfl, HT.out, But.refl _ _⟩
  case round =>
    obtain ⟨k, hk, rfl, HI⟩ := hrel
    by_cases hlt : k < n
    · have hck := HI.out.1.cell k hlt
      have hzk := HZ.out k hlt
      have HSET := Lib.hid (fun W (hW : Txt G n f W) => (hW.set k hlt (f k)).congr (f' := f) (fun j _ => by unfold updT; split <;> simp [*]))
      generalize f k = p at *
      go_wp2_with fail
      refine (clone_any p _ hzk).mono ?_
      rintro e w4 ⟨rfl, k4⟩
      have HT4 := Lib.hid (HI.out.1.kept k4)
      have hcell : ∃ v, w4.cell? ⟨G, k, none⟩ = some v := ⟨_, HT4.out.cell k hlt⟩
      obtain ⟨v, hcell⟩ := hcell
      have hfree := HT4.out.free k hlt
      have HF : Hid (Txt G n f (w4.setCell ⟨G, k, none⟩ (.string p)) ∧ But G w (w4.setCell ⟨G, k, none⟩ (.string p))) := ⟨HSET.out _ HT4.out, (HI.out.2.trans (k4.but G)).setCell _ _⟩
      go_wp2_with fail
      exact ⟨⟨k + 1, by omega, by go_num, HF⟩, by simp [intOf]; omega⟩
    · obtain rfl : k = n := by omega
      go_wp2_with fail
      go_ret
      exact ⟨rfl, HI.out.2, HI.out.1⟩
theorem bel_form (ss ts : List ByteArray) (h : ¬ (mayB ss = true ∧ mayB ts = true)) : [] = belL ss ts ∧ 8 = belE ss ts := by
  have h8 : belE ss ts = 8 := by unfold belE; rw [if_neg h]
  exact ⟨by unfold belL; rw [h8]; rfl, h8.symm⟩
theorem slices_two (W : World) (t : TypeId) (v1 v2 : Value) (j : Nat) (hj : j < 2) : (W.alloc (.cells #[v1, v2] t)).cell? ⟨W.heap.size, j, none⟩ = some (if j = 0 then v1 else v2) := by
  rw [World.cell?_alloc_mark]
  match j, hj with
  | 0, _ => rfl
  | 1, _ => rfl
set_option maxHeartbeats 1000000 in
set_option maxRecDepth 100000 in
theorem pBelow_any (a b : Option Addr) (ca cb : Nat) (ss ts : List ByteArray) (w : World) (hS : Strs w a ss) (hT : Strs w b ts) (hm : ss.length ≤ maxLen) (hn : ts.length ≤ maxLen) (hz1 : ∀ s ∈ ss, s.size ≤ maxLen) (hz2 : ∀ s ∈ ts, s.size ≤ maxLen) :
    Calls Try.prog 23 #[.slice a ss.length ca, .slice b ts.length cb] w fun e w' => GotM (belL ss ts) (belE ss ts) w e w' := by
  obtain ⟨b1, o1, hc1⟩ := strs_at hS
  obtain ⟨b2, o2, hc2⟩ := strs_at hT
  have HS := Lib.hid hS
  have HT := Lib.hid hT
  have HM1 := Lib.hid hm
  have HM2 := Lib.hid hn
  have HZ1 := Lib.hid hz1
  have HZ2 := Lib.hid hz2
  have H1 := Lib.hid hc1
  have H2 := Lib.hid hc2
  clear hS hT hm hn hz1 hz2 hc1 hc2
  go_enter Try.func23, Try.ntmps23
  go_wp2_with fail
  refine (pMay_any a ca ss _ HS.out HM1.out HZ1.out).mono ?_
  rintro e w1 ⟨rfl, k1⟩
  cases hma : mayB ss
  · have HE := Lib.hid (bel_form ss ts (by rw [hma]; simp))
    clear hma
    go_wp2_with fail
    go_ret2
    rw [← HE.out.1, ← HE.out.2]
    exact GotM.nil 8 k1
  · go_wp2_with fail
    refine (pMay_any b cb ts _ (HT.out.kept k1) HM2.out HZ2.out).mono ?_
    rintro e w2 ⟨rfl, k2⟩
    have k12 := k1.trans k2
    clear k1 k2
    cases hmb : mayB ts
    · have HE := Lib.hid (bel_form ss ts (by rw [hmb]; simp))
      clear hma hmb
      go_wp2_with fail
      go_ret2
      rw [← HE.out.1, ← HE.out.2]
      exact GotM.nil 8 k12
    · obtain ⟨a1, a2, a3, a4, _⟩ := may_yes ss hma
      obtain ⟨b1', b2', b3', b4', _⟩ := may_yes ts hmb
      obtain ⟨ha, hc1⟩ := H1.out (by omega)
      obtain ⟨hb, hc2⟩ := H2.out (by omega)
      have HC1 : Hid (∀ W, Kept w W → ∀ i, i < ss.length → W.cell? ⟨b1, o1 + i, none⟩ = some (.string (nth ss i))) := fun W hW i hi => by rw [Below.cell hW (block_lt_of_cell (hc1 i hi)), hc1 i hi]
      have HC2 : Hid (∀ W, Kept w W → ∀ i, i < ts.length → W.cell? ⟨b2, o2 + i, none⟩ = some (.string (nth ts i))) := fun W hW i hi => by rw [Below.cell hW (block_lt_of_cell (hc2 i hi)), hc2 i hi]
      have HMA := Lib.hid (may_size ss hma)
      have HMB := Lib.hid (may_size ts hmb)
      have hp0 := HC1.out w2 k12 0 (by omega)
      have hq0 := HC2.out w2 k12 0 (by omega)
      rw [Nat.add_zero] at hp0 hq0
      have HE0 : Hid ((nth ss 0).size ≠ (nth ts 0).size → [] = belL ss ts ∧ 50 = belE ss ts) := fun hs => by
        have h0 : belE ss ts = 50 := by unfold belE; rw [if_pos ⟨hma, hmb⟩, if_neg hs]
        exact ⟨by unfold belL; rw [h0]; rfl, h0.symm⟩
      have HE1 : Hid ((nth ss 0).size = (nth ts 0).size → 64 < ss.length + ts.length → [] = belL ss ts ∧ 2 = belE ss ts) := fun hs hl => by
        have h0 : belE ss ts = 2 := by unfold belE; rw [if_pos ⟨hma, hmb⟩, if_pos hs, if_neg (by omega)]
        exact ⟨by unfold belL; rw [h0]; rfl, h0.symm⟩
      have HE2 : Hid ((nth ss 0).size = (nth ts 0).size → ss.length + ts.length ≤ 64 → ss ++ ts = belL ss ts ∧ 0 = belE ss ts) := fun hs hl => by
        have h0 : belE ss ts = 0 := by unfold belE; rw [if_pos ⟨hma, hmb⟩, if_pos hs, if_pos hl]
        exact ⟨by unfold belL; rw [if_pos h0], h0.symm⟩
      rw [ha, hb]
      clear hc1 hc2 ha hb H1 H2 HM1 HM2 HZ1 HZ2 HS HT hma hmb
      generalize nth ss 0 = p at *
      generalize nth ts 0 = q at *
      by_cases he : p.size = q.size
      · have heb : ((p.size : Int) == (q.size : Int)) = true := by simp [he]
        have HE3 := Lib.hid (HE1.out he)
        have HE4 := Lib.hid (HE2.out he)
        clear HE0 HE1 HE2
        have hside := fun W => side_any ((ss.length : Int) + (ts.length : Int)) W (by omega) (by omega)
        have HSD := Lib.hid hside
        clear hside
        go_wp2_with fail
        go_quiet (fail)
        go_wp2_with fail
        refine (HSD.out _).mono ?_
        rintro e w3 ⟨rfl, rfl⟩
        cases hsd : sideB ((ss.length : Int) + (ts.length : Int))
        · have HE5 := Lib.hid (HE3.out (by have := sideB_no hsd; omega))
          go_wp2_with fail
          go_ret2
          rw [← HE5.out.1, ← HE5.out.2]
          exact GotM.nil 2 (k12.trans ((Kept.refl _).drewN _))
        · have h64 := (sideB_yes hsd).2
          have HE5 := Lib.hid (HE4.out (by omega))
          have HK5 : Hid (Kept w (w2.drewN nq)) := k12.trans ((Kept.refl _).drewN _)
          generalize w2.drewN nq = w5 at *
          clear hp0 hq0 k12 HSD
          go_wp2_with fail
          have HK6 : Hid (Kept w (w5.alloc (.cells #[.slice (some ⟨b1, o1, none⟩) ss.length ca, .slice (some ⟨b2, o2, none⟩) ts.length cb] 23))) := HK5.out.alloc _
          refine (concatS_any w5.heap.size 2 2 (fun j => if j = 0 then ss else ts) (fun j => if j = 0 then b1 else b2) (fun j => if j = 0 then o1 else o2) (fun j => if j = 0 then ca else cb) _ (by decide) (fun j hj => ?_) ?_ (fun j hj => ?_) (fun j hj i hi => ?_)).mono ?_
          · by_cases h : j = 0 <;> simp [h] <;> omega
          · show (([] ++ ss) ++ ts).length ≤ _
            rw [List.nil_append, List.length_append]
            omega
          · rw [slices_two _ _ _ _ _ hj]
            by_cases h : j = 0 <;> simp [h]
          · by_cases h : j = 0
            · simp only [h, if_pos] at hi ⊢
              exact HC1.out _ HK6.out i hi
            · simp only [h, if_false] at hi ⊢
              exact HC2.out _ HK6.out i hi
          rintro e w7 ⟨v7, rfl, hg7, hk7⟩
          have hcat : catK (fun j => if j = 0 then ss else ts) 2 = ss ++ ts := by
            show ([] ++ ss) ++ ts = _
            rw [List.nil_append]
          rw [hcat] at hg7
          obtain ⟨g8, c8, rfl, hg8, ht8⟩ := hg7.txt (by rw [List.length_append]; omega)
          have HK8 : Hid (Kept w w7 ∧ w.heap.size ≤ g8) := ⟨HK6.out.trans hk7, Nat.le_trans HK6.out.size hg8⟩
          have HT8 := Lib.hid ht8
          have HZ8 : Hid (∀ i, i < (ss ++ ts).length → (nth (ss ++ ts) i).size ≤ 281474976710656) := fun i hi => by
            rw [← nth_get _ i hi]
            rcases List.mem_append.1 (List.getElem_mem hi) with h | h
            · obtain ⟨j, hj, e⟩ := List.getElem_of_mem h
              rw [← e, nth_get ss j hj, HMA.out j hj]
              omega
            · obtain ⟨j, hj, e⟩ := List.getElem_of_mem h
              rw [← e, nth_get ts j hj, HMB.out j hj]
              omega
          have hlen : (ss ++ ts).length ≤ 1000000 := by rw [List.length_append]; omega
          rw [HE5.out.1] at *
          clear hcat hg7 hg8 ht8 hk7
          go_wp2_with fail
          refine (copies_any g8 _ c8 _ _ HT8.out hlen HZ8.out).mono ?_
          rintro e w9 ⟨rfl, hb9, ht9⟩
          have HF : Hid (Strs w9 (some ⟨g8, 0, none⟩) (belL ss ts) ∧ Kept w w9) := ⟨ht9.strs _ rfl (fun _ _ => rfl), But.kept HK8.out.1 HK8.out.2 hb9⟩
          clear hb9 ht9
          go_wp2_with fail
          go_ret2
          rw [← HE5.out.2]
          exact ⟨_, _, rfl, HF.out⟩
      · have heb : ((p.size : Int) == (q.size : Int)) = false := by simp; omega
        have HE5 := Lib.hid (HE0.out he)
        clear HE0 HE1 HE2
        go_wp2_with fail
        go_quiet (fail)
        go_wp2_with fail
        go_ret2
        rw [← HE5.out.1, ← HE5.out.2]
        exact GotM.nil 50 (k12.trans ((Kept.refl _).drewN _))
end Go.Proofs.Ytlmoeaphikdjnaa
