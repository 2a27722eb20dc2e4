/- What the document's own answers on matrices come to: Below. -/
import Derived.Test.YtlmoeaphikdjnaaMatRef3
namespace Go.Proofs.Ytlmoeaphikdjnaa
open Go.RowKit Gf
set_option linter.unusedVariables false
set_option maxHeartbeats 1000000 in
set_option maxRecDepth 100000 in
theorem refBelow_any (a b : Option Addr) (ca cb : Nat) (ss ts : List ByteArray) (w : World) (hS : Strs w a ss) (hT : Strs w b ts) (hm : ss.length ≤ maxLen) (hn : ts.length ≤ maxLen) (hz1 : ∀ s ∈ ss, s.size ≤ maxLen) (hz2 : ∀ s ∈ ts, s.size ≤ maxLen) :
    Calls Try.prog 24 #[.slice a ss.length ca, .slice b ts.length cb] w fun e w' => GotM (belL ss ts) (belE ss ts) w e w' := by
  obtain ⟨b1, o1, hc1⟩ := strs_at hS
  obtain ⟨b2, o2, hc2⟩ := strs_at hT
  have HS := Lib.hid hS
  have HT := Lib.hid hT
  have HM1 := Lib.hid hm
  have HM2 := Lib.hid hn
  have HZ1 := Lib.hid hz1
  have HZ2 := Lib.hid hz2
  have H1 := Lib.hid hc1
  have H2 := Lib.hid hc2
  clear hS hT hm hn hz1 hz2 hc1 hc2
  go_enter Try.func24, Try.ntmps24
  go_wp2_with fail
  refine (refMay_any a ca ss _ HS.out HM1.out HZ1.out).mono ?_
  rintro e w1 ⟨rfl, k1⟩
  cases hma : mayB ss
  · have HE : Hid ([] = belL ss ts ∧ 8 = belE ss ts) := by
      have h8 : belE ss ts = 8 := by unfold belE; rw [hma]; simp
      exact ⟨by unfold belL; rw [h8]; rfl, h8.symm⟩
    clear hma
    go_wp2_with fail
    go_ret2
    rw [← HE.out.1, ← HE.out.2]
    exact GotM.nil 8 k1
  · go_wp2_with fail
    refine (refMay_any b cb ts _ (HT.out.kept k1) HM2.out HZ2.out).mono ?_
    rintro e w2 ⟨rfl, k2⟩
    have k12 := k1.trans k2
    clear k1 k2
    cases hmb : mayB ts
    · have HE : Hid ([] = belL ss ts ∧ 8 = belE ss ts) := by
        have h8 : belE ss ts = 8 := by unfold belE; rw [hmb]; simp
        exact ⟨by unfold belL; rw [h8]; rfl, h8.symm⟩
      clear hma hmb
      go_wp2_with fail
      go_ret2
      rw [← HE.out.1, ← HE.out.2]
      exact GotM.nil 8 k12
    · obtain ⟨a1, a2, a3, a4, _⟩ := may_yes ss hma
      obtain ⟨b1', b2', b3', b4', _⟩ := may_yes ts hmb
      obtain ⟨ha, hc1⟩ := H1.out (by omega)
      obtain ⟨hb, hc2⟩ := H2.out (by omega)
      have HC1 : Hid (∀ W, Kept w W → ∀ i, i < ss.length → W.cell? ⟨b1, o1 + i, none⟩ = some (.string (nth ss i))) := fun W hW i hi => by rw [Below.cell hW (block_lt_of_cell (hc1 i hi)), hc1 i hi]
      have HC2 : Hid (∀ W, Kept w W → ∀ i, i < ts.length → W.cell? ⟨b2, o2 + i, none⟩ = some (.string (nth ts i))) := fun W hW i hi => by rw [Below.cell hW (block_lt_of_cell (hc2 i hi)), hc2 i hi]
      have hp0 := HC1.out w2 k12 0 (by omega)
      have hq0 := HC2.out w2 k12 0 (by omega)
      rw [Nat.add_zero] at hp0 hq0
      have HE0 : Hid ((nth ss 0).size ≠ (nth ts 0).size → [] = belL ss ts ∧ 50 = belE ss ts) := fun hs => by
        have h0 : belE ss ts = 50 := by unfold belE; rw [if_pos ⟨hma, hmb⟩, if_neg hs]
        exact ⟨by unfold belL; rw [h0]; rfl, h0.symm⟩
      have HE1 : Hid ((nth ss 0).size = (nth ts 0).size → 64 < ss.length + ts.length → [] = belL ss ts ∧ 2 = belE ss ts) := fun hs hl => by
        have h0 : belE ss ts = 2 := by unfold belE; rw [if_pos ⟨hma, hmb⟩, if_pos hs, if_neg (by omega)]
        exact ⟨by unfold belL; rw [h0]; rfl, h0.symm⟩
      have HE2 : Hid ((nth ss 0).size = (nth ts 0).size → ss.length + ts.length ≤ 64 → ss ++ ts = belL ss ts ∧ 0 = belE ss ts) := fun hs hl => by
        have h0 : belE ss ts = 0 := by unfold belE; rw [if_pos ⟨hma, hmb⟩, if_pos hs, if_pos hl]
        exact ⟨by unfold belL; rw [if_pos h0], h0.symm⟩
      rw [ha, hb]
      clear hc1 hc2 ha hb H1 H2 HM1 HM2 HZ1 HZ2 HS HT hma hmb
      generalize nth ss 0 = p at *
      generalize nth ts 0 = q at *
      by_cases he : p.size = q.size
      · have heb : ((p.size : Int) == (q.size : Int)) = true := by simp [he]
        have HE3 := Lib.hid (HE1.out he)
        have HE4 := Lib.hid (HE2.out he)
        clear HE0 HE1 HE2
        rcases Nat.lt_or_ge 64 (ss.length + ts.length) with h64 | h64
        · have HE5 := Lib.hid (HE3.out h64)
          go_wp2_with fail
          go_quiet (fail)
          go_wp2_with fail
          go_ret2
          rw [← HE5.out.1, ← HE5.out.2]
          exact GotM.nil 2 (k12.trans ((Kept.refl _).drewN _))
        · have HE5 := Lib.hid (HE4.out h64)
          go_wp2_with fail
          go_quiet (fail)
          have HK5 : Hid (Kept w (w2.drewN nq)) := k12.trans ((Kept.refl _).drewN _)
          generalize w2.drewN nq = w5 at *
          clear hp0 hq0 k12
          go_wp2_with (first | (at_builtin; refine wpList_gats _ rfl (.tmp 29) (.tmp 30) 23 rfl Try.underlying23 w _ [] (by rfl) (Gat.made HK5.out) (HK5.out.alloc _) ss b1 o1 ca rfl (HC1.out _ (HK5.out.alloc _)) (by show 0 + ss.length ≤ _; omega) ?_; intro v8 w8 hG8 hK8) | (at_builtin; refine wpList_gats _ rfl (.tmp 31) (.tmp 32) 23 rfl Try.underlying23 w _ ([] ++ ss) (by rfl) hG8 hK8 ts b2 o2 cb rfl (HC2.out _ hK8) (by show ss.length + ts.length ≤ _; omega) ?_; intro v9 w9 hG9 hK9))
          go_ret2
          rw [← HE5.out.1, ← HE5.out.2]
          exact hG9.gotM hK9 0
      · have heb : ((p.size : Int) == (q.size : Int)) = false := by simp; omega
        have HE5 := Lib.hid (HE0.out he)
        clear HE0 HE1 HE2
        go_wp2_with fail
        go_quiet (fail)
        go_wp2_with fail
        go_ret2
        rw [← HE5.out.1, ← HE5.out.2]
        exact GotM.nil 50 (k12.trans ((Kept.refl _).drewN _))
end Go.Proofs.Ytlmoeaphikdjnaa
