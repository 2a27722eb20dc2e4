/- What the program's calls on matrices answer: solve. -/
import Derived.Test.YtlmoeaphikdjnaaMatCode6
namespace Go.Proofs.Ytlmoeaphikdjnaa
open Go.RowKit Gf
set_option linter.unusedVariables false
open Classical in
noncomputable def canB (n : Nat) (A : Nat → Nat → UInt8) : Bool := decide (∃ U, Inv n A U)
theorem canB_yes {n : Nat} {A : Nat → Nat → UInt8} (h : ∃ U, Inv n A U) : canB n A = true := @decide_eq_true _ (Classical.propDecidable _) h
theorem canB_no {n : Nat} {A : Nat → Nat → UInt8} (h : ¬ ∃ U, Inv n A U) : canB n A = false := @decide_eq_false _ (Classical.propDecidable _) h
theorem Txt.swap {G n : Nat} {f : Nat → ByteArray} {w : World} (h : Txt G n f w) (p c : Nat) (hp : p < n) (hc : c < n) : Txt G n (fun i => f (swp p c i)) ((w.setCell ⟨G, c, none⟩ (.string (f p))).setCell ⟨G, p, none⟩ (.string (f c))) := by
  refine ((h.set c hc (f p)).set p hp (f c)).congr (fun i _ => ?_)
  unfold updT swp
  by_cases e : i = p
  · subst e
    rw [if_pos rfl, if_pos rfl]
  · rw [if_neg e, if_neg e]
    by_cases e2 : i = c
    · rw [if_pos e2, if_pos e2]
    · rw [if_neg e2, if_neg e2]
set_option maxHeartbeats 1000000 in
set_option maxRecDepth 100000 in
theorem solve_any (G n m cap : Nat) (A X : Nat → Nat → UInt8) (w : World) (hT : Txt G n (fun i => strOf m (X i)) w) (hn : n ≤ 1000) (hm : m = n + n) (hE : Elim n A 0 X) :
    Calls Try.prog 27 #[.slice (some ⟨G, 0, none⟩) n cap] w fun e w' => e = .returned (.bool (canB n A)) ∧ But G w w' ∧ (canB n A = true → ∃ Y, Txt G n (fun i => strOf m (Y i)) w' ∧ Elim n A n Y) := by
  have HI0 : Hid (∃ Y, Txt G n (fun i => strOf m (Y i)) w ∧ Elim n A 0 Y ∧ But G w w) := ⟨X, hT, hE, But.refl _ _⟩
  clear hT hE
  go_enter Try.func27, Try.ntmps27
  go_wp2_with fail
  go_step3
  go_wp2_with fail
  go_step3
  go_wp2_with fail
  go_loopw [7, 3, 4] (fun c _ _ wr => ∃ k : Nat, k ≤ n ∧ c = .int .i64 k ∧ Hid (∃ Y, Txt G n (fun i => strOf m (Y i)) wr ∧ Elim n A k Y ∧ But G w wr)) (fun c _ _ _ => n - (intOf c).toNat)
  case atStart => exact ⟨0, Nat.zero_le _, rfl, HI0⟩
  case round =>
    obtain ⟨c, hc, rfl, HI⟩ := hrel
    obtain ⟨Y, hY, hEY, hBY⟩ := HI.out
    have HY := Lib.hid hY
    have HEY := Lib.hid hEY
    have HBY := Lib.hid hBY
    clear hY hEY hBY HI
    by_cases hlt : c < n
    · go_wp2_with fail
      go_loop [4] (fun i => ∃ p : Nat, c ≤ p ∧ p ≤ n ∧ i = .int .i64 p ∧ Hid (∀ q, c ≤ q → q < p → Y q c = 0)) (fun i => n - (intOf i).toNat)
      case atStart => exact ⟨c, Nat.le_refl _, hc, rfl, fun q h1 h2 => by omega⟩
      case round =>
        obtain ⟨p, hcp, hpn, rfl, HZ⟩ := hrel
        by_cases hp : p < n
        · have hrp := HY.out.cell p hp
          have hps : (strOf m (Y p)).size = m := strOf_size _ _
          have hpb : bt (strOf m (Y p)) c = Y p c := strOf_bt _ _ _ (by omega)
          by_cases hx0 : Y p c = 0
          · have HZ2 : Hid (∀ q, c ≤ q → q < p + 1 → Y q c = 0) := fun q h1 h2 => by
              by_cases e : q = p
              · subst e; exact hx0
              · exact HZ.out q h1 (by omega)
            rw [hx0] at hpb
            clear hx0
            generalize strOf m (Y p) = s at *
            have hcs : c < s.size := by omega
            have hget := bt_get s c hcs
            rw [hpb] at hget
            have hxb : (((s[c].toNat : Nat) : Int) != 0) = false := by rw [hget]; rfl
            clear hpb hget
            go_wp2_with fail
            exact ⟨⟨p + 1, by omega, by omega, by go_num, HZ2⟩, by simp [intOf]; omega⟩
          · have hne : bt (strOf m (Y p)) c ≠ 0 := by rw [hpb]; exact hx0
            have HX0 := Lib.hid hx0
            have hrc := HY.out.cell c hlt
            have hfp := HY.out.free p hp
            have hfc := HY.out.free c hlt
            have HSW := Lib.hid (HY.out.swap p c hp hlt)
            have hcs2 : (wr.setCell ⟨G, c, none⟩ (.string (strOf m (Y p)))).cell? ⟨G, p, none⟩ = some (.string (strOf m (Y p))) := by
              by_cases e : p = c
              · subst e; rw [World.cell?_setCell_same _ _ _ hrp]
              · rw [World.cell?_setCell_other _ _ _ _ (fun h => e (by injection h with _ e2; exact e2.symm)), hrp]
            have HB2 : Hid (But G w ((wr.setCell ⟨G, c, none⟩ (.string (strOf m (Y p)))).setCell ⟨G, p, none⟩ (.string (strOf m (Y c))))) := (HBY.out.setCell _ _).setCell _ _
            clear hx0 hpb
            generalize strOf m (Y p) = s at *
            generalize strOf m (Y c) = t at *
            have hcs : c < s.size := by omega
            have hget := bt_get s c hcs
            rw [← hget] at hne
            have hxb : (((s[c].toNat : Nat) : Int) != 0) = true := bne_iff_ne.2 (fun e => hne (UInt8.toNat_inj.1 (by simpa using e)))
            clear hne hget
            go_upto_region 8 with fail
            go_region
            generalize (wr.setCell ⟨G, c, none⟩ (.string s)).setCell ⟨G, p, none⟩ (.string t) = w2 at *
            have hscc : swp p c c = p := by unfold swp; by_cases h : c = p <;> simp [h]
            obtain ⟨X1, hX1⟩ : ∃ X1, (fun i => Y (swp p c i)) = X1 := ⟨_, rfl⟩
            have HX1 : Hid (∀ i, X1 i = Y (swp p c i)) := fun i => by rw [← hX1]
            have HSW1 : Hid (Txt G n (fun i => strOf m (X1 i)) w2) := HSW.out.congr (fun i _ => by rw [HX1.out])
            have hne1 : X1 c c ≠ 0 := by rw [HX1.out, hscc]; exact HX0.out
            have HEL : Hid (Elim n A (c + 1) (leadX X1 c)) := elim_step HEY.out hcp hp HX0.out (fun r j hr hj => by unfold leadX; rw [HX1.out, HX1.out, hscc])
            clear hX1 HSW HX1 HX0 hscc hcs2 hrp hrc hfp hfc
            go_wp2_with fail
            refine (lead_any G n m cap c X1 _ (HSW1.out.drewN 1) (by omega) (by omega) hlt (by omega) hne1).mono ?_
            rintro e w3 ⟨rfl, hb3, ht3⟩
            have HF : Hid (∃ Y, Txt G n (fun i => strOf m (Y i)) w3 ∧ Elim n A (c + 1) Y ∧ But G w w3) := ⟨_, ht3, HEL.out, (HB2.out.trans (((Kept.refl _).drewN 1).but G)).trans hb3⟩
            clear ht3 hb3 HEL HSW1 HB2
            go_wp2_with fail
            exact ⟨⟨c + 1, by omega, by go_num, HF⟩, by simp [intOf]; omega⟩
        · obtain rfl : p = n := by omega
          have HN := Lib.hid (canB_no (elim_none HEY.out hlt (fun q h1 h2 => HZ.out q h1 h2)))
          go_wp2_with fail
          (try rw [Exit.noGoto_ret])
          go_ret
          exact ⟨by rw [HN.out]; rfl, HBY.out, fun h => by rw [HN.out] at h; cases h⟩
    · obtain rfl : c = n := by omega
      have HC : Hid (canB c A = true) := by
        show _ = _
        exact canB_yes ⟨_, elim_end HEY.out⟩
      go_wp2_with fail
      (try rw [Exit.noGoto_ret])
      go_ret
      exact ⟨by rw [HC.out]; rfl, HBY.out, fun _ => ⟨Y, HY.out, HEY.out⟩⟩
end Go.Proofs.Ytlmoeaphikdjnaa
