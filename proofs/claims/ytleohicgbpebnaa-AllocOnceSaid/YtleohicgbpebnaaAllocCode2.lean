/- The rows that are something; how many; the lowest free ones; Take. -/
import Derived.Test.YtleohicgbpebnaaAllocCode1
import Derived.Test.YtleohicgbpebnaaGatI2
namespace Go.Proofs.Ytleohicgbpebnaa
open Go.RowKit
set_option linter.unusedVariables false
/-- A call answers just these numbers, in a slice of its own, and does no more. -/
def GotI (w0 : World) (l : List Int) (w : World) (e : Ending) (w' : World) : Prop := ∃ v, e = .returned v ∧ GatI w0.heap.size v l w' ∧ Kept w w'
set_option maxHeartbeats 1000000 in
set_option maxRecDepth 100000 in
theorem rows_any (g c n cap : Nat) (f : Nat → Nat) (x : Nat) (hx : x ≤ 255) (w : World) (h : MapAt g c n cap f w) :
    Calls Try.prog 22 #[.pointer (some ⟨g, 0, none⟩), .int .u8 (x : Nat)] w fun e w' => GotI w (rowsL n f x) w e w' := by
  have HM := Lib.hid h
  have hd := h.hd
  have hn := h.nm
  clear h
  go_enter Try.func22, Try.ntmps22
  go_wp2_with (go_at_call 27; refine (none_any g _ HM.out.made).mono ?_; rintro e w ⟨rfl, rfl⟩)
  go_loopw [5, 15] (fun v i wr => ∃ k : Nat, k ≤ n ∧ i = .int .i64 k ∧ Hid (GatI w.heap.size v (rowsL k f x) wr ∧ Kept w wr)) (fun _ i _ => n - (intOf i).toNat)
  case atStart => exact ⟨0, Nat.zero_le _, rfl, GatI.nil _ _, Kept.refl _⟩
  case round =>
    obtain ⟨k, hk, rfl, HI⟩ := hrel
    by_cases hlt : k < n
    · have hck := (HM.out.kept HI.out.2).rows.cell k hlt
      by_cases hfx : f k = x
      · have HY := Lib.hid (rowsL_yes k f x hfx)
        have hb : (((f k : Nat) : Int) == (x : Int)) = true := by rw [hfx]; simp
        have HLN : Hid ((rowsL k f x).length ≤ 1000000000) := by show _ ≤ _; have := rowsL_le k f x; omega
        generalize f k = y at *
        clear hfx
        go_wp2_with (at_builtin; refine wpList_gati _ rfl (.tmp 23) (.tmp 25) rfl w _ (rowsL k f x) (by rfl) (HI.out.1.kept ((Kept.refl _).alloc _)) (HI.out.2.alloc _) (k : Int) wr.heap.size rfl (by rw [World.cell?_alloc_mark]; rfl) HLN.out ?_; intro v9 w9 hG9 hK9)
        go_roundw
        case rel => exact ⟨k + 1, by omega, by go_num, by rw [HY.out]; exact ⟨hG9, hK9⟩⟩
        case measure => simp [intOf]; omega
      · have HY := Lib.hid (rowsL_no k f x hfx)
        have hb : (((f k : Nat) : Int) == (x : Int)) = false := by simp; omega
        generalize f k = y at *
        clear hfx
        go_wp2_with fail
        go_roundw
        case rel => exact ⟨k + 1, by omega, by go_num, by rw [HY.out]; exact HI.out⟩
        case measure => simp [intOf]; omega
    · obtain rfl : k = n := by omega
      go_wp2_with fail
      go_ret
      exact ⟨_, rfl, HI.out.1, HI.out.2⟩
/-- The lengths of three lists of rows. -/
theorem count_any (g c n cap : Nat) (f : Nat → Nat) (w : World) (h : MapAt g c n cap f w) :
    Calls Try.prog 18 #[.pointer (some ⟨g, 0, none⟩)] w fun e w' => e = .returned (.tuple #[.int .i64 ((rowsL n f 1).length : Nat), .int .i64 ((rowsL n f 2).length : Nat), .int .i64 ((rowsL n f 3).length : Nat)]) ∧ Kept w w' := by
  have HM := Lib.hid h
  clear h
  have HC : ∀ x W, x ≤ 255 → Kept w W → Calls Try.prog 22 #[.pointer (some ⟨g, 0, none⟩), .int .u8 (x : Nat)] W fun e w' => ∃ a ca, e = .returned (.slice a (rowsL n f x).length ca) ∧ Kept w w' := fun x W hx hW =>
    (rows_any g c n cap f x hx W (HM.out.kept hW)).mono fun e w' ⟨v, he, hv, hk⟩ => by
      obtain ⟨a, ca, rfl, _⟩ := hv.ints
      exact ⟨a, ca, he, hW.trans hk⟩
  have HC1 := Lib.hid (fun W => HC 1 W (by decide))
  have HC2 := Lib.hid (fun W => HC 2 W (by decide))
  have HC3 := Lib.hid (fun W => HC 3 W (by decide))
  have hl1 := rowsL_le n f 1
  have hl2 := rowsL_le n f 2
  have hl3 := rowsL_le n f 3
  have hn := HM.out.nm
  clear HC
  generalize (rowsL n f 1).length = l1 at *
  generalize (rowsL n f 2).length = l2 at *
  generalize (rowsL n f 3).length = l3 at *
  go_enter Try.func18, Try.ntmps18
  go_wp2_with fail
  refine (HC1.out _ (Kept.refl _)).mono ?_
  rintro e w1 ⟨a1, c1, rfl, k1⟩
  have K1 := Lib.hid k1
  clear k1
  go_wp2_with fail
  refine (HC2.out _ K1.out).mono ?_
  rintro e w2 ⟨a2, c2, rfl, k2⟩
  have K2 := Lib.hid k2
  clear k2
  go_wp2_with fail
  refine (HC3.out _ K2.out).mono ?_
  rintro e w3 ⟨a3, c3, rfl, k3⟩
  have K3 := Lib.hid k3
  clear k3
  go_wp2_with fail
  go_ret3
  exact ⟨rfl, K3.out⟩
set_option maxHeartbeats 1000000 in
set_option maxRecDepth 100000 in
/-- The lowest free rows: the first k of them, or all. -/
theorem lowest_any (g c n cap : Nat) (f : Nat → Nat) (m : Nat) (hm : (m : Int) ≤ 9223372036854775807) (w : World) (h : MapAt g c n cap f w) :
    Calls Try.prog 28 #[.pointer (some ⟨g, 0, none⟩), .int .i64 (m : Nat)] w fun e w' => GotI w ((rowsL n f 1).take m) w e w' := by
  have HM := Lib.hid h
  have hd := h.hd
  have hn := h.nm
  clear h
  have HT : Hid (∀ k, k ≤ n → (rowsL k f 1).length = m → rowsL k f 1 = (rowsL n f 1).take m) := fun k hk hl => take_stop n k m f 1 hk hl
  have HT2 : Hid ((rowsL n f 1).length ≤ m → rowsL n f 1 = (rowsL n f 1).take m) := fun h => (List.take_of_length_le h).symm
  go_enter Try.func28, Try.ntmps28
  go_wp2_with fail
  go_step3
  go_wp2_with fail
  go_step3
  go_wp2_with fail
  go_loopw [5, 13] (fun v i wr => ∃ k : Nat, k ≤ n ∧ i = .int .i64 k ∧ Hid (GatI w.heap.size v (rowsL k f 1) wr ∧ Kept w wr ∧ (rowsL k f 1).length ≤ m)) (fun _ i _ => n - (intOf i).toNat)
  case atStart => exact ⟨0, Nat.zero_le _, rfl, GatI.nil _ _, Kept.refl _, Nat.zero_le _⟩
  case round =>
    obtain ⟨k, hk, rfl, HI⟩ := hrel
    by_cases hlt : k < n
    · have hck := (HM.out.kept HI.out.2.1).rows.cell k hlt
      by_cases hfull : (rowsL k f 1).length = m
      · obtain ⟨a, ca, hv, _⟩ := HI.out.1.ints
        subst hv
        have HE := Lib.hid (HT.out k hk hfull)
        have hb : (((rowsL k f 1).length : Int) == (m : Int)) = true := by rw [hfull]; simp
        clear hfull
        generalize f k = y at *
        go_wp2_with fail
        rw [Exit.noGoto_ret]
        go_ret
        rw [← HE.out]
        exact ⟨_, rfl, HI.out.1, HI.out.2.1⟩
      · have hlo := HI.out.2.2
        have hb : (((rowsL k f 1).length : Int) == (m : Int)) = false := by simp; omega
        obtain ⟨a, ca, hv, _⟩ := HI.out.1.ints
        subst hv
        have HLN : Hid ((rowsL k f 1).length ≤ 1000000000) := by show _ ≤ _; have := rowsL_le k f 1; omega
        have HG := Lib.hid HI.out.1
        have HK := Lib.hid HI.out.2.1
        have HLO : Hid ((rowsL k f 1).length + 1 ≤ m) := by show _ ≤ _; omega
        clear hlo hfull HI
        by_cases hfx : f k = 1
        · have HY := Lib.hid (rowsL_yes k f 1 hfx)
          have hb2 : (((f k : Nat) : Int) == 1) = true := by rw [hfx]; rfl
          generalize f k = y at *
          clear hfx
          generalize rowsL k f 1 = l at *
          generalize hlen : l.length = N at *
          have HLEN := Lib.hid hlen
          clear hlen
          go_wp2_with (at_builtin; refine wpList_gati _ rfl (.tmp 26) (.tmp 28) rfl w _ l (by rfl) (HG.out.kept ((Kept.refl _).alloc _)) (HK.out.alloc _) (k : Int) wr.heap.size rfl (by rw [World.cell?_alloc_mark]; rfl) (by have := HLEN.out; have := HLN.out; omega) ?_; intro v9 w9 hG9 hK9)
          go_roundw
          case rel => exact ⟨k + 1, by omega, by go_num, by rw [HY.out]; exact ⟨hG9, hK9, by rw [List.length_append, HLEN.out]; exact HLO.out⟩⟩
          case measure => simp [intOf]; omega
        · have HY := Lib.hid (rowsL_no k f 1 hfx)
          have hb2 : (((f k : Nat) : Int) == 1) = false := by simp; omega
          generalize f k = y at *
          clear hfx
          generalize rowsL k f 1 = l at *
          generalize hlen : l.length = N at *
          have HLEN := Lib.hid hlen
          clear hlen
          go_wp2_with fail
          go_roundw
          case rel => exact ⟨k + 1, by omega, by go_num, by rw [HY.out]; exact ⟨HG.out, HK.out, by have := HLEN.out; have := HLO.out; omega⟩⟩
          case measure => simp [intOf]; omega
    · obtain rfl : k = n := by omega
      have HE := Lib.hid (HT2.out HI.out.2.2)
      go_wp2_with fail
      rw [Exit.noGoto_ret]
      go_ret
      rw [← HE.out]
      exact ⟨_, rfl, HI.out.1, HI.out.2.1⟩
/-- A call answers an error, and these numbers, in a slice of its own; behind it P holds. -/
def GotE (w0 : World) (l : List Int) (x : Nat) (P : World → Prop) (e : Ending) (w' : World) : Prop := ∃ a ca, e = .returned (.tuple #[.slice a l.length ca, .int .i64 (x : Nat)]) ∧ GatI w0.heap.size (.slice a l.length ca) l w' ∧ P w'
theorem GatI.kept' {B : Nat} {v : Value} {rs : List Int} {w w' : World} (h : GatI B v rs w) {c : Nat} (k : But c w w') (hc : c < B) : GatI B v rs w' := by
  obtain ⟨h1, h2⟩ := h
  refine ⟨h1, ?_⟩
  rcases h2 with h2 | ⟨g, cap, cur, h2, h3, h4, h5⟩
  · exact .inl h2
  · exact .inr ⟨g, cap, cur, h2, h3, by rw [k.block g (Array.getElem?_eq_some_iff.1 h4).1 (by omega)]; exact h4, h5⟩
set_option maxHeartbeats 1000000 in
set_option maxRecDepth 100000 in
theorem take_any (g c n cap : Nat) (f : Nat → Nat) (m : Int) (hm : -9223372036854775808 ≤ m ∧ m ≤ 9223372036854775807) (w : World) (h : MapAt g c n cap f w) :
    Calls Try.prog 12 #[.pointer (some ⟨g, 0, none⟩), .int .i64 m] w fun e w' => GotE w (takeL n f m) (takeE n f m) (fun w' => MapAt g c n cap (takeF n f m) w' ∧ But c w w') e w' := by
  have HM := Lib.hid h
  have hn := h.nm
  clear h
  by_cases hneg : m < 0
  · have hb : decide (m < 0) = true := decide_eq_true hneg
    have HE : Hid (takeE n f m = 2) := if_pos hneg
    have HL : Hid (takeL n f m = []) := by show _ = _; unfold takeL; rw [HE.out]; rfl
    have HF : Hid (takeF n f m = f) := by show _ = _; unfold takeF; rw [HL.out, letF_nil]
    clear hneg
    go_enter Try.func12, Try.ntmps12
    go_wp2_with (go_at_call 27; refine (none_any g _ HM.out.made).mono ?_; rintro e w ⟨rfl, rfl⟩)
    go_ret2
    rw [HE.out, HL.out, HF.out]
    exact ⟨none, 0, rfl, GatI.nil _ _, HM.out, But.refl _ _⟩
  · obtain ⟨k, rfl⟩ : ∃ k : Nat, m = k := ⟨m.toNat, by omega⟩
    have hb : decide ((k : Int) < 0) = false := decide_eq_false hneg
    have HLOW : Hid (∀ W, Kept w W → Calls Try.prog 28 #[.pointer (some ⟨g, 0, none⟩), .int .i64 (k : Nat)] W fun e w' => GotI W ((rowsL n f 1).take k) W e w') := fun W hW => lowest_any g c n cap f k hm.2 W (HM.out.kept hW)
    by_cases hfew : (rowsL n f 1).length < k
    · have HE : Hid (takeE n f (k : Nat) = 6) := by show _ = _; unfold takeE; rw [if_neg hneg, if_pos (by omega)]
      have HL : Hid (takeL n f (k : Nat) = []) := by show _ = _; unfold takeL; rw [HE.out]; rfl
      have HF : Hid (takeF n f (k : Nat) = f) := by show _ = _; unfold takeF; rw [HL.out, letF_nil]
      have HTK : Hid (((rowsL n f 1).take k).length < k) := by show _ < _; rw [List.length_take]; omega
      clear hneg hfew
      go_enter Try.func12, Try.ntmps12
      go_wp2_with (go_at_call 27; refine (none_any g _ HM.out.made).mono ?_; rintro e w ⟨rfl, rfl⟩)
      refine (HLOW.out _ (Kept.refl _)).mono ?_
      rintro e w1 ⟨v, rfl, hG, hK⟩
      obtain ⟨a, ca, rfl, _⟩ := hG.ints
      have HK := Lib.hid hK
      have htk := HTK.out
      clear hG hK HLOW HTK
      generalize ((rowsL n f 1).take k).length = N at *
      go_wp2_with fail
      go_ret2
      rw [HE.out, HL.out, HF.out]
      exact ⟨none, 0, rfl, GatI.nil _ _, HM.out.kept HK.out, HK.out.but _⟩
    · have HE : Hid (takeE n f (k : Nat) = 0) := by show _ = _; unfold takeE; rw [if_neg hneg, if_neg (by omega)]
      have HL : Hid (takeL n f (k : Nat) = (rowsL n f 1).take k) := by show _ = _; unfold takeL; rw [HE.out]; rfl
      have HTK : Hid (((rowsL n f 1).take k).length = k) := by show _ = _; rw [List.length_take]; omega
      have HIN : Hid (∀ i, i < ((rowsL n f 1).take k).length → ∃ j : Nat, nthI ((rowsL n f 1).take k) i = j ∧ j < n) := fun i hi => by
        rw [← nthI_get _ i hi]
        obtain ⟨j, h1, h2, _⟩ := rowsL_mem.1 (List.mem_of_mem_take (List.getElem_mem hi))
        exact ⟨j, h1, h2⟩
      have HLM : Hid (((rowsL n f 1).take k).length ≤ maxLen) := by
        show _ ≤ _
        have := rowsL_le n f 1
        rw [List.length_take]; unfold maxLen; omega
      have HF : Hid (takeF n f (k : Nat) = letF f 2 ((rowsL n f 1).take k)) := by show _ = _; unfold takeF; rw [HL.out]
      clear hneg hfew
      generalize (rowsL n f 1).take k = l at *
      rw [HTK.out] at HLM HIN
      obtain ⟨N, hN⟩ : ∃ N, N = l.length := ⟨_, rfl⟩
      rw [← hN] at HTK
      obtain rfl := HTK.out
      clear HTK
      have HN := Lib.hid hN
      clear hN
      go_enter Try.func12, Try.ntmps12
      go_wp2_with (go_at_call 27; refine (none_any g _ HM.out.made).mono ?_; rintro e w ⟨rfl, rfl⟩)
      refine (HLOW.out _ (Kept.refl _)).mono ?_
      rintro e w1 ⟨v, rfl, hG, hK⟩
      obtain ⟨a, ca, rfl, hI⟩ := hG.ints
      have HG := Lib.hid hG
      have hA : Apart a c := fun x hx => by
        subst hx
        have := (hG.lt x.block rfl).1
        have := HM.out.lt
        omega
      have HLET := Lib.hid (let_any g c n cap f 2 (by decide) a ca l (by rw [← HN.out]; exact HLM.out) (by rw [← HN.out]; exact HIN.out) w1 (HM.out.kept hK) hI hA)
      have HK := Lib.hid hK
      rw [← HN.out] at HLET HG ⊢
      clear hG hK HLOW hI hA HIN HLM
      go_wp2_with fail
      refine HLET.out.mono ?_
      rintro e w2 ⟨rfl, hM2, hB2⟩
      have HM2 := Lib.hid hM2
      have HB2 := Lib.hid hB2
      clear hM2 hB2 HLET
      go_wp2_with fail
      go_ret2
      rw [HE.out, HL.out, HF.out]
      refine ⟨a, ca, by rw [← HN.out]; rfl, ?_, HM2.out, (HK.out.but _).trans HB2.out⟩
      rw [← HN.out]
      exact HG.out.kept' HB2.out HM.out.lt
end Go.Proofs.Ytleohicgbpebnaa
