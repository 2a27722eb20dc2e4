/- A drive's roots, as the document's own Vote reads them. -/
import Derived.Test.YtoekaabngjjefaaGreatPart30
import Derived.Test.YtoekaabngjjefaaGreatPart29
namespace Go.Proofs.YtoekaabngjjefaaGreat
open Go.RowKit Sm Wr _root_.Go.Proofs.YtoekaabngjjefaaGreat.Nm
set_option linter.unusedVariables false
theorem rtAt_none {l : List UInt8} {k : Nat} (h : decR l = .none) : rtAt l k = Rt.none := by unfold rtAt; rw [h]
theorem rtAt_some {l : List UInt8} {k : Nat} {x : Rt} (h : decR l = some x) : rtAt l k = if x.gen % 2 = k then x else Rt.none := by unfold rtAt; rw [h]
theorem rtAt_le (l : List UInt8) (k : Nat) : (rtAt l k).gen ≤ 281474976710656 := by
  unfold rtAt
  cases h : decR l with
  | none => exact Nat.zero_le _
  | some x =>
    dsimp only
    split
    · exact (Rt.may_iff (decR_some h).1).2.1
    · exact Nat.zero_le _
def rk (s : RSt) (d k : Nat) : Rt := rtAt (s.readT d k).data.toList k
theorem rk_range (s : RSt) (d k : Nat) : (List.range (k + 1)).map (rk s d) = (List.range k).map (rk s d) ++ [rk s d k] := by rw [List.range_succ, List.map_append]; rfl
def SlotsOut (s : RSt) (d : Nat) (B : Nat) (w' : World) (v : Value) (b : Bool) (c : Nat) : Prop :=
  (s.down = true ∧ b = false ∧ c = 71) ∨ (s.down = false ∧ c = 0 ∧ slotsR s d = .none ∧ b = false) ∨
  (s.down = false ∧ c = 0 ∧ b = true ∧ ∃ q cap, slotsR s d = some (rk s d 0, rk s d 1) ∧ v = .slice (some ⟨q, 0, none⟩) 2 cap ∧ B ≤ q ∧ RtIn w' q 0 (rk s d 0) ∧ RtIn w' q 5 (rk s d 1))
set_option maxHeartbeats 2000000 in
set_option maxRecDepth 100000 in
theorem rSlots_any (L : DLay) (lo hi : Nat) (s : RSt) (d : Nat) (w : World) (hd : d < s.n) (hD : DocAt L lo hi s w) :
    Calls Tryz.prog 65 #[.pointer (some ⟨L.x, 0, none⟩), .int .i64 d] w fun e w' => (∃ v b c, e = .returned (.tuple #[v, .bool b, .int .i64 ((c : Nat) : Int)]) ∧ SlotsOut s d w.heap.size w' v b c) ∧ Kept w w' := by
  have HRD := Lib.hid (fun (k : Nat) W h => dRead_any L lo hi s d k W h)
  have HTS : Hid (∀ k : Nat, (s.readT d k).size ≤ maxLen) := fun k => by
    unfold maxLen
    by_cases hz : s.readE d k = 0
    · have := readT_64 s hD.wf d k hz; omega
    · unfold RSt.readT; rw [if_neg hz]; decide
  have HD := Lib.hid hD
  have HSN : Hid (∀ k : Nat, k < 2 → s.readE d k ≠ 71 → s.readE d k ≠ 0 → slotsR s d = .none) := fun k hk _ h0 => by
    unfold slotsR
    rw [if_neg]
    rintro ⟨h1, h2⟩
    rcases (show k = 0 ∨ k = 1 by omega) with rfl | rfl
    · exact h0 h1
    · exact h0 h2
  have HDN : Hid (∀ k : Nat, s.readE d k = 71 ↔ s.down = true) := fun k => readE_71 s d k
  clear hD
  go_enter Tryz.func65, Tryz.ntmps65
  go_wp2_with fail
  go_loopw [8, 7] (fun i v wr => ∃ k : Nat, k ≤ 2 ∧ i = .int .i64 k ∧ Hid ((∀ j : Nat, j < k → s.readE d j = 0) ∧ GatR w.heap.size v ((List.range k).map (rk s d)) wr ∧ Kept w wr)) (fun i _ _ => 2 - (intOf i).toNat)
  case atStart => exact ⟨0, by omega, rfl, fun j hj => absurd hj (by omega), GatR.nil _ _, Kept.refl _⟩
  case round =>
    obtain ⟨k, hk, rfl, HI⟩ := hrel
    have HP := Lib.hid HI.out.1
    have HG := Lib.hid HI.out.2.1
    have HK := Lib.hid HI.out.2.2
    clear HI
    by_cases hlt : k < 2
    · have b1 : decide ((k : Int) < 2) = true := decide_eq_true (by omega)
      have HR := Lib.hid (HRD.out k wr (HD.out.kept HK.out))
      have HT := Lib.hid (HTS.out k)
      have HRK0 : Hid (rk s d k = rtAt (s.readT d k).data.toList k) := rfl
      have HE1 := Lib.hid (HDN.out k)
      have HE2 := Lib.hid (HSN.out k hlt)
      obtain ⟨E, hE⟩ : ∃ E, E = s.readE d k := ⟨_, rfl⟩
      have HEE : Hid (E = s.readE d k) := hE
      rw [← hE] at HR HE1 HE2
      clear hE HRD HTS HDN HSN
      generalize s.readT d k = T at *
      go_wp2_with fail
      refine HR.out.mono ?_
      rintro e wr2 ⟨rfl, rfl⟩
      clear HR
      by_cases h71 : E = 71
      · have e1 : ((E : Int) == 71) = true := by rw [beq_iff_eq]; omega
        have HSO : Hid (∀ v, SlotsOut s d w.heap.size wr2 v false 71) := fun v => .inl ⟨HE1.out.1 h71, rfl, rfl⟩
        subst h71
        go_wp2_with fail
        exact bodyPost_ret (v := .tuple #[.slice none 0 0, .bool false, .int .i64 71]) (by simp [results, Tryz.results65, go_sem]) rfl ⟨⟨_, _, 71, rfl, HSO.out _⟩, HK.out⟩
      · have e1 : ((E : Int) == 71) = false := by rw [beq_eq_false_iff_ne]; omega
        have HND : Hid (s.down = false) := by
          show _ = _
          cases h : s.down
          · rfl
          · exact absurd (HE1.out.2 h) h71
        by_cases h0 : E = 0
        · have e2 : ((E : Int) != 0) = false := by rw [h0]; rfl
          have HE0 : Hid (s.readE d k = 0) := by show _ = _; rw [← HEE.out]; exact h0
          clear HE1 HE2 h0 h71
          go_wp2_with fail
          refine (rDecode_any T _ HT.out).mono ?_
          rintro e v1 ⟨rfl, hk2⟩
          have HK1 : Hid (Kept w v1) := HK.out.trans hk2
          have HG1 := Lib.hid (HG.out.kept hk2)
          clear hk2 HK HG
          cases hdc : decR T.data.toList with
          | none =>
            have HRK : Hid (rk s d k = Rt.none) := by show _ = _; rw [HRK0.out, rtAt_none hdc]
            unfold decV Rt.val Rt.none
            dsimp only
            clear HRK0 hdc
            go_upto_region 13 with fail
            have HKA : Hid (Kept w (v1.alloc (.cells #[.int .u64 0, .int .u64 0, .int .i64 0, .int .u64 0, .int .i64 0] 38))) := HK1.out.alloc _
            have HGA := Lib.hid (HG1.out.kept ((Kept.refl _).alloc (.cells #[.int .u64 0, .int .u64 0, .int .i64 0, .int .u64 0, .int .i64 0] 38)))
            have HXA := Lib.hid (RtAt.laid v1 38 Rt.none)
            have HXA : Hid (RtAt (v1.alloc (.cells #[.int .u64 0, .int .u64 0, .int .i64 0, .int .u64 0, .int .i64 0] 38)) v1.heap.size Rt.none) := HXA.out
            clear HK1 HG1
            generalize v1.alloc (.cells #[.int .u64 0, .int .u64 0, .int .i64 0, .int .u64 0, .int .i64 0] 38) = W at *
            generalize v1.heap.size = B at *
            have x0 := HXA.out.c0
            have x1 := HXA.out.c1
            have x2 := HXA.out.c2
            have x3 := HXA.out.c3
            have x4 := HXA.out.c4
            (try dsimp only [Rt.none] at x0 x1 x2 x3 x4)
            have HLN : Hid (((List.range k).map (rk s d)).length ≤ 1000000000) := by show _ ≤ _; rw [List.length_map, List.length_range]; omega
            go_wp2_with (first | (at_builtin; go_must (refine wpList_gatR _ rfl (.tmp 45) (.tmp 47) 129 rfl Tryz.underlying129 w _ ((List.range k).map (rk s d)) rfl (HGA.out.kept ((Kept.refl _).alloc _)) (HKA.out.alloc _) Rt.none W.heap.size rfl (new_cells W Rt.none _) HLN.out ?_); intro v9 w9 hG9 hK9))
            refine ⟨⟨k + 1, by omega, by go_num, ?_, ?_, hK9⟩, by simp [intOf]; omega⟩
            · intro j hj
              rcases Nat.lt_or_ge j k with h | h
              · exact HP.out j h
              · rw [show j = k by omega]; exact HE0.out
            · rw [rk_range, HRK.out]; exact hG9
          | some y =>
            have hym := (decR_some hdc).1
            obtain ⟨y1, y2, _⟩ := Rt.may_iff hym
            clear hym
            unfold decV Rt.val
            dsimp only
            by_cases hp : y.gen % 2 = k
            · have HRK : Hid (rk s d k = y) := by show _ = _; rw [HRK0.out, rtAt_some hdc, if_pos hp]
              have e3 : ((y.gen : Int) % 2 != (k : Int)) = false := by rw [show ((y.gen : Int) % 2) = (k : Int) by omega]; simp
              clear HRK0 hdc
              go_upto_region 13 with fail
              have HKA : Hid (Kept w (v1.alloc (.cells #[.int .u64 (y.gen : Nat), .int .u64 (y.nxt : Nat), .int .i64 y.row, .int .u64 (y.st : Nat), .int .i64 y.len] 38))) := HK1.out.alloc _
              have HGA := Lib.hid (HG1.out.kept ((Kept.refl _).alloc (.cells #[.int .u64 (y.gen : Nat), .int .u64 (y.nxt : Nat), .int .i64 y.row, .int .u64 (y.st : Nat), .int .i64 y.len] 38)))
              have HXA := Lib.hid (RtAt.laid v1 38 y)
              have HXA : Hid (RtAt (v1.alloc (.cells #[.int .u64 (y.gen : Nat), .int .u64 (y.nxt : Nat), .int .i64 y.row, .int .u64 (y.st : Nat), .int .i64 y.len] 38)) v1.heap.size y) := HXA.out
              clear HK1 HG1
              generalize v1.alloc (.cells #[.int .u64 (y.gen : Nat), .int .u64 (y.nxt : Nat), .int .i64 y.row, .int .u64 (y.st : Nat), .int .i64 y.len] 38) = W at *
              generalize v1.heap.size = B at *
              have x0 := HXA.out.c0
              have x1 := HXA.out.c1
              have x2 := HXA.out.c2
              have x3 := HXA.out.c3
              have x4 := HXA.out.c4
              (try dsimp only [Rt.none] at x0 x1 x2 x3 x4)
              have HLN : Hid (((List.range k).map (rk s d)).length ≤ 1000000000) := by show _ ≤ _; rw [List.length_map, List.length_range]; omega
              go_wp2_with (first | (at_builtin; go_must (refine wpList_gatR _ rfl (.tmp 45) (.tmp 47) 129 rfl Tryz.underlying129 w _ ((List.range k).map (rk s d)) rfl (HGA.out.kept ((Kept.refl _).alloc _)) (HKA.out.alloc _) y W.heap.size rfl (new_cells W y _) HLN.out ?_); intro v9 w9 hG9 hK9))
              refine ⟨⟨k + 1, by omega, by go_num, ?_, ?_, hK9⟩, by simp [intOf]; omega⟩
              · intro j hj
                rcases Nat.lt_or_ge j k with h | h
                · exact HP.out j h
                · rw [show j = k by omega]; exact HE0.out
              · rw [rk_range, HRK.out]; exact hG9
            · have HRK : Hid (rk s d k = Rt.none) := by show _ = _; rw [HRK0.out, rtAt_some hdc, if_neg hp]
              have e3 : ((y.gen : Int) % 2 != (k : Int)) = true := by rw [bne_iff_ne]; omega
              clear HRK0 hdc
              go_upto_region 13 with fail
              have HKA : Hid (Kept w (v1.alloc (.cells #[.int .u64 0, .int .u64 0, .int .i64 0, .int .u64 0, .int .i64 0] 38))) := HK1.out.alloc _
              have HGA := Lib.hid (HG1.out.kept ((Kept.refl _).alloc (.cells #[.int .u64 0, .int .u64 0, .int .i64 0, .int .u64 0, .int .i64 0] 38)))
              have HXA := Lib.hid (RtAt.laid v1 38 Rt.none)
              have HXA : Hid (RtAt (v1.alloc (.cells #[.int .u64 0, .int .u64 0, .int .i64 0, .int .u64 0, .int .i64 0] 38)) v1.heap.size Rt.none) := HXA.out
              clear HK1 HG1
              generalize v1.alloc (.cells #[.int .u64 0, .int .u64 0, .int .i64 0, .int .u64 0, .int .i64 0] 38) = W at *
              generalize v1.heap.size = B at *
              have x0 := HXA.out.c0
              have x1 := HXA.out.c1
              have x2 := HXA.out.c2
              have x3 := HXA.out.c3
              have x4 := HXA.out.c4
              (try dsimp only [Rt.none] at x0 x1 x2 x3 x4)
              have HLN : Hid (((List.range k).map (rk s d)).length ≤ 1000000000) := by show _ ≤ _; rw [List.length_map, List.length_range]; omega
              go_wp2_with (first | (at_builtin; go_must (refine wpList_gatR _ rfl (.tmp 45) (.tmp 47) 129 rfl Tryz.underlying129 w _ ((List.range k).map (rk s d)) rfl (HGA.out.kept ((Kept.refl _).alloc _)) (HKA.out.alloc _) Rt.none W.heap.size rfl (new_cells W Rt.none _) HLN.out ?_); intro v9 w9 hG9 hK9))
              refine ⟨⟨k + 1, by omega, by go_num, ?_, ?_, hK9⟩, by simp [intOf]; omega⟩
              · intro j hj
                rcases Nat.lt_or_ge j k with h | h
                · exact HP.out j h
                · rw [show j = k by omega]; exact HE0.out
              · rw [rk_range, HRK.out]; exact hG9
        · have e2 : ((E : Int) != 0) = true := by rw [bne_iff_ne]; omega
          have HSO : Hid (∀ v, SlotsOut s d w.heap.size wr2 v false 0) := fun v => .inr (.inl ⟨HND.out, rfl, HE2.out h71 h0, rfl⟩)
          clear h71 h0
          go_wp2_with fail
          exact bodyPost_ret (v := .tuple #[.slice none 0 0, .bool false, .int .i64 0]) (by simp [results, Tryz.results65, go_sem]) rfl ⟨⟨_, _, 0, rfl, HSO.out _⟩, HK.out⟩
    · have b1 : decide ((k : Int) < 2) = false := decide_eq_false (by omega)
      obtain rfl : k = 2 := by omega
      obtain ⟨q, cap, hv, hq, hr0, hr1⟩ := GatR.two (x := rk s d 0) (y := rk s d 1) HG.out
      have HND : s.down = false := by
        cases h : s.down
        · rfl
        · have := (HDN.out 0).2 h; rw [HP.out 0 (by omega)] at this; cases this
      have hsl : slotsR s d = some (rk s d 0, rk s d 1) := by unfold slotsR; rw [if_pos ⟨HP.out 0 (by omega), HP.out 1 (by omega)⟩]; rfl
      have HSO : Hid (SlotsOut s d w.heap.size wr u7 true 0) := .inr (.inr ⟨HND, rfl, rfl, q, cap, hsl, hv, hq, hr0, hr1⟩)
      clear hv hq hr0 hr1 HND hsl
      go_wp2_with fail
      exact bodyPost_ret (v := .tuple #[u7, .bool true, .int .i64 0]) (by simp [results, Tryz.results65, go_sem]) rfl ⟨⟨_, _, 0, rfl, HSO.out⟩, HK.out⟩
end Go.Proofs.YtoekaabngjjefaaGreat
