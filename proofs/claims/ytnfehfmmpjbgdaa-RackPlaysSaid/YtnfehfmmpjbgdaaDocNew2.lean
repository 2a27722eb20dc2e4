/- The document's new rack, as it is made. -/
import Derived.Test.YtnfehfmmpjbgdaaDocNew
import Derived.BigRegion
namespace Go.Proofs.Ytnfehfmmpjbgdaa
open Go.RowKit RSt
set_option linter.unusedVariables false
theorem one_news (w : World) (v : Value) (t : TypeId) : ∀ j u, [v][j]? = some u → (w.alloc (.cells #[v] t)).cell? ((⟨w.heap.size, 0, none⟩ : Addr).add j) = some u := by
  intro j u hj
  match j, hj with
  | 0, hj =>
    simp at hj
    subst hj
    rw [add_at, World.cell?_alloc_mark]
    rfl
theorem one_slice (a : Option Addr) (n c : Nat) : ∀ u ∈ [Value.slice a n c], u.oneCell' = true := by
  intro u hu
  simp at hu
  subst hu
  rfl
theorem Kept.size {w w' : World} (h : Kept w w') : w.heap.size ≤ w'.heap.size := Below.size h
theorem one_news2 (W : World) (o : Obj) (v : Value) (t : TypeId) : ∀ j u, [v][j]? = some u → ((W.alloc o).alloc (.cells #[v] t)).cell? ((⟨W.heap.size + 1, 0, none⟩ : Addr).add j) = some u := by
  have h := one_news (W.alloc o) v t
  rw [size_alloc] at h
  exact h
theorem marks_row (W : World) (k : Nat) (ob : Obj) : Rowf ((W.alloc (.cells (madeCells #[.bool false] k) 4)).alloc ob) W.heap.size 4 k fun _ => .bool false :=
  ⟨_, heap_alloc2_old W _ ob, fun j hj => made_one _ _ _ hj⟩
theorem replicate_map (k : Nat) (z : ByteArray) (j : Nat) (h : j < k) : ((List.replicate k z).map Value.string)[j]? = some (.string z) := by
  rw [List.getElem?_map, List.getElem?_replicate, if_pos h]; rfl
set_option maxHeartbeats 4000000 in
set_option maxRecDepth 100000 in
theorem dNew_ok (n m : Nat) (hn1 : 1 ≤ n) (hn2 : n ≤ 12) (hm1 : 1 ≤ m) (hm2 : m ≤ 4096) (w : World) :
    Calls Try.prog 10 #[.int .i64 (n : Nat), .int .i64 (m : Nat)] w fun r w' => r = .returned (.tuple #[.pointer (some ⟨w.heap.size + 1, 0, none⟩), .int .i64 0]) ∧ Kept w w' ∧ ∃ L : DLay, L.x = w.heap.size + 1 ∧ DocAt L w.heap.size w'.heap.size (rack0 n m) w' := by
  have b1 : decide ((n : Int) < 1) = false := decide_eq_false (by omega)
  have b2 : decide ((12 : Int) < n) = false := decide_eq_false (by omega)
  have b3 : decide ((m : Int) < 1) = false := decide_eq_false (by omega)
  have b4 : decide ((4096 : Int) < m) = false := decide_eq_false (by omega)
  have hmu := make_u64s n hn2
  obtain ⟨MU, hMU⟩ : ∃ MU, MU = madeCells #[Value.int .u64 0] n := ⟨_, rfl⟩
  rw [← hMU] at hmu
  have HMU := Lib.hid hMU
  have HMB := Lib.hid (make_bools m hm2)
  obtain ⟨nz, hnz⟩ : ∃ nz, nz = none64 := ⟨_, rfl⟩
  have hnone := none_text
  rw [← hnz] at hnone
  have HNONE := Lib.hid hnone
  have HNZ := Lib.hid hnz
  clear hMU hnone hnz
  go_enter Try.func10, Try.ntmps10
  go_wp2_with fail
  have hst : DocNew w.heap.size n m 0 0 (fun _ => 0) (fun _ => 0) (fun _ => 0) (.slice none 0 0) (.slice none 0 0) ((w.alloc (.cells MU 36)).alloc (.cells #[.slice none 0 0, .slice none 0 0, .slice (some ⟨w.heap.size, 0, none⟩) n n, .int .i64 (-1)] 61)) := by rw [HMU.out]; exact DocNew.start w n m
  have hkk : Kept w ((w.alloc (.cells MU 36)).alloc (.cells #[.slice none 0 0, .slice none 0 0, .slice (some ⟨w.heap.size, 0, none⟩) n n, .int .i64 (-1)] 61)) := ((Kept.refl _).alloc _).alloc _
  generalize hw0 : (w.alloc (.cells MU 36)).alloc (.cells #[.slice none 0 0, .slice none 0 0, .slice (some ⟨w.heap.size, 0, none⟩) n n, .int .i64 (-1)] 61) = w0 at *
  have HST := Lib.hid hst
  have HKK := Lib.hid hkk
  clear hw0 hmu hst hkk
  go_loopw [7] (fun i wr => ∃ d : Nat, d ≤ n ∧ i = .int .i64 d ∧ Hid (Kept w wr) ∧ Hid (∃ T B ct vS vB, DocNew w.heap.size n m d d T B ct vS vB wr)) (fun i _ => n - (intOf i).toNat)
  case atStart => exact ⟨0, Nat.zero_le _, rfl, HKK, ⟨_, _, _, _, _, HST.out⟩⟩
  case round =>
    obtain ⟨d, hd, rfl, HK, HE⟩ := hrel
    by_cases hlt : d < n
    · obtain ⟨T, B, ct, vS, vB, hN⟩ := HE.out
      have HN := Lib.hid hN
      obtain ⟨W2, hW2⟩ : ∃ W2, W2 = wr := ⟨_, rfl⟩
      subst hW2
      clear hN HE HST HKK
      go_wp2_with fail
      go_loopw [8, 9] (fun x i wr => ∃ k : Nat, k ≤ m ∧ i = .int .i64 k ∧ Hid (Kept W2 wr) ∧ Hid (Gat W2.heap.size x (List.replicate k nz) wr)) (fun _ i _ => m - (intOf i).toNat)
      case atStart => exact ⟨0, Nat.zero_le _, rfl, Kept.refl _, Gat.nil _ _⟩
      case round =>
        obtain ⟨k, hk, rfl, HK2, HG⟩ := hrel
        by_cases hlk : k < m
        · go_wp2_with fail
          refine (HNONE.out _).mono ?_
          rintro e wn ⟨rfl, hkn⟩
          have KN : Hid (Kept W2 wn) := HK2.out.trans hkn
          have GN : Hid (Gat W2.heap.size u8 (List.replicate k nz) wn) := HG.out.kept hkn
          clear hkn
          go_wp2_with (first | (at_builtin; refine wpList_gat _ rfl (.tmp 38) (.tmp 40) 46 rfl Try.underlying46 W2 _ (List.replicate k nz) rfl (GN.out.kept ((Kept.refl _).alloc _)) (KN.out.alloc _) nz wn.heap.size rfl (by rw [World.cell?_alloc_mark]; rfl) (by rw [List.length_replicate]; omega) ?_; intro v9 w9 hG9 hK9))
          have HG9 : Hid (Gat W2.heap.size v9 (List.replicate (k + 1) nz) w9) := by
            show Gat _ _ _ _
            rw [List.replicate_succ']
            exact hG9
          have HK9 := Lib.hid hK9
          clear hG9 hK9
          go_wp2_with fail
          exact ⟨⟨k + 1, by omega, by go_num, HK9, HG9⟩, by simp [intOf]; omega⟩
        · obtain rfl : k = m := by omega
          have hgo : wr.ownsRow W2.heap.size 9 1 u8 (List.replicate k nz).length ((List.replicate k nz).map Value.string) := HG.out
          rw [List.length_replicate] at hgo
          obtain ⟨tb, cp, rfl, htb, hrow⟩ := own_row hgo hm1 (fun _ => .string nz) (fun j hj => replicate_map k nz j hj)
          rw [HNZ.out] at hrow
          have HROW := Lib.hid hrow
          have HTB : Hid (∀ i, i < d → T i ≠ tb) := fun i hi c => by
            have h1 := (HN.out.ot i hi).lt
            omega
          have HTG : Hid (w.heap.size ≤ tb) := by show _ ≤ _; have := HK.out.size; omega
          have HN2 := Lib.hid (HN.out.kept HK2.out)
          have KW2 : Hid (Kept w wr) := HK.out.trans HK2.out
          obtain ⟨i1, hi1, hzz⟩ := Option.map_eq_some_iff.1 info_strs
          simp only [Prod.mk.injEq] at hzz
          obtain ⟨hz1, hz2, hz3⟩ := hzz
          have c0 : wr.cell? ⟨w.heap.size + 1, 0, none⟩ = some vS := HN2.out.ox.cell 0 (by decide)
          have hgx : w.heap.size + 1 < wr.heap.size := HN2.out.ox.lt
          have HNA : Hid (∀ ob, DocNew w.heap.size n k d d T B ct vS vB (wr.alloc ob)) := fun ob => HN2.out.kept ((Kept.refl _).alloc _)
          clear hgo hrow HG
          go_upto_region 13 with (first | (at_builtin; refine wpList_append_lies _ rfl (.tmp 46) (.tmp 48) 58 rfl w.heap.size 46 i1 (.slice none 0 0) 1 24 Try.underlying58 hi1 hz1 hz2 hz3 rfl (by decide) vS d ((List.range d).map fun i => .slice (some ⟨T i, 0, none⟩) k (ct i)) rfl (HNA.out _).gs ⟨wr.heap.size, 0, none⟩ 1 1 [.slice (some ⟨tb, 0, none⟩) k cp] rfl rfl (one_news _ _ _) (one_slice _ _ _) (by decide) (by unfold maxLen; omega) (by omega) (KW2.out.alloc _).size _ rfl ?_; intro G9 c9 w9 ho9 hg9 hor9 hlt9; have x9 := (HNA.out _).ox.frame (hg9.block _ (HNA.out _).ox.lt (own_ne HN2.out.gs HN2.out.ox (by decide))); have y9 : w9.cell? ⟨w.heap.size + 1, 0, none⟩ = some vS := x9.cell 0 (by decide); have z9 := x9.free 0))
          have HS : Hid (DocNew w.heap.size n k (d + 1) d (fun i => if i = d then tb else T i) B (fun i => if i = d then cp else ct i) (.slice (some ⟨G9, 0, none⟩) (d + 1) c9) vB (w9.setCell ⟨w.heap.size + 1, 0, none⟩ (.slice (some ⟨G9, 0, none⟩) (d + 1) c9))) :=
            (HNA.out _).pushS tb cp (HROW.out.frame (((Kept.refl wr).alloc _).block _ HROW.out.lt)) HTB.out HTG.out ho9 hg9
          have K4 : Hid (Kept w (w9.setCell ⟨w.heap.size + 1, 0, none⟩ (.slice (some ⟨G9, 0, none⟩) (d + 1) c9))) := (Below.grown (KW2.out.alloc _) hg9 (KW2.out.alloc _).size (fun q hq => (HN2.out.gs.lt q hq).1)).setCell (show w.heap.size ≤ w.heap.size + 1 by omega) _
          generalize w9.setCell ⟨w.heap.size + 1, 0, none⟩ (.slice (some ⟨G9, 0, none⟩) (d + 1) c9) = W4 at *
          clear x9 y9 z9 ho9 hg9 hor9 hlt9 c0 hgx HNA HN2 HN HROW HTB HTG htb KW2 HK2 HK hi1 hz1 hz2 hz3
          obtain ⟨i2, hi2, hzz⟩ := Option.map_eq_some_iff.1 info_bools
          simp only [Prod.mk.injEq] at hzz
          obtain ⟨hz1, hz2, hz3⟩ := hzz
          have c1 : W4.cell? ⟨w.heap.size + 1, 1, none⟩ = some vB := HS.out.ox.cell 1 (by decide)
          have hgx : w.heap.size + 1 < W4.heap.size := HS.out.ox.lt
          have hmb := HMB.out
          obtain ⟨MB, hMB⟩ : ∃ MB, MB = madeCells #[Value.bool false] k := ⟨_, rfl⟩
          rw [← hMB] at hmb
          have HMBE := Lib.hid hMB
          have HSB : Hid (∀ W, Kept W4 W → W.ownsRow w.heap.size 63 1 vB d ((List.range d).map fun i => .slice (some ⟨B i, 0, none⟩) k k)) := fun W hW => (HS.out.kept hW).gb
          have HSX : Hid (∀ W w5, Kept W4 W → World.grownBy W w5 vB.ownBlock → w5.cell? ⟨w.heap.size + 1, 1, none⟩ = some vB ∧ w5.frozen? ⟨w.heap.size + 1, 1, none⟩ = false) := fun W w5 hW hg => by
            have hD := HS.out.kept hW
            have hx := hD.ox.frame (hg.block _ hD.ox.lt (own_ne hD.gb hD.ox (by decide)))
            exact ⟨hx.cell 1 (by decide), hx.free 1⟩
          have a1 : ∀ o, (W4.alloc o).cell? ⟨w.heap.size + 1, 1, none⟩ = some vB := fun o => cell_kept c1 ((Kept.refl _).alloc _)
          have a2 : ∀ o o2, ((W4.alloc o).alloc o2).cell? ⟨w.heap.size + 1, 1, none⟩ = some vB := fun o o2 => cell_kept c1 (((Kept.refl _).alloc _).alloc _)
          clear hMB
          go_region_law (first
            | (refine step_append_lies _ rfl (.tmp 56) (.tmp 59) 59 rfl w.heap.size 63 i2 (.slice none 0 0) 1 24 Try.underlying59 hi2 hz1 hz2 hz3 rfl (by decide) vB d ((List.range d).map fun i => .slice (some ⟨B i, 0, none⟩) k k) (by rfl) (HSB.out _ (by first | exact ((Kept.refl _).alloc _).alloc _ | exact (((Kept.refl _).alloc _).alloc _).drew)) ⟨W4.heap.size + 1, 0, none⟩ 1 1 [.slice (some ⟨W4.heap.size, 0, none⟩) k k] (by rfl) rfl (one_news2 _ _ _ _) (one_slice _ _ _) (by decide) (by unfold maxLen; omega) (by omega) (Kept.size (by first | exact (K4.out.alloc _).alloc _ | exact ((K4.out.alloc _).alloc _).drew)) _ rfl ?_; intro G5 c5 w5 ho5 hg5 hor5 hlt5; obtain ⟨y5, z5⟩ := HSX.out _ w5 (by first | exact ((Kept.refl _).alloc _).alloc _ | exact (((Kept.refl _).alloc _).alloc _).drew) hg5))
          all_goals
            have HNB : Hid (DocNew w.heap.size n k (d + 1) (d + 1) (fun i => if i = d then tb else T i) (fun i => if i = d then W4.heap.size else B i) (fun i => if i = d then cp else ct i) (.slice (some ⟨G9, 0, none⟩) (d + 1) c9) (.slice (some ⟨G5, 0, none⟩) (d + 1) c5) (w5.setCell ⟨w.heap.size + 1, 1, none⟩ (.slice (some ⟨G5, 0, none⟩) (d + 1) c5))) :=
              (HS.out.kept (by first | exact ((Kept.refl _).alloc _).alloc _ | exact (((Kept.refl _).alloc _).alloc _).drew)).pushB W4.heap.size (by rw [HMBE.out]; exact marks_row W4 k _) (fun i hi c => by have := (HS.out.od i hi).lt; omega) K4.out.size ho5 hg5
            have HK5 : Hid (Kept w (w5.setCell ⟨w.heap.size + 1, 1, none⟩ (.slice (some ⟨G5, 0, none⟩) (d + 1) c5))) :=
              (Below.grown (by first | exact (K4.out.alloc _).alloc _ | exact ((K4.out.alloc _).alloc _).drew) hg5 (Kept.size (by first | exact (K4.out.alloc _).alloc _ | exact ((K4.out.alloc _).alloc _).drew)) (fun q hq => (HS.out.gb.lt q hq).1)).setCell (show w.heap.size ≤ w.heap.size + 1 by omega) _
            clear ho5 hg5 hor5 hlt5 y5 z5 c1 a1 a2
            go_wp2_with fail
            exact ⟨⟨d + 1, by omega, by go_num, HK5, ⟨_, _, _, _, _, HNB.out⟩⟩, by simp [intOf]; omega⟩
    · obtain rfl : d = n := by omega
      obtain ⟨T, B, ct, vS, vB, hN⟩ := HE.out
      obtain ⟨L, hL, hD⟩ := hN.doc hn1 hn2 hm1 hm2
      have HD := Lib.hid hD
      have HL := Lib.hid hL
      clear hN hD hL
      go_wp2_with fail
      go_ret2
      exact ⟨rfl, HK.out, L, HL.out, HD.out⟩
set_option maxHeartbeats 1000000 in
set_option maxRecDepth 100000 in
theorem dNew_bad (n m : Int) (hn1 : -9223372036854775808 ≤ n) (hn2 : n ≤ 9223372036854775807) (hm1 : -9223372036854775808 ≤ m) (hm2 : m ≤ 9223372036854775807) (h : ¬ (1 ≤ n ∧ n ≤ 12 ∧ 1 ≤ m ∧ m ≤ 4096)) (w : World) :
    Calls Try.prog 10 #[.int .i64 n, .int .i64 m] w fun r w' => r = .returned (.tuple #[.pointer none, .int .i64 2]) ∧ Kept w w' := by
  by_cases h1 : n < 1
  · have b1 : decide (n < 1) = true := decide_eq_true h1
    go_enter Try.func10, Try.ntmps10
    go_wp2_with fail
    go_ret2
    exact ⟨rfl, Kept.refl _⟩
  · have b1 : decide (n < 1) = false := decide_eq_false h1
    by_cases h2 : 12 < n
    · have b2 : decide (12 < n) = true := decide_eq_true h2
      go_enter Try.func10, Try.ntmps10
      go_wp2_with fail
      go_ret2
      exact ⟨rfl, Kept.refl _⟩
    · have b2 : decide (12 < n) = false := decide_eq_false h2
      by_cases h3 : m < 1
      · have b3 : decide (m < 1) = true := decide_eq_true h3
        go_enter Try.func10, Try.ntmps10
        go_wp2_with fail
        go_ret2
        exact ⟨rfl, Kept.refl _⟩
      · have b3 : decide (m < 1) = false := decide_eq_false h3
        have b4 : decide (4096 < m) = true := decide_eq_true (by omega)
        go_enter Try.func10, Try.ntmps10
        go_wp2_with fail
        go_ret2
        exact ⟨rfl, Kept.refl _⟩
end Go.Proofs.Ytnfehfmmpjbgdaa
