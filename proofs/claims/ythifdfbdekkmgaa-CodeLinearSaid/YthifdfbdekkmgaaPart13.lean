/- What the program's calls on matrices answer: Cauchy. -/
import Derived.Test.YthifdfbdekkmgaaPart11
import Derived.Test.YthifdfbdekkmgaaPart12
set_option linter.unusedVariables false
set_option linter.unusedSimpArgs false
set_option linter.unusedSectionVars false
set_option linter.unnecessarySimpa false
set_option linter.deprecated false
namespace Go.Proofs.Ythifdfbdekkmgaa
open Go.RowKit Gf
set_option linter.unusedVariables false
theorem Txt.add {w0 w w' : World} {G n k m : Nat} {A : Nat → Nat → UInt8} (h : Txt G n (fillT (fun i => strOf m (A i)) k) w) (hk : Kept w0 w) (hG : w0.heap.size ≤ G) (h2 : Kept w w') (hlt : k < n) :
    Txt G n (fillT (fun i => strOf m (A i)) (k + 1)) (w'.setCell ⟨G, k, none⟩ (.string (strOf m (A k)))) ∧ Kept w0 (w'.setCell ⟨G, k, none⟩ (.string (strOf m (A k)))) :=
  ⟨((h.kept h2).set k hlt _).congr (fun j _ => fillT_next _ k j), (hk.trans h2).setCell hG _⟩
theorem cau_no (n m : Int) (h : ¬ (1 ≤ n ∧ n ≤ 64 ∧ 1 ≤ m ∧ m ≤ 64)) : [] = cauL n m ∧ 2 = cauE n m := by
  have he : cauE n m = 2 := by unfold cauE; rw [if_neg h]
  exact ⟨by unfold cauL; rw [he]; rfl, he.symm⟩
set_option maxHeartbeats 1000000 in
set_option maxRecDepth 100000 in
theorem pCauchy_any (n m : Int) (w : World) (h0 : -9223372036854775808 ≤ n) (h1 : n ≤ 9223372036854775807) (h2 : -9223372036854775808 ≤ m) (h3 : m ≤ 9223372036854775807) :
    Calls Seq.prog 40 #[.int .i64 n, .int .i64 m] w fun e w' => GotM (cauL n m) (cauE n m) w e w' := by
  go_enter Seq.func40, Seq.ntmps40
  go_wp2_with fail
  refine (side_any n _ h0 h1).mono ?_
  rintro e w1 ⟨rfl, rfl⟩
  cases hs : sideB n
  · have HE := Lib.hid (cau_no n m (fun h => sideB_no hs ⟨h.1, h.2.1⟩))
    go_wp2_with fail
    go_ret2
    rw [← HE.out.1, ← HE.out.2]
    exact GotM.nil 2 (Kept.refl _)
  · go_wp2_with fail
    refine (side_any m _ h2 h3).mono ?_
    rintro e w1 ⟨rfl, rfl⟩
    cases hs2 : sideB m
    · have HE := Lib.hid (cau_no n m (fun h => sideB_no hs2 ⟨h.2.2.1, h.2.2.2⟩))
      go_wp2_with fail
      go_ret2
      rw [← HE.out.1, ← HE.out.2]
      exact GotM.nil 2 (Kept.refl _)
    · obtain ⟨h4, h5⟩ := sideB_yes hs
      obtain ⟨h6, h7⟩ := sideB_yes hs2
      obtain ⟨N, rfl⟩ := Int.eq_ofNat_of_zero_le (show 0 ≤ n by omega)
      obtain ⟨M, rfl⟩ := Int.eq_ofNat_of_zero_le (show 0 ≤ m by omega)
      obtain ⟨A, hA⟩ : ∃ A : Nat → Nat → UInt8, (fun i j => gi (UInt8.ofNat (M + i) ^^^ UInt8.ofNat j)) = A := ⟨_, rfl⟩
      have HE : Hid (matL N M A = cauL (N : Int) (M : Int) ∧ 0 = cauE (N : Int) (M : Int)) := by
        have he : cauE (N : Int) (M : Int) = 0 := by unfold cauE; rw [if_pos ⟨h4, h5, h6, h7⟩]
        refine ⟨?_, he.symm⟩
        unfold cauL
        rw [if_pos he, ← hA]
        rfl
      have hN1 : 1 ≤ N := by omega
      have hN2 : N ≤ 64 := by omega
      have hM1 : 1 ≤ M := by omega
      have hM2 : M ≤ 64 := by omega
      have HA : Hid (∀ i j, i < N → j < M → (quo 1 ((M + i) ^^^ j)) = (A i j).toNat ∧ (M + i) ^^^ j < 256) := fun i j hi hj => by rw [← hA]; exact cau_at M i j hM2 (by omega) hj
      have hmk := fun W => make_txt N (by omega) W
      have HT := Lib.hid (Txt.made w1 N)
      have HK : Hid (Kept w1 (w1.alloc (.cells (row N fun _ => .string ByteArray.empty) 9))) := (Kept.refl _).alloc _
      clear h0 h1 h2 h3 h4 h5 h6 h7 hA
      generalize (row N fun _ => Value.string ByteArray.empty) = R0 at *
      go_upto_region 4 with fail
      generalize w1.alloc (.cells R0 9) = w2 at *
      obtain ⟨G, hG⟩ : ∃ G, w1.heap.size = G := ⟨_, rfl⟩
      have HG : Hid (w1.heap.size ≤ G) := by show _ ≤ _; omega
      rw [hG] at HT ⊢
      clear hG hmk
      go_wp2_with fail
      go_loopw [22, 7, 8, 9] (fun i _ _ _ wr => ∃ k : Nat, k ≤ N ∧ i = .int .i64 k ∧ Hid (Txt G N (fillT (fun i => strOf M (A i)) k) wr ∧ Kept w1 wr)) (fun i _ _ _ _ => N - (intOf i).toNat)
      case atStart => exact ⟨0, Nat.zero_le _, rfl, HT.out.congr (fun j hj => by unfold fillT; rw [if_neg (by omega)]), HK.out⟩
      case round =>
        obtain ⟨k, hk, rfl, HI⟩ := hrel
        by_cases hlt : k < N
        · have hmk := fun W => run_make_row' (P := Seq.prog) 41 5 (.int .u8 0) 1 Seq.underlying41 info_byte rfl .i64 .i64 M (by omega) (by omega) W
          rw [made_zero] at hmk
          have HB := Lib.hid (Byt.made wr M)
          have HK0 : Hid (Kept wr (wr.alloc (.cells (row M fun _ => .int .u8 0) 5))) := (Kept.refl _).alloc _
          have HADD := Lib.hid (fun W (hW : Kept wr W) => HI.out.1.add HI.out.2 HG.out hW hlt)
          have HTX := Lib.hid (fun W (hW : Kept wr W) => HI.out.1.kept hW)
          clear HI
          generalize hwr : wr = w4 at *
          clear hwr
          generalize (row M fun _ => Value.int .u8 0) = R at *
          go_upto_region 8 with fail
          generalize w4.alloc (.cells R 5) = w5 at *
          obtain ⟨g, hg⟩ : ∃ g, w4.heap.size = g := ⟨_, rfl⟩
          have HGG : Hid (w4.heap.size ≤ g) := by show _ ≤ _; omega
          rw [hg] at HB ⊢
          have HGL : Hid (g < w5.heap.size) := by
            have := HB.out.cell 0 (by omega)
            exact block_lt_of_cell this
          clear hg hmk
          go_wp2_with fail
          go_loopw [29, 9] (fun j _ ws => ∃ q : Nat, q ≤ M ∧ j = .int .i64 q ∧ Hid (Kept w4 ws ∧ Byt g M (part (A k) q 0) ws ∧ g < ws.heap.size)) (fun j _ _ => M - (intOf j).toNat)
          case atStart => exact ⟨0, Nat.zero_le _, rfl, HK0.out, HB.out.congr (fun t ht => by unfold part; rw [if_neg (by omega)]; split <;> rfl), HGL.out⟩
          case round =>
            obtain ⟨q, hq, rfl, HJ⟩ := hrel
            by_cases hlq : q < M
            · obtain ⟨y, hy⟩ : ∃ y, (M + k) ^^^ q = y := ⟨_, rfl⟩
              have hqv := (HA.out k q hlt hlq).1
              have hy8 := (HA.out k q hlt hlq).2
              have hadd := fun W => add_any (M + k) q (by omega) (by omega) W
              rw [hy] at hqv hy8 hadd
              rw [Int.natCast_add] at hadd
              have HQV := Lib.hid hqv
              have HAD := Lib.hid hadd
              clear hy hqv hadd
              go_wp2_with fail
              refine (HAD.out _).mono ?_
              rintro e w6 ⟨rfl, rfl⟩
              go_wp2_with fail
              refine (inv_any y hy8 _).mono ?_
              rintro e w7 ⟨rfl, k7⟩
              rw [HQV.out]
              generalize quoE y = g7 at *
              have HB7 := Lib.hid (HJ.out.2.1.kept k7 HJ.out.2.2)
              have hcell := HB7.out.cell q hlq
              have hfree := HB7.out.free q hlq
              have HF : Hid (Kept w4 (w7.setCell ⟨g, q, none⟩ (.int .u8 ((A k q).toNat : Nat))) ∧ Byt g M (part (A k) (q + 1) 0) (w7.setCell ⟨g, q, none⟩ (.int .u8 ((A k q).toNat : Nat))) ∧ g < (w7.setCell ⟨g, q, none⟩ (.int .u8 ((A k q).toNat : Nat))).heap.size) :=
                ⟨(HJ.out.1.trans k7).setCell HGG.out _, (HB7.out.set q hlq (A k q)).congr (fun t _ => by rw [part_next, part_set _ _ 0]), by rw [World.size_setCell]; exact Nat.lt_of_lt_of_le HJ.out.2.2 k7.size⟩
              go_wp2_with fail
              exact ⟨⟨q + 1, by omega, by go_num, HF⟩, by simp [intOf]; omega⟩
            · obtain rfl : q = M := by omega
              have hcv := byt_string g q q _ wr HJ.out.2.1
              rw [strOf_congr q _ (A k) (fun t ht => by unfold part; rw [if_pos ht])] at hcv
              have HTW := Lib.hid (HTX.out wr HJ.out.1)
              have hcell := HTW.out.cell k hlt
              have hfree := HTW.out.free k hlt
              have HF := Lib.hid (HADD.out wr HJ.out.1)
              generalize strOf q (A k) = s at *
              clear HJ HTX HADD HTW
              go_wp2_with fail
              exact ⟨⟨k + 1, by omega, by go_num, HF⟩, by simp [intOf]; omega⟩
        · obtain rfl : k = N := by omega
          have HR := Lib.hid HI.out.1
          have HK := Lib.hid HI.out.2
          clear HI
          go_wp2_with fail
          go_ret2
          rw [← HE.out.1, ← HE.out.2]
          exact HR.out.gotM HK.out
end Go.Proofs.Ythifdfbdekkmgaa
