/- ShardPlays' walk. -/
import Derived.Test.YtdpkmonlkdegjaaGreatDoorPart35
import Derived.Test.YtdpkmonlkdegjaaGreatDoorPart26
namespace Go.Proofs.YtdpkmonlkdegjaaGreatDoor
open Go.RowKit Sm Wr _root_.Go.Proofs.YtdpkmonlkdegjaaGreatDoor.Nm
set_option linter.unusedVariables false
theorem shW_n (s : RSt) (d a : Int) (x : Shd) : (shW s d a x).2.n = s.n ∧ (shW s d a x).2.m = s.m := by
  unfold shW
  split
  · exact ⟨rfl, rfl⟩
  · split
    · exact ⟨(RSt.wrS_n _ _ _ _).1.trans (wTo_n _ _ _ _ _).1, (RSt.wrS_n _ _ _ _).2.trans (wTo_n _ _ _ _ _).2⟩
    · exact wTo_n _ _ _ _ _
theorem Pair.shWP {g N M : Nat} {L : DLay} {lo hi : Nat} {w1 : World} {a b : RSt} {W : World} (h : Pair g N M L lo hi w1 a b W) (d i : Int) (hd1 : -9223372036854775808 ≤ d) (hd2 : d ≤ 9223372036854775807) (hi1 : -9223372036854775808 ≤ i) (hi2 : i ≤ 9223372036854775807) (x : Shd) (hx : x.Wf) (hs : x.t.size ≤ 9223372036854775807) :
    Calls Tryz.prog 10 #[.pointer (some ⟨g + 1, 0, none⟩), .int .i64 d, .int .i64 i, x.val] W fun r w' => r = .returned (.int .i64 ((shW a d i x).1 : Nat)) ∧ Pair g N M L lo hi w1 (shW a d i x).2 b w' :=
  (shWrite_any g a d i hd1 hd2 hi1 hi2 x hx hs W h.r).mono fun r w' hh => ⟨hh.1, h.left hh.2.1 hh.2.2 (shW_n a d i x).1 (shW_n a d i x).2⟩
theorem Pair.shWD {g N M : Nat} {L : DLay} {lo hi : Nat} {w1 : World} {a b : RSt} {W : World} (h : Pair g N M L lo hi w1 a b W) (d i : Int) (hd1 : -9223372036854775808 ≤ d) (hd2 : d ≤ 9223372036854775807) (hi1 : -9223372036854775808 ≤ i) (hi2 : i ≤ 9223372036854775807) (x : Shd) (hhi : hi ≤ W.heap.size) :
    Calls Tryz.prog 11 #[.pointer (some ⟨L.x, 0, none⟩), .int .i64 d, .int .i64 i, x.val] W fun r w' => r = .returned (.int .i64 ((shW b d i x).1 : Nat)) ∧ Pair g N M L lo hi w1 a (shW b d i x).2 w' :=
  (refWrite_any L lo hi b d i hd1 hd2 hi1 hi2 x W hhi h.d).mono fun r w' hh => ⟨hh.1, h.right hh.2.1 hh.2.2 (shW_n b d i x).1 (shW_n b d i x).2⟩
theorem Pair.shCP {g N M : Nat} {L : DLay} {lo hi : Nat} {w1 : World} {a b : RSt} {W : World} (h : Pair g N M L lo hi w1 a b W) (d i : Int) (hd1 : -9223372036854775808 ≤ d) (hd2 : d ≤ 9223372036854775807) (hi1 : -9223372036854775808 ≤ i) (hi2 : i ≤ 9223372036854775807) :
    Calls Tryz.prog 14 #[.pointer (some ⟨g + 1, 0, none⟩), .int .i64 d, .int .i64 i] W fun r w' => r = .returned (.int .i64 (a.writeE d i ⟨#[]⟩ : Nat)) ∧ Pair g N M L lo hi w1 (a.writeS d i ⟨#[]⟩) b w' :=
  (shClear_any g a d i hd1 hd2 hi1 hi2 W h.r).mono fun r w' hh => ⟨hh.1, h.left hh.2.1 hh.2.2 (a.writeS_n d i _).1 (a.writeS_n d i _).2⟩
theorem Pair.shRP {g N M : Nat} {L : DLay} {lo hi : Nat} {w1 : World} {a b : RSt} {W : World} (h : Pair g N M L lo hi w1 a b W) (d i : Int) (hd1 : -9223372036854775808 ≤ d) (hd2 : d ≤ 9223372036854775807) (hi1 : -9223372036854775808 ≤ i) (hi2 : i ≤ 9223372036854775807) :
    Calls Tryz.prog 12 #[.pointer (some ⟨g + 1, 0, none⟩), .int .i64 d, .int .i64 i] W fun r w' => r = .returned (readV (shR a d i)) ∧ Pair g N M L lo hi w1 a b w' :=
  (shRead_any g a d i hd1 hd2 hi1 hi2 W h.r).mono fun r w' hh => ⟨hh.1, h.kept hh.2⟩
theorem Pair.shRD {g N M : Nat} {L : DLay} {lo hi : Nat} {w1 : World} {a b : RSt} {W : World} (h : Pair g N M L lo hi w1 a b W) (d i : Int) (hi1 : -9223372036854775808 ≤ i) (hi2 : i ≤ 9223372036854775807) :
    Calls Tryz.prog 13 #[.pointer (some ⟨L.x, 0, none⟩), .int .i64 d, .int .i64 i] W fun r w' => r = .returned (readV (shR b d i)) ∧ Pair g N M L lo hi w1 a b w' :=
  (refRead_any L lo hi b d i hi1 hi2 W h.d).mono fun r w' hh => ⟨hh.1, h.kept hh.2⟩
theorem Pair.shCD {g N M : Nat} {L : DLay} {lo hi : Nat} {w1 : World} {a b : RSt} {W : World} (h : Pair g N M L lo hi w1 a b W) (d i : Int) :
    Calls Tryz.prog 15 #[.pointer (some ⟨L.x, 0, none⟩), .int .i64 d, .int .i64 i] W fun r w' => r = .returned (.int .i64 (b.writeE d i ⟨#[]⟩ : Nat)) ∧ Pair g N M L lo hi w1 a (b.writeS d i ⟨#[]⟩) w' :=
  (refClear_any L lo hi b d i W h.d).mono fun r w' hh => ⟨hh.1, h.right hh.2.1 hh.2.2 (b.writeS_n d i _).1 (b.writeS_n d i _).2⟩
set_option maxHeartbeats 4000000 in
set_option maxRecDepth 100000 in
theorem shardPlays_walk (a0 : Option Addr) (len0 cap0 : Nat) (z0 : List SStp) (w : World) (w0 : IsSSteps w a0 len0 cap0 z0) :
    Calls Tryz.prog 3 #[.slice a0 len0 cap0] w fun e w' => e = .returned (.bool true) ∧ Kept w w' := by
  obtain ⟨hS, hzl, hml⟩ := w0.stps
  have HS := Lib.hid hS
  have HZL := Lib.hid hzl
  have HHV := Lib.hid (sheavy_any a0 len0 cap0 z0 hzl hml w hS)
  clear w0 hS hzl
  have hml2 : len0 ≤ 9223372036854775807 := by unfold maxLen at hml; exact hml
  clear hml
  cases hh : sheavyB z0
  case true =>
    have hcall := HHV.out
    rw [hh] at hcall
    clear HHV
    go_enter Tryz.func3, Tryz.ntmps3
    go_wp2_with fail
    refine hcall.mono ?_
    rintro e wa ⟨rfl, hk⟩
    have KA : Hid (Kept w wa) := hk
    clear hk hcall
    go_wp2_with fail
    refine (shAlive_any _).mono ?_
    rintro e w9 ⟨rfl, hk2⟩
    have K9 : Hid (Kept w w9) := KA.out.trans hk2
    clear hk2
    go_wp2_with fail
    go_ret
    exact ⟨rfl, K9.out⟩
  obtain ⟨h100, ht⟩ := sheavy_not hh
  have HT := Lib.hid ht
  have hcall := HHV.out
  rw [hh] at hcall
  have HCALL0 := Lib.hid hcall
  have H1 : len0 ≤ 100 := by rw [← HZL.out]; exact h100
  clear h100 ht hh HHV hcall
  go_enter Tryz.func3, Tryz.ntmps3
  go_wp2_with fail
  refine HCALL0.out.mono ?_
  rintro e wa ⟨rfl, hk⟩
  have KA : Hid (Kept w wa) := hk
  clear hk HCALL0
  go_wp2_with fail
  refine (pNew_ok 2 20 (by decide) (by decide) (by decide) (by decide) _).mono ?_
  rintro e wb ⟨rfl, hk, hR, hsz⟩
  obtain ⟨g, hg⟩ : ∃ g, g = wa.heap.size := ⟨_, rfl⟩
  rw [← hg] at hR hsz
  rw [← hg]
  have HG : Hid (w.heap.size ≤ g) := by show _ ≤ _; rw [hg]; exact KA.out.size
  have KB : Hid (Kept w wb) := KA.out.trans hk
  have RB := Lib.hid hR
  have HSZ : Hid (wb.heap.size = g + 2 + 2) := hsz
  clear hk hR hg hsz
  go_wp2_with fail
  refine (dNew_ok 2 20 (by decide) (by decide) (by decide) (by decide) _).mono ?_
  rintro e wc ⟨rfl, hk, L, hL, hD⟩
  rw [← hL]
  have KC : Hid (Kept w wc) := KB.out.trans hk
  have HP : Hid (Pair g 2 20 L wb.heap.size wc.heap.size wc (rack0 2 20) (rack0 2 20) wc) := ⟨RB.out.kept hk, hD, Only.refl _ _ _, rfl, rfl, rfl, rfl, Nat.le_of_eq HSZ.out.symm, hk.size⟩
  clear hk hL hD KA KB RB HSZ
  go_wp2_with fail
  go_loopw [7] (fun i wr => ∃ k : Nat, k ≤ len0 ∧ i = .int .i64 k ∧ Hid (∃ s : RSt, Pair g 2 20 L wb.heap.size wc.heap.size wc s s wr)) (fun i _ => len0 - (intOf i).toNat)
  case atStart => exact ⟨0, Nat.zero_le _, rfl, ⟨_, HP.out⟩⟩
  case round =>
    obtain ⟨k, hk, rfl, HE⟩ := hrel
    by_cases hlt : k < len0
    · obtain ⟨s, hP⟩ := HE.out
      have hkw : Kept w wr := Only.kept KC.out HG.out hP.o
      have hkz : k < z0.length := by rw [HZL.out]; exact hlt
      rcases HS.out with h0 | ⟨b, o, rfl, hq⟩
      · rw [h0] at hkz; cases hkz
      · obtain ⟨op, d, i, ⟨st, ix, tt, t⟩, ⟨rop, rd, ri, rt⟩, hst, hts, htr⟩ : ∃ op d i x r, SStpAt w b o k ⟨op, d, i, x, r⟩ ∧ x.t.size ≤ 9223372036854775807 ∧ r.t.size ≤ 9223372036854775807 := ⟨z0[k].op, z0[k].d, z0[k].s, z0[k].x, z0[k].r, hq k hkz, by have := HT.out k hkz; omega, by have := HT.out k hkz; omega⟩
        obtain ⟨c0, c1, c2, c3, c4, c5, c6, c7, c8, c9, c10, bo, bd, bi, hwf, _, ro, hrd, hri, _⟩ := hst.kept hkw
        dsimp only at c0 c1 c2 c3 c4 c5 c6 c7 c8 c9 c10 bo bd bi hts htr ro hrd hri
        have HWF := Lib.hid hwf
        clear hq hst HE hwf
        go_upto_region 12 with fail
        obtain ⟨W1, hW1⟩ : ∃ W1, W1 = wr.alloc (.cells #[.int .u8 op, .int .i64 d, .int .i64 i, .int .u64 (st : Nat), .int .i64 ix, .int .i64 tt, .string t, .int .u8 rop, .int .i64 rd, .int .i64 ri, .string rt] 38) := ⟨_, rfl⟩
        rw [← hW1]
        have k1 : Kept wr W1 := by rw [hW1]; exact (Kept.refl _).alloc _
        have hQ : Pair g 2 20 L wb.heap.size wc.heap.size W1 s s W1 := { hP.kept k1 with o := Only.refl _ _ _ }
        have HQ := Lib.hid hQ
        have hbs : wc.heap.size ≤ wr.heap.size := hP.o.size
        have hlt1 : wr.heap.size < W1.heap.size := by rw [hW1, size_alloc]; omega
        have HO1 : Hid (Only g wc.heap.size wc W1) := hP.o.trans (k1.only _ _)
        have p0 : W1.cell? ⟨wr.heap.size, 0, none⟩ = some (.int .u8 op) := by rw [hW1, World.cell?_alloc_mark]; rfl
        have p1 : W1.cell? ⟨wr.heap.size, 1, none⟩ = some (.int .i64 d) := by rw [hW1, World.cell?_alloc_mark]; rfl
        have p2 : W1.cell? ⟨wr.heap.size, 2, none⟩ = some (.int .i64 i) := by rw [hW1, World.cell?_alloc_mark]; rfl
        have p3 : W1.cell? ⟨wr.heap.size, 3, none⟩ = some (.int .u64 (st : Nat)) := by rw [hW1, World.cell?_alloc_mark]; rfl
        have p4 : W1.cell? ⟨wr.heap.size, 4, none⟩ = some (.int .i64 ix) := by rw [hW1, World.cell?_alloc_mark]; rfl
        have p5 : W1.cell? ⟨wr.heap.size, 5, none⟩ = some (.int .i64 tt) := by rw [hW1, World.cell?_alloc_mark]; rfl
        have p6 : W1.cell? ⟨wr.heap.size, 6, none⟩ = some (.string t) := by rw [hW1, World.cell?_alloc_mark]; rfl
        have p7 : W1.cell? ⟨wr.heap.size, 7, none⟩ = some (.int .u8 rop) := by rw [hW1, World.cell?_alloc_mark]; rfl
        have p8 : W1.cell? ⟨wr.heap.size, 8, none⟩ = some (.int .i64 rd) := by rw [hW1, World.cell?_alloc_mark]; rfl
        have p9 : W1.cell? ⟨wr.heap.size, 9, none⟩ = some (.int .i64 ri) := by rw [hW1, World.cell?_alloc_mark]; rfl
        have p10 : W1.cell? ⟨wr.heap.size, 10, none⟩ = some (.string rt) := by rw [hW1, World.cell?_alloc_mark]; rfl
        have HKEEP : Hid (∀ W, Only g wc.heap.size W1 W → W.cell? ⟨wr.heap.size, 1, none⟩ = some (.int .i64 d) ∧ W.cell? ⟨wr.heap.size, 2, none⟩ = some (.int .i64 i) ∧ W.cell? ⟨wr.heap.size, 3, none⟩ = some (.int .u64 (st : Nat)) ∧ W.cell? ⟨wr.heap.size, 4, none⟩ = some (.int .i64 ix) ∧ W.cell? ⟨wr.heap.size, 5, none⟩ = some (.int .i64 tt) ∧ W.cell? ⟨wr.heap.size, 6, none⟩ = some (.string t)) := fun W hW => by
          have ce : ∀ j, W.cell? ⟨wr.heap.size, j, none⟩ = W1.cell? ⟨wr.heap.size, j, none⟩ := fun j => hW.cell (p := ⟨wr.heap.size, j, none⟩) hlt1 (.inr hbs)
          exact ⟨by rw [ce]; exact p1, by rw [ce]; exact p2, by rw [ce]; exact p3, by rw [ce]; exact p4, by rw [ce]; exact p5, by rw [ce]; exact p6⟩
        have HHI : Hid (∀ W, Only g wc.heap.size W1 W → wc.heap.size ≤ W.heap.size) := fun W hW => Nat.le_trans (Nat.le_trans hbs (Nat.le_of_lt hlt1)) hW.size
        have HFIN : Hid (∀ q W, Pair g 2 20 L wb.heap.size wc.heap.size W1 q q W → ∃ q, Pair g 2 20 L wb.heap.size wc.heap.size wc q q W) := fun q W hh => ⟨q, { hh with o := HO1.out.trans hh.o }⟩
        have hz : op % 6 = 0 ∨ op % 6 = 1 ∨ op % 6 = 2 ∨ op % 6 = 3 ∨ op % 6 = 4 ∨ op % 6 = 5 := by omega
        clear hP hkw c0 c1 c2 c3 c4 c5 c6 c7 c8 c9 c10 hW1 k1 hQ hbs hlt1
        generalize wr.heap.size = bs at *
        rcases hz with hz | hz | hz | hz | hz | hz
        · have HWP : Hid (∀ b W, Pair g 2 20 L wb.heap.size wc.heap.size W1 s b W → Calls Tryz.prog 10 #[.pointer (some ⟨g + 1, 0, none⟩), .int .i64 d, .int .i64 i, .agg #[.int .u64 (st : Nat), .int .i64 ix, .int .i64 tt, .string t]] W fun r w' => r = .returned (.int .i64 ((shW s d i ⟨st, ix, tt, t⟩).1 : Nat)) ∧ Pair g 2 20 L wb.heap.size wc.heap.size W1 (shW s d i ⟨st, ix, tt, t⟩).2 b w') := fun b W hh => hh.shWP d i bd.1 bd.2 bi.1 bi.2 ⟨st, ix, tt, t⟩ HWF.out hts
          have HWD : Hid (∀ a W, Pair g 2 20 L wb.heap.size wc.heap.size W1 a s W → Calls Tryz.prog 11 #[.pointer (some ⟨L.x, 0, none⟩), .int .i64 d, .int .i64 i, .agg #[.int .u64 (st : Nat), .int .i64 ix, .int .i64 tt, .string t]] W fun r w' => r = .returned (.int .i64 ((shW s d i ⟨st, ix, tt, t⟩).1 : Nat)) ∧ Pair g 2 20 L wb.heap.size wc.heap.size W1 a (shW s d i ⟨st, ix, tt, t⟩).2 w') := fun a W hh => hh.shWD d i bd.1 bd.2 bi.1 bi.2 ⟨st, ix, tt, t⟩ (HHI.out _ hh.o)
          generalize (shW s d i ⟨st, ix, tt, t⟩).1 = e1 at *
          generalize (shW s d i ⟨st, ix, tt, t⟩).2 = s1 at *
          go_upto_region 16 with fail
          go_region_held3 (fun W => W.cell? ⟨bs, 1, none⟩ = some (.int .i64 d) ∧ W.cell? ⟨bs, 2, none⟩ = some (.int .i64 i) ∧ W.cell? ⟨bs, 3, none⟩ = some (.int .u64 (st : Nat)) ∧ W.cell? ⟨bs, 4, none⟩ = some (.int .i64 ix) ∧ W.cell? ⟨bs, 5, none⟩ = some (.int .i64 tt) ∧ W.cell? ⟨bs, 6, none⟩ = some (.string t)) (first | exact ⟨p1, p2, p3, p4, p5, p6⟩ | exact HKEEP.out _ qp.o | exact HKEEP.out _ qd.o | exact HKEEP.out _ (qp.drewN _).o | exact HKEEP.out _ (qd.drewN _).o)
            (first
              | (go_at_call 10; first | (refine (HWP.out _ _ (HQ.out.drewN _)).mono ?_; rintro e wp ⟨rfl, qp⟩) | (refine (HWP.out _ _ qd).mono ?_; rintro e wp ⟨rfl, qp⟩) | (refine (HWP.out _ _ (qd.drewN _)).mono ?_; rintro e wp ⟨rfl, qp⟩))
              | (go_at_call 11; first | (refine (HWD.out _ _ (HQ.out.drewN _)).mono ?_; rintro e wd ⟨rfl, qd⟩) | (refine (HWD.out _ _ qp).mono ?_; rintro e wd ⟨rfl, qd⟩) | (refine (HWD.out _ _ (qp.drewN _)).mono ?_; rintro e wd ⟨rfl, qd⟩)))
          all_goals
            first
              | have HE2 := Lib.hid (HFIN.out _ _ qd)
              | have HE2 := Lib.hid (HFIN.out _ _ qp)
            go_wp2_with fail
            exact ⟨⟨k + 1, by omega, by go_num, HE2⟩, by simp [intOf]; omega⟩
        · have HWP : Hid (∀ b W, Pair g 2 20 L wb.heap.size wc.heap.size W1 s b W → Calls Tryz.prog 10 #[.pointer (some ⟨g + 1, 0, none⟩), .int .i64 d, .int .i64 i, .agg #[.int .u64 (st : Nat), .int .i64 ix, .int .i64 tt, .string t]] W fun r w' => r = .returned (.int .i64 ((shW s d i ⟨st, ix, tt, t⟩).1 : Nat)) ∧ Pair g 2 20 L wb.heap.size wc.heap.size W1 (shW s d i ⟨st, ix, tt, t⟩).2 b w') := fun b W hh => hh.shWP d i bd.1 bd.2 bi.1 bi.2 ⟨st, ix, tt, t⟩ HWF.out hts
          have HWD : Hid (∀ a W, Pair g 2 20 L wb.heap.size wc.heap.size W1 a s W → Calls Tryz.prog 11 #[.pointer (some ⟨L.x, 0, none⟩), .int .i64 d, .int .i64 i, .agg #[.int .u64 (st : Nat), .int .i64 ix, .int .i64 tt, .string t]] W fun r w' => r = .returned (.int .i64 ((shW s d i ⟨st, ix, tt, t⟩).1 : Nat)) ∧ Pair g 2 20 L wb.heap.size wc.heap.size W1 a (shW s d i ⟨st, ix, tt, t⟩).2 w') := fun a W hh => hh.shWD d i bd.1 bd.2 bi.1 bi.2 ⟨st, ix, tt, t⟩ (HHI.out _ hh.o)
          generalize (shW s d i ⟨st, ix, tt, t⟩).1 = e1 at *
          generalize (shW s d i ⟨st, ix, tt, t⟩).2 = s1 at *
          go_upto_region 16 with fail
          go_region_held3 (fun W => W.cell? ⟨bs, 1, none⟩ = some (.int .i64 d) ∧ W.cell? ⟨bs, 2, none⟩ = some (.int .i64 i) ∧ W.cell? ⟨bs, 3, none⟩ = some (.int .u64 (st : Nat)) ∧ W.cell? ⟨bs, 4, none⟩ = some (.int .i64 ix) ∧ W.cell? ⟨bs, 5, none⟩ = some (.int .i64 tt) ∧ W.cell? ⟨bs, 6, none⟩ = some (.string t)) (first | exact ⟨p1, p2, p3, p4, p5, p6⟩ | exact HKEEP.out _ qp.o | exact HKEEP.out _ qd.o | exact HKEEP.out _ (qp.drewN _).o | exact HKEEP.out _ (qd.drewN _).o)
            (first
              | (go_at_call 10; first | (refine (HWP.out _ _ (HQ.out.drewN _)).mono ?_; rintro e wp ⟨rfl, qp⟩) | (refine (HWP.out _ _ qd).mono ?_; rintro e wp ⟨rfl, qp⟩) | (refine (HWP.out _ _ (qd.drewN _)).mono ?_; rintro e wp ⟨rfl, qp⟩))
              | (go_at_call 11; first | (refine (HWD.out _ _ (HQ.out.drewN _)).mono ?_; rintro e wd ⟨rfl, qd⟩) | (refine (HWD.out _ _ qp).mono ?_; rintro e wd ⟨rfl, qd⟩) | (refine (HWD.out _ _ (qp.drewN _)).mono ?_; rintro e wd ⟨rfl, qd⟩)))
          all_goals
            first
              | have HE2 := Lib.hid (HFIN.out _ _ qd)
              | have HE2 := Lib.hid (HFIN.out _ _ qp)
            go_wp2_with fail
            exact ⟨⟨k + 1, by omega, by go_num, HE2⟩, by simp [intOf]; omega⟩
        · obtain ⟨ge, y, hr⟩ : ∃ ge y, shR s d i = (ge, y) := ⟨_, _, rfl⟩
          have HRP : Hid (∀ W, Pair g 2 20 L wb.heap.size wc.heap.size W1 s s W → Calls Tryz.prog 12 #[.pointer (some ⟨g + 1, 0, none⟩), .int .i64 d, .int .i64 i] W fun r w' => r = .returned (.tuple #[.agg #[.int .u64 (y.st : Nat), .int .i64 y.ix, .int .i64 y.tt, .string y.t], .int .i64 (ge : Nat)]) ∧ Pair g 2 20 L wb.heap.size wc.heap.size W1 s s w') := fun W hh => by
            have := hh.shRP d i bd.1 bd.2 bi.1 bi.2
            rw [hr] at this
            exact this
          have HRD : Hid (∀ W, Pair g 2 20 L wb.heap.size wc.heap.size W1 s s W → Calls Tryz.prog 13 #[.pointer (some ⟨L.x, 0, none⟩), .int .i64 d, .int .i64 i] W fun r w' => r = .returned (.tuple #[.agg #[.int .u64 (y.st : Nat), .int .i64 y.ix, .int .i64 y.tt, .string y.t], .int .i64 (ge : Nat)]) ∧ Kept W w') := fun W hh => by
            have := refRead_any L wb.heap.size wc.heap.size s d i bi.1 bi.2 W hh.d
            rw [hr] at this
            exact this
          clear hr
          obtain ⟨yst, yix, ytt, yt⟩ := y
          dsimp only at HRP HRD
          go_upto_region 19 with fail
          go_wp2_with fail
          refine (HRP.out _ HQ.out).mono ?_
          rintro e u1 ⟨rfl, q1⟩
          have Q1 := Lib.hid q1
          clear q1 HRP
          go_upto_region 20 with fail
          have Q2 := Lib.hid (Q1.out.kept ((Kept.refl u1).alloc (.cells #[.int .u64 (yst : Nat), .int .i64 yix, .int .i64 ytt, .string yt] 34)))
          have Y2 := Lib.hid (ShAt.laid u1 34 ⟨yst, yix, ytt, yt⟩)
          clear Q1
          generalize u1.alloc (.cells #[.int .u64 (yst : Nat), .int .i64 yix, .int .i64 ytt, .string yt] 34) = u2 at *
          generalize u1.heap.size = by1 at *
          obtain ⟨r1, r2, _, _, _, _⟩ := HKEEP.out _ Q2.out.o
          go_wp2_with fail
          refine (HRD.out _ Q2.out).mono ?_
          rintro e u3 ⟨rfl, k3⟩
          have Q3 := Lib.hid (Q2.out.kept k3)
          have Y3 := Lib.hid (Y2.out.kept k3)
          clear k3 HRD r1 r2 Q2 Y2
          go_upto_region 21 with fail
          have k4 : Kept u3 (u3.alloc (.cells #[.int .u64 (yst : Nat), .int .i64 yix, .int .i64 ytt, .string yt] 34)) := (Kept.refl _).alloc _
          have Q4 := Lib.hid (Q3.out.kept k4)
          have Y4 := Lib.hid (Y3.out.kept k4)
          have Z4 := Lib.hid (ShAt.laid u3 34 ⟨yst, yix, ytt, yt⟩)
          clear k4 Q3 Y3
          generalize u3.alloc (.cells #[.int .u64 (yst : Nat), .int .i64 yix, .int .i64 ytt, .string yt] 34) = u4 at *
          generalize u3.heap.size = bz1 at *
          have x0 := Y4.out.c0
          have x1 := Y4.out.c1
          have x2 := Y4.out.c2
          have x3 := Y4.out.c3
          have y0 := Z4.out.c0
          have y1 := Z4.out.c1
          have y2 := Z4.out.c2
          have y3 := Z4.out.c3
          (try dsimp only at x0 x1 x2 x3 y0 y1 y2 y3)
          have HE2 := Lib.hid (HFIN.out _ _ Q4.out)
          clear Q4 Y4 Z4
          go_wp2_with fail
          exact ⟨⟨k + 1, by omega, by go_num, HE2⟩, by simp [intOf]; omega⟩
        · obtain ⟨ge, y, hr⟩ : ∃ ge y, shR s d i = (ge, y) := ⟨_, _, rfl⟩
          have HRP : Hid (∀ W, Pair g 2 20 L wb.heap.size wc.heap.size W1 s s W → Calls Tryz.prog 12 #[.pointer (some ⟨g + 1, 0, none⟩), .int .i64 d, .int .i64 i] W fun r w' => r = .returned (.tuple #[.agg #[.int .u64 (y.st : Nat), .int .i64 y.ix, .int .i64 y.tt, .string y.t], .int .i64 (ge : Nat)]) ∧ Pair g 2 20 L wb.heap.size wc.heap.size W1 s s w') := fun W hh => by
            have := hh.shRP d i bd.1 bd.2 bi.1 bi.2
            rw [hr] at this
            exact this
          have HRD : Hid (∀ W, Pair g 2 20 L wb.heap.size wc.heap.size W1 s s W → Calls Tryz.prog 13 #[.pointer (some ⟨L.x, 0, none⟩), .int .i64 d, .int .i64 i] W fun r w' => r = .returned (.tuple #[.agg #[.int .u64 (y.st : Nat), .int .i64 y.ix, .int .i64 y.tt, .string y.t], .int .i64 (ge : Nat)]) ∧ Kept W w') := fun W hh => by
            have := refRead_any L wb.heap.size wc.heap.size s d i bi.1 bi.2 W hh.d
            rw [hr] at this
            exact this
          clear hr
          obtain ⟨yst, yix, ytt, yt⟩ := y
          dsimp only at HRP HRD
          go_upto_region 19 with fail
          go_wp2_with fail
          refine (HRP.out _ HQ.out).mono ?_
          rintro e u1 ⟨rfl, q1⟩
          have Q1 := Lib.hid q1
          clear q1 HRP
          go_upto_region 20 with fail
          have Q2 := Lib.hid (Q1.out.kept ((Kept.refl u1).alloc (.cells #[.int .u64 (yst : Nat), .int .i64 yix, .int .i64 ytt, .string yt] 34)))
          have Y2 := Lib.hid (ShAt.laid u1 34 ⟨yst, yix, ytt, yt⟩)
          clear Q1
          generalize u1.alloc (.cells #[.int .u64 (yst : Nat), .int .i64 yix, .int .i64 ytt, .string yt] 34) = u2 at *
          generalize u1.heap.size = by1 at *
          obtain ⟨r1, r2, _, _, _, _⟩ := HKEEP.out _ Q2.out.o
          go_wp2_with fail
          refine (HRD.out _ Q2.out).mono ?_
          rintro e u3 ⟨rfl, k3⟩
          have Q3 := Lib.hid (Q2.out.kept k3)
          have Y3 := Lib.hid (Y2.out.kept k3)
          clear k3 HRD r1 r2 Q2 Y2
          go_upto_region 21 with fail
          have k4 : Kept u3 (u3.alloc (.cells #[.int .u64 (yst : Nat), .int .i64 yix, .int .i64 ytt, .string yt] 34)) := (Kept.refl _).alloc _
          have Q4 := Lib.hid (Q3.out.kept k4)
          have Y4 := Lib.hid (Y3.out.kept k4)
          have Z4 := Lib.hid (ShAt.laid u3 34 ⟨yst, yix, ytt, yt⟩)
          clear k4 Q3 Y3
          generalize u3.alloc (.cells #[.int .u64 (yst : Nat), .int .i64 yix, .int .i64 ytt, .string yt] 34) = u4 at *
          generalize u3.heap.size = bz1 at *
          have x0 := Y4.out.c0
          have x1 := Y4.out.c1
          have x2 := Y4.out.c2
          have x3 := Y4.out.c3
          have y0 := Z4.out.c0
          have y1 := Z4.out.c1
          have y2 := Z4.out.c2
          have y3 := Z4.out.c3
          (try dsimp only at x0 x1 x2 x3 y0 y1 y2 y3)
          have HE2 := Lib.hid (HFIN.out _ _ Q4.out)
          clear Q4 Y4 Z4
          go_wp2_with fail
          exact ⟨⟨k + 1, by omega, by go_num, HE2⟩, by simp [intOf]; omega⟩
        · have HKEEP2 : Hid (∀ W, Only g wc.heap.size W1 W → W.cell? ⟨bs, 1, none⟩ = some (.int .i64 d) ∧ W.cell? ⟨bs, 2, none⟩ = some (.int .i64 i)) := fun W hW => ⟨(HKEEP.out W hW).1, (HKEEP.out W hW).2.1⟩
          have HWP : Hid (∀ b W, Pair g 2 20 L wb.heap.size wc.heap.size W1 s b W → Calls Tryz.prog 14 #[.pointer (some ⟨g + 1, 0, none⟩), .int .i64 d, .int .i64 i] W fun r w' => r = .returned (.int .i64 (s.writeE d i ⟨#[]⟩ : Nat)) ∧ Pair g 2 20 L wb.heap.size wc.heap.size W1 (s.writeS d i ⟨#[]⟩) b w') := fun b W hh => hh.shCP d i bd.1 bd.2 bi.1 bi.2
          have HWD : Hid (∀ a W, Pair g 2 20 L wb.heap.size wc.heap.size W1 a s W → Calls Tryz.prog 15 #[.pointer (some ⟨L.x, 0, none⟩), .int .i64 d, .int .i64 i] W fun r w' => r = .returned (.int .i64 (s.writeE d i ⟨#[]⟩ : Nat)) ∧ Pair g 2 20 L wb.heap.size wc.heap.size W1 a (s.writeS d i ⟨#[]⟩) w') := fun a W hh => hh.shCD d i
          generalize s.writeE d i ⟨#[]⟩ = e1 at *
          generalize s.writeS d i ⟨#[]⟩ = s1 at *
          go_upto_region 23 with fail
          go_region_held3 (fun W => W.cell? ⟨bs, 1, none⟩ = some (.int .i64 d) ∧ W.cell? ⟨bs, 2, none⟩ = some (.int .i64 i)) (first | exact ⟨p1, p2⟩ | exact HKEEP2.out _ qp.o | exact HKEEP2.out _ qd.o | exact HKEEP2.out _ (qp.drewN _).o | exact HKEEP2.out _ (qd.drewN _).o)
            (first
              | (go_at_call 14; first | (refine (HWP.out _ _ (HQ.out.drewN _)).mono ?_; rintro e wp ⟨rfl, qp⟩) | (refine (HWP.out _ _ qd).mono ?_; rintro e wp ⟨rfl, qp⟩) | (refine (HWP.out _ _ (qd.drewN _)).mono ?_; rintro e wp ⟨rfl, qp⟩))
              | (go_at_call 15; first | (refine (HWD.out _ _ (HQ.out.drewN _)).mono ?_; rintro e wd ⟨rfl, qd⟩) | (refine (HWD.out _ _ qp).mono ?_; rintro e wd ⟨rfl, qd⟩) | (refine (HWD.out _ _ (qp.drewN _)).mono ?_; rintro e wd ⟨rfl, qd⟩)))
          all_goals
            first
              | have HE2 := Lib.hid (HFIN.out _ _ qd)
              | have HE2 := Lib.hid (HFIN.out _ _ qp)
            go_wp2_with fail
            exact ⟨⟨k + 1, by omega, by go_num, HE2⟩, by simp [intOf]; omega⟩
        · have HDO := Lib.hid (do_any g 2 20 L wb.heap.size wc.heap.size s rop rd ri rt ro.1 ro.2 hrd.1 hrd.2 hri.1 hri.2 htr W1 (HHI.out _ (Only.refl _ _ _)) HQ.out)
          unfold stepV at HDO
          generalize stepS s rop rd ri rt = s1 at *
          go_upto_region 13 with fail
          go_wp2_with fail
          refine HDO.out.mono ?_
          rintro e u1 ⟨rfl, q1⟩
          have HE2 := Lib.hid (HFIN.out _ _ q1)
          clear q1 HDO
          go_wp2_with fail
          exact ⟨⟨k + 1, by omega, by go_num, HE2⟩, by simp [intOf]; omega⟩
    · obtain rfl : k = len0 := by omega
      obtain ⟨s, hP⟩ := HE.out
      have HQ0 := Lib.hid hP
      have HA0 := Lib.hid (fun W (hh : Pair g 2 20 L wb.heap.size wc.heap.size wc s s W) => hh.allP 0 (by decide) (by decide))
      have HB0 := Lib.hid (fun W (hh : Pair g 2 20 L wb.heap.size wc.heap.size wc s s W) => hh.allD 0)
      have HA1 := Lib.hid (fun W (hh : Pair g 2 20 L wb.heap.size wc.heap.size wc s s W) => hh.allP 1 (by decide) (by decide))
      have HB1 := Lib.hid (fun W (hh : Pair g 2 20 L wb.heap.size wc.heap.size wc s s W) => hh.allD 1)
      generalize s.all 0 = A0 at *
      generalize s.all 1 = A1 at *
      clear hP HE HP
      go_wp2_with fail
      refine (HA0.out _ HQ0.out).mono ?_
      rintro e v1 ⟨rfl, q⟩
      have Q1 := Lib.hid q
      clear q HQ0 HA0
      go_wp2_with fail
      refine (HB0.out _ Q1.out).mono ?_
      rintro e v2 ⟨rfl, q⟩
      have Q2 := Lib.hid q
      clear q Q1 HB0
      go_wp2_with fail
      refine (HA1.out _ Q2.out).mono ?_
      rintro e v3 ⟨rfl, q⟩
      have Q3 := Lib.hid q
      clear q Q2 HA1
      go_wp2_with fail
      refine (HB1.out _ Q3.out).mono ?_
      rintro e v4 ⟨rfl, q⟩
      have KD : Hid (Kept w v4) := Only.kept KC.out HG.out q.o
      clear q Q3 HB1
      go_wp2_with fail
      refine (shAlive_any _).mono ?_
      rintro e v5 ⟨rfl, hk2⟩
      have K9 : Hid (Kept w v5) := KD.out.trans hk2
      clear hk2
      go_wp2_with fail
      go_ret
      exact ⟨rfl, K9.out⟩
end Go.Proofs.YtdpkmonlkdegjaaGreatDoor
