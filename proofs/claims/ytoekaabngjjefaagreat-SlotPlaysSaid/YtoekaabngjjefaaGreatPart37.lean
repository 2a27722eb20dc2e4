/- Write and Vote of both, side by side. -/
import Derived.Test.YtoekaabngjjefaaGreatPart26
import Derived.Test.YtoekaabngjjefaaGreatPart36
import Derived.Test.YtoekaabngjjefaaGreatPart32
import Derived.Test.YtoekaabngjjefaaGreatPart29
namespace Go.Proofs.YtoekaabngjjefaaGreat
open Go.RowKit Sm Wr _root_.Go.Proofs.YtoekaabngjjefaaGreat.Nm
set_option linter.unusedVariables false
theorem docW_n (s : RSt) (q : Geo) (x : Rt) : (docW s q x).2.n = s.n ∧ (docW s q x).2.m = s.m := by
  unfold docW
  split
  · exact wrTo_n s x s.n
  · exact ⟨rfl, rfl⟩
theorem voteR_len (s : RSt) (q : Geo) (h : s.n ≤ 12) : (voteR s q).2.1.length ≤ 12 := by
  unfold voteR
  split
  · exact Nat.zero_le _
  · split
    · exact Nat.zero_le _
    · split
      · exact Nat.zero_le _
      · show (List.map _ (List.range s.n)).length ≤ 12
        rw [List.length_map, List.length_range]
        exact h
theorem Pair.slotWP {g N M : Nat} {L : DLay} {lo hi : Nat} {w1 : World} {a b : RSt} {W : World} (h : Pair g N M L lo hi w1 a b W) (q : Geo) (x : Rt) :
    Calls Tryz.prog 8 #[.pointer (some ⟨g + 1, 0, none⟩), q.val, x.val] W fun r w' => r = .returned (.int .i64 ((docW a q x).1 : Nat)) ∧ Pair g N M L lo hi w1 (docW a q x).2 b w' :=
  (pWriteR_any g a q x W h.r).mono fun r w' hh => ⟨hh.1, h.left hh.2.1 hh.2.2 (docW_n a q x).1 (docW_n a q x).2⟩
theorem Pair.slotWD {g N M : Nat} {L : DLay} {lo hi : Nat} {w1 : World} {a b : RSt} {W : World} (h : Pair g N M L lo hi w1 a b W) (q : Geo) (x : Rt) (hx : x.Wf) (hhi : hi ≤ W.heap.size) :
    Calls Tryz.prog 9 #[.pointer (some ⟨L.x, 0, none⟩), q.val, x.val] W fun r w' => r = .returned (.int .i64 ((docW b q x).1 : Nat)) ∧ Pair g N M L lo hi w1 a (docW b q x).2 w' :=
  (rWrite_any L lo hi b q x W hx hhi h.d).mono fun r w' hh => ⟨hh.1, h.right hh.2.1 hh.2.2 (docW_n b q x).1 (docW_n b q x).2⟩
set_option maxHeartbeats 2000000 in
set_option maxRecDepth 100000 in
theorem votes_any (g N M : Nat) (L : DLay) (lo hi : Nat) (w1 : World) (s : RSt) (q : Geo) (hq : q.Wf) (w : World) (hhi : hi ≤ w.heap.size) (hP : Pair g N M L lo hi w1 s s w) :
    Calls Tryz.prog 10 #[.pointer (some ⟨g + 1, 0, none⟩), .pointer (some ⟨L.x, 0, none⟩), q.val] w fun r w' => r = .returned (.bool true) ∧ Kept w w' := by
  have HV1 := Lib.hid (fun W h => pVote_any g s q W h)
  have HV2 := Lib.hid (fun W hh h => rVote_any L lo hi s q W hq hh h)
  have HSM : Hid (∀ va vb W, Bls va (voteR s q).2.1 W → Bls vb (voteR s q).2.1 W → Calls Tryz.prog 34 #[va, vb] W fun e w' => e = .returned (.bool true) ∧ Kept W w') := fun va vb W ha hb => (same_any va vb (voteR s q).2.1 (voteR s q).2.1 W ha hb (Nat.le_trans (voteR_len s q hP.r.wf.n2) (by decide)) (Nat.le_trans (voteR_len s q hP.r.wf.n2) (by decide))).mono fun e w' h => ⟨by rw [h.1, decide_eq_true rfl], h.2⟩
  have K := Lib.hid ((Kept.refl w).alloc (.cells #[.int .i64 q.n, .int .i64 q.p, .int .i64 q.m, .int .i64 q.t] 23))
  have GG := Lib.hid (GeoAt.laid w 23 q)
  have HLX := Lib.hid (fun W => RtAt.laid W 38 (voteR s q).1)
  have RR := Lib.hid (hP.r.kept K.out)
  have DD := Lib.hid (hP.d.kept K.out)
  have HHI := Lib.hid hhi
  clear hP hhi
  unfold Geo.val Rt.val at *
  generalize (voteR s q).1 = x at *
  generalize (voteR s q).2.1 = l at *
  generalize (voteR s q).2.2 = E at *
  go_enter Tryz.func10, Tryz.ntmps10
  go_upto_region 1 with fail
  generalize w.alloc (.cells #[.int .i64 q.n, .int .i64 q.p, .int .i64 q.m, .int .i64 q.t] 23) = u0 at *
  have g0 := GG.out.c0
  have g1 := GG.out.c1
  have g2 := GG.out.c2
  have g3 := GG.out.c3
  go_wp2_with fail
  refine (HV1.out _ RR.out).mono ?_
  rintro e u1 ⟨⟨hv1, rfl, hB1⟩, hk⟩
  replace K := Lib.hid (K.out.trans hk)
  replace GG := Lib.hid (GG.out.kept hk)
  replace RR := Lib.hid (RR.out.kept hk)
  replace DD := Lib.hid (DD.out.kept hk)
  have B1 := Lib.hid hB1.bls
  clear hk hB1 HV1 g0 g1 g2 g3
  go_upto_region 2 with fail
  have hk : Kept u1 (u1.alloc (.cells #[.int .u64 (x.gen : Nat), .int .u64 (x.nxt : Nat), .int .i64 x.row, .int .u64 (x.st : Nat), .int .i64 x.len] 38)) := (Kept.refl _).alloc _
  have X1 := HLX.out u1
  replace K := Lib.hid (K.out.trans hk)
  replace GG := Lib.hid (GG.out.kept hk)
  replace RR := Lib.hid (RR.out.kept hk)
  replace DD := Lib.hid (DD.out.kept hk)
  replace B1 := Lib.hid (B1.out.kept hk)
  replace X1 := Lib.hid X1
  clear hk
  generalize u1.alloc (.cells #[.int .u64 (x.gen : Nat), .int .u64 (x.nxt : Nat), .int .i64 x.row, .int .u64 (x.st : Nat), .int .i64 x.len] 38) = u2 at *
  generalize u1.heap.size = BA at *
  have g0 := GG.out.c0
  have g1 := GG.out.c1
  have g2 := GG.out.c2
  have g3 := GG.out.c3
  go_wp2_with fail
  refine (HV2.out _ (Nat.le_trans HHI.out K.out.size) DD.out).mono ?_
  rintro e u3 ⟨⟨hv2, rfl, hB2⟩, hk⟩
  replace K := Lib.hid (K.out.trans hk)
  replace GG := Lib.hid (GG.out.kept hk)
  replace RR := Lib.hid (RR.out.kept hk)
  replace DD := Lib.hid (DD.out.kept hk)
  replace X1 := Lib.hid (X1.out.kept hk)
  replace B1 := Lib.hid (B1.out.kept hk)
  have B2 := Lib.hid hB2.bls
  clear hk hB2 HV2 g0 g1 g2 g3
  go_upto_region 3 with fail
  have hk : Kept u3 (u3.alloc (.cells #[.int .u64 (x.gen : Nat), .int .u64 (x.nxt : Nat), .int .i64 x.row, .int .u64 (x.st : Nat), .int .i64 x.len] 38)) := (Kept.refl _).alloc _
  have X2 := HLX.out u3
  replace K := Lib.hid (K.out.trans hk)
  replace GG := Lib.hid (GG.out.kept hk)
  replace RR := Lib.hid (RR.out.kept hk)
  replace DD := Lib.hid (DD.out.kept hk)
  replace X1 := Lib.hid (X1.out.kept hk)
  replace B1 := Lib.hid (B1.out.kept hk)
  replace B2 := Lib.hid (B2.out.kept hk)
  replace X2 := Lib.hid X2
  clear hk HLX
  generalize u3.alloc (.cells #[.int .u64 (x.gen : Nat), .int .u64 (x.nxt : Nat), .int .i64 x.row, .int .u64 (x.st : Nat), .int .i64 x.len] 38) = u4 at *
  generalize u3.heap.size = BB at *
  have a0 := X1.out.c0
  have a1 := X1.out.c1
  have a2 := X1.out.c2
  have a3 := X1.out.c3
  have a4 := X1.out.c4
  have c0 := X2.out.c0
  have c1 := X2.out.c1
  have c2 := X2.out.c2
  have c3 := X2.out.c3
  have c4 := X2.out.c4
  go_wp2_with fail
  refine (HSM.out _ _ _ B1.out B2.out).mono ?_
  rintro e u5 ⟨rfl, hk⟩
  replace K := Lib.hid (K.out.trans hk)
  clear hk HSM
  go_wp2_with fail
  go_ret
  exact ⟨rfl, K.out⟩
end Go.Proofs.YtoekaabngjjefaaGreat
