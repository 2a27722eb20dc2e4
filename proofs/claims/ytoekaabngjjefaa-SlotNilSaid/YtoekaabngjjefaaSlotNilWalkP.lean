/- SlotNil's walk. -/
import Derived.Test.YtoekaabngjjefaaPart24
namespace Go.Proofs.Ytoekaabngjjefaa
open Go.RowKit Sm Wr _root_.Go.Proofs.Ytoekaabngjjefaa.Nm
set_option linter.unusedVariables false
theorem voteR_two : voteR (rack0 2 24) geo3 = (Rt.none, [], 2) := by
  unfold voteR
  rw [show geo3.fits (rack0 2 24) = false from by decide, if_pos rfl]
theorem docW_two (x : Rt) : docW (rack0 2 24) geo3 x = (2, rack0 2 24) := by
  unfold docW
  rw [if_neg (fun h => absurd h.1 (by decide))]
set_option maxHeartbeats 800000 in
set_option maxRecDepth 100000 in
theorem slotNil_walk (x : Rt) (w : World) (w0 : x.Wf) :
    Calls Try.prog 5 #[x.val] w fun e w' => e = .returned (.bool true) ∧ Kept w w' := by
  have HTH := Lib.hid (fun W => three_any W)
  have HVN := Lib.hid (fun W => pVote_nil geo3 W)
  have HWN := Lib.hid (fun W => pWriteR_nil geo3 x W)
  have HAL := Lib.hid (fun W => alive_any W)
  have HVZ := Lib.hid (fun g W (h : RackAt g (rack0 2 24) W) => pVote_any g (rack0 2 24) geo3 W h)
  have HWZ := Lib.hid (fun g W (h : RackAt g (rack0 2 24) W) => pWriteR_any g (rack0 2 24) geo3 x W h)
  rw [voteR_two] at HVZ
  rw [docW_two] at HWZ
  have HNEW : Hid (∀ W, Calls Try.prog 13 #[.int .i64 2, .int .i64 24] W fun r w' => r = .returned (.tuple #[.pointer (some ⟨W.heap.size + 1, 0, none⟩), .int .i64 0]) ∧ Kept W w' ∧ RackAt W.heap.size (rack0 2 24) w' ∧ w'.heap.size = W.heap.size + 2 + 2) := fun W => pNew_ok 2 24 (by decide) (by decide) (by decide) (by decide) W
  unfold Geo.val geo3 Rt.val at *
  dsimp only [Rt.none] at *
  have K := Lib.hid ((Kept.refl w).alloc (.cells #[.int .u64 (x.gen : Nat), .int .u64 (x.nxt : Nat), .int .i64 x.row, .int .u64 (x.st : Nat), .int .i64 x.len] 26))
  have XX := Lib.hid (RtAt.laid w 26 x)
  go_enter Try.func5, Try.ntmps5
  go_upto_region 1 with fail
  generalize w.alloc (.cells #[.int .u64 (x.gen : Nat), .int .u64 (x.nxt : Nat), .int .i64 x.row, .int .u64 (x.st : Nat), .int .i64 x.len] 26) = u0 at *
  go_wp2_with fail
  refine (HTH.out _).mono ?_
  rintro e u1 ⟨rfl, hk⟩
  replace K := Lib.hid (K.out.trans hk)
  replace XX := Lib.hid (XX.out.kept hk)
  clear hk
  go_wp2_with fail
  refine (HVN.out _).mono ?_
  rintro e u2 ⟨rfl, hk⟩
  replace K := Lib.hid (K.out.trans hk)
  replace XX := Lib.hid (XX.out.kept hk)
  clear hk HVN
  go_upto_region 3 with fail
  have hk : Kept u2 (u2.alloc (.cells #[.int .u64 0, .int .u64 0, .int .i64 0, .int .u64 0, .int .i64 0] 26)) := (Kept.refl _).alloc _
  replace K := Lib.hid (K.out.trans hk)
  replace XX := Lib.hid (XX.out.kept hk)
  clear hk
  generalize u2.alloc (.cells #[.int .u64 0, .int .u64 0, .int .i64 0, .int .u64 0, .int .i64 0] 26) = u3 at *
  go_wp2_with fail
  refine (HNEW.out _).mono ?_
  rintro e u4 ⟨rfl, hk, hR, hsz⟩
  have hBg : w.heap.size < u3.heap.size := XX.out.lt
  replace K := Lib.hid (K.out.trans hk)
  replace XX := Lib.hid (XX.out.kept hk)
  have RR := Lib.hid hR
  generalize u3.heap.size = g at *
  have HSZ : Hid (g + 2 + 2 ≤ u4.heap.size) := by show _ ≤ _; omega
  clear hk hR hsz HNEW
  go_wp2_with fail
  refine (HTH.out _).mono ?_
  rintro e u5 ⟨rfl, hk⟩
  replace K := Lib.hid (K.out.trans hk)
  replace XX := Lib.hid (XX.out.kept hk)
  replace RR := Lib.hid (RR.out.kept hk)
  clear hk
  go_wp2_with fail
  refine (HVZ.out g _ RR.out).mono ?_
  rintro e u6 ⟨⟨hv, rfl, hGB⟩, hk⟩
  replace K := Lib.hid (K.out.trans hk)
  replace XX := Lib.hid (XX.out.kept hk)
  replace RR := Lib.hid (RR.out.kept hk)
  obtain ⟨ha, hc, rfl, _⟩ := hGB.bls
  clear hk HVZ hGB
  go_upto_region 5 with fail
  have hk : Kept u6 (u6.alloc (.cells #[.int .u64 0, .int .u64 0, .int .i64 0, .int .u64 0, .int .i64 0] 26)) := (Kept.refl _).alloc _
  replace K := Lib.hid (K.out.trans hk)
  replace XX := Lib.hid (XX.out.kept hk)
  replace RR := Lib.hid (RR.out.kept hk)
  clear hk
  generalize u6.alloc (.cells #[.int .u64 0, .int .u64 0, .int .i64 0, .int .u64 0, .int .i64 0] 26) = u7 at *
  have HXC : Hid (∀ W, Only g (g + 2 + 2) u7 W → W.cell? ⟨w.heap.size, 0, none⟩ = some (.int .u64 (x.gen : Nat)) ∧ W.cell? ⟨w.heap.size, 1, none⟩ = some (.int .u64 (x.nxt : Nat)) ∧ W.cell? ⟨w.heap.size, 2, none⟩ = some (.int .i64 x.row) ∧ W.cell? ⟨w.heap.size, 3, none⟩ = some (.int .u64 (x.st : Nat)) ∧ W.cell? ⟨w.heap.size, 4, none⟩ = some (.int .i64 x.len)) := fun W o => by
    have := XX.out.frame (o.block w.heap.size XX.out.lt (.inl hBg))
    exact ⟨this.c0, this.c1, this.c2, this.c3, this.c4⟩
  refine wp_quietG (C := fun W => RackAt g (rack0 2 24) W ∧ Only g (g + 2 + 2) u7 W) (by kernel_rfl) (by kernel_rfl) ⟨RR.out.kept ((Kept.refl u7).drew), ((Kept.refl u7).drew).only _ _⟩ ?_
  iterate 12 (first
    | go_big_quiet_skip
    | (go_big_quiet_want
       refine ⟨_, fun W hW => by
         obtain ⟨c0, c1, c2, c3, c4⟩ := HXC.out W hW.2
         unfold Oper.quietAt
         go_simp
         first
           | (go_at_call 20; exact (HTH.out W).mono fun e w' h => ⟨h.1, hW.1.kept h.2, hW.2.trans (h.2.only _ _)⟩)
           | (go_at_call 8; exact (HAL.out W).mono fun e w' h => ⟨h.1, hW.1.kept h.2, hW.2.trans (h.2.only _ _)⟩)
           | (go_at_call 14; exact (HWN.out W).mono fun e w' h => ⟨h.1, hW.1.kept h.2, hW.2.trans (h.2.only _ _)⟩)
           | exact rfl, ?_⟩
       go_simp
       go_big_quiet_on))
  repeat (first
    | go_big_quiet_skip
    | (go_big_quiet_want
       refine ⟨_, fun W hW => by
         obtain ⟨c0, c1, c2, c3, c4⟩ := HXC.out W hW.2
         unfold Oper.quietAt
         go_simp
         first
           | (go_at_call 20; exact (HTH.out W).mono fun e w' h => ⟨h.1, hW.1.kept h.2, hW.2.trans (h.2.only _ _)⟩)
           | (go_at_call 8; exact (HAL.out W).mono fun e w' h => ⟨h.1, hW.1.kept h.2, hW.2.trans (h.2.only _ _)⟩)
           | (go_at_call 14; exact (HWZ.out g W hW.1).mono fun e w' h => ⟨h.1, h.2.1, hW.2.trans h.2.2⟩)
           | exact rfl, ?_⟩
       go_simp
       go_big_quiet_on))
  refine wpQuiet_nil ?_
  intro W hW
  have HKW : Hid (Kept w W) := Only.kept K.out (by omega) hW.2
  clear hW
  go_wp2_with fail
  go_ret
  exact ⟨rfl, HKW.out⟩
end Go.Proofs.Ytoekaabngjjefaa
