/- What the document's own answers on matrices come to: scaled. -/
import Derived.Test.YtlmoeaphikdjnaaMatRef4
import Derived.Test.YtlmoeaphikdjnaaRowsOf
import Derived.StillTailTactics
namespace Go.Proofs.Ytlmoeaphikdjnaa
open Go.RowKit Gf
set_option linter.unusedVariables false
/-- The first k bytes with c's products of others added. -/
def scl (f h : Nat → UInt8) (c : UInt8) (k j : Nat) : UInt8 := if j < k then f j ^^^ gm c (h j) else f j
theorem scl_next (f h : Nat → UInt8) (c : UInt8) (k j : Nat) : scl f h c (k + 1) j = upd (scl f h c k) k (f k ^^^ gm c (h k)) j := by
  unfold upd
  by_cases e : j = k
  · subst e; unfold scl; rw [if_pos (by omega), if_pos rfl]
  · rw [if_neg e]
    unfold scl
    by_cases h : j < k
    · rw [if_pos (by omega), if_pos h]
    · rw [if_neg (by omega), if_neg h]
set_option maxHeartbeats 1000000 in
set_option maxRecDepth 100000 in
theorem scaled_any (g1 g2 n k1 k2 : Nat) (f h : Nat → UInt8) (c : UInt8) (hn : n ≤ 1000000) (w : World) (hB1 : Byt g1 n f w) (hB2 : Byt g2 n h w) (hne : g1 ≠ g2) (hg1 : g1 < w.heap.size) :
    Calls Try.prog 30 #[.slice (some ⟨g1, 0, none⟩) n k1, .int .u8 (c.toNat : Nat), .slice (some ⟨g2, 0, none⟩) n k2] w fun e w' => e = .returned (.tuple #[]) ∧ But g1 w w' ∧ Byt g1 n (fun j => f j ^^^ gm c (h j)) w' := by
  have H1 := Lib.hid hB1
  have H2 := Lib.hid hB2
  clear hB1 hB2
  go_enter Try.func30, Try.ntmps30
  go_wp2_with fail
  go_loopw [6] (fun i wr => ∃ k : Nat, k ≤ n ∧ i = .int .i64 k ∧ Hid (But g1 w wr ∧ Byt g1 n (scl f h c k) wr)) (fun i _ => n - (intOf i).toNat)
  case atStart => exact ⟨0, Nat.zero_le _, rfl, But.refl _ _, H1.out.congr (fun j _ => by unfold scl; rw [if_neg (by omega)])⟩
  case round =>
    obtain ⟨k, hk, rfl, HI⟩ := hrel
    by_cases hlt : k < n
    · obtain ⟨wd, hwd⟩ : ∃ wd, wr.drew = wd := ⟨_, rfl⟩
      have hc1 : wd.cell? ⟨g1, k, none⟩ = some (.int .u8 ((f k).toNat : Nat)) := by
        rw [← hwd]
        have e := HI.out.2.cell k hlt
        rw [show scl f h c k k = f k from by unfold scl; rw [if_neg (by omega)]] at e
        exact e
      have hf1 : wd.frozen? ⟨g1, k, none⟩ = false := by rw [← hwd]; exact HI.out.2.free k hlt
      have hc2 : wd.cell? ⟨g2, k, none⟩ = some (.int .u8 ((h k).toNat : Nat)) := by
        rw [← hwd]
        have e := H2.out.cell k hlt
        have e2 := HI.out.1.cell (p := ⟨g2, k, none⟩) (block_lt_of_cell e) (Ne.symm hne)
        rw [e] at e2
        exact e2
      have HD : Hid (But g1 w wd ∧ Byt g1 n (scl f h c k) wd) := by rw [← hwd]; exact ⟨HI.out.1.trans (((Kept.refl _).drewN 1).but g1), HI.out.2.drewN 1⟩
      have HN := Lib.hid (scl_next f h c k)
      have hy8 := (h k).toNat_lt
      have HXX := Lib.hid (xor_mb (f k) c.toNat (h k) c.toNat_lt)
      have hc8 := c.toNat_lt
      generalize f k = x at *
      generalize h k = y at *
      go_wp2_with fail
      refine wp_region_still_tail 13 (by kernel_rfl) (by kernel_rfl) ?_
      simp only [List.take_succ_cons, List.take_zero, List.drop_succ_cons, List.drop_zero]
      change wpStill _ _ wr.drew (fun a' => wpList _ _ _ _ a' wr.drew) _ _
      rw [hwd]
      clear hwd HI
      repeat still_step
      still_call (refMul_any c.toNat y.toNat hc8 hy8 _)
      repeat still_step
      refine wpStill_nil ?_
      rw [HXX.out]
      have HF : Hid (But g1 w (wd.setCell ⟨g1, k, none⟩ (.int .u8 ((x ^^^ mb c.toNat y).toNat : Nat))) ∧ Byt g1 n (scl f h c (k + 1)) (wd.setCell ⟨g1, k, none⟩ (.int .u8 ((x ^^^ mb c.toNat y).toNat : Nat)))) :=
        ⟨HD.out.1.setCell _ _, (HD.out.2.set k hlt _).congr (fun j _ => HN.out j)⟩
      go_wp2_with fail
      exact ⟨⟨k + 1, by omega, by go_num, HF⟩, by simp [intOf]; omega⟩
    · obtain rfl : k = n := by omega
      go_wp2_with fail
      go_end0
      exact ⟨rfl, HI.out.1, HI.out.2.congr (fun j hj => by unfold scl; rw [if_pos hj])⟩
end Go.Proofs.Ytlmoeaphikdjnaa
