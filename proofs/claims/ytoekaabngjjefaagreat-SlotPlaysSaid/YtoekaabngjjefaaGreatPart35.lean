/- SlotPNew, SlotPNew2. -/
import Derived.Test.YtoekaabngjjefaaGreatPart33
import Derived.ChangeKeysEq
import Derived.Test.YtoekaabngjjefaaGreatPart34
/- The program's: the newest root of all drives, and how many have none. -/
namespace Go.Proofs.YtoekaabngjjefaaGreat
open Go.RowKit Sm Wr _root_.Go.Proofs.YtoekaabngjjefaaGreat.Nm
set_option linter.unusedVariables false
theorem chain_root {α : Type} (x y : Rt) (r f : α) : (if (x.gen : Int) = (y.gen : Int) then if (x.nxt : Int) = (y.nxt : Int) then if x.row = y.row then if (x.st : Int) = (y.st : Int) then if x.len = y.len then r else f else f else f else f else f) = if x.same y = true then r else f := by
  unfold Rt.same
  simp only [show ((x.gen : Int) = (y.gen : Int)) ↔ x.gen = y.gen from by omega, show ((x.nxt : Int) = (y.nxt : Int)) ↔ x.nxt = y.nxt from by omega, show ((x.st : Int) = (y.st : Int)) ↔ x.st = y.st from by omega]
  by_cases h0 : x.gen = y.gen <;> by_cases h1 : x.nxt = y.nxt <;> by_cases h2 : x.row = y.row <;> by_cases h3 : x.st = y.st <;> by_cases h4 : x.len = y.len <;> simp [h0, h1, h2, h3, h4]
theorem eq_root (d : Nat) (x y : Rt) (W : World) : (Op.equalIn (d + 1 + 1 + 1) 38 (.agg #[.int .u64 (x.gen : Nat), .int .u64 (x.nxt : Nat), .int .i64 x.row, .int .u64 (x.st : Nat), .int .i64 x.len]) (.agg #[.int .u64 (y.gen : Nat), .int .u64 (y.nxt : Nat), .int .i64 y.row, .int .u64 (y.st : Nat), .int .i64 y.len])).run Tryz.prog W = .ok (x.same y) W := by
  go_simp
  rw [chain_root]
  cases x.same y <;> rfl
theorem eql_root (x y : Rt) (W : World) : (binOp .eql 38 (.agg #[.int .u64 (x.gen : Nat), .int .u64 (x.nxt : Nat), .int .i64 x.row, .int .u64 (x.st : Nat), .int .i64 x.len]) (.agg #[.int .u64 (y.gen : Nat), .int .u64 (y.nxt : Nat), .int .i64 y.row, .int .u64 (y.st : Nat), .int .i64 y.len])).run Tryz.prog W = .ok (.bool (x.same y)) W := by
  rw [run_eql_struct]
  have h := eq_root 9997 x y W
  rw [show 9997 + 1 + 1 + 1 = 10000 from rfl] at h
  rw [h]
  rfl
theorem info_root : ∃ i, Tryz.prog.info? 38 = some i := Option.isSome_iff_exists.1 (by kernel_rfl)
theorem cells_root : Tryz.prog.cellsOf 38 = 5 := by kernel_rfl
theorem eq_ten (d : Nat) (x y x' y' : Rt) (W : World) : (Op.equalIn (d + 1 + 1 + 1 + 1) 113 (.agg #[.int .u64 (x.gen : Nat), .int .u64 (x.nxt : Nat), .int .i64 x.row, .int .u64 (x.st : Nat), .int .i64 x.len, .int .u64 (y.gen : Nat), .int .u64 (y.nxt : Nat), .int .i64 y.row, .int .u64 (y.st : Nat), .int .i64 y.len]) (.agg #[.int .u64 (x'.gen : Nat), .int .u64 (x'.nxt : Nat), .int .i64 x'.row, .int .u64 (x'.st : Nat), .int .i64 x'.len, .int .u64 (y'.gen : Nat), .int .u64 (y'.nxt : Nat), .int .i64 y'.row, .int .u64 (y'.st : Nat), .int .i64 y'.len])).run Tryz.prog W = .ok (x.same x' && y.same y') W := by
  obtain ⟨i, hi⟩ := info_root
  have hu : Tryz.prog.underlying 113 = some (.array 2 38) := by kernel_rfl
  rw [run_equalIn_array W (d + 1 + 1 + 1) _ _ hu hi, cells_root, show List.range 2 = [0, 1] from rfl]
  simp only [Op.eqItems]
  go_simp
  rw [chain_root, chain_root]
  cases x.same x' <;> cases y.same y' <;> rfl
theorem eqi_ten (x y : Rt) (W : World) : (Op.equalIn 10000 113 (.agg #[.int .u64 (x.gen : Nat), .int .u64 (x.nxt : Nat), .int .i64 x.row, .int .u64 (x.st : Nat), .int .i64 x.len, .int .u64 (y.gen : Nat), .int .u64 (y.nxt : Nat), .int .i64 y.row, .int .u64 (y.st : Nat), .int .i64 y.len]) (.agg #[.int .u64 0, .int .u64 0, .int .i64 0, .int .u64 0, .int .i64 0, .int .u64 0, .int .u64 0, .int .i64 0, .int .u64 0, .int .i64 0])).run Tryz.prog W = .ok (x.same Rt.none && y.same Rt.none) W := eq_ten 9996 x y Rt.none Rt.none W
theorem eqi_root (x y : Rt) (W : World) : (Op.equalIn 10000 38 (.agg #[.int .u64 (x.gen : Nat), .int .u64 (x.nxt : Nat), .int .i64 x.row, .int .u64 (x.st : Nat), .int .i64 x.len]) (.agg #[.int .u64 (y.gen : Nat), .int .u64 (y.nxt : Nat), .int .i64 y.row, .int .u64 (y.st : Nat), .int .i64 y.len])).run Tryz.prog W = .ok (x.same y) W := eq_root 9997 x y W
theorem idx_ten (x y : Rt) (W : World) : (Instr.index 113 (.agg #[.int .u64 (x.gen : Nat), .int .u64 (x.nxt : Nat), .int .i64 x.row, .int .u64 (x.st : Nat), .int .i64 x.len, .int .u64 (y.gen : Nat), .int .u64 (y.nxt : Nat), .int .i64 y.row, .int .u64 (y.st : Nat), .int .i64 y.len]) (.int .i64 0)).run Tryz.prog W = .ok (.agg #[.int .u64 (x.gen : Nat), .int .u64 (x.nxt : Nat), .int .i64 x.row, .int .u64 (x.st : Nat), .int .i64 x.len]) W ∧ (Instr.index 113 (.agg #[.int .u64 (x.gen : Nat), .int .u64 (x.nxt : Nat), .int .i64 x.row, .int .u64 (x.st : Nat), .int .i64 x.len, .int .u64 (y.gen : Nat), .int .u64 (y.nxt : Nat), .int .i64 y.row, .int .u64 (y.st : Nat), .int .i64 y.len]) (.int .i64 1)).run Tryz.prog W = .ok (.agg #[.int .u64 (y.gen : Nat), .int .u64 (y.nxt : Nat), .int .i64 y.row, .int .u64 (y.st : Nat), .int .i64 y.len]) W := by
  have hu : Tryz.prog.underlying 113 = some (.array 2 38) := by kernel_rfl
  constructor
  · simp only [Instr.index, Sem.run_bind, run_underlying hu, Result.andThen_ok, asIntOf, Sem.run_pure]
    go_simp
  · simp only [Instr.index, Sem.run_bind, run_underlying hu, Result.andThen_ok, asIntOf, Sem.run_pure]
    go_simp
/-- What newest tells of the first k pairs. -/
def nTo (f : Nat → Rt × Rt) : Nat → Rt × Nat
  | 0 => (Rt.none, 0)
  | k + 1 => (bestR (bestR (nTo f k).1 (f k).1) (f k).2, if ((f k).1.same Rt.none && (f k).2.same Rt.none) = true then (nTo f k).2 + 1 else (nTo f k).2)
theorem nTo_le (f : Nat → Rt × Rt) (k : Nat) : (nTo f k).2 ≤ k := by
  induction k with
  | zero => exact Nat.le_refl _
  | succ k ih =>
    show (if ((f k).1.same Rt.none && (f k).2.same Rt.none) = true then (nTo f k).2 + 1 else (nTo f k).2) ≤ k + 1
    split
    · exact Nat.succ_le_succ ih
    · exact Nat.le_succ_of_le ih
theorem rtAt_zero_gen (l : List UInt8) (k : Nat) : (rtAt l k).same Rt.none = true ↔ (rtAt l k).gen = 0 := by
  rw [Rt.same_iff]
  constructor
  · intro h; rw [h]; rfl
  · unfold rtAt
    cases hd : decR l with
    | none => intro _; rfl
    | some x =>
      dsimp only
      split
      · intro h
        have := (Rt.may_iff (decR_some hd).1).1
        omega
      · intro _; rfl
theorem nTo_vTo (s : RSt) (k : Nat) : nTo (slR s) k = vTo s k := by
  induction k with
  | zero => rfl
  | succ k ih =>
    show (bestR (bestR (nTo (slR s) k).1 (slR s k).1) (slR s k).2, if ((slR s k).1.same Rt.none && (slR s k).2.same Rt.none) = true then (nTo (slR s) k).2 + 1 else (nTo (slR s) k).2) = vStep (vTo s k) (slotsR s k)
    rw [ih]
    unfold slR slotsR vStep
    by_cases h : s.readE k 0 = 0 ∧ s.readE k 1 = 0
    · rw [if_pos h]
      dsimp only [Option.getD]
      congr 1
      have h1 := rtAt_zero_gen (s.readT k 0).data.toList 0
      have h2 := rtAt_zero_gen (s.readT k 1).data.toList 1
      simp only [Bool.and_eq_true, h1, h2]
    · rw [if_neg h]
      dsimp only [Option.getD]
      congr 1
theorem vTo_gen (s : RSt) (k : Nat) : (vTo s k).2 = k ∨ 0 < (vTo s k).1.gen := by
  induction k with
  | zero => exact .inl rfl
  | succ k ih =>
    show (vStep (vTo s k) (slotsR s k)).2 = k + 1 ∨ 0 < (vStep (vTo s k) (slotsR s k)).1.gen
    unfold vStep
    split
    · rcases ih with h | h
      · left; dsimp only; omega
      · right; exact h
    · rename_i ab _
      have h1 := bestR_ge (vTo s k).1 ab.1
      have h2 := bestR_ge (bestR (vTo s k).1 ab.1) ab.2
      dsimp only
      by_cases hz : ab.1.gen = 0 ∧ ab.2.gen = 0
      · rw [if_pos hz]
        rcases ih with h | h
        · left; omega
        · right; omega
      · right; omega
end Go.Proofs.YtoekaabngjjefaaGreat

/- The program's: the newest root of all drives, and how many have none: the walk. -/
namespace Go.Proofs.YtoekaabngjjefaaGreat
open Go.RowKit Sm Wr _root_.Go.Proofs.YtoekaabngjjefaaGreat.Nm
set_option linter.unusedVariables false
def nK (p a b : Rt) : Nat → Rt
  | 0 => p
  | 1 => bestR p a
  | _ => bestR (bestR p a) b
set_option maxHeartbeats 4000000 in
set_option maxRecDepth 100000 in
theorem newest_any (q n : Nat) (f : Nat → Rt × Rt) (hn : n ≤ 12) (w : World) (hF : RtsAt w q n f) (h1 : 1 ≤ n) :
    Calls Tryz.prog 47 #[.slice (some ⟨q, 0, none⟩) n n] w fun e w' => e = .returned (.tuple #[(nTo f n).1.val, .int .i64 ((nTo f n).2 : Nat)]) ∧ Kept w w' := by
  have K0 : Hid (Kept w (w.alloc (.cells #[.int .u64 0, .int .u64 0, .int .i64 0, .int .u64 0, .int .i64 0] 38))) := (Kept.refl _).alloc _
  have S0 := Lib.hid (RtAt.new w 38)
  have F0 := Lib.hid (hF.kept K0.out)
  have hqw : q < w.heap.size := (hF.lo 0 (by omega)).lt
  clear hF
  go_enter Tryz.func47, Tryz.ntmps47
  go_upto_region 1 with fail
  generalize w.alloc (.cells #[.int .u64 0, .int .u64 0, .int .i64 0, .int .u64 0, .int .i64 0] 38) = w0 at *
  go_upto_region 2 with fail
  go_loopg [3, 10] n (fun gh c i wr => ∃ d : Nat, d + gh = n ∧ i = .int .i64 d ∧ c = .int .i64 ((nTo f d).2 : Nat) ∧ Hid (Kept w wr ∧ RtsAt wr q n f ∧ RtAt wr w.heap.size (nTo f d).1))
  case atStart => exact ⟨0, by omega, rfl, rfl, K0.out, F0.out, S0.out⟩
  case round =>
    obtain ⟨d, hd, rfl, rfl, HI⟩ := hrel
    cases gk with
    | succ gh =>
      have b1 : decide ((d : Int) < (n : Int)) = true := decide_eq_true (by omega)
      have b0 : decide (d < n) = true := decide_eq_true (by omega)
      have hdn : (d : Int) < (n : Int) := by omega
      have hc12 := nTo_le f d
      obtain ⟨a, ha⟩ : ∃ a, a = (f d).1 := ⟨_, rfl⟩
      obtain ⟨b, hb⟩ : ∃ b, b = (f d).2 := ⟨_, rfl⟩
      obtain ⟨c, hc⟩ : ∃ c, c = (nTo f d).2 := ⟨_, rfl⟩
      obtain ⟨p, hp⟩ : ∃ p, p = (nTo f d).1 := ⟨_, rfl⟩
      have HN : Hid (nTo f (d + 1) = (bestR (bestR p a) b, if (a.same Rt.none && b.same Rt.none) = true then c + 1 else c)) := by rw [ha, hb, hc, hp]; rfl
      obtain ⟨q0, q1, q2, q3, q4⟩ := HI.out.2.1.lo d (by omega)
      obtain ⟨q5, q6, q7, q8, q9⟩ := HI.out.2.1.hi d (by omega)
      rw [← ha] at q0 q1 q2 q3 q4
      rw [← hb] at q5 q6 q7 q8 q9
      rw [← hc] at hc12
      have K1 := Lib.hid HI.out.1
      have F1 := Lib.hid HI.out.2.1
      have S1 := Lib.hid HI.out.2.2
      rw [← hp] at S1
      rw [← hc]
      clear HI ha hb hc hp
      have kx : Kept wr (wr.alloc (.cells #[.int .u64 (a.gen : Nat), .int .u64 (a.nxt : Nat), .int .i64 a.row, .int .u64 (a.st : Nat), .int .i64 a.len, .int .u64 (b.gen : Nat), .int .u64 (b.nxt : Nat), .int .i64 b.row, .int .u64 (b.st : Nat), .int .i64 b.len] 113)) := (Kept.refl _).alloc _
      have K2 : Hid (Kept w (wr.alloc (.cells #[.int .u64 (a.gen : Nat), .int .u64 (a.nxt : Nat), .int .i64 a.row, .int .u64 (a.st : Nat), .int .i64 a.len, .int .u64 (b.gen : Nat), .int .u64 (b.nxt : Nat), .int .i64 b.row, .int .u64 (b.st : Nat), .int .i64 b.len] 113))) := K1.out.trans kx
      have F2 := Lib.hid (F1.out.kept kx)
      have S2 := Lib.hid (S1.out.kept kx)
      have hBG : w.heap.size < wr.heap.size := S1.out.lt
      have hten : ∀ j v, (#[.int .u64 (a.gen : Nat), .int .u64 (a.nxt : Nat), .int .i64 a.row, .int .u64 (a.st : Nat), .int .i64 a.len, .int .u64 (b.gen : Nat), .int .u64 (b.nxt : Nat), .int .i64 b.row, .int .u64 (b.st : Nat), .int .i64 b.len] : Array Value)[j]? = some v → (wr.alloc (.cells #[.int .u64 (a.gen : Nat), .int .u64 (a.nxt : Nat), .int .i64 a.row, .int .u64 (a.st : Nat), .int .i64 a.len, .int .u64 (b.gen : Nat), .int .u64 (b.nxt : Nat), .int .i64 b.row, .int .u64 (b.st : Nat), .int .i64 b.len] 113)).cell? ⟨wr.heap.size, j, none⟩ = some v := fun j v hv => by rw [World.cell?_alloc_mark]; exact hv
      have t0 := hten 0 _ rfl
      have t1 := hten 1 _ rfl
      have t2 := hten 2 _ rfl
      have t3 := hten 3 _ rfl
      have t4 := hten 4 _ rfl
      have t5 := hten 5 _ rfl
      have t6 := hten 6 _ rfl
      have t7 := hten 7 _ rfl
      have t8 := hten 8 _ rfl
      have t9 := hten 9 _ rfl
      clear kx K1 F1 S1 hten
      go_upto_region 4 with fail
      generalize wr.alloc (.cells #[.int .u64 (a.gen : Nat), .int .u64 (a.nxt : Nat), .int .i64 a.row, .int .u64 (a.st : Nat), .int .i64 a.len, .int .u64 (b.gen : Nat), .int .u64 (b.nxt : Nat), .int .i64 b.row, .int .u64 (b.st : Nat), .int .i64 b.len] 113) = w2 at *
      generalize wr.heap.size = G at *
      have heq := eqi_ten a b w2
      obtain ⟨c', hc', hcc⟩ : ∃ c', c' = (if (a.same Rt.none && b.same Rt.none) = true then c + 1 else c) ∧ c' ≤ 13 := ⟨_, rfl, by split <;> omega⟩
      rw [← hc'] at HN
      have HCC := Lib.hid hc'
      clear hc'
      generalize (a.same Rt.none && b.same Rt.none) = z at *
      have hcz : (if z = true then Value.int .i64 ((c + 1 : Nat) : Int) else Value.int .i64 (c : Int)) = Value.int .i64 (c' : Int) := by
        rw [HCC.out]
        split <;> rfl
      cases z with
      | false =>
        have hcc' : c' = c := by rw [HCC.out]; rfl
        subst hcc'
        clear HCC hcz
        go_upto_region 7 with fail
        (try rw [← hcc2])
        clear heq t0 t1 t2 t3 t4 t5 t6 t7 t8 t9 q0 q1 q2 q3 q4 q5 q6 q7 q8 q9
        go_loopg [20] 2 (fun g2 i wy => ∃ k : Nat, k + g2 = 2 ∧ i = .int .i64 k ∧ Hid (Kept w wy ∧ RtsAt wy q n f ∧ RtAt wy w.heap.size (nK p a b k)))
        case atStart => exact ⟨0, by omega, rfl, K2.out, F2.out, S2.out⟩
        case round =>
          obtain ⟨k, hk, rfl, HJ⟩ := hrel
          cases gk with
          | succ g2 =>
            have b2 : decide ((k : Int) < 2) = true := decide_eq_true (by omega)
            have b22 : decide (k < 2) = true := decide_eq_true (by omega)
            have K4 := Lib.hid HJ.out.1
            have F4 := Lib.hid HJ.out.2.1
            have S4 := Lib.hid HJ.out.2.2
            clear HJ K2 F2 S2
            rcases (show k = 0 ∨ k = 1 by omega) with rfl | rfl
            · have kx : Kept wr (wr.alloc (.cells #[.int .u64 (a.gen : Nat), .int .u64 (a.nxt : Nat), .int .i64 a.row, .int .u64 (a.st : Nat), .int .i64 a.len] 38)) := (Kept.refl _).alloc _
              have K5 : Hid (Kept w (wr.alloc (.cells #[.int .u64 (a.gen : Nat), .int .u64 (a.nxt : Nat), .int .i64 a.row, .int .u64 (a.st : Nat), .int .i64 a.len] 38))) := K4.out.trans kx
              have F5 := Lib.hid (F4.out.kept kx)
              have S5 := Lib.hid (S4.out.kept kx)
              have X5 := Lib.hid (RtAt.laid wr 38 a)
              have hBG2 : w.heap.size < wr.heap.size := S4.out.lt
              clear kx K4 F4 S4
              have hix0 := fun W => (idx_ten a b W).1
              have hix1 := fun W => (idx_ten a b W).2
              go_upto_region 9 with fail
              clear hix0 hix1
              generalize wr.alloc (.cells #[.int .u64 (a.gen : Nat), .int .u64 (a.nxt : Nat), .int .i64 a.row, .int .u64 (a.st : Nat), .int .i64 a.len] 38) = w5 at *
              generalize wr.heap.size = G2 at *
              have x0 := X5.out.c0
              have s0 := S5.out.c0
              by_cases hg : (nK p a b 0).gen < a.gen
              · have b3 : decide (((nK p a b 0).gen : Int) < (a.gen : Int)) = true := decide_eq_true (by omega)
                have b4 : decide ((nK p a b 0).gen < a.gen) = true := decide_eq_true hg
                have hnk : nK p a b (0 + 1) = a := if_pos hg
                have HP := Lib.hid (S5.out.put a)
                have HKP := Lib.hid (putRt_kept K5.out w.heap.size a (Nat.le_refl _))
                have HFP : Hid (RtsAt (putRt w5 w.heap.size a) q n f) := F5.out.but (putRt_but _ _ _) (by omega)
                obtain ⟨y0, y1, y2, y3, y4, f0, f1, f2, f3, f4⟩ := S5.out
                obtain ⟨x0, x1, x2, x3, x4, _, _, _, _, _⟩ := X5.out
                unfold putRt at HP HKP HFP
                clear K5 F5 S5 X5 s0
                generalize nK p a b 0 = pk at *
                have hne : w.heap.size ≠ G2 := by omega
                have hoff : ∀ (W : World) o o' v, (W.setCell ⟨w.heap.size, o', none⟩ v).cell? ⟨G2, o, none⟩ = W.cell? ⟨G2, o, none⟩ := fun W o o' v => World.cell?_setCell_other _ _ _ _ (by intro e; injection e with e; exact hne e)
                go_wp2_with fail
                go_roundg g2
                case measure => omega
                case rel => exact ⟨(0 + 1), by omega, by go_num, HKP.out, HFP.out, by rw [hnk]; exact HP.out⟩
              · have b3 : decide (((nK p a b 0).gen : Int) < (a.gen : Int)) = false := decide_eq_false (by omega)
                have b4 : decide ((nK p a b 0).gen < a.gen) = false := decide_eq_false hg
                have hnk : nK p a b (0 + 1) = nK p a b 0 := if_neg hg
                clear X5
                have HS : Hid (RtAt w5 w.heap.size (nK p a b (0 + 1))) := by show _; rw [hnk]; exact S5.out
                clear S5 hnk
                generalize nK p a b 0 = pk at *
                go_wp2_with fail
                go_roundg g2
                case measure => omega
                case rel => exact ⟨(0 + 1), by omega, by go_num, K5.out, F5.out, HS.out⟩
            · have kx : Kept wr (wr.alloc (.cells #[.int .u64 (b.gen : Nat), .int .u64 (b.nxt : Nat), .int .i64 b.row, .int .u64 (b.st : Nat), .int .i64 b.len] 38)) := (Kept.refl _).alloc _
              have K5 : Hid (Kept w (wr.alloc (.cells #[.int .u64 (b.gen : Nat), .int .u64 (b.nxt : Nat), .int .i64 b.row, .int .u64 (b.st : Nat), .int .i64 b.len] 38))) := K4.out.trans kx
              have F5 := Lib.hid (F4.out.kept kx)
              have S5 := Lib.hid (S4.out.kept kx)
              have X5 := Lib.hid (RtAt.laid wr 38 b)
              have hBG2 : w.heap.size < wr.heap.size := S4.out.lt
              clear kx K4 F4 S4
              have hix0 := fun W => (idx_ten a b W).1
              have hix1 := fun W => (idx_ten a b W).2
              go_upto_region 9 with fail
              clear hix0 hix1
              generalize wr.alloc (.cells #[.int .u64 (b.gen : Nat), .int .u64 (b.nxt : Nat), .int .i64 b.row, .int .u64 (b.st : Nat), .int .i64 b.len] 38) = w5 at *
              generalize wr.heap.size = G2 at *
              have x0 := X5.out.c0
              have s0 := S5.out.c0
              by_cases hg : (nK p a b 1).gen < b.gen
              · have b3 : decide (((nK p a b 1).gen : Int) < (b.gen : Int)) = true := decide_eq_true (by omega)
                have b4 : decide ((nK p a b 1).gen < b.gen) = true := decide_eq_true hg
                have hnk : nK p a b (1 + 1) = b := if_pos hg
                have HP := Lib.hid (S5.out.put b)
                have HKP := Lib.hid (putRt_kept K5.out w.heap.size b (Nat.le_refl _))
                have HFP : Hid (RtsAt (putRt w5 w.heap.size b) q n f) := F5.out.but (putRt_but _ _ _) (by omega)
                obtain ⟨y0, y1, y2, y3, y4, f0, f1, f2, f3, f4⟩ := S5.out
                obtain ⟨x0, x1, x2, x3, x4, _, _, _, _, _⟩ := X5.out
                unfold putRt at HP HKP HFP
                clear K5 F5 S5 X5 s0
                generalize nK p a b 1 = pk at *
                have hne : w.heap.size ≠ G2 := by omega
                have hoff : ∀ (W : World) o o' v, (W.setCell ⟨w.heap.size, o', none⟩ v).cell? ⟨G2, o, none⟩ = W.cell? ⟨G2, o, none⟩ := fun W o o' v => World.cell?_setCell_other _ _ _ _ (by intro e; injection e with e; exact hne e)
                go_wp2_with fail
                go_roundg g2
                case measure => omega
                case rel => exact ⟨(1 + 1), by omega, by go_num, HKP.out, HFP.out, by rw [hnk]; exact HP.out⟩
              · have b3 : decide (((nK p a b 1).gen : Int) < (b.gen : Int)) = false := decide_eq_false (by omega)
                have b4 : decide ((nK p a b 1).gen < b.gen) = false := decide_eq_false hg
                have hnk : nK p a b (1 + 1) = nK p a b 1 := if_neg hg
                clear X5
                have HS : Hid (RtAt w5 w.heap.size (nK p a b (1 + 1))) := by show _; rw [hnk]; exact S5.out
                clear S5 hnk
                generalize nK p a b 1 = pk at *
                go_wp2_with fail
                go_roundg g2
                case measure => omega
                case rel => exact ⟨(1 + 1), by omega, by go_num, K5.out, F5.out, HS.out⟩
          | zero =>
            obtain rfl : k = 2 := by omega
            have K4 := Lib.hid HJ.out.1
            have F4 := Lib.hid HJ.out.2.1
            have S4 : Hid (RtAt wr w.heap.size (nTo f (d + 1)).1) := by show _; rw [HN.out]; exact HJ.out.2.2
            have hn2 : (nTo f (d + 1)).2 = c' := by rw [HN.out]
            clear HJ
            go_wp2_with fail
            go_roundg gh
            case measure => omega
            case rel => exact ⟨d + 1, by omega, by go_num, by first | (rw [hn2]; done) | (rw [hn2]; rfl), K4.out, F4.out, S4.out⟩
      | true =>
        have hcc' : c' = c + 1 := by rw [HCC.out]; rfl
        have hcc2 : ((c + 1 : Nat) : Int) = (c : Int) + 1 := by omega
        subst hcc'
        clear HCC hcz
        go_upto_region 7 with fail
        (try rw [← hcc2])
        clear heq t0 t1 t2 t3 t4 t5 t6 t7 t8 t9 q0 q1 q2 q3 q4 q5 q6 q7 q8 q9
        go_loopg [20] 2 (fun g2 i wy => ∃ k : Nat, k + g2 = 2 ∧ i = .int .i64 k ∧ Hid (Kept w wy ∧ RtsAt wy q n f ∧ RtAt wy w.heap.size (nK p a b k)))
        case atStart => exact ⟨0, by omega, rfl, K2.out, F2.out, S2.out⟩
        case round =>
          obtain ⟨k, hk, rfl, HJ⟩ := hrel
          cases gk with
          | succ g2 =>
            have b2 : decide ((k : Int) < 2) = true := decide_eq_true (by omega)
            have b22 : decide (k < 2) = true := decide_eq_true (by omega)
            have K4 := Lib.hid HJ.out.1
            have F4 := Lib.hid HJ.out.2.1
            have S4 := Lib.hid HJ.out.2.2
            clear HJ K2 F2 S2
            rcases (show k = 0 ∨ k = 1 by omega) with rfl | rfl
            · have kx : Kept wr (wr.alloc (.cells #[.int .u64 (a.gen : Nat), .int .u64 (a.nxt : Nat), .int .i64 a.row, .int .u64 (a.st : Nat), .int .i64 a.len] 38)) := (Kept.refl _).alloc _
              have K5 : Hid (Kept w (wr.alloc (.cells #[.int .u64 (a.gen : Nat), .int .u64 (a.nxt : Nat), .int .i64 a.row, .int .u64 (a.st : Nat), .int .i64 a.len] 38))) := K4.out.trans kx
              have F5 := Lib.hid (F4.out.kept kx)
              have S5 := Lib.hid (S4.out.kept kx)
              have X5 := Lib.hid (RtAt.laid wr 38 a)
              have hBG2 : w.heap.size < wr.heap.size := S4.out.lt
              clear kx K4 F4 S4
              have hix0 := fun W => (idx_ten a b W).1
              have hix1 := fun W => (idx_ten a b W).2
              go_upto_region 9 with fail
              clear hix0 hix1
              generalize wr.alloc (.cells #[.int .u64 (a.gen : Nat), .int .u64 (a.nxt : Nat), .int .i64 a.row, .int .u64 (a.st : Nat), .int .i64 a.len] 38) = w5 at *
              generalize wr.heap.size = G2 at *
              have x0 := X5.out.c0
              have s0 := S5.out.c0
              by_cases hg : (nK p a b 0).gen < a.gen
              · have b3 : decide (((nK p a b 0).gen : Int) < (a.gen : Int)) = true := decide_eq_true (by omega)
                have b4 : decide ((nK p a b 0).gen < a.gen) = true := decide_eq_true hg
                have hnk : nK p a b (0 + 1) = a := if_pos hg
                have HP := Lib.hid (S5.out.put a)
                have HKP := Lib.hid (putRt_kept K5.out w.heap.size a (Nat.le_refl _))
                have HFP : Hid (RtsAt (putRt w5 w.heap.size a) q n f) := F5.out.but (putRt_but _ _ _) (by omega)
                obtain ⟨y0, y1, y2, y3, y4, f0, f1, f2, f3, f4⟩ := S5.out
                obtain ⟨x0, x1, x2, x3, x4, _, _, _, _, _⟩ := X5.out
                unfold putRt at HP HKP HFP
                clear K5 F5 S5 X5 s0
                generalize nK p a b 0 = pk at *
                have hne : w.heap.size ≠ G2 := by omega
                have hoff : ∀ (W : World) o o' v, (W.setCell ⟨w.heap.size, o', none⟩ v).cell? ⟨G2, o, none⟩ = W.cell? ⟨G2, o, none⟩ := fun W o o' v => World.cell?_setCell_other _ _ _ _ (by intro e; injection e with e; exact hne e)
                go_wp2_with fail
                go_roundg g2
                case measure => omega
                case rel => exact ⟨(0 + 1), by omega, by go_num, HKP.out, HFP.out, by rw [hnk]; exact HP.out⟩
              · have b3 : decide (((nK p a b 0).gen : Int) < (a.gen : Int)) = false := decide_eq_false (by omega)
                have b4 : decide ((nK p a b 0).gen < a.gen) = false := decide_eq_false hg
                have hnk : nK p a b (0 + 1) = nK p a b 0 := if_neg hg
                clear X5
                have HS : Hid (RtAt w5 w.heap.size (nK p a b (0 + 1))) := by show _; rw [hnk]; exact S5.out
                clear S5 hnk
                generalize nK p a b 0 = pk at *
                go_wp2_with fail
                go_roundg g2
                case measure => omega
                case rel => exact ⟨(0 + 1), by omega, by go_num, K5.out, F5.out, HS.out⟩
            · have kx : Kept wr (wr.alloc (.cells #[.int .u64 (b.gen : Nat), .int .u64 (b.nxt : Nat), .int .i64 b.row, .int .u64 (b.st : Nat), .int .i64 b.len] 38)) := (Kept.refl _).alloc _
              have K5 : Hid (Kept w (wr.alloc (.cells #[.int .u64 (b.gen : Nat), .int .u64 (b.nxt : Nat), .int .i64 b.row, .int .u64 (b.st : Nat), .int .i64 b.len] 38))) := K4.out.trans kx
              have F5 := Lib.hid (F4.out.kept kx)
              have S5 := Lib.hid (S4.out.kept kx)
              have X5 := Lib.hid (RtAt.laid wr 38 b)
              have hBG2 : w.heap.size < wr.heap.size := S4.out.lt
              clear kx K4 F4 S4
              have hix0 := fun W => (idx_ten a b W).1
              have hix1 := fun W => (idx_ten a b W).2
              go_upto_region 9 with fail
              clear hix0 hix1
              generalize wr.alloc (.cells #[.int .u64 (b.gen : Nat), .int .u64 (b.nxt : Nat), .int .i64 b.row, .int .u64 (b.st : Nat), .int .i64 b.len] 38) = w5 at *
              generalize wr.heap.size = G2 at *
              have x0 := X5.out.c0
              have s0 := S5.out.c0
              by_cases hg : (nK p a b 1).gen < b.gen
              · have b3 : decide (((nK p a b 1).gen : Int) < (b.gen : Int)) = true := decide_eq_true (by omega)
                have b4 : decide ((nK p a b 1).gen < b.gen) = true := decide_eq_true hg
                have hnk : nK p a b (1 + 1) = b := if_pos hg
                have HP := Lib.hid (S5.out.put b)
                have HKP := Lib.hid (putRt_kept K5.out w.heap.size b (Nat.le_refl _))
                have HFP : Hid (RtsAt (putRt w5 w.heap.size b) q n f) := F5.out.but (putRt_but _ _ _) (by omega)
                obtain ⟨y0, y1, y2, y3, y4, f0, f1, f2, f3, f4⟩ := S5.out
                obtain ⟨x0, x1, x2, x3, x4, _, _, _, _, _⟩ := X5.out
                unfold putRt at HP HKP HFP
                clear K5 F5 S5 X5 s0
                generalize nK p a b 1 = pk at *
                have hne : w.heap.size ≠ G2 := by omega
                have hoff : ∀ (W : World) o o' v, (W.setCell ⟨w.heap.size, o', none⟩ v).cell? ⟨G2, o, none⟩ = W.cell? ⟨G2, o, none⟩ := fun W o o' v => World.cell?_setCell_other _ _ _ _ (by intro e; injection e with e; exact hne e)
                go_wp2_with fail
                go_roundg g2
                case measure => omega
                case rel => exact ⟨(1 + 1), by omega, by go_num, HKP.out, HFP.out, by rw [hnk]; exact HP.out⟩
              · have b3 : decide (((nK p a b 1).gen : Int) < (b.gen : Int)) = false := decide_eq_false (by omega)
                have b4 : decide ((nK p a b 1).gen < b.gen) = false := decide_eq_false hg
                have hnk : nK p a b (1 + 1) = nK p a b 1 := if_neg hg
                clear X5
                have HS : Hid (RtAt w5 w.heap.size (nK p a b (1 + 1))) := by show _; rw [hnk]; exact S5.out
                clear S5 hnk
                generalize nK p a b 1 = pk at *
                go_wp2_with fail
                go_roundg g2
                case measure => omega
                case rel => exact ⟨(1 + 1), by omega, by go_num, K5.out, F5.out, HS.out⟩
          | zero =>
            obtain rfl : k = 2 := by omega
            have K4 := Lib.hid HJ.out.1
            have F4 := Lib.hid HJ.out.2.1
            have S4 : Hid (RtAt wr w.heap.size (nTo f (d + 1)).1) := by show _; rw [HN.out]; exact HJ.out.2.2
            have hn2 : (nTo f (d + 1)).2 = c + 1 := by rw [HN.out]
            clear HJ
            go_wp2_with fail
            go_roundg gh
            case measure => omega
            case rel => exact ⟨d + 1, by omega, by go_num, by first | (rw [hn2]; done) | (rw [hn2]; rfl), K4.out, F4.out, S4.out⟩
    | zero =>
      have b1 : decide ((d : Int) < (n : Int)) = false := decide_eq_false (by omega)
      obtain rfl : d = n := by omega
      have HP := Lib.hid (HI.out.2.2.put (nTo f d).1)
      have HKP := Lib.hid (putRt_kept HI.out.1 w.heap.size (nTo f d).1 (Nat.le_refl _))
      obtain ⟨p0, p1, p2, p3, p4, f0, f1, f2, f3, f4⟩ := HI.out.2.2
      unfold putRt at HP HKP
      clear HI
      go_wp2_with fail
      exact bodyPost_ret (v := .tuple #[(nTo f d).1.val, .int .i64 ((nTo f d).2 : Nat)]) (by have q0 := HP.out.c0; have q1 := HP.out.c1; have q2 := HP.out.c2; have q3 := HP.out.c3; have q4 := HP.out.c4; (try simp at q0 q1 q2 q3 q4); simp [results, Tryz.results47, go_sem, Rt.val, q0, q1, q2, q3, q4]) rfl ⟨rfl, HKP.out⟩
end Go.Proofs.YtoekaabngjjefaaGreat

