/- Which keys may be: the program's. -/
import Derived.Test.YtccpbgkaeldlaaaNyBktR
namespace Go.Proofs.Ytccpbgkaeldlaaa
open Go.RowKit _root_.Go.Proofs.Ytccpbgkaeldlaaa.Nm Ny
set_option linter.unusedVariables false
set_option linter.unusedSimpArgs false
theorem wp_quietN {P : Program} {C : World → Prop} {id : Nat} {Q : Exit → Act → World → Prop} {a : Act} {w : World} {l : List Oper} (hm : P.follows .mixedOrders = true) (hB : Region.lexB .any l.toArray = true) (hC : C w.drew)
    (h : wpQuiet P l.toArray C (fun a' => ∀ w', C w' → Q .normal a' w') l a) : (Code.region id l.toArray true).wp P Q a w :=
  wp_region_quiet (C := C) hm hB hC (by simpa using h)
theorem mayK_of (k : Key) (f1 r1 r2 r3 r4 : Bool) (h0 : isK k.kd = f1) (h1 : (if hasB k.kd then bktB k.bk.data.toList else decide (k.bk.size = 0)) = r1) (h2 : (if hasM k.kd then objB k.nm.size else decide (k.nm.size = 0)) = r2)
    (h3 : (hasN k.kd || decide (k.n = 0)) = r3) (h4 : (if hasP k.kd then decide (1 ≤ k.pt) && decide (k.pt ≤ 1000) else decide (k.pt = 0)) = r4) : mayK k = (f1 && r1 && r2 && r3 && r4) := by
  unfold mayK
  rw [h0, h1, h2, h3, h4]
theorem str_nil (s : ByteArray) : s.toList.isEmpty = decide (s.size = 0) := by
  rw [Bool.eq_iff_iff, List.isEmpty_iff, decide_eq_true_eq, ByteArray.toList_eq]
  constructor
  · intro h
    rw [← list_size, h]
    rfl
  · intro h
    rw [ba_nil h]
set_option maxHeartbeats 4000000 in
set_option maxRecDepth 100000 in
theorem pMay_core (kd : Nat) (bk nm : ByteArray) (n : Nat) (pt : Int) (w : World) (f1 r1 r2 r3 r4 fb fm fn fp bb oo z1 z2 z3 z4 p1 p2 pp : Bool)
    (hb1 : bk.size ≤ maxLen) (hb2 : nm.size ≤ maxLen)
    (h1 : isK kd = f1) (h2 : hasB kd = fb) (h3 : hasM kd = fm) (h4 : hasN kd = fn) (h5 : hasP kd = fp) (h6 : bktB bk.data.toList = bb) (h7 : objB nm.size = oo)
    (e1 : bk.toList.isEmpty = z1) (e2 : nm.toList.isEmpty = z2) (e3 : ((n : Int) == 0) = z3) (e4 : (pt == 0) = z4) (e5 : decide (1 ≤ pt) = p1) (e6 : decide (pt ≤ 1000) = p2)
    (g1 : (if fb then bb else z1) = r1) (g2 : (if fm then oo else z2) = r2) (g3 : (if fn then true else z3) = r3) (g5 : (p1 && p2) = pp) (g4 : (if fp then pp else z4) = r4) :
    Calls Try.prog 18 #[.agg #[.int .u8 (kd : Nat), .string bk, .string nm, .int .u64 (n : Nat), .int .i64 pt]] w fun e w' => e = .returned (.bool (f1 && r1 && r2 && r3 && r4)) ∧ Kept w w' := by
  have HK := Lib.hid ((Kept.refl w).alloc (.cells #[.int .u8 (kd : Nat), .string bk, .string nm, .int .u64 (n : Nat), .int .i64 pt] 24))
  have HX := Lib.hid (KyAt.laid w 24 ⟨kd, bk, nm, n, pt⟩)
  have HH := Lib.hid (fun W => has_any kd W)
  have HB := Lib.hid (fun W => pBucket_any bk W hb1)
  have HO := Lib.hid (fun W => pObject_any nm W hb2)
  have HR1 := Lib.hid (fun W => right_any fb bb z1 W)
  have HR2 := Lib.hid (fun W => right_any fm oo z2 W)
  have HR3 := Lib.hid (fun W => right_any fn true z3 W)
  have HR4 := Lib.hid (fun W => right_any fp pp z4 W)
  have HFL := Lib.hid (fun W => FdAt.laid W 47 kd)
  have HFC : Hid (∀ (w : World) (g : Nat), FdAt w g kd → w.cell? ⟨g, 0, none⟩ = some (.bool fb) ∧ w.cell? ⟨g, 1, none⟩ = some (.bool fm) ∧ w.cell? ⟨g, 2, none⟩ = some (.bool fn) ∧ w.cell? ⟨g, 3, none⟩ = some (.bool fp)) := fun w g h => by
    rw [← h2, ← h3, ← h4, ← h5]; exact ⟨h.c0, h.c1, h.c2, h.c3⟩
  unfold fdV at HH
  rw [h2, h3, h4, h5] at HFL
  rw [h1, h2, h3, h4, h5] at HH
  rw [h6] at HB
  rw [h7] at HO
  rw [g1] at HR1
  rw [g2] at HR2
  rw [g3] at HR3
  rw [g4] at HR4
  clear h1 h2 h3 h4 h5 h6 h7 g1 g2 g3 g4
  go_enter Try.func18, Try.ntmps18
  go_upto_region 1 with fail
  generalize w.alloc (.cells #[.int .u8 (kd : Nat), .string bk, .string nm, .int .u64 (n : Nat), .int .i64 pt] 24) = w0 at *
  have hlt := HX.out.lt
  obtain ⟨c0, c1, c2, c3, c4, _, _, _, _, _⟩ := HX.out
  dsimp only at c0
  go_wp2_with fail
  refine (HH.out _).mono ?_
  rintro e w1 ⟨rfl, hk1⟩
  have HX1 := Lib.hid (HX.out.kept hk1)
  have HK1 := Lib.hid (HK.out.trans hk1)
  have hlt1 := HX1.out.lt
  clear hk1 c0 c1 c2 c3 c4 HX HK HH hlt
  go_upto_region 2 with fail
  have HF := Lib.hid (HFL.out w1)
  have hk2 : Kept w1 (w1.alloc (.cells #[.bool fb, .bool fm, .bool fn, .bool fp] 47)) := (Kept.refl _).alloc _
  have HX2 := Lib.hid (HX1.out.kept hk2)
  have HK2 := Lib.hid (HK1.out.trans hk2)
  clear hk2 HX1 HK1 HFL
  generalize w1.alloc (.cells #[.bool fb, .bool fm, .bool fn, .bool fp] 47) = w2 at *
  generalize w1.heap.size = g1 at *
  refine wp_quietN (C := fun W => Kept w2 W) (by kernel_rfl) (by kernel_rfl) ((Kept.refl w2).drew) ?_
  have HCL : Hid (∀ W, Kept w2 W → (W.cell? ⟨w.heap.size, 0, none⟩ = some (.int .u8 (kd : Nat)) ∧ W.cell? ⟨w.heap.size, 1, none⟩ = some (.string bk) ∧ W.cell? ⟨w.heap.size, 2, none⟩ = some (.string nm) ∧ W.cell? ⟨w.heap.size, 3, none⟩ = some (.int .u64 (n : Nat)) ∧ W.cell? ⟨w.heap.size, 4, none⟩ = some (.int .i64 pt)) ∧
      (W.cell? ⟨g1, 0, none⟩ = some (.bool fb) ∧ W.cell? ⟨g1, 1, none⟩ = some (.bool fm) ∧ W.cell? ⟨g1, 2, none⟩ = some (.bool fn) ∧ W.cell? ⟨g1, 3, none⟩ = some (.bool fp))) := fun W k =>
    ⟨⟨(HX2.out.kept k).c0, (HX2.out.kept k).c1, (HX2.out.kept k).c2, (HX2.out.kept k).c3, (HX2.out.kept k).c4⟩, HFC.out W g1 (HF.out.kept k)⟩
  clear HX2 HF HFC
  have key : f1 = false ∨ (f1 = true ∧ r1 = false) ∨ (f1 = true ∧ r1 = true ∧ r2 = false) ∨ (f1 = true ∧ r1 = true ∧ r2 = true ∧ r3 = false) ∨ (f1 = true ∧ r1 = true ∧ r2 = true ∧ r3 = true ∧ p1 = false ∧ pp = false) ∨ (f1 = true ∧ r1 = true ∧ r2 = true ∧ r3 = true ∧ p1 = true ∧ pp = p2) := by
    subst g5
    cases f1 <;> cases r1 <;> cases r2 <;> cases r3 <;> cases p1 <;> simp
  clear g5
  rcases key with rfl | ⟨rfl, rfl⟩ | ⟨rfl, rfl, rfl⟩ | ⟨rfl, rfl, rfl, rfl⟩ | ⟨rfl, rfl, rfl, rfl, rfl, rfl⟩ | ⟨rfl, rfl, rfl, rfl, rfl, rfl⟩
  all_goals
    repeat (first
      | go_big_quiet_skip
      | (go_big_quiet_want
         refine ⟨_, fun W hW => by
           obtain ⟨⟨c0, c1, c2, c3, c4⟩, d0, d1, d2, d3⟩ := HCL.out W hW
           unfold Oper.quietAt
           go_simp
           first
             | (go_at_call 14; (with_reducible refine (HB.out W).mono ?_); exact fun e w' h => ⟨h.1, hW.trans h.2⟩)
             | (go_at_call 16; (with_reducible refine (HO.out W).mono ?_); exact fun e w' h => ⟨h.1, by rw [h.2]; exact hW⟩)
             | (go_at_call 36; first | (with_reducible refine (HR1.out W).mono ?_) | (with_reducible refine (HR2.out W).mono ?_) | (with_reducible refine (HR3.out W).mono ?_) | (with_reducible refine (HR4.out W).mono ?_)
                exact fun e w' h => ⟨h.1, by rw [h.2]; exact hW⟩)
             | exact rfl, ?_⟩
         go_simp
         go_big_quiet_on))
    refine wpQuiet_nil ?_
    intro W hW
    have HKW : Hid (Kept w W) := HK2.out.trans hW
    clear hW
    go_wp2_with fail
    go_ret
    exact ⟨rfl, HKW.out⟩
theorem pMay_any (k : Key) (w : World) (hk : k.Wf) :
    Calls Try.prog 18 #[k.val] w fun e w' => e = .returned (.bool (mayK k)) ∧ Kept w w' := by
  have h := pMay_core k.kd k.bk k.nm k.n k.pt w _ _ _ _ _ _ _ _ _ _ _ _ _ _ _ _ _ _ hk.bk hk.nm rfl rfl rfl rfl rfl rfl rfl rfl rfl rfl rfl rfl rfl rfl rfl rfl rfl rfl
  rw [str_nil, str_nil] at h
  rw [mayK_of k _ _ _ _ _ rfl rfl rfl rfl rfl]
  have e3 : (hasN k.kd || decide (k.n = 0)) = (if hasN k.kd then true else ((k.n : Int) == 0)) := by
    cases hasN k.kd
    · rw [Bool.eq_iff_iff]; simp
    · rfl
  have e4 : decide (k.pt = 0) = (k.pt == 0) := by rw [Bool.eq_iff_iff]; simp
  rw [e3, e4]
  exact h
end Go.Proofs.Ytccpbgkaeldlaaa
