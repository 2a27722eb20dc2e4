/- ShardApart's walk. -/
import Derived.Test.YtdpkmonlkdegjaaGreatDoorPart32
import Derived.Test.YtdpkmonlkdegjaaGreatDoorPart33
namespace Go.Proofs.YtdpkmonlkdegjaaGreatDoor
open Go.RowKit Sm Wr _root_.Go.Proofs.YtdpkmonlkdegjaaGreatDoor.Nm
set_option linter.unusedVariables false
theorem all_T (s s' : RSt) (h : One s) (h' : One s') (hb : ∀ i, s.bad 0 i = false) (hb' : ∀ i, s'.bad 0 i = false) (e : s.all 0 = s'.all 0) : ∀ i, i < 8 → s.T 0 i = s'.T 0 i := by
  intro i hi
  have hdr : ∀ r : RSt, One r → r.drive 0 = true := fun r o => by unfold RSt.drive; rw [o.n]; rfl
  have e2 : s.allTo 0 8 = s'.allTo 0 8 := by
    unfold RSt.all at e
    rw [if_pos (hdr s h), if_pos (hdr s' h'), h.m, h'.m] at e
    have := congrArg (fun x : ByteArray => x.data.toList) e
    simpa using this
  have p1 := RSt.allTo_part h.wf (d := 0) (by rw [h.n]; decide) i 8 (by rw [h.m]; exact Nat.le_refl _) hi
  have p2 := RSt.allTo_part h'.wf (d := 0) (by rw [h'.n]; decide) i 8 (by rw [h'.m]; exact Nat.le_refl _) hi
  rw [e2, p2] at p1
  unfold RSt.shown at p1
  rw [hb, hb'] at p1
  exact p1.symm
/-- Two shards, each in a rack of its own. -/
theorem apart (x y : Shd) (hx : x.may = true) (hy : y.may = true) : ((shW (rack0 1 8) 0 0 x).2.all 0 = (shW (rack0 1 8) 0 0 y).2.all 0) ↔ x = y := by
  refine ⟨fun e => ?_, fun e => by rw [e]⟩
  obtain ⟨_, h1⟩ := shW_ok (rack0 1 8) one0 x hx (fun c => by cases c)
  obtain ⟨_, h2⟩ := shW_ok (rack0 1 8) one0 y hy (fun c => by cases c)
  generalize (shW (rack0 1 8) 0 0 x).2 = A at *
  generalize (shW (rack0 1 8) 0 0 y).2 = B at *
  have hN := nsec_le y.t.size (Shd.may_iff hy).2.2.2.2.2.2
  have bad : ∀ (s : RSt) (z : Shd), Stored (rack0 1 8) s z → ∀ i, s.bad 0 i = false := fun s z h i => by
    rcases Nat.lt_or_ge (nsec z.t.size) i with hi | hi
    · exact h.bad i hi
    · cases i with
      | zero => exact h.is.b0
      | succ i => exact h.is.bad i (by omega)
  have hT := all_T A B h1.is.one h2.is.one (bad A x h1) (bad B y h2) e
  have h3 : Holds A y := ⟨h1.is.one, by rw [hT 0 (by omega)]; exact h2.is.T0, h1.is.b0, fun i hi => by rw [hT (i + 1) (by omega)]; exact h2.is.T i hi, fun i _ => bad A x h1 _⟩
  have hd : A.down = false := by unfold RSt.down; rw [h1.cut]; rfl
  have e1 := shR_holds A x hx h1.is hd
  rw [shR_holds A y hy h3 hd] at e1
  exact (Prod.mk.inj e1).2.symm
theorem bytes_eq (p q : ByteArray) : (p.toList == q.toList) = true ↔ p = q := by
  rw [beq_iff_eq, ByteArray.toList_eq, ByteArray.toList_eq]
  exact ⟨fun c => ByteArray.ext (Array.toList_inj.1 c), fun c => by rw [c]⟩
set_option maxHeartbeats 1000000 in
set_option maxRecDepth 100000 in
theorem eql_shd (st st2 : Nat) (ix ix2 tt tt2 : Int) (t t2 : ByteArray) : ∃ sb : Bool, (∀ W, (binOp .eql 34 (.agg #[.int .u64 (st : Nat), .int .i64 ix, .int .i64 tt, .string t]) (.agg #[.int .u64 (st2 : Nat), .int .i64 ix2, .int .i64 tt2, .string t2])).run Tryz.prog W = .ok (.bool sb) W) ∧
    (sb = true ↔ (⟨st, ix, tt, t⟩ : Shd) = ⟨st2, ix2, tt2, t2⟩) := by
  refine ⟨((st : Int) == (st2 : Int)) && ((ix == ix2) && ((tt == tt2) && (t.toList == t2.toList))), fun W => ?_, ?_⟩
  · rw [run_eql_struct]
    generalize h0 : ((st : Int) == (st2 : Int)) = b0
    generalize h1 : (ix == ix2) = b1
    generalize h2 : (tt == tt2) = b2
    generalize h3 : (t.toList == t2.toList) = b3
    cases b0 <;> cases b1 <;> cases b2 <;> cases b3 <;> simp [go_sem, h0, h1, h2, h3]
  · simp only [Bool.and_eq_true, beq_iff_eq, Shd.mk.injEq]
    rw [show (t.toList = t2.toList) ↔ t = t2 from by rw [← beq_iff_eq]; exact bytes_eq t t2]
    constructor
    · rintro ⟨a, b, c, d⟩; exact ⟨by omega, b, c, d⟩
    · rintro ⟨a, b, c, d⟩; exact ⟨by omega, b, c, d⟩
set_option maxHeartbeats 2000000 in
set_option maxRecDepth 100000 in
theorem shardApart_walk (x y : Shd) (w : World) (w0 : x.Wf ∧ x.t.size ≤ maxLen) (w1 : y.Wf ∧ y.t.size ≤ maxLen) :
    Calls Tryz.prog 5 #[x.val, y.val] w fun e w' => e = .returned (.bool true) ∧ Kept w w' := by
  obtain ⟨hx, hs⟩ := w0
  obtain ⟨hy, ks⟩ := w1
  have hs2 : x.t.size ≤ 9223372036854775807 := by unfold maxLen at hs; exact hs
  have ks2 : y.t.size ≤ 9223372036854775807 := by unfold maxLen at ks; exact ks
  by_cases hb : x.t.size ≤ 1024 ∧ y.t.size ≤ 1024
  case neg =>
    have hc : decide ((1024 : Int) < (x.t.size : Int)) = true ∨ (decide ((1024 : Int) < (x.t.size : Int)) = false ∧ decide ((1024 : Int) < (y.t.size : Int)) = true) := by
      by_cases h : x.t.size ≤ 1024
      · exact .inr ⟨decide_eq_false (by omega), decide_eq_true (by omega)⟩
      · exact .inl (decide_eq_true (by omega))
    obtain ⟨st, ix, tt, t⟩ := x
    obtain ⟨st2, ix2, tt2, t2⟩ := y
    unfold Shd.val at *
    dsimp only at *
    clear hx hs hy ks hb
    have K0 : Hid (Kept w ((w.alloc (.cells #[.int .u64 (st : Nat), .int .i64 ix, .int .i64 tt, .string t] 34)).alloc (.cells #[.int .u64 (st2 : Nat), .int .i64 ix2, .int .i64 tt2, .string t2] 34))) := ((Kept.refl _).alloc _).alloc _
    rcases hc with h10 | ⟨h10, h11⟩
    all_goals
      go_enter Tryz.func5, Tryz.ntmps5
      go_wp2_with fail
      refine (shAlive_any _).mono ?_
      rintro e u6 ⟨rfl, hk⟩
      have K6 : Hid (Kept w u6) := K0.out.trans hk
      clear hk K0
      go_wp2_with fail
      go_ret
      exact ⟨rfl, K6.out⟩
  have h10 : decide ((1024 : Int) < (x.t.size : Int)) = false := decide_eq_false (by omega)
  have h11 : decide ((1024 : Int) < (y.t.size : Int)) = false := decide_eq_false (by omega)
  obtain ⟨g, hg⟩ : ∃ g, g = w.heap.size + 2 := ⟨_, rfl⟩
  have HNW := Lib.hid (fun W => pNew_ok 1 8 (by decide) (by decide) (by decide) (by decide) W)
  have HWX : Hid (∀ h S W, One S → RackAt h S W → Calls Tryz.prog 10 #[.pointer (some ⟨h + 1, 0, none⟩), .int .i64 0, .int .i64 0, x.val] W fun r w' => r = .returned (.int .i64 ((shW S 0 0 x).1 : Nat)) ∧ RackAt h (shW S 0 0 x).2 w' ∧ Only h (h + 3) W w') := fun h S W o hr => by
    have := shWrite_any h S 0 0 (by decide) (by decide) (by decide) (by decide) x hx hs2 W hr
    rw [o.n] at this
    exact this
  have HWY : Hid (∀ h S W, One S → RackAt h S W → Calls Tryz.prog 10 #[.pointer (some ⟨h + 1, 0, none⟩), .int .i64 0, .int .i64 0, y.val] W fun r w' => r = .returned (.int .i64 ((shW S 0 0 y).1 : Nat)) ∧ RackAt h (shW S 0 0 y).2 w' ∧ Only h (h + 3) W w') := fun h S W o hr => by
    have := shWrite_any h S 0 0 (by decide) (by decide) (by decide) (by decide) y hy ks2 W hr
    rw [o.n] at this
    exact this
  have HRD : Hid (∀ S W e z, shR S 0 0 = (e, z) → RackAt g S W → Calls Tryz.prog 12 #[.pointer (some ⟨g + 1, 0, none⟩), .int .i64 0, .int .i64 0] W fun r w' => r = .returned (.tuple #[.agg #[.int .u64 (z.st : Nat), .int .i64 z.ix, .int .i64 z.tt, .string z.t], .int .i64 (e : Nat)]) ∧ Kept W w') := fun S W e z hr h => by
    have := shRead_any g S 0 0 (by decide) (by decide) (by decide) (by decide) W h
    rw [hr] at this
    exact this
  have HG1 : Hid (w.heap.size + 1 < g) := by show _ < _; omega
  obtain ⟨fx, hfx⟩ : ∃ f, f = (shW (rack0 1 8) 0 0 x).1 := ⟨_, rfl⟩
  obtain ⟨fy, hfy⟩ : ∃ f, f = (shW (rack0 1 8) 0 0 y).1 := ⟨_, rfl⟩
  obtain ⟨A, hA⟩ : ∃ A, A = (shW (rack0 1 8) 0 0 x).2 := ⟨_, rfl⟩
  obtain ⟨B, hB⟩ : ∃ B, B = (shW (rack0 1 8) 0 0 y).2 := ⟨_, rfl⟩
  have HW0 := Lib.hid (fun W h => by have := HWX.out g (rack0 1 8) W one0 h; rw [← hfx, ← hA] at this; exact this)
  have HV0 := Lib.hid (fun h W hr => by have := HWY.out h (rack0 1 8) W one0 hr; rw [← hfy, ← hB] at this; exact this)
  have hF : ∀ z : Shd, (z.may = true → (shW (rack0 1 8) 0 0 z).1 = 0) ∧ (z.may = false → (shW (rack0 1 8) 0 0 z).1 = 2) := fun z =>
    ⟨fun h => (shW_ok (rack0 1 8) one0 z h (fun c => by cases c)).1, fun h => by unfold shW; rw [h, if_pos rfl]⟩
  have HAN : Hid (A.n = 1 ∧ B.n = 1) := by
    have h1 : ∀ z : Shd, (shW (rack0 1 8) 0 0 z).2.n = 1 := fun z => by
      unfold shW
      split
      · rfl
      · split
        · rw [(RSt.wrS_n _ _ _ _).1, (wTo_n _ _ _ _ _).1]; rfl
        · rw [(wTo_n _ _ _ _ _).1]; rfl
    exact ⟨by rw [hA]; exact h1 x, by rw [hB]; exact h1 y⟩
  by_cases hmm : x.may = true ∧ y.may = true
  case neg =>
    have hc : ((fx : Int) != 0) = true ∨ (((fx : Int) != 0) = false ∧ ((fy : Int) != 0) = true) := by
      cases hm : x.may with
      | false => left; rw [hfx, (hF x).2 hm]; rfl
      | true =>
        right
        refine ⟨by rw [hfx, (hF x).1 hm]; rfl, ?_⟩
        cases hm2 : y.may with
        | false => rw [hfy, (hF y).2 hm2]; rfl
        | true => exact absurd ⟨hm, hm2⟩ hmm
    clear hmm hF hfx hfy hA hB HRD HWX HWY
    obtain ⟨st, ix, tt, t⟩ := x
    obtain ⟨st2, ix2, tt2, t2⟩ := y
    unfold Shd.val at *
    dsimp only at *
    have K0 : Hid (Kept w ((w.alloc (.cells #[.int .u64 (st : Nat), .int .i64 ix, .int .i64 tt, .string t] 34)).alloc (.cells #[.int .u64 (st2 : Nat), .int .i64 ix2, .int .i64 tt2, .string t2] 34))) := ((Kept.refl _).alloc _).alloc _
    have X0 := Lib.hid ((ShAt.laid w 34 ⟨st, ix, tt, t⟩).kept ((Kept.refl _).alloc (.cells #[.int .u64 (st2 : Nat), .int .i64 ix2, .int .i64 tt2, .string t2] 34)))
    have Y0 := Lib.hid (ShAt.laid (w.alloc (.cells #[.int .u64 (st : Nat), .int .i64 ix, .int .i64 tt, .string t] 34)) 34 ⟨st2, ix2, tt2, t2⟩)
    rw [show (w.alloc (.cells #[.int .u64 (st : Nat), .int .i64 ix, .int .i64 tt, .string t] 34)).heap.size = w.heap.size + 1 from by simp] at Y0
    have HG0 : Hid (g = ((w.alloc (.cells #[.int .u64 (st : Nat), .int .i64 ix, .int .i64 tt, .string t] 34)).alloc (.cells #[.int .u64 (st2 : Nat), .int .i64 ix2, .int .i64 tt2, .string t2] 34)).heap.size) := by show _ = _; rw [hg]; simp
    clear hg hx hs hy ks hb
    go_enter Tryz.func5, Tryz.ntmps5
    go_wp2_with fail
    refine (HNW.out _).mono ?_
    rintro e u1 ⟨rfl, hk, hR, hsz1⟩
    rw [← HG0.out] at hR hsz1
    rw [← HG0.out]
    have R1 : Hid (RackAt g (rack0 1 8) u1) := hR
    have K1 : Hid (Kept w u1) := K0.out.trans hk
    have X1 := Lib.hid (X0.out.kept hk)
    have Y1 := Lib.hid (Y0.out.kept hk)
    have HZ1 : Hid (u1.heap.size = g + 3) := hsz1
    clear hk hR hsz1 X0 Y0 K0 HG0
    go_wp2_with fail
    refine (HNW.out _).mono ?_
    rintro e u2 ⟨rfl, hk, hR, hsz1⟩
    rw [HZ1.out] at hR
    rw [HZ1.out]
    have Q2 : Hid (RackAt (g + 3) (rack0 1 8) u2) := hR
    have R2 := Lib.hid (R1.out.kept hk)
    have K2 : Hid (Kept w u2) := K1.out.trans hk
    have X2 := Lib.hid (X1.out.kept hk)
    have Y2 := Lib.hid (Y1.out.kept hk)
    clear hk hR hsz1 X1 Y1 K1 R1 HZ1 HNW
    have x0 := X2.out.c0
    have x1 := X2.out.c1
    have x2 := X2.out.c2
    have x3 := X2.out.c3
    (try dsimp only at x0 x1 x2 x3)
    go_wp2_with fail
    refine (HW0.out _ R2.out).mono ?_
    rintro e u3 ⟨rfl, hR, hO⟩
    have R3 : Hid (RackAt g A u3) := hR
    have Q3 := Lib.hid (Q2.out.only hO (.inl (Nat.le_refl _)))
    have X3 := Lib.hid (X2.out.frame (hO.block _ X2.out.lt (.inl (by have := HG1.out; omega))))
    have Y3 := Lib.hid (Y2.out.frame (hO.block _ Y2.out.lt (.inl HG1.out)))
    have K3 : Hid (Kept w u3) := Only.kept K2.out (by have := HG1.out; omega) hO
    clear hR hO R2 Q2 X2 Y2 K2 HW0 x0 x1 x2 x3
    have x0 := Y3.out.c0
    have x1 := Y3.out.c1
    have x2 := Y3.out.c2
    have x3 := Y3.out.c3
    (try dsimp only at x0 x1 x2 x3)
    go_wp2_with fail
    refine (HV0.out _ _ Q3.out).mono ?_
    rintro e u4 ⟨rfl, hR, hO⟩
    have Q4 : Hid (RackAt (g + 3) B u4) := hR
    have R4 := Lib.hid (R3.out.only hO (.inr (by rw [HAN.out.1]; omega)))
    have X4 := Lib.hid (X3.out.frame (hO.block _ X3.out.lt (.inl (by have := HG1.out; omega))))
    have Y4 := Lib.hid (Y3.out.frame (hO.block _ Y3.out.lt (.inl (by have := HG1.out; omega))))
    have K4 : Hid (Kept w u4) := Only.kept K3.out (by have := HG1.out; omega) hO
    clear hR hO R3 Q3 X3 Y3 K3 HV0 x0 x1 x2 x3
    rcases hc with h12 | ⟨h12, h13⟩
    all_goals
      go_wp2_with fail
      refine (shAlive_any _).mono ?_
      rintro e u6 ⟨rfl, hk⟩
      have K6 : Hid (Kept w u6) := K4.out.trans hk
      clear hk K4
      go_wp2_with fail
      go_ret
      exact ⟨rfl, K6.out⟩
  obtain ⟨hmx, hmy⟩ := hmm
  have hfx0 : fx = 0 := hfx.trans ((hF x).1 hmx)
  have hfy0 : fy = 0 := hfy.trans ((hF y).1 hmy)
  subst hfx0 hfy0
  have HAP := apart x y hmx hmy
  rw [← hA, ← hB] at HAP
  have HA := (shW_ok (rack0 1 8) one0 x hmx (fun c => by cases c)).2
  rw [← hA] at HA
  obtain ⟨hC0, HC⟩ := shW_ok A HA.is.one y hmy (fun c => by rw [HA.cut] at c; cases c)
  have HW2 := Lib.hid (fun W h => by have := HWY.out g A W HA.is.one h; rw [hC0] at this; exact this)
  have HR2 := Lib.hid (fun W h => HRD.out (shW A 0 0 y).2 W 0 y (shR_holds _ y hmy HC.is (by unfold RSt.down; rw [HC.cut, HA.cut]; rfl)) h)
  generalize (shW A 0 0 y).2 = C at *
  obtain ⟨TA, hTA⟩ : ∃ TA, TA = A.all 0 := ⟨_, rfl⟩
  obtain ⟨TB, hTB⟩ : ∃ TB, TB = B.all 0 := ⟨_, rfl⟩
  have HLA : Hid (∀ h W, RackAt h A W → Calls Tryz.prog 17 #[.pointer (some ⟨h + 1, 0, none⟩), .int .i64 0] W fun r w' => r = .returned (.string TA) ∧ Kept W w') := fun h W hr => by
    have := all_any h A 0 (by decide) (by decide) W hr
    rw [← hTA] at this
    exact this
  have HLB : Hid (∀ h W, RackAt h B W → Calls Tryz.prog 17 #[.pointer (some ⟨h + 1, 0, none⟩), .int .i64 0] W fun r w' => r = .returned (.string TB) ∧ Kept W w') := fun h W hr => by
    have := all_any h B 0 (by decide) (by decide) W hr
    rw [← hTB] at this
    exact this
  rw [← hTA, ← hTB] at HAP
  replace HAP := Lib.hid HAP
  clear hF hfx hfy hA hB HRD HWX HWY HA HC hC0 hTA hTB hmx hmy
  obtain ⟨st, ix, tt, t⟩ := x
  obtain ⟨st2, ix2, tt2, t2⟩ := y
  unfold Shd.val at *
  dsimp only at *
  have K0 : Hid (Kept w ((w.alloc (.cells #[.int .u64 (st : Nat), .int .i64 ix, .int .i64 tt, .string t] 34)).alloc (.cells #[.int .u64 (st2 : Nat), .int .i64 ix2, .int .i64 tt2, .string t2] 34))) := ((Kept.refl _).alloc _).alloc _
  have X0 := Lib.hid ((ShAt.laid w 34 ⟨st, ix, tt, t⟩).kept ((Kept.refl _).alloc (.cells #[.int .u64 (st2 : Nat), .int .i64 ix2, .int .i64 tt2, .string t2] 34)))
  have Y0 := Lib.hid (ShAt.laid (w.alloc (.cells #[.int .u64 (st : Nat), .int .i64 ix, .int .i64 tt, .string t] 34)) 34 ⟨st2, ix2, tt2, t2⟩)
  rw [show (w.alloc (.cells #[.int .u64 (st : Nat), .int .i64 ix, .int .i64 tt, .string t] 34)).heap.size = w.heap.size + 1 from by simp] at Y0
  have HG0 : Hid (g = ((w.alloc (.cells #[.int .u64 (st : Nat), .int .i64 ix, .int .i64 tt, .string t] 34)).alloc (.cells #[.int .u64 (st2 : Nat), .int .i64 ix2, .int .i64 tt2, .string t2] 34)).heap.size) := by show _ = _; rw [hg]; simp
  clear hg hx hs hy ks hb
  go_enter Tryz.func5, Tryz.ntmps5
  go_wp2_with fail
  refine (HNW.out _).mono ?_
  rintro e u1 ⟨rfl, hk, hR, hsz1⟩
  rw [← HG0.out] at hR hsz1
  rw [← HG0.out]
  have R1 : Hid (RackAt g (rack0 1 8) u1) := hR
  have K1 : Hid (Kept w u1) := K0.out.trans hk
  have X1 := Lib.hid (X0.out.kept hk)
  have Y1 := Lib.hid (Y0.out.kept hk)
  have HZ1 : Hid (u1.heap.size = g + 3) := hsz1
  clear hk hR hsz1 X0 Y0 K0 HG0
  go_wp2_with fail
  refine (HNW.out _).mono ?_
  rintro e u2 ⟨rfl, hk, hR, hsz1⟩
  rw [HZ1.out] at hR
  rw [HZ1.out]
  have Q2 : Hid (RackAt (g + 3) (rack0 1 8) u2) := hR
  have R2 := Lib.hid (R1.out.kept hk)
  have K2 : Hid (Kept w u2) := K1.out.trans hk
  have X2 := Lib.hid (X1.out.kept hk)
  have Y2 := Lib.hid (Y1.out.kept hk)
  clear hk hR hsz1 X1 Y1 K1 R1 HZ1 HNW
  have x0 := X2.out.c0
  have x1 := X2.out.c1
  have x2 := X2.out.c2
  have x3 := X2.out.c3
  (try dsimp only at x0 x1 x2 x3)
  go_wp2_with fail
  refine (HW0.out _ R2.out).mono ?_
  rintro e u3 ⟨rfl, hR, hO⟩
  have R3 : Hid (RackAt g A u3) := hR
  have Q3 := Lib.hid (Q2.out.only hO (.inl (Nat.le_refl _)))
  have X3 := Lib.hid (X2.out.frame (hO.block _ X2.out.lt (.inl (by have := HG1.out; omega))))
  have Y3 := Lib.hid (Y2.out.frame (hO.block _ Y2.out.lt (.inl HG1.out)))
  have K3 : Hid (Kept w u3) := Only.kept K2.out (by have := HG1.out; omega) hO
  clear hR hO R2 Q2 X2 Y2 K2 HW0 x0 x1 x2 x3
  have x0 := Y3.out.c0
  have x1 := Y3.out.c1
  have x2 := Y3.out.c2
  have x3 := Y3.out.c3
  (try dsimp only at x0 x1 x2 x3)
  go_wp2_with fail
  refine (HV0.out _ _ Q3.out).mono ?_
  rintro e u4 ⟨rfl, hR, hO⟩
  have Q4 : Hid (RackAt (g + 3) B u4) := hR
  have R4 := Lib.hid (R3.out.only hO (.inr (by rw [HAN.out.1]; omega)))
  have X4 := Lib.hid (X3.out.frame (hO.block _ X3.out.lt (.inl (by have := HG1.out; omega))))
  have Y4 := Lib.hid (Y3.out.frame (hO.block _ Y3.out.lt (.inl (by have := HG1.out; omega))))
  have K4 : Hid (Kept w u4) := Only.kept K3.out (by have := HG1.out; omega) hO
  clear hR hO R3 Q3 X3 Y3 K3 HV0 x0 x1 x2 x3
  obtain ⟨sb, hEQ, hsb⟩ := eql_shd st st2 ix ix2 tt tt2 t t2
  have hab : (TA.toList == TB.toList) = sb := by
    rw [Bool.eq_iff_iff, bytes_eq, hsb]
    exact HAP.out
  clear hsb HAP
  have HKD : Hid (Kept u4 u4.drew) := (Kept.refl u4).drew
  have HKEEP : Hid (∀ W', Kept u4 W' → W'.cell? ⟨w.heap.size, 0, none⟩ = some (.int .u64 (st : Nat)) ∧ W'.cell? ⟨w.heap.size, 1, none⟩ = some (.int .i64 ix) ∧ W'.cell? ⟨w.heap.size, 2, none⟩ = some (.int .i64 tt) ∧ W'.cell? ⟨w.heap.size, 3, none⟩ = some (.string t) ∧ W'.cell? ⟨w.heap.size + 1, 0, none⟩ = some (.int .u64 (st2 : Nat)) ∧ W'.cell? ⟨w.heap.size + 1, 1, none⟩ = some (.int .i64 ix2) ∧ W'.cell? ⟨w.heap.size + 1, 2, none⟩ = some (.int .i64 tt2) ∧ W'.cell? ⟨w.heap.size + 1, 3, none⟩ = some (.string t2)) := fun W' k =>
    ⟨(X4.out.kept k).c0, (X4.out.kept k).c1, (X4.out.kept k).c2, (X4.out.kept k).c3, (Y4.out.kept k).c0, (Y4.out.kept k).c1, (Y4.out.kept k).c2, (Y4.out.kept k).c3⟩
  obtain ⟨q0, q1, q2, q3, q4, q5, q6, q7⟩ := HKEEP.out _ HKD.out
  go_upto_region 11 with fail
  go_region_held3 (fun W' => W'.cell? ⟨w.heap.size, 0, none⟩ = some (.int .u64 (st : Nat)) ∧ W'.cell? ⟨w.heap.size, 1, none⟩ = some (.int .i64 ix) ∧ W'.cell? ⟨w.heap.size, 2, none⟩ = some (.int .i64 tt) ∧ W'.cell? ⟨w.heap.size, 3, none⟩ = some (.string t) ∧ W'.cell? ⟨w.heap.size + 1, 0, none⟩ = some (.int .u64 (st2 : Nat)) ∧ W'.cell? ⟨w.heap.size + 1, 1, none⟩ = some (.int .i64 ix2) ∧ W'.cell? ⟨w.heap.size + 1, 2, none⟩ = some (.int .i64 tt2) ∧ W'.cell? ⟨w.heap.size + 1, 3, none⟩ = some (.string t2))
    (first | exact ⟨q0, q1, q2, q3, q4, q5, q6, q7⟩ | exact HKEEP.out _ hkA | exact HKEEP.out _ hkB)
    (first
      | (go_at_call 17; with_reducible refine (HLA.out g _ (R4.out.kept HKD.out)).mono ?_; rintro e wA ⟨rfl, hk⟩; have hkA := HKD.out.trans hk; clear hk)
      | (go_at_call 17; with_reducible refine (HLB.out (g + 3) _ (Q4.out.kept hkA)).mono ?_; rintro e wB ⟨rfl, hk⟩; have hkB := Kept.trans hkA hk; clear hk))
  obtain ⟨r0, r1, r2, r3, r4, r5, r6, r7⟩ := HKEEP.out _ hkB
  have R5 := Lib.hid (R4.out.kept hkB)
  have X5 := Lib.hid (X4.out.kept hkB)
  have Y5 := Lib.hid (Y4.out.kept hkB)
  have K5 : Hid (Kept w wB) := K4.out.trans hkB
  clear hEQ HKD HKEEP q0 q1 q2 q3 q4 q5 q6 q7 hkA hkB R4 X4 Y4 K4 Q4
  go_wp2_with fail
  refine (HW2.out _ R5.out).mono ?_
  rintro e u6 ⟨rfl, hR, hO⟩
  have R6 := Lib.hid hR
  have Y6 := Lib.hid (Y5.out.frame (hO.block _ Y5.out.lt (.inl HG1.out)))
  have K6 : Hid (Kept w u6) := Only.kept K5.out (by have := HG1.out; omega) hO
  clear hR hO R5 X5 Y5 K5 HW2 r0 r1 r2 r3 r4 r5 r6 r7
  go_wp2_with fail
  refine (HR2.out _ R6.out).mono ?_
  rintro e u7 ⟨rfl, hk⟩
  have Y7 := Lib.hid (Y6.out.kept hk)
  have K7 : Hid (Kept w u7) := K6.out.trans hk
  clear hk R6 Y6 K6 HR2
  go_upto_region 16 with fail
  have Y8 := Lib.hid (Y7.out.kept ((Kept.refl u7).alloc (.cells #[.int .u64 (st2 : Nat), .int .i64 ix2, .int .i64 tt2, .string t2] 34)))
  have K8 : Hid (Kept w (u7.alloc (.cells #[.int .u64 (st2 : Nat), .int .i64 ix2, .int .i64 tt2, .string t2] 34))) := K7.out.alloc _
  have Z8 := Lib.hid (ShAt.laid u7 34 ⟨st2, ix2, tt2, t2⟩)
  clear Y7 K7
  generalize u7.alloc (.cells #[.int .u64 (st2 : Nat), .int .i64 ix2, .int .i64 tt2, .string t2] 34) = u8 at *
  generalize u7.heap.size = cz at *
  have x0 := Y8.out.c0
  have x1 := Y8.out.c1
  have x2 := Y8.out.c2
  have x3 := Y8.out.c3
  have y0 := Z8.out.c0
  have y1 := Z8.out.c1
  have y2 := Z8.out.c2
  have y3 := Z8.out.c3
  (try dsimp only at x0 x1 x2 x3 y0 y1 y2 y3)
  go_wp2_with fail
  refine (shAlive_any _).mono ?_
  rintro e u9 ⟨rfl, hk⟩
  have K9 : Hid (Kept w u9) := K8.out.trans hk
  clear hk K8
  go_wp2_with fail
  go_ret
  exact ⟨rfl, K9.out⟩
end Go.Proofs.YtdpkmonlkdegjaaGreatDoor
