/- ShardSpoilt's walk. -/
import Derived.Test.YtdpkmonlkdegjaaDoorPart26
import Derived.Test.YtdpkmonlkdegjaaDoorPart27
namespace Go.Proofs.YtdpkmonlkdegjaaDoor
open Go.RowKit Sm Wr _root_.Go.Proofs.YtdpkmonlkdegjaaDoor.Nm
set_option linter.unusedVariables false
theorem turn_bit (x : UInt8) (r : Nat) (hr : r < 8) : ∃ v : UInt8, v.toNat = x.toNat ^^^ 2 ^ r ∧ bits .xor .u8 (x.toNat : Nat) ((2 : Int) ^ r % 256) = ((v.toNat : Nat) : Int) := by
  have h1 : ∀ r, r < 8 → (2 : Int) ^ r % 256 = ((2 ^ r : Nat) : Int) ∧ 2 ^ r < 256 := by decide
  obtain ⟨h2, h3⟩ := h1 r hr
  refine ⟨x ^^^ UInt8.ofNat (2 ^ r), ?_, ?_⟩
  · rw [UInt8.toNat_xor, UInt8.toNat_ofNat', Nat.mod_eq_of_lt h3]
  · rw [h2, u8_xor_nat _ _ x.toNat_lt h3, UInt8.toNat_xor, UInt8.toNat_ofNat', Nat.mod_eq_of_lt h3]
set_option maxHeartbeats 8000000 in
set_option maxRecDepth 100000 in
theorem shardSpoilt_walk (x : Shd) (a1 a2 : Int) (a3 : Bool) (w : World) (w0 : x.Wf ∧ x.t.size ≤ maxLen) (w1 : (Lit.int .u16 a1).wf = true) (w2 : (Lit.int .u32 a2).wf = true) :
    Calls Tryd.prog 3 #[x.val, .int .u16 a1, .int .u32 a2, .bool a3] w fun e w' => e = .returned (.bool true) ∧ Kept w w' := by
  have k1 := bounds_u16 w1
  have k2 := bounds_u32 w2
  obtain ⟨hx, hs⟩ := w0
  clear w1 w2
  have hs2 : x.t.size ≤ 9223372036854775807 := by unfold maxLen at hs; exact hs
  obtain ⟨q, rfl⟩ : ∃ q : Nat, a1 = q := ⟨a1.toNat, by omega⟩
  obtain ⟨by', rfl⟩ : ∃ b : Nat, a2 = b := ⟨a2.toNat, by omega⟩
  by_cases hb : (1024 : Int) < (x.t.size : Int)
  · have h10 : decide ((1024 : Int) < (x.t.size : Int)) = true := decide_eq_true hb
    obtain ⟨st, ix, tt, t⟩ := x
    unfold Shd.val at *
    dsimp only at *
    clear hx hs hb hs2
    have K0 : Hid (Kept w (w.alloc (.cells #[.int .u64 (st : Nat), .int .i64 ix, .int .i64 tt, .string t] 24))) := (Kept.refl _).alloc _
    go_enter Tryd.func3, Tryd.ntmps3
    go_wp2_with fail
    refine (shAlive_any _).mono ?_
    rintro e u6 ⟨rfl, hk⟩
    have K6 : Hid (Kept w u6) := K0.out.trans hk
    clear hk K0
    go_wp2_with fail
    go_ret
    exact ⟨rfl, K6.out⟩
  have h10 : decide ((1024 : Int) < (x.t.size : Int)) = false := decide_eq_false hb
  obtain ⟨g, hg⟩ : ∃ g, g = w.heap.size + 1 := ⟨_, rfl⟩
  have HNW := Lib.hid (fun W => pNew_ok 1 8 (by decide) (by decide) (by decide) (by decide) W)
  have HWR : Hid (∀ S W, One S → RackAt g S W → Calls Tryd.prog 7 #[.pointer (some ⟨g + 1, 0, none⟩), .int .i64 0, .int .i64 0, x.val] W fun r w' => r = .returned (.int .i64 ((shW S 0 0 x).1 : Nat)) ∧ RackAt g (shW S 0 0 x).2 w' ∧ Only g (g + 3) W w') := fun S W o h => by
    have := shWrite_any g S 0 0 (by decide) (by decide) (by decide) (by decide) x hx hs2 W h
    rw [o.n] at this
    exact this
  have HRD : Hid (∀ S W e y, shR S 0 0 = (e, y) → RackAt g S W → Calls Tryd.prog 9 #[.pointer (some ⟨g + 1, 0, none⟩), .int .i64 0, .int .i64 0] W fun r w' => r = .returned (.tuple #[.agg #[.int .u64 (y.st : Nat), .int .i64 y.ix, .int .i64 y.tt, .string y.t], .int .i64 (e : Nat)]) ∧ Kept W w') := fun S W e y hr h => by
    have := shRead_any g S 0 0 (by decide) (by decide) (by decide) (by decide) W h
    rw [hr] at this
    exact this
  have HG1 : Hid (w.heap.size < g) := by show _ < _; omega
  cases hm : x.may with
  | false =>
    have HNO : Hid (∀ S, shW S 0 0 x = (2, S)) := fun S => by unfold shW; rw [hm, if_pos rfl]
    replace HWR := Lib.hid (fun S W o h => by have := HWR.out S W o h; rw [HNO.out] at this; exact this)
    obtain ⟨st, ix, tt, t⟩ := x
    unfold Shd.val at *
    dsimp only at *
    have K0 : Hid (Kept w (w.alloc (.cells #[.int .u64 (st : Nat), .int .i64 ix, .int .i64 tt, .string t] 24))) := (Kept.refl _).alloc _
    have X0 := Lib.hid (ShAt.laid w 24 ⟨st, ix, tt, t⟩)
    have HG0 : Hid (g = (w.alloc (.cells #[.int .u64 (st : Nat), .int .i64 ix, .int .i64 tt, .string t] 24)).heap.size) := by show _ = _; rw [hg]; simp
    clear hg hx hs hb hm HNO HRD
    go_enter Tryd.func3, Tryd.ntmps3
    go_wp2_with fail
    refine (HNW.out _).mono ?_
    rintro e u1 ⟨rfl, hk, hR, hsz1⟩
    rw [← HG0.out] at hR hsz1
    rw [← HG0.out]
    have R1 : Hid (RackAt g (rack0 1 8) u1) := hR
    have K1 : Hid (Kept w u1) := K0.out.trans hk
    have X1 := Lib.hid (X0.out.kept hk)
    clear hk hR hsz1 X0 K0 HNW HG0
    have x0 := X1.out.c0
    have x1 := X1.out.c1
    have x2 := X1.out.c2
    have x3 := X1.out.c3
    (try dsimp only at x0 x1 x2 x3)
    go_wp2_with fail
    refine (HWR.out _ _ one0 R1.out).mono ?_
    rintro e u3 ⟨rfl, hR, hO⟩
    have K3 : Hid (Kept w u3) := Only.kept K1.out (Nat.le_of_lt HG1.out) hO
    clear hR hO x0 x1 x2 x3
    go_wp2_with fail
    refine (shAlive_any _).mono ?_
    rintro e u6 ⟨rfl, hk⟩
    have K6 : Hid (Kept w u6) := K3.out.trans hk
    clear hk K3
    go_wp2_with fail
    go_ret
    exact ⟨rfl, K6.out⟩
  | true =>
    obtain ⟨e1, hst⟩ := shW_ok (rack0 1 8) one0 x hm (fun c => by cases c)
    obtain ⟨A, hA⟩ : ∃ A, A = (shW (rack0 1 8) 0 0 x).2 := ⟨_, rfl⟩
    rw [← hA] at hst
    have HA : Hid (Holds A x ∧ A.cut = false) := ⟨hst.is, hst.cut⟩
    have HW0 := Lib.hid (fun W h => by have := HWR.out (rack0 1 8) W one0 h; rw [e1, ← hA] at this; exact this)
    have HW1 : Hid (∀ S W, One S → S.cut = false → RackAt g S W → Calls Tryd.prog 7 #[.pointer (some ⟨g + 1, 0, none⟩), .int .i64 0, .int .i64 0, x.val] W fun r w' => r = .returned (.int .i64 0) ∧ (∃ B, Holds B x ∧ B.cut = false ∧ RackAt g B w') ∧ Only g (g + 3) W w') := fun S W o hc h => by
      obtain ⟨e2, hst2⟩ := shW_ok S o x hm (fun c => by rw [hc] at c; cases c)
      have := HWR.out S W o h
      rw [e2] at this
      exact this.mono fun r w' ⟨h1, h2, h3⟩ => ⟨h1, ⟨_, hst2.is, hst2.cut.trans hc, h2⟩, h3⟩
    have HR0 : Hid (∀ B W, Holds B x → B.cut = false → RackAt g B W → Calls Tryd.prog 9 #[.pointer (some ⟨g + 1, 0, none⟩), .int .i64 0, .int .i64 0] W fun r w' => r = .returned (.tuple #[.agg #[.int .u64 (x.st : Nat), .int .i64 x.ix, .int .i64 x.tt, .string x.t], .int .i64 0]) ∧ Kept W w') := fun B W h hc hR =>
      HRD.out B W 0 x (shR_holds B x hm h (by unfold RSt.down; rw [hc]; rfl)) hR
    have HSPR : Hid (∀ s, s < nsec x.t.size → shR (A.spoil 0 (s + 1)) 0 0 = (72, .none)) := fun s hs => spoil_read A x hm hst.is hst.cut s hs
    have HBEN : Hid (∀ A' b n i tu, i ≤ 32 → n ≤ 8 * x.t.size → Bent x.t.data.toList b n i tu → Wrote A A' (ofL b) (nsec x.t.size) → ∃ y, shR A' 0 0 = (if tu = true then 81 else 0, y)) := fun A' b n i tu hi hn hb hw => bent_read A A' x hm hst.is hst.cut b n i tu hi hn hb hw
    have HN7 : Hid (nsec x.t.size ≤ 7) := nsec_le _ (Shd.may_iff hm).2.2.2.2.2.2
    have HSZ : x.t.size ≤ 448 := (Shd.may_iff hm).2.2.2.2.2.2
    obtain ⟨n, hn⟩ : ∃ n, n = q % (8 * x.t.size + 1) := ⟨_, rfl⟩
    have hn8 : n ≤ 8 * x.t.size := by have := Nat.mod_lt q (show 0 < 8 * x.t.size + 1 by omega); omega
    have hnT : (q : Int).tmod (8 * (x.t.size : Int) + 1) = (n : Int) := by
      rw [hn, show 8 * (x.t.size : Int) + 1 = ((8 * x.t.size + 1 : Nat) : Int) from by omega]
      rfl
    clear hn hst hA e1 HWR
    obtain ⟨st, ix, tt, t⟩ := x
    unfold Shd.val at *
    dsimp only at *
    have K0 : Hid (Kept w (w.alloc (.cells #[.int .u64 (st : Nat), .int .i64 ix, .int .i64 tt, .string t] 24))) := (Kept.refl _).alloc _
    have X0 := Lib.hid (ShAt.laid w 24 ⟨st, ix, tt, t⟩)
    have HG0 : Hid (g = (w.alloc (.cells #[.int .u64 (st : Nat), .int .i64 ix, .int .i64 tt, .string t] 24)).heap.size) := by show _ = _; rw [hg]; simp
    clear hg hx hs hb
    replace hm := Lib.hid hm
    go_enter Tryd.func3, Tryd.ntmps3
    go_wp2_with fail
    refine (HNW.out _).mono ?_
    rintro e u1 ⟨rfl, hk, hR, hsz1⟩
    rw [← HG0.out] at hR hsz1
    rw [← HG0.out]
    have R1 : Hid (RackAt g (rack0 1 8) u1) := hR
    have K1 : Hid (Kept w u1) := K0.out.trans hk
    have X1 := Lib.hid (X0.out.kept hk)
    clear hk hR hsz1 X0 K0 HNW HG0
    have x0 := X1.out.c0
    have x1 := X1.out.c1
    have x2 := X1.out.c2
    have x3 := X1.out.c3
    (try dsimp only at x0 x1 x2 x3)
    go_wp2_with fail
    refine (HW0.out _ R1.out).mono ?_
    rintro e u2 ⟨rfl, hR, hO⟩
    have R2 : Hid (RackAt g A u2) := hR
    have X2 := Lib.hid (X1.out.frame (hO.block _ X1.out.lt (.inl HG1.out)))
    have K2 : Hid (Kept w u2) := Only.kept K1.out (Nat.le_of_lt HG1.out) hO
    clear hR hO R1 X1 K1 HW0 x0 x1 x2 x3
    have x3 := X2.out.c3
    (try dsimp only at x3)
    go_upto_region 10 with fail
    rw [show (n : Int) / 512 = ((n / 512 : Nat) : Int) from by omega]
    generalize hsI : n / 512 = sI at *
    by_cases hI : a3 = true ∧ (sI + 1) * 64 ≤ t.size
    · obtain ⟨rfl, hle⟩ := hI
      have d1 : decide (((sI : Int) + 1) * 64 ≤ (t.size : Int)) = true := decide_eq_true (by omega)
      have hsn : sI < nsec t.size := by unfold nsec; omega
      have hs7 : sI < 7 := by have := HN7.out; omega
      have HSP : Hid (∀ W, RackAt g A W → Calls Tryd.prog 8 #[.pointer (some ⟨g + 1, 0, none⟩), .int .i64 0, .int .i64 ((sI : Int) + 1)] W fun r w' => r = .returned (.int .i64 0) ∧ RackAt g (A.spoil 0 (sI + 1)) w' ∧ Only g (g + 3) W w') := fun W h => by
        have := spoil_any g A 0 ((sI + 1 : Nat) : Int) (by decide) (by decide) (by omega) (by omega) W h
        rw [HA.out.1.one.spoilS (by omega), HA.out.1.one.n, show A.spoilE 0 ((sI + 1 : Nat) : Int) = 0 from if_pos (HA.out.1.one.there (by omega)), show ((sI + 1 : Nat) : Int) = (sI : Int) + 1 from by omega] at this
        exact this
      have HR1 := Lib.hid (fun W h => HRD.out (A.spoil 0 (sI + 1)) W 72 .none (HSPR.out sI hsn) h)
      dsimp only [Shd.none] at HR1
      have HOS : Hid (One (A.spoil 0 (sI + 1)) ∧ (A.spoil 0 (sI + 1)).cut = false) := ⟨HA.out.1.one.spoil _ (by omega), HA.out.2⟩
      generalize A.spoil 0 (sI + 1) = AS at *
      go_wp2_with fail
      refine (HSP.out _ R2.out).mono ?_
      rintro e u3 ⟨rfl, hR, hO⟩
      have R3 := Lib.hid hR
      have X3 := Lib.hid (X2.out.frame (hO.block _ X2.out.lt (.inl HG1.out)))
      have K3 : Hid (Kept w u3) := Only.kept K2.out (Nat.le_of_lt HG1.out) hO
      clear hR hO R2 X2 K2 HSP x3
      go_wp2_with fail
      refine (HR1.out _ R3.out).mono ?_
      rintro e u4 ⟨rfl, hk⟩
      have R4 := Lib.hid (R3.out.kept hk)
      have X4 := Lib.hid (X3.out.kept hk)
      have K4 : Hid (Kept w u4) := K3.out.trans hk
      clear hk R3 X3 K3 HR1
      go_upto_region 31 with fail
      have R5 := Lib.hid (R4.out.kept ((Kept.refl u4).alloc (.cells #[.int .u64 0, .int .i64 0, .int .i64 0, .string ⟨#[]⟩] 24)))
      have X5 := Lib.hid (X4.out.kept ((Kept.refl u4).alloc (.cells #[.int .u64 0, .int .i64 0, .int .i64 0, .string ⟨#[]⟩] 24)))
      have K5 : Hid (Kept w (u4.alloc (.cells #[.int .u64 0, .int .i64 0, .int .i64 0, .string ⟨#[]⟩] 24))) := K4.out.alloc _
      clear R4 X4 K4
      generalize u4.alloc (.cells #[.int .u64 0, .int .i64 0, .int .i64 0, .string ⟨#[]⟩] 24) = u5 at *
      have x0 := X5.out.c0
      have x1 := X5.out.c1
      have x2 := X5.out.c2
      have x3 := X5.out.c3
      (try dsimp only at x0 x1 x2 x3)
      go_wp2_with fail
      refine (HW1.out AS _ HOS.out.1 HOS.out.2 R5.out).mono ?_
      rintro e v1 ⟨rfl, ⟨B, hB, hBc, hR⟩, hO⟩
      have RB := Lib.hid hR
      have XB := Lib.hid (X5.out.frame (hO.block _ X5.out.lt (.inl HG1.out)))
      have KB : Hid (Kept w v1) := Only.kept K5.out (Nat.le_of_lt HG1.out) hO
      have HBR := Lib.hid (HR0.out B _ hB hBc hR)
      clear hR hO x0 x1 x2 x3 hB hBc
      go_wp2_with fail
      refine HBR.out.mono ?_
      rintro e v2 ⟨rfl, hk⟩
      have XC := Lib.hid (XB.out.kept hk)
      have KC : Hid (Kept w v2) := KB.out.trans hk
      clear hk HBR XB KB RB
      go_upto_region 34 with fail
      have XD := Lib.hid (XC.out.kept ((Kept.refl v2).alloc (.cells #[.int .u64 (st : Nat), .int .i64 ix, .int .i64 tt, .string t] 24)))
      have KD : Hid (Kept w (v2.alloc (.cells #[.int .u64 (st : Nat), .int .i64 ix, .int .i64 tt, .string t] 24))) := KC.out.alloc _
      have ZD := Lib.hid (ShAt.laid v2 24 ⟨st, ix, tt, t⟩)
      clear XC KC
      generalize v2.alloc (.cells #[.int .u64 (st : Nat), .int .i64 ix, .int .i64 tt, .string t] 24) = v3 at *
      generalize v2.heap.size = cz at *
      have x0 := XD.out.c0
      have x1 := XD.out.c1
      have x2 := XD.out.c2
      have x3 := XD.out.c3
      have y0 := ZD.out.c0
      have y1 := ZD.out.c1
      have y2 := ZD.out.c2
      have y3 := ZD.out.c3
      (try dsimp only at x0 x1 x2 x3 y0 y1 y2 y3)
      go_wp2_with fail
      refine (shAlive_any _).mono ?_
      rintro e v4 ⟨rfl, hk⟩
      have KE : Hid (Kept w v4) := KD.out.trans hk
      clear hk KD
      go_wp2_with fail
      go_ret
      exact ⟨rfl, KE.out⟩
    have hIf : a3 = true → decide (((sI : Int) + 1) * 64 ≤ (t.size : Int)) = false := fun h => decide_eq_false (fun c => hI ⟨h, by omega⟩)
    have hs8 : sI ≤ 8 := by omega
    clear hI hsI
    by_cases hII : 0 < t.size ∧ n < 8 * t.size
    · have d2 : decide ((0 : Int) < (t.size : Int)) = true := decide_eq_true (by omega)
      have d3 : decide ((n : Int) < 8 * (t.size : Int)) = true := decide_eq_true (by omega)
      have d5 : decide (0 < t.size) = true := decide_eq_true (by omega)
      have hcv := run_bytes_of_string (P := Tryd.prog) u2 9 36 5 t Tryd.underlying9 Tryd.underlying36 Tryd.underlying5
      obtain ⟨cap, hcap⟩ : ∃ cap, grownCap u2 t.size 0 5 = cap := ⟨_, rfl⟩
      have hcg : t.size ≤ cap := by rw [← hcap]; exact grownCap_ge _ _ _ _
      rw [hcap] at hcv
      have HBB := Lib.hid (BytL.conv u2 t cap 5)
      have hkp : Kept u2 (u2.drew.alloc (.cells (bytesRow t cap) 5 ((bytesRow t cap).size, (bytesRow t cap).size + 1))) := ((Kept.refl _).drew).alloc _
      have K3 : Hid (Kept w (u2.drew.alloc (.cells (bytesRow t cap) 5 ((bytesRow t cap).size, (bytesRow t cap).size + 1)))) := K2.out.trans hkp
      have R3 := Lib.hid (R2.out.kept hkp)
      have X3 := Lib.hid (X2.out.kept hkp)
      obtain ⟨gb, hgb⟩ : ∃ gb, u2.heap.size = gb := ⟨_, rfl⟩
      have HGB : Hid (g + 3 ≤ gb) := by have := R2.out.lt; rw [HA.out.1.one.n] at this; show _ ≤ _; omega
      rw [hgb] at hcv HBB
      clear hcap hkp R2 X2 K2 hgb
      generalize u2.drew.alloc (.cells (bytesRow t cap) 5 ((bytesRow t cap).size, (bytesRow t cap).size + 1)) = u3 at *
      cases a3
      all_goals
        try have hIf := hIf rfl
        go_wp2_with fail
        clear hcv
        go_loopw [16, 17] (fun tu i wr => ∃ (k : Nat) (c : Bool) (b : List UInt8), k ≤ 32 ∧ tu = .bool c ∧ i = .int .i64 k ∧ Hid (Kept w wr ∧ RackAt g A wr ∧ ShAt wr w.heap.size ⟨st, ix, tt, t⟩ ∧ BytL gb b wr ∧ Bent t.data.toList b n k c)) (fun _ i _ => 32 - (intOf i).toNat)
        case atStart => exact ⟨0, false, t.data.toList, by omega, rfl, rfl, ⟨K3.out, R3.out, X3.out, HBB.out, Bent.zero _ _⟩⟩
        case round =>
          obtain ⟨k, c, b, hk, rfl, rfl, HI⟩ := hrel
          by_cases hgo : k < 32 ∧ n + k < 8 * t.size
          · have c1 : decide ((k : Int) < 32) = true := decide_eq_true (by omega)
            have c2 : decide ((n : Int) + (k : Int) < 8 * (t.size : Int)) = true := decide_eq_true (by omega)
            have hbl : b.length = t.size := by have := HI.out.2.2.2.2.1; rw [this]; simp
            have hj : (n + k) / 8 < b.length := by omega
            have hck := HI.out.2.2.2.1.cell _ hj
            have hfk := HI.out.2.2.2.1.free _ hj
            cases hbt : (bits BinOp.and IntKind.u32 ((by' : Int) / 2 ^ k) 1 == 1)
            · have HF : Hid (Kept w wr ∧ RackAt g A wr ∧ ShAt wr w.heap.size ⟨st, ix, tt, t⟩ ∧ BytL gb b wr ∧ Bent t.data.toList b n (k + 1) c) := ⟨HI.out.1, HI.out.2.1, HI.out.2.2.1, HI.out.2.2.2.1, HI.out.2.2.2.2.skip⟩
              go_wp2_with fail
              exact ⟨⟨k + 1, c, b, by omega, rfl, by go_num, HF⟩, by simp [intOf]; omega⟩
            · obtain ⟨v, hv1, hv2⟩ := turn_bit b[(n + k) / 8] ((n + k) % 8) (Nat.mod_lt _ (by decide))
              have HF : Hid (Kept w (wr.setCell ⟨gb, (n + k) / 8, none⟩ (.int .u8 (v.toNat : Nat))) ∧ RackAt g A (wr.setCell ⟨gb, (n + k) / 8, none⟩ (.int .u8 (v.toNat : Nat))) ∧ ShAt (wr.setCell ⟨gb, (n + k) / 8, none⟩ (.int .u8 (v.toNat : Nat))) w.heap.size ⟨st, ix, tt, t⟩ ∧ BytL gb (b.set ((n + k) / 8) v) (wr.setCell ⟨gb, (n + k) / 8, none⟩ (.int .u8 (v.toNat : Nat))) ∧ Bent t.data.toList (b.set ((n + k) / 8) v) n (k + 1) true) := by
                have g1 := HGB.out
                have g2 := HG1.out
                refine ⟨HI.out.1.setCell (by dsimp only; omega) _, HI.out.2.1.frame (fun j h1 h2 => Below.heap_setCell _ _ _ _ (by rw [HA.out.1.one.n] at h2; dsimp only; omega)), HI.out.2.2.1.frame (Below.heap_setCell _ _ _ _ (by dsimp only; omega)), HI.out.2.2.2.1.set _ hj v, HI.out.2.2.2.2.turn v hj hv1⟩
              go_wp2_with fail
              rw [← hv1]
              exact ⟨⟨k + 1, true, _, by omega, rfl, by go_num, HF⟩, by simp [intOf]; omega⟩
          · have hbl : b.length = t.size := by have := HI.out.2.2.2.2.1; rw [this]; simp
            have hc12 : (decide ((k : Int) < 32) = true ∧ decide ((n : Int) + (k : Int) < 8 * (t.size : Int)) = false) ∨ decide ((k : Int) < 32) = false := by
              by_cases h : k < 32
              · exact .inl ⟨decide_eq_true (by omega), decide_eq_false (fun h2 => hgo ⟨h, by omega⟩)⟩
              · exact .inr (decide_eq_false (by omega))
            clear hgo
            have HWT : Hid (∀ m, m ≤ 7 → (wTo A 0 0 (ofL b) m).1 = 0 ∧ Wrote A (wTo A 0 0 (ofL b) m).2 (ofL b) m) := fun m hm7 => wTo_ok A HA.out.1.one (ofL b) m hm7 (fun cc => by rw [HA.out.2] at cc; cases cc)
            have HBT : Hid (t.data.toList.length = t.size) := by show _ = _; simp
            rcases hc12 with ⟨c1, c2⟩ | c1
            all_goals
              go_wp2_with fail
              go_loopw [18] (fun i ws => ∃ m : Nat, m ≤ nsec t.size ∧ i = .int .i64 m ∧ Hid (Kept w ws ∧ RackAt g (wTo A 0 0 (ofL b) m).2 ws ∧ ShAt ws w.heap.size ⟨st, ix, tt, t⟩ ∧ BytL gb b ws)) (fun i _ => nsec t.size - (intOf i).toNat)
              case atStart => exact ⟨0, Nat.zero_le _, rfl, ⟨HI.out.1, HI.out.2.1, HI.out.2.2.1, HI.out.2.2.2.1⟩⟩
              case round =>
                obtain ⟨m, hm2, rfl, HJ⟩ := hrel
                by_cases hlt : m * 64 < t.size
                · have b1 : decide ((m : Int) * 64 < (t.size : Int)) = true := decide_eq_true (by omega)
                  have hmn : m < nsec t.size := by unfold nsec; omega
                  go_upto_region 27 with fail
                  have hm7 : m < 7 := by have := HN7.out; omega
                  obtain ⟨cl, hcl⟩ : ∃ cl, cl = min t.size (m * 64 + 64) - m * 64 := ⟨_, rfl⟩
                  have hsl : ∀ W, (Instr.slice 36 (.slice (some ⟨gb, 0, none⟩) t.size cap) (some (.int .i64 ((m : Int) * 64))) (some (.int .i64 (min (t.size : Int) (((m : Int) + 1) * 64)))) none).run Tryd.prog W = .ok (.slice (some ⟨gb, m * 64, none⟩) cl (cap - m * 64)) W := fun W => by
                    have h := run_slice_lh (P := Tryd.prog) W 36 (some ⟨gb, 0, none⟩) t.size cap (by kernel_rfl) .i64 .i64 ((m : Int) * 64) (min (t.size : Int) (((m : Int) + 1) * 64)) (by omega) (by omega) (by omega)
                    rw [h, show (sizeOf (Tryd.prog.elem 36)).run Tryd.prog W = .ok 1 W from by kernel_rfl]
                    show Result.ok (sliced _ _ _ _ _) W = _
                    unfold sliced
                    rw [if_neg (by omega), hcl]
                    show Result.ok (Value.slice (some ((⟨gb, 0, none⟩ : Addr).add (((m : Int) * 64).toNat * 1))) _ _) W = _
                    rw [show (⟨gb, 0, none⟩ : Addr).add (((m : Int) * 64).toNat * 1) = ⟨gb, m * 64, none⟩ from by rw [add_at]; congr 1; omega]
                    congr 2 <;> omega
                  have hcs := fun W => (fun h : BytL gb b W => h.text (m * 64) cl (cap - m * 64) (by omega))
                  have hch : (⟨((b.drop (m * 64)).take cl).toArray⟩ : ByteArray) = chunk (ofL b) m := by
                    unfold chunk
                    rw [ofL_size, hbl]
                    unfold ofL
                    rw [RSt.ext_list, hcl]
                  rw [hch] at hcs
                  have hcv2 := hcs wr HJ.out.2.2.2
                  have HWQ : Hid (∀ W, RackAt g (wTo A 0 0 (ofL b) m).2 W → Calls Tryd.prog 10 #[.pointer (some ⟨g + 1, 0, none⟩), .int .i64 0, .int .i64 (1 + (m : Int)), .string (chunk (ofL b) m)] W fun r w' => r = .returned (.int .i64 0) ∧ RackAt g (wTo A 0 0 (ofL b) (m + 1)).2 w' ∧ Only g (g + 3) W w') := fun W h => by
                    obtain ⟨z1, z2⟩ := HWT.out m (by omega)
                    have zd : (wTo A 0 0 (ofL b) m).2.down = false := by unfold RSt.down; rw [z2.cut, HA.out.2]; rfl
                    obtain ⟨y1, y2⟩ := z2.one.writeS zd (i := m + 1) (by omega) (chunk (ofL b) m) (chunk_size _ _)
                    have hst : wTo A 0 0 (ofL b) (m + 1) = ((wTo A 0 0 (ofL b) m).2.writeE 0 (secAt 0 m) (chunk (ofL b) m), (wTo A 0 0 (ofL b) m).2.writeS 0 (secAt 0 m) (chunk (ofL b) m)) := by
                      show (if (wTo A 0 0 (ofL b) m).1 = 0 then _ else _) = _
                      rw [if_pos z1]
                    have := write_any g (wTo A 0 0 (ofL b) m).2 0 ((m + 1 : Nat) : Int) (by decide) (by decide) (by omega) (by omega) (chunk (ofL b) m) (by have := chunk_size (ofL b) m; omega) W h
                    rw [y1, z2.one.n, show ((m + 1 : Nat) : Int) = 1 + (m : Int) from by omega] at this
                    rw [hst]
                    dsimp only
                    rw [secAt0 m hm7, show ((m + 1 : Nat) : Int) = 1 + (m : Int) from by omega]
                    exact this
                  clear hcl hch hcs
                  generalize chunk (ofL b) m = ck at *
                  go_wp2_with fail
                  refine (HWQ.out _ HJ.out.2.1).mono ?_
                  rintro e ws ⟨rfl, hR, hO⟩
                  have HF : Hid (Kept w ws ∧ RackAt g (wTo A 0 0 (ofL b) (m + 1)).2 ws ∧ ShAt ws w.heap.size ⟨st, ix, tt, t⟩ ∧ BytL gb b ws) :=
                    ⟨Only.kept HJ.out.1 (Nat.le_of_lt HG1.out) hO, hR, HJ.out.2.2.1.frame (hO.block _ HJ.out.2.2.1.lt (.inl HG1.out)), HJ.out.2.2.2.only hO HGB.out⟩
                  clear hR hO HWQ hsl hcv2
                  go_wp2_with fail
                  exact ⟨⟨m + 1, by omega, by go_num, HF⟩, by simp [intOf]; omega⟩
                · have b1 : decide ((m : Int) * 64 < (t.size : Int)) = false := decide_eq_false (by omega)
                  obtain rfl : m = nsec t.size := by unfold nsec at hm2 ⊢; omega
                  obtain ⟨zy, hzy⟩ := HBEN.out (wTo A 0 0 (ofL b) (nsec t.size)).2 b n k c hk hn8 HI.out.2.2.2.2 (HWT.out _ HN7.out).2
                  obtain ⟨fe, hfe⟩ : ∃ fe : Nat, fe = (if c = true then 81 else 0) := ⟨_, rfl⟩
                  rw [← hfe] at hzy
                  replace hfe := Lib.hid hfe
                  have HOS : Hid (One (wTo A 0 0 (ofL b) (nsec t.size)).2 ∧ (wTo A 0 0 (ofL b) (nsec t.size)).2.cut = false) := ⟨(HWT.out _ HN7.out).2.one, (HWT.out _ HN7.out).2.cut.trans HA.out.2⟩
                  have HR7 := Lib.hid (fun W h => HRD.out (wTo A 0 0 (ofL b) (nsec t.size)).2 W _ zy hzy h)
                  have KJ := Lib.hid HJ.out.1
                  have RJ := Lib.hid HJ.out.2.1
                  have XJ := Lib.hid HJ.out.2.2.1
                  clear hzy HJ HI
                  generalize (wTo A 0 0 (ofL b) (nsec t.size)).2 = AS at *
                  have hN7 := HN7.out
                  clear HWT HBEN HSPR hm2 HN7 hlt
                  generalize nsec t.size = N at *
                  go_wp2_with fail
                  trace_state
                  cases c
                  all_goals
                    have hfe2 := hfe.out
                    simp only [if_true, if_false, Bool.false_eq_true, reduceIte] at hfe2
                    subst hfe2
                    clear hfe
                    refine (HR7.out _ RJ.out).mono ?_
                    rintro e u4 ⟨rfl, hk4⟩
                    have R4 := Lib.hid (RJ.out.kept hk4)
                    have X4 := Lib.hid (XJ.out.kept hk4)
                    have K4 : Hid (Kept w u4) := KJ.out.trans hk4
                    clear hk4 RJ XJ KJ HR7
                    go_upto_region 31 with fail
                    have R5 := Lib.hid (R4.out.kept ((Kept.refl u4).alloc (.cells #[.int .u64 (zy.st : Nat), .int .i64 zy.ix, .int .i64 zy.tt, .string zy.t] 24)))
                    have X5 := Lib.hid (X4.out.kept ((Kept.refl u4).alloc (.cells #[.int .u64 (zy.st : Nat), .int .i64 zy.ix, .int .i64 zy.tt, .string zy.t] 24)))
                    have K5 : Hid (Kept w (u4.alloc (.cells #[.int .u64 (zy.st : Nat), .int .i64 zy.ix, .int .i64 zy.tt, .string zy.t] 24))) := K4.out.alloc _
                    clear R4 X4 K4
                    generalize u4.alloc (.cells #[.int .u64 (zy.st : Nat), .int .i64 zy.ix, .int .i64 zy.tt, .string zy.t] 24) = u5 at *
                    have x0 := X5.out.c0
                    have x1 := X5.out.c1
                    have x2 := X5.out.c2
                    have x3 := X5.out.c3
                    (try dsimp only at x0 x1 x2 x3)
                    go_wp2_with fail
                    refine (HW1.out AS _ HOS.out.1 HOS.out.2 R5.out).mono ?_
                    rintro e v1 ⟨rfl, ⟨B, hB, hBc, hR⟩, hO⟩
                    have RB := Lib.hid hR
                    have XB := Lib.hid (X5.out.frame (hO.block _ X5.out.lt (.inl HG1.out)))
                    have KB : Hid (Kept w v1) := Only.kept K5.out (Nat.le_of_lt HG1.out) hO
                    have HBR := Lib.hid (HR0.out B _ hB hBc hR)
                    clear hR hO x0 x1 x2 x3 hB hBc
                    go_wp2_with fail
                    refine HBR.out.mono ?_
                    rintro e v2 ⟨rfl, hk⟩
                    have XC := Lib.hid (XB.out.kept hk)
                    have KC : Hid (Kept w v2) := KB.out.trans hk
                    clear hk HBR XB KB RB
                    go_upto_region 34 with fail
                    have XD := Lib.hid (XC.out.kept ((Kept.refl v2).alloc (.cells #[.int .u64 (st : Nat), .int .i64 ix, .int .i64 tt, .string t] 24)))
                    have KD : Hid (Kept w (v2.alloc (.cells #[.int .u64 (st : Nat), .int .i64 ix, .int .i64 tt, .string t] 24))) := KC.out.alloc _
                    have ZD := Lib.hid (ShAt.laid v2 24 ⟨st, ix, tt, t⟩)
                    clear XC KC
                    generalize v2.alloc (.cells #[.int .u64 (st : Nat), .int .i64 ix, .int .i64 tt, .string t] 24) = v3 at *
                    generalize v2.heap.size = cz at *
                    have x0 := XD.out.c0
                    have x1 := XD.out.c1
                    have x2 := XD.out.c2
                    have x3 := XD.out.c3
                    have y0 := ZD.out.c0
                    have y1 := ZD.out.c1
                    have y2 := ZD.out.c2
                    have y3 := ZD.out.c3
                    (try dsimp only at x0 x1 x2 x3 y0 y1 y2 y3)
                    go_wp2_with fail
                    refine (shAlive_any _).mono ?_
                    rintro e v4 ⟨rfl, hk⟩
                    have KE : Hid (Kept w v4) := KD.out.trans hk
                    clear hk KD
                    go_wp2_with fail
                    go_ret
                    exact ⟨rfl, KE.out⟩
    · have d2 : (0 : Int) < (t.size : Int) → decide ((n : Int) < 8 * (t.size : Int)) = false := fun h => decide_eq_false (fun c => hII ⟨by omega, by omega⟩)
      clear hII
      by_cases hz : (0 : Int) < (t.size : Int)
      · have d3 := d2 hz
        have d4 : decide ((0 : Int) < (t.size : Int)) = true := decide_eq_true hz
        have d5 : decide (0 < t.size) = true := decide_eq_true (by omega)
        clear d2 hz
        cases a3
        all_goals
          try have hIf := hIf rfl
          go_upto_region 31 with fail
          have x0 := X2.out.c0
          have x1 := X2.out.c1
          have x2 := X2.out.c2
          have x3 := X2.out.c3
          (try dsimp only at x0 x1 x2 x3)
          go_wp2_with fail
          refine (HW1.out A _ HA.out.1.one HA.out.2 R2.out).mono ?_
          rintro e v1 ⟨rfl, ⟨B, hB, hBc, hR⟩, hO⟩
          have RB := Lib.hid hR
          have XB := Lib.hid (X2.out.frame (hO.block _ X2.out.lt (.inl HG1.out)))
          have KB : Hid (Kept w v1) := Only.kept K2.out (Nat.le_of_lt HG1.out) hO
          have HBR := Lib.hid (HR0.out B _ hB hBc hR)
          clear hR hO x0 x1 x2 x3 hB hBc
          go_wp2_with fail
          refine HBR.out.mono ?_
          rintro e v2 ⟨rfl, hk⟩
          have XC := Lib.hid (XB.out.kept hk)
          have KC : Hid (Kept w v2) := KB.out.trans hk
          clear hk HBR XB KB RB
          go_upto_region 34 with fail
          have XD := Lib.hid (XC.out.kept ((Kept.refl v2).alloc (.cells #[.int .u64 (st : Nat), .int .i64 ix, .int .i64 tt, .string t] 24)))
          have KD : Hid (Kept w (v2.alloc (.cells #[.int .u64 (st : Nat), .int .i64 ix, .int .i64 tt, .string t] 24))) := KC.out.alloc _
          have ZD := Lib.hid (ShAt.laid v2 24 ⟨st, ix, tt, t⟩)
          clear XC KC
          generalize v2.alloc (.cells #[.int .u64 (st : Nat), .int .i64 ix, .int .i64 tt, .string t] 24) = v3 at *
          generalize v2.heap.size = cz at *
          have x0 := XD.out.c0
          have x1 := XD.out.c1
          have x2 := XD.out.c2
          have x3 := XD.out.c3
          have y0 := ZD.out.c0
          have y1 := ZD.out.c1
          have y2 := ZD.out.c2
          have y3 := ZD.out.c3
          (try dsimp only at x0 x1 x2 x3 y0 y1 y2 y3)
          go_wp2_with fail
          refine (shAlive_any _).mono ?_
          rintro e v4 ⟨rfl, hk⟩
          have KE : Hid (Kept w v4) := KD.out.trans hk
          clear hk KD
          go_wp2_with fail
          go_ret
          exact ⟨rfl, KE.out⟩
      · have d4 : decide ((0 : Int) < (t.size : Int)) = false := decide_eq_false hz
        have d5 : decide (0 < t.size) = false := decide_eq_false (by omega)
        clear d2 hz
        cases a3
        all_goals
          try have hIf := hIf rfl
          go_upto_region 31 with fail
          have x0 := X2.out.c0
          have x1 := X2.out.c1
          have x2 := X2.out.c2
          have x3 := X2.out.c3
          (try dsimp only at x0 x1 x2 x3)
          go_wp2_with fail
          refine (HW1.out A _ HA.out.1.one HA.out.2 R2.out).mono ?_
          rintro e v1 ⟨rfl, ⟨B, hB, hBc, hR⟩, hO⟩
          have RB := Lib.hid hR
          have XB := Lib.hid (X2.out.frame (hO.block _ X2.out.lt (.inl HG1.out)))
          have KB : Hid (Kept w v1) := Only.kept K2.out (Nat.le_of_lt HG1.out) hO
          have HBR := Lib.hid (HR0.out B _ hB hBc hR)
          clear hR hO x0 x1 x2 x3 hB hBc
          go_wp2_with fail
          refine HBR.out.mono ?_
          rintro e v2 ⟨rfl, hk⟩
          have XC := Lib.hid (XB.out.kept hk)
          have KC : Hid (Kept w v2) := KB.out.trans hk
          clear hk HBR XB KB RB
          go_upto_region 34 with fail
          have XD := Lib.hid (XC.out.kept ((Kept.refl v2).alloc (.cells #[.int .u64 (st : Nat), .int .i64 ix, .int .i64 tt, .string t] 24)))
          have KD : Hid (Kept w (v2.alloc (.cells #[.int .u64 (st : Nat), .int .i64 ix, .int .i64 tt, .string t] 24))) := KC.out.alloc _
          have ZD := Lib.hid (ShAt.laid v2 24 ⟨st, ix, tt, t⟩)
          clear XC KC
          generalize v2.alloc (.cells #[.int .u64 (st : Nat), .int .i64 ix, .int .i64 tt, .string t] 24) = v3 at *
          generalize v2.heap.size = cz at *
          have x0 := XD.out.c0
          have x1 := XD.out.c1
          have x2 := XD.out.c2
          have x3 := XD.out.c3
          have y0 := ZD.out.c0
          have y1 := ZD.out.c1
          have y2 := ZD.out.c2
          have y3 := ZD.out.c3
          (try dsimp only at x0 x1 x2 x3 y0 y1 y2 y3)
          go_wp2_with fail
          refine (shAlive_any _).mono ?_
          rintro e v4 ⟨rfl, hk⟩
          have KE : Hid (Kept w v4) := KD.out.trans hk
          clear hk KD
          go_wp2_with fail
          go_ret
          exact ⟨rfl, KE.out⟩
end Go.Proofs.YtdpkmonlkdegjaaDoor
