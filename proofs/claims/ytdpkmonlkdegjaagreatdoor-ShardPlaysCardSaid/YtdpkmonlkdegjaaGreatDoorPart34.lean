/- ShardDocW, ShardDocH, ShardDocHd. -/
import Derived.Test.YtdpkmonlkdegjaaGreatDoorPart32
import Derived.Test.YtdpkmonlkdegjaaGreatDoorPart33
import Derived.Test.YtdpkmonlkdegjaaGreatDoorPart25
/- What the document's own Write, Clear of a shard leave. -/
namespace Go.Proofs.YtdpkmonlkdegjaaGreatDoor
open Go.RowKit Sm Wr _root_.Go.Proofs.YtdpkmonlkdegjaaGreatDoor.Nm
set_option linter.unusedVariables false
theorem padH_size (l : List UInt8) (h : l.length ≤ 64) : (padH l).size = 64 := by
  unfold padH
  show ((l ++ List.replicate (64 - l.length) 0).toArray).size = 64
  simp; omega
theorem padH_pad (l : List UInt8) (h : l.length ≤ 64) : padL (padH l) = padL (ofL l) := by
  rw [padL_ofL]
  unfold padL
  rw [padH_size l h, Nat.sub_self, List.replicate_zero, List.append_nil]
  rfl
theorem padH_write (s : RSt) (d a : Int) (l : List UInt8) (h : l.length ≤ 64) : s.writeE d a (padH l) = s.writeE d a (ofL l) ∧ s.writeS d a (padH l) = s.writeS d a (ofL l) := by
  have e : s.writeE d a (padH l) = s.writeE d a (ofL l) := by
    unfold RSt.writeE
    rw [padH_size l h, ofL_size, if_neg (show ¬ 64 < 64 by decide), if_neg (show ¬ 64 < l.length by omega)]
  refine ⟨e, ?_⟩
  unfold RSt.writeS
  rw [e, padH_pad l h]
set_option maxHeartbeats 2000000 in
set_option maxRecDepth 100000 in
theorem refWrite_any (L : DLay) (lo hi : Nat) (s : RSt) (d a : Int) (hd1 : -9223372036854775808 ≤ d) (hd2 : d ≤ 9223372036854775807) (ha1 : -9223372036854775808 ≤ a) (ha2 : a ≤ 9223372036854775807) (x : Shd) (w : World) (hhi : hi ≤ w.heap.size) (hD : DocAt L lo hi s w) :
    Calls Tryz.prog 11 #[.pointer (some ⟨L.x, 0, none⟩), .int .i64 d, .int .i64 a, x.val] w fun r w' => r = .returned (.int .i64 ((shW s d a x).1 : Nat)) ∧ DocAt L lo hi (shW s d a x).2 w' ∧ Only lo hi w w' := by
  have HMY := Lib.hid (fun W => refMay_any x W)
  cases hm : x.may with
  | false =>
    rw [hm] at HMY
    have HNO : Hid (shW s d a x = (2, s)) := by show _ = _; unfold shW; rw [hm, if_pos rfl]
    rw [HNO.out]
    obtain ⟨st, ix, tt, t⟩ := x
    unfold Shd.val at *
    dsimp only at *
    have K0 : Hid (Kept w (w.alloc (.cells #[.int .u64 (st : Nat), .int .i64 ix, .int .i64 tt, .string t] 34))) := (Kept.refl _).alloc _
    replace hD := Lib.hid hD
    clear HNO hm
    go_enter Tryz.func11, Tryz.ntmps11
    go_wp2_with fail
    refine (HMY.out _).mono ?_
    rintro e u1 ⟨rfl, hk⟩
    have K1 : Hid (Kept w u1) := K0.out.trans hk
    clear hk K0 HMY
    go_wp2_with fail
    go_ret
    exact ⟨rfl, hD.out.kept K1.out, K1.out.only _ _⟩
  | true =>
    rw [hm] at HMY
    have m7 := (Shd.may_iff hm).2.2.2.2.2.2
    have hH := Shd.head_length hm
    have HHD := Lib.hid (fun W => refHead_any x W hm)
    have HSH : Hid (shW s d a x = if (wTo s d a x.t (nsec x.t.size)).1 = 0 then ((wTo s d a x.t (nsec x.t.size)).2.writeE d a (ofL x.head), (wTo s d a x.t (nsec x.t.size)).2.writeS d a (ofL x.head)) else wTo s d a x.t (nsec x.t.size)) := by
      show _ = _
      unfold shW
      rw [hm, if_neg (by decide)]
    have HPW := Lib.hid (fun (S : RSt) => padH_write S d a x.head (by omega))
    have HPZ : Hid ((padH x.head).size ≤ 9223372036854775807) := by show _ ≤ _; rw [padH_size _ (by omega)]; decide
    have HN7 : Hid (nsec x.t.size ≤ 7) := nsec_le _ m7
    generalize hshw : shW s d a x = rs at *
    clear hshw
    obtain ⟨st, ix, tt, t⟩ := x
    unfold Shd.val at *
    dsimp only at *
    generalize Shd.head ⟨st, ix, tt, t⟩ = hd at *
    have K0 : Hid (Kept w (w.alloc (.cells #[.int .u64 (st : Nat), .int .i64 ix, .int .i64 tt, .string t] 34))) := (Kept.refl _).alloc _
    have X0 := Lib.hid (ShAt.laid w 34 ⟨st, ix, tt, t⟩)
    have HHI : Hid (hi ≤ w.heap.size) := hhi
    replace hD := Lib.hid hD
    clear hm hhi
    go_enter Tryz.func11, Tryz.ntmps11
    go_wp2_with fail
    refine (HMY.out _).mono ?_
    rintro e u1 ⟨rfl, hk⟩
    have K1 : Hid (Kept w u1) := K0.out.trans hk
    have X1 := Lib.hid (X0.out.kept hk)
    have D1 := Lib.hid (hD.out.kept K1.out)
    clear hk K0 HMY X0 hD
    go_wp2_with fail
    go_loopw [9] (fun i wr => ∃ k : Nat, k ≤ nsec t.size ∧ i = .int .i64 k ∧ Hid ((wTo s d a t k).1 = 0 ∧ Only lo hi w wr ∧ DocAt L lo hi (wTo s d a t k).2 wr ∧ ShAt wr w.heap.size ⟨st, ix, tt, t⟩)) (fun i _ => nsec t.size - (intOf i).toNat)
    case atStart => exact ⟨0, Nat.zero_le _, rfl, ⟨rfl, K1.out.only _ _, D1.out, X1.out⟩⟩
    case round =>
      obtain ⟨k, hk, rfl, HI⟩ := hrel
      have x3 := HI.out.2.2.2.c3
      (try dsimp only at x3)
      by_cases hlt : k * 64 < t.size
      · have b1 : decide ((k : Int) * 64 < (t.size : Int)) = true := decide_eq_true (by omega)
        have hkn : k < nsec t.size := by unfold nsec; omega
        have hsl : ∀ W, (Instr.slice 9 (.string t) (some (.int .i64 ((k : Int) * 64))) (some (.int .i64 (min (t.size : Int) (((k : Int) + 1) * 64)))) none).run Tryz.prog W = .ok (.string (chunk t k)) W := fun W => by
          have h := run_slice_string (P := Tryz.prog) W 9 t .i64 .i64 ((k : Int) * 64) (min (t.size : Int) (((k : Int) + 1) * 64)) Tryz.underlying9 (by omega) (by omega) (by omega)
          rw [show (min (t.size : Int) (((k : Int) + 1) * 64)).toNat = min t.size (k * 64 + 64) from by omega, show ((k : Int) * 64).toNat = k * 64 from by omega] at h
          exact h
        have HST : Hid (wTo s d a t (k + 1) = ((wTo s d a t k).2.writeE d (secAt a k) (chunk t k), (wTo s d a t k).2.writeS d (secAt a k) (chunk t k))) := by
          show (if (wTo s d a t k).1 = 0 then _ else _) = _
          rw [if_pos HI.out.1]
        have HWQ : Hid (∀ W, DocAt L lo hi (wTo s d a t k).2 W → Calls Tryz.prog 33 #[.pointer (some ⟨L.x, 0, none⟩), .int .i64 d, .int .i64 (wrap64 (wrap64 (a + 1) + (k : Int))), .string (chunk t k)] W fun r w' => r = .returned (.int .i64 ((wTo s d a t (k + 1)).1 : Nat)) ∧ DocAt L lo hi (wTo s d a t (k + 1)).2 w' ∧ Only lo hi W w') := fun W h => by
          have := dWrite_any L lo hi (wTo s d a t k).2 d (secAt a k) (chunk t k) (by have := chunk_size t k; omega) W h
          rw [HST.out]
          exact this
        have HER : Hid ((wTo s d a t (k + 1)).1 ≠ 0 → rs = wTo s d a t (k + 1)) := fun hne => by
          have e := wTo_err s d a t (k + 1) hne (nsec t.size) (by omega)
          rw [HSH.out, e, if_neg hne]
        clear HST
        generalize chunk t k = ck at *
        obtain ⟨p1, hp1⟩ : ∃ p1, wTo s d a t (k + 1) = p1 := ⟨_, rfl⟩
        have HP1 := Lib.hid hp1
        rw [hp1] at HWQ HER
        clear hp1
        obtain ⟨pe, ps⟩ := p1
        dsimp only at HWQ HER
        go_wp2_with fail
        refine (HWQ.out _ HI.out.2.2.1).mono ?_
        rintro e ws ⟨rfl, hd2', hO⟩
        have HO : Hid (Only lo hi w ws) := HI.out.2.1.trans hO
        have HDW := Lib.hid hd2'
        have HXW := Lib.hid (HI.out.2.2.2.only hO HHI.out)
        clear hd2' hO HWQ hsl x3
        by_cases he : pe = 0
        · have hz : ((pe : Int) != 0) = false := by rw [he]; rfl
          have HF : Hid (pe = 0 ∧ Only lo hi w ws ∧ DocAt L lo hi ps ws ∧ ShAt ws w.heap.size ⟨st, ix, tt, t⟩) := ⟨he, HO.out, HDW.out, HXW.out⟩
          clear he
          go_wp2_with fail
          refine ⟨⟨k + 1, by omega, by go_num, ?_⟩, by simp [intOf]; omega⟩
          rw [HP1.out]
          exact HF.out
        · have hz : ((pe : Int) != 0) = true := by simp; omega
          have hr := HER.out he
          subst hr
          clear he
          go_wp2_with fail
          go_ret
          exact ⟨rfl, HDW.out, HO.out⟩
      · have b1 : decide ((k : Int) * 64 < (t.size : Int)) = false := decide_eq_false (by omega)
        obtain rfl : k = nsec t.size := by unfold nsec at hk ⊢; omega
        have hN7 := HN7.out
        have hr := HSH.out
        rw [if_pos HI.out.1] at hr
        obtain ⟨z1, z2⟩ := HPW.out (wTo s d a t (nsec t.size)).2
        rw [← z1, ← z2] at hr
        have HW2 := Lib.hid (fun W h => dWrite_any L lo hi (wTo s d a t (nsec t.size)).2 d a (padH hd) HPZ.out W h)
        have HO := Lib.hid HI.out.2.1
        have HDW := Lib.hid HI.out.2.2.1
        have HXW := Lib.hid HI.out.2.2.2
        clear HSH HPW z1 z2 HI hk hlt x3 HN7
        generalize (wTo s d a t (nsec t.size)).2 = S at *
        generalize padH hd = ph at *
        generalize nsec t.size = N at *
        generalize S.writeE d a ph = we at *
        generalize S.writeS d a ph = wsS at *
        replace hr := Lib.hid hr
        have x0 := HXW.out.c0
        have x1 := HXW.out.c1
        have x2 := HXW.out.c2
        have x3 := HXW.out.c3
        (try dsimp only at x0 x1 x2 x3)
        go_wp2_with fail
        refine (HHD.out _).mono ?_
        rintro e ws ⟨rfl, hk2⟩
        have HO2 : Hid (Only lo hi w ws) := HO.out.trans (hk2.only _ _)
        have HD2 := Lib.hid (HDW.out.kept hk2)
        clear hk2 HO HDW HXW x0 x1 x2 x3
        go_wp2_with fail
        refine (HW2.out _ HD2.out).mono ?_
        rintro e wf ⟨rfl, hdf, hO⟩
        have HDF := Lib.hid hdf
        have HOF : Hid (Only lo hi w wf) := HO2.out.trans hO
        clear hdf hO
        go_wp2_with fail
        go_ret
        rw [hr.out]
        exact ⟨rfl, HDF.out, HOF.out⟩
end Go.Proofs.YtdpkmonlkdegjaaGreatDoor

/- What the document's own head, Clear of a shard tell. -/
namespace Go.Proofs.YtdpkmonlkdegjaaGreatDoor
open Go.RowKit Sm Wr _root_.Go.Proofs.YtdpkmonlkdegjaaGreatDoor.Nm
set_option linter.unusedVariables false
theorem qn_ok (m : Nat) (s : St) (h : (qNum m s).2.e = 0) : s.e = 0 ∧ qNum big s = qNum m s ∧ (qNum m s).1 ≤ m := by
  obtain ⟨l, e⟩ := s
  by_cases he : e = 0
  · subst he
    by_cases hc : cd l = 0
    · by_cases hm : m < rx l
      · rw [qnum_over m l hc hm] at h; cases h
      · rw [qnum_ok m l hc (by omega)]
        refine ⟨rfl, ?_, by show rx l ≤ m; omega⟩
        exact qnum_ok big l hc (by have := rx_lt l; unfold big; omega)
    · rw [qnum_bad m l hc] at h; exact absurd h hc
  · rw [qnum_fault m ⟨l, e⟩ he] at h; exact absurd h he
theorem qn_up (m : Nat) (s : St) (h : (qNum big s).2.e = 0) (hx : (qNum big s).1 ≤ m) : qNum m s = qNum big s := by
  obtain ⟨l, e⟩ := s
  by_cases he : e = 0
  · subst he
    by_cases hc : cd l = 0
    · have hb := qnum_ok big l hc (by have := rx_lt l; unfold big; omega)
      rw [hb] at hx ⊢
      exact qnum_ok m l hc hx
    · rw [qnum_bad big l hc] at h; exact absurd h hc
  · rw [qnum_fault big ⟨l, e⟩ he] at h; exact absurd h he
/-- What the document reads, and what it makes of it. -/
def hdD (l : List UInt8) : Hd × Nat := hdQ 281474976710656 11 5376 448 l
theorem hdD_of (l : List UInt8) : hdOf l = if (hdD l).2 = 0 ∧ (hdD l).1.sum.length = 4 ∧ (hdD l).1.a ≠ 0 then some (hdD l).1 else .none := by
  by_cases h : (hdD l).2 = 0 ∧ (hdD l).1.sum.length = 4 ∧ (hdD l).1.a ≠ 0
  · rw [if_pos h]
    obtain ⟨h0, h1, h2⟩ := h
    unfold hdD hdQ at h0
    dsimp only at h0
    obtain ⟨z3, e3, b3⟩ := qn_ok _ _ h0
    obtain ⟨z2, e2, b2⟩ := qn_ok _ _ z3
    obtain ⟨z1, e1, b1⟩ := qn_ok _ _ z2
    obtain ⟨z0, e0, b0⟩ := qn_ok _ _ z1
    have e : hdQ big big big big l = hdD l := by
      unfold hdD hdQ
      dsimp only
      rw [e0, e1, e2, e3]
    unfold hdOf
    rw [e, if_pos]
    refine ⟨h1, ?_⟩
    unfold Hd.may mayN
    have c0 : 1 ≤ (hdD l).1.a := by omega
    have c1 : (hdD l).1.a ≤ 281474976710656 := b0
    have c2 : (hdD l).1.b < 12 := by have : (hdD l).1.b ≤ 11 := b1; omega
    have c3 : (hdD l).1.c ≤ 5376 := b2
    have c4 : (hdD l).1.n ≤ 448 := b3
    rw [decide_eq_true c0, decide_eq_true c1, decide_eq_true c2, decide_eq_true c3, decide_eq_true c4]
    rfl
  · rw [if_neg h]
    unfold hdOf
    rw [if_neg]
    rintro ⟨h1, h2⟩
    apply h
    unfold Hd.may mayN at h2
    simp only [Bool.and_eq_true, decide_eq_true_eq] at h2
    obtain ⟨c0, c1, c2, c3, c4⟩ := h2
    have hr : (qNum big (qNum big (qNum big (qNum big ⟨l, 0⟩).2).2).2).2.e = 0 := by
      apply Classical.byContradiction
      intro hne
      have : (qRest (qNum big (qNum big (qNum big (qNum big ⟨l, 0⟩).2).2).2).2).1 = [] := by unfold qRest; rw [if_pos hne]
      unfold hdQ at h1
      dsimp only at h1
      rw [this] at h1
      cases h1
    obtain ⟨z3, _, _⟩ := qn_ok _ _ hr
    obtain ⟨z2, _, _⟩ := qn_ok _ _ z3
    obtain ⟨z1, _, _⟩ := qn_ok _ _ z2
    have e0 := qn_up 281474976710656 ⟨l, 0⟩ z1 c1
    have e1 := qn_up 11 (qNum big ⟨l, 0⟩).2 z2 (by have : (qNum big (qNum big ⟨l, 0⟩).2).1 < 12 := c2; omega)
    have e2 := qn_up 5376 (qNum big (qNum big ⟨l, 0⟩).2).2 z3 c3
    have e3 := qn_up 448 (qNum big (qNum big (qNum big ⟨l, 0⟩).2).2).2 hr c4
    have e : hdD l = hdQ big big big big l := by
      unfold hdD hdQ
      dsimp only
      rw [e0, e1, e2, e3]
    rw [e]
    refine ⟨hr, h1, ?_⟩
    omega
set_option maxRecDepth 100000 in
theorem refClear_any (L : DLay) (lo hi : Nat) (s : RSt) (d a : Int) (w : World) (hD : DocAt L lo hi s w) :
    Calls Tryz.prog 15 #[.pointer (some ⟨L.x, 0, none⟩), .int .i64 d, .int .i64 a] w fun r w' => r = .returned (.int .i64 (s.writeE d a ⟨#[]⟩ : Nat)) ∧ DocAt L lo hi (s.writeS d a ⟨#[]⟩) w' ∧ Only lo hi w w' := by
  have HC := Lib.hid (dWrite_any L lo hi s d a ⟨#[]⟩ (by decide) w hD)
  clear hD
  go_enter Tryz.func15, Tryz.ntmps15
  go_wp2_with fail
  refine HC.out.mono ?_
  rintro e w1 ⟨rfl, h1, h2⟩
  have H1 := Lib.hid h1
  have H2 := Lib.hid h2
  clear h1 h2 HC
  go_wp2_with fail
  go_ret
  exact ⟨rfl, H1.out, H2.out⟩
end Go.Proofs.YtdpkmonlkdegjaaGreatDoor

/- What the document's own head of a shard tells. -/
namespace Go.Proofs.YtdpkmonlkdegjaaGreatDoor
open Go.RowKit Sm Wr _root_.Go.Proofs.YtdpkmonlkdegjaaGreatDoor.Nm
set_option linter.unusedVariables false
def hdV : Option Hd → Value
  | .none => .tuple #[Shd.none.val, .int .i64 0, .string ⟨#[]⟩, .bool false]
  | some h => .tuple #[(⟨h.a, h.b, h.c, ⟨#[]⟩⟩ : Shd).val, .int .i64 (h.n : Nat), .string (ofL h.sum), .bool true]
theorem qn_le (m : Nat) (s : St) : (qNum m s).1 ≤ m := by
  unfold qNum
  split
  · exact Nat.zero_le _
  · split
    · exact Nat.zero_le _
    · split
      · exact Nat.zero_le _
      · dsimp only; omega
theorem qRest_e (s : St) : (qRest s).2.e = s.e := by
  unfold qRest
  by_cases c : s.e = 0
  · rw [if_neg (by rw [c]; simp), c]
  · rw [if_pos c]
theorem RdAt.new (w : World) (t : ByteArray) (ht : t.size ≤ maxLen) (T : TypeId) : RdAt (w.alloc (.cells #[.string t, .int .i64 0] T)) w.heap.size ⟨t.data.toList, 0⟩ := by
  refine ⟨⟨t, by rw [World.cell?_alloc_mark]; rfl, rfl, ht⟩, by rw [World.cell?_alloc_mark]; rfl, by rw [World.frozen?_alloc_mark]; rfl, by rw [World.frozen?_alloc_mark]; rfl⟩
theorem ShAt.but {w w' : World} {g b : Nat} {x : Shd} (h : ShAt w g x) (k : But b w w') (hg : g ≠ b) : ShAt w' g x := h.frame (k.block g h.lt hg)
theorem But.ofSet (w : World) (g o : Nat) (v : Value) : But g w (w.setCell ⟨g, o, none⟩ v) := (But.refl g w).setCell o v
theorem ShAt.setIx {w : World} {g : Nat} {x : Shd} (h : ShAt w g x) (v : Int) : ShAt (w.setCell ⟨g, 1, none⟩ (.int .i64 v)) g ⟨x.st, v, x.tt, x.t⟩ := by
  have hs : ∀ o, o ≠ 1 → (w.setCell ⟨g, 1, none⟩ (.int .i64 v)).cell? ⟨g, o, none⟩ = w.cell? ⟨g, o, none⟩ := fun o hne => World.cell?_setCell_other _ _ _ _ (by intro e; injection e with _ e; exact hne e.symm)
  refine ⟨by rw [hs 0 (by decide)]; exact h.c0, World.cell?_setCell_same _ _ _ h.c1, by rw [hs 2 (by decide)]; exact h.c2, by rw [hs 3 (by decide)]; exact h.c3, ?_, ?_, ?_, ?_⟩
  all_goals rw [World.frozen?_setCell]
  · exact h.f0
  · exact h.f1
  · exact h.f2
  · exact h.f3
theorem ShAt.setTt {w : World} {g : Nat} {x : Shd} (h : ShAt w g x) (v : Int) : ShAt (w.setCell ⟨g, 2, none⟩ (.int .i64 v)) g ⟨x.st, x.ix, v, x.t⟩ := by
  have hs : ∀ o, o ≠ 2 → (w.setCell ⟨g, 2, none⟩ (.int .i64 v)).cell? ⟨g, o, none⟩ = w.cell? ⟨g, o, none⟩ := fun o hne => World.cell?_setCell_other _ _ _ _ (by intro e; injection e with _ e; exact hne e.symm)
  refine ⟨by rw [hs 0 (by decide)]; exact h.c0, by rw [hs 1 (by decide)]; exact h.c1, World.cell?_setCell_same _ _ _ h.c2, by rw [hs 3 (by decide)]; exact h.c3, ?_, ?_, ?_, ?_⟩
  all_goals rw [World.frozen?_setCell]
  · exact h.f0
  · exact h.f1
  · exact h.f2
  · exact h.f3
theorem allz_drop (s : ByteArray) (m : Nat) : allz (s.data.toList.drop m) = true ↔ ∀ (q : Nat) (h : q < s.size), m ≤ q → s[q] = 0 := by
  have hl : s.data.toList.length = s.size := by simp
  have hg : ∀ (q : Nat) (h : q < s.size), s.data.toList[q]'(by omega) = s[q] := fun q h => rfl
  unfold allz
  rw [List.all_eq_true]
  constructor
  · intro h q hq hm
    have := h s[q] (List.mem_of_getElem? (i := q - m) (by rw [List.getElem?_drop, show m + (q - m) = q by omega, List.getElem?_eq_getElem (by omega)]; rfl))
    simpa using this
  · intro h x hx
    obtain ⟨i, hi, rfl⟩ := List.getElem_of_mem hx
    rw [List.length_drop] at hi
    rw [List.getElem_drop, hg (m + i) (by omega), h (m + i) (by omega) (by omega)]
    rfl
set_option maxHeartbeats 2000000 in
set_option maxRecDepth 100000 in
theorem refHd_any (s : ByteArray) (w : World) (hs : s.size = 64) :
    Calls Tryz.prog 38 #[.string s] w fun e w' => e = .returned (hdV (look s.data.toList)) ∧ Kept w w' := by
  obtain ⟨k, hk⟩ : ∃ k : Nat, k = s[0].toNat := ⟨_, rfl⟩
  have hk256 : k < 256 := by rw [hk]; exact s[0].toNat_lt
  have hkl : (s.data.toList.headD 0).toNat = k := by rw [head_get s (by omega), hk]
  have hsz : (s.size : Int) = 64 := by omega
  have hki : (s[0].toNat : Int) = k := by rw [hk]
  have hll : s.data.toList.length = 64 := by simp [hs]
  have HL := Lib.hid hkl
  have HLL := Lib.hid hll
  have K0 : Hid (Kept w (w.alloc (.cells #[.int .u64 0, .int .i64 0, .int .i64 0, .string ⟨#[]⟩] 34))) := (Kept.refl _).alloc _
  have S0 := Lib.hid (ShAt.new w 34)
  clear hkl hk hll
  by_cases h1 : 64 < 1 + k
  · have HE : Hid (look s.data.toList = .none) := by show _ = _; unfold look; rw [HL.out, if_pos h1]
    have hb : decide ((64 : Int) < 1 + (k : Int)) = true := decide_eq_true (by omega)
    go_enter Tryz.func38, Tryz.ntmps38
    clear S0
    go_wp2_with fail
    rw [HE.out]
    exact bodyPost_ret (v := hdV .none) (by simp [results, Tryz.results38, go_sem, hdV, Shd.val, Shd.none]) rfl ⟨rfl, K0.out⟩
  have hb : decide ((64 : Int) < 1 + (k : Int)) = false := decide_eq_false (by omega)
  have hb2 : 1 + (k : Int) ≤ 64 := by omega
  obtain ⟨y, hy⟩ : ∃ y : ByteArray, y = s.extract 1 (1 + k) := ⟨_, rfl⟩
  have hyz : y.size ≤ 64 := by rw [hy, ByteArray.size_extract]; omega
  have hyl : y.data.toList = (s.data.toList.drop 1).take k := by rw [hy, ext_mid s 1 k]
  have hsl : ∀ W, (Instr.slice 9 (.string s) (some (.int .i64 1)) (some (.int .i64 (1 + (k : Int)))) none).run Tryz.prog W = .ok (.string y) W := fun W => by
    have h := run_slice_string (P := Tryz.prog) W 9 s .i64 .i64 1 (1 + (k : Int)) Tryz.underlying9 (by omega) (by omega) (by omega)
    rw [show (1 + (k : Int)).toNat = 1 + k from by omega, show (1 : Int).toNat = 1 from rfl, ← hy] at h
    exact h
  have HOP := Lib.hid (fun W => refopen_any y W (by omega))
  rw [hyl] at HOP
  have HLK : Hid (look s.data.toList = if allz (s.data.toList.drop (1 + k)) = false then .none else if isSealed ((s.data.toList.drop 1).take k) = false then .none else hdOf (unsealed ((s.data.toList.drop 1).take k))) := by
    show _ = _
    unfold look
    rw [HL.out, if_neg h1]
  have HOPN : Hid (isSealed ((s.data.toList.drop 1).take k) = true → (opened y).data.toList = unsealed ((s.data.toList.drop 1).take k) ∧ (opened y).size ≤ maxLen) := fun h => by
    rw [← hyl] at h ⊢
    rw [opened_yes y h]
    refine ⟨?_, by rw [ByteArray.size_extract]; unfold maxLen; omega⟩
    rw [ext_take]
    unfold unsealed
    simp
  generalize opened y = oy at *
  clear hy hyl hyz
  cases hsd : isSealed ((s.data.toList.drop 1).take k) with
  | false =>
    have HE : Hid (look s.data.toList = .none) := by
      show _ = _
      rw [HLK.out, hsd]
      split <;> rfl
    rw [hsd] at HOP
    clear HLK HOPN hsd
    go_enter Tryz.func38, Tryz.ntmps38
    go_wp2_with fail
    refine (HOP.out _).mono ?_
    rintro e u1 ⟨rfl, hk⟩
    have K1 : Hid (Kept w u1) := K0.out.trans hk
    have S1 := Lib.hid (S0.out.kept hk)
    clear hk K0 S0 HOP
    have HP := Lib.hid (S1.out.put Shd.none)
    have HKP := Lib.hid (putSh_kept K1.out w.heap.size Shd.none (Nat.le_refl _))
    obtain ⟨p0, p1, p2, p3, f0, f1, f2, f3⟩ := S1.out
    unfold putSh at HP HKP
    dsimp only [Shd.none] at HP HKP p0 p1 p2 p3
    go_wp2_with fail
    rw [HE.out]
    exact bodyPost_ret (v := hdV .none) (by have q0 := HP.out.c0; have q1 := HP.out.c1; have q2 := HP.out.c2; have q3 := HP.out.c3; (try simp at q0 q1 q2 q3); simp [results, Tryz.results38, go_sem, hdV, Shd.val, Shd.none, q0, q1, q2, q3]) rfl ⟨rfl, HKP.out⟩
  | true =>
    rw [hsd] at HOP
    obtain ⟨hol, hoz⟩ := HOPN.out hsd
    rw [hsd, if_neg (show ¬ (true = false) by decide), hdD_of] at HLK
    obtain ⟨Q, hQ⟩ : ∃ Q, Q = unsealed ((s.data.toList.drop 1).take k) := ⟨_, rfl⟩
    rw [← hQ] at hol HLK
    clear hQ HOPN hsd
    have HRN := Lib.hid (fun W => RdAt.new W oy hoz 137)
    rw [hol] at HRN
    clear hol hoz
    obtain ⟨q0, hq0⟩ : ∃ q, q = qNum 281474976710656 ⟨Q, 0⟩ := ⟨_, rfl⟩
    obtain ⟨q1, hq1⟩ : ∃ q, q = qNum 11 q0.2 := ⟨_, rfl⟩
    obtain ⟨q2, hq2⟩ : ∃ q, q = qNum 5376 q1.2 := ⟨_, rfl⟩
    obtain ⟨q3, hq3⟩ : ∃ q, q = qNum 448 q2.2 := ⟨_, rfl⟩
    have l0 : q0.1 ≤ 281474976710656 := by rw [hq0]; exact qn_le _ _
    have l1 : q1.1 ≤ 11 := by rw [hq1]; exact qn_le _ _
    have l2 : q2.1 ≤ 5376 := by rw [hq2]; exact qn_le _ _
    have l3 : q3.1 ≤ 448 := by rw [hq3]; exact qn_le _ _
    have HD : hdD Q = (⟨q0.1, q1.1, q2.1, q3.1, (qRest q3.2).1⟩, q3.2.e) := by rw [hq3, hq2, hq1, hq0]; rfl
    rw [HD] at HLK
    dsimp only at HLK
    have HN0 : Hid (∀ b W, RdAt W b ⟨Q, 0⟩ → Calls Tryz.prog 72 #[.pointer (some ⟨b, 0, none⟩), .int .u64 281474976710656] W fun e w' => e = .returned (.int .u64 (q0.1 : Nat)) ∧ RdAt w' b q0.2 ∧ But b W w') := fun b W h => by
      have := refnum_any b _ 281474976710656 W h (by decide) (by decide)
      rw [show (281474976710656 : Int).toNat = 281474976710656 from rfl, ← hq0] at this
      exact this
    have HN1 : Hid (∀ b W, RdAt W b q0.2 → Calls Tryz.prog 72 #[.pointer (some ⟨b, 0, none⟩), .int .u64 11] W fun e w' => e = .returned (.int .u64 (q1.1 : Nat)) ∧ RdAt w' b q1.2 ∧ But b W w') := fun b W h => by
      have := refnum_any b _ 11 W h (by decide) (by decide)
      rw [show (11 : Int).toNat = 11 from rfl, ← hq1] at this
      exact this
    have HN2 : Hid (∀ b W, RdAt W b q1.2 → Calls Tryz.prog 72 #[.pointer (some ⟨b, 0, none⟩), .int .u64 5376] W fun e w' => e = .returned (.int .u64 (q2.1 : Nat)) ∧ RdAt w' b q2.2 ∧ But b W w') := fun b W h => by
      have := refnum_any b _ 5376 W h (by decide) (by decide)
      rw [show (5376 : Int).toNat = 5376 from rfl, ← hq2] at this
      exact this
    have HN3 : Hid (∀ b W, RdAt W b q2.2 → Calls Tryz.prog 72 #[.pointer (some ⟨b, 0, none⟩), .int .u64 448] W fun e w' => e = .returned (.int .u64 (q3.1 : Nat)) ∧ RdAt w' b q3.2 ∧ But b W w') := fun b W h => by
      have := refnum_any b _ 448 W h (by decide) (by decide)
      rw [show (448 : Int).toNat = 448 from rfl, ← hq3] at this
      exact this
    have HRS := Lib.hid (fun b W h => refrest_any b q3.2 W h)
    obtain ⟨sm, hsm⟩ : ∃ sm, sm = (qRest q3.2).1 := ⟨_, rfl⟩
    rw [← hsm] at HLK HRS
    have HER : Hid ((qRest q3.2).2.e = q3.2.e) := qRest_e _
    obtain ⟨re, hre⟩ : ∃ re, re = q3.2.e := ⟨_, rfl⟩
    rw [← hre] at HLK HER
    generalize (qRest q3.2).2 = qz at *
    clear hq0 hq1 hq2 hq3 HD hsm hre
    generalize q0.1 = n0 at *
    generalize q1.1 = n1 at *
    generalize q2.1 = n2 at *
    generalize q3.1 = n3 at *
    generalize q0.2 = r0 at *
    generalize q1.2 = r1 at *
    generalize q2.2 = r2 at *
    generalize q3.2 = r3 at *
    go_enter Tryz.func38, Tryz.ntmps38
    go_wp2_with fail
    refine (HOP.out _).mono ?_
    rintro e u1 ⟨rfl, hk⟩
    have K1 : Hid (Kept w u1) := K0.out.trans hk
    have S1 := Lib.hid (S0.out.kept hk)
    clear hk K0 S0 HOP
    go_upto_region 8 with fail
    have R2 := HRN.out u1
    have HB : Hid (w.heap.size < u1.heap.size) := S1.out.lt
    have kb : Kept u1 (u1.alloc (.cells #[.string oy, .int .i64 0] 137)) := (Kept.refl _).alloc _
    have S2 := Lib.hid (S1.out.kept kb)
    have K2 : Hid (Kept w (u1.alloc (.cells #[.string oy, .int .i64 0] 137))) := K1.out.trans kb
    replace R2 := Lib.hid R2
    clear kb S1 K1 HRN
    generalize u1.alloc (.cells #[.string oy, .int .i64 0] 137) = u2 at *
    generalize u1.heap.size = b at *
    go_wp2_with fail
    refine (HN0.out b _ R2.out).mono ?_
    rintro e u3 ⟨rfl, hr, hbt⟩
    have R3 := Lib.hid hr
    have S3 := Lib.hid (S2.out.but hbt (by have := HB.out; omega))
    have K3 : Hid (Kept w u3) := But.kept K2.out (by have := HB.out; omega) hbt
    clear hr hbt R2 S2 K2 HN0
    go_upto_region 9 with fail
    have kb : Kept u3 (u3.alloc (.cells #[.int .u64 (n0 : Nat), .int .i64 0, .int .i64 0, .string ⟨#[]⟩] 34)) := (Kept.refl _).alloc _
    have X4 := Lib.hid (ShAt.laid u3 34 ⟨n0, 0, 0, ⟨#[]⟩⟩)
    have HC : Hid (b < u3.heap.size) := R3.out.lt
    have R4 := Lib.hid (R3.out.kept kb)
    have S4 := Lib.hid (S3.out.kept kb)
    have K4 : Hid (Kept w (u3.alloc (.cells #[.int .u64 (n0 : Nat), .int .i64 0, .int .i64 0, .string ⟨#[]⟩] 34))) := K3.out.trans kb
    have X4 : Hid (ShAt (u3.alloc (.cells #[.int .u64 (n0 : Nat), .int .i64 0, .int .i64 0, .string ⟨#[]⟩] 34)) u3.heap.size ⟨n0, 0, 0, ⟨#[]⟩⟩) := X4
    clear kb R3 S3 K3
    generalize u3.alloc (.cells #[.int .u64 (n0 : Nat), .int .i64 0, .int .i64 0, .string ⟨#[]⟩] 34) = u4 at *
    generalize u3.heap.size = c at *
    have hbc := HC.out
    have hwb := HB.out
    go_wp2_with fail
    refine (HN1.out b _ R4.out).mono ?_
    rintro e u5 ⟨rfl, hr, hbt⟩
    have R5 := Lib.hid hr
    have S5 := Lib.hid (S4.out.but hbt (by omega))
    have X5 := Lib.hid (X4.out.but hbt (by omega))
    have K5 : Hid (Kept w u5) := But.kept K4.out (by omega) hbt
    clear hr hbt R4 S4 X4 K4 HN1
    have x1 := X5.out.c1
    have y1 := X5.out.f1
    (try dsimp only at x1)
    go_upto_region 10 with fail
    have bs := But.ofSet u5 c 1 (.int .i64 (n1 : Nat))
    have R6 := Lib.hid (R5.out.but bs (by omega))
    have S6 := Lib.hid (S5.out.but bs (by omega))
    have X6 := Lib.hid (X5.out.setIx (n1 : Nat))
    have K6 : Hid (Kept w (u5.setCell ⟨c, 1, none⟩ (.int .i64 (n1 : Nat)))) := But.kept K5.out (by omega) bs
    clear bs R5 S5 X5 K5 x1 y1
    generalize u5.setCell ⟨c, 1, none⟩ (.int .i64 (n1 : Nat)) = u6 at *
    (try dsimp only at X6)
    go_wp2_with fail
    refine (HN2.out b _ R6.out).mono ?_
    rintro e u7 ⟨rfl, hr, hbt⟩
    have R7 := Lib.hid hr
    have S7 := Lib.hid (S6.out.but hbt (by omega))
    have X7 := Lib.hid (X6.out.but hbt (by omega))
    have K7 : Hid (Kept w u7) := But.kept K6.out (by omega) hbt
    clear hr hbt R6 S6 X6 K6 HN2
    have x1 := X7.out.c2
    have y1 := X7.out.f2
    (try dsimp only at x1)
    go_upto_region 11 with fail
    have bs := But.ofSet u7 c 2 (.int .i64 (n2 : Nat))
    have R8 := Lib.hid (R7.out.but bs (by omega))
    have S8 := Lib.hid (S7.out.but bs (by omega))
    have X8 := Lib.hid (X7.out.setTt (n2 : Nat))
    have K8 : Hid (Kept w (u7.setCell ⟨c, 2, none⟩ (.int .i64 (n2 : Nat)))) := But.kept K7.out (by omega) bs
    clear bs R7 S7 X7 K7 x1 y1
    generalize u7.setCell ⟨c, 2, none⟩ (.int .i64 (n2 : Nat)) = u8 at *
    (try dsimp only at X8)
    go_wp2_with fail
    refine (HN3.out b _ R8.out).mono ?_
    rintro e u9 ⟨rfl, hr, hbt⟩
    have R9 := Lib.hid hr
    have S9 := Lib.hid (S8.out.but hbt (by omega))
    have X9 := Lib.hid (X8.out.but hbt (by omega))
    have K9 : Hid (Kept w u9) := But.kept K8.out (by omega) hbt
    clear hr hbt R8 S8 X8 K8 HN3
    go_wp2_with fail
    refine (HRS.out b _ R9.out).mono ?_
    rintro e v1 ⟨rfl, hr, hbt⟩
    have V := Lib.hid hr
    have S := Lib.hid (S9.out.but hbt (by omega))
    have X := Lib.hid (X9.out.but hbt (by omega))
    have K : Hid (Kept w v1) := But.kept K9.out (by omega) hbt
    clear hr hbt R9 S9 X9 K9 HRS
    obtain ⟨sv, hsv⟩ : ∃ sv : ByteArray, (⟨sm.toArray⟩ : ByteArray) = sv := ⟨_, rfl⟩
    have hsz4 : sv.size = sm.length := by rw [← hsv]; exact List.size_toArray
    have HSV : Hid (ofL sm = sv) := hsv
    rw [hsv]
    clear hsv
    have e1 := V.out.err
    rw [HER.out] at e1
    have x0 := X.out.c0
    (try dsimp only at x0)
    go_upto_region 13 with fail
    by_cases hok : re = 0 ∧ sm.length = 4 ∧ n0 ≠ 0
    · rw [if_pos hok] at HLK
      obtain ⟨ok1, ok2, ok3⟩ := hok
      have d1 : ((re : Int) != 0) = false := by rw [ok1]; rfl
      have d2 : ((sv.size : Int) != 4) = false := by rw [hsz4, ok2]; rfl
      have d3 : ((n0 : Int) == 0) = false := by rw [beq_eq_false_iff_ne]; omega
      have d4 : (n0 == 0) = false := by rw [beq_eq_false_iff_ne]; exact ok3
      have hAZ := Lib.hid (allz_drop s (1 + k))
      clear ok1 ok2 ok3 hsz4
      go_wp2_with fail
      go_loopw [13] (fun i wr => ∃ j : Nat, 1 + k ≤ j ∧ j ≤ 64 ∧ i = .int .i64 j ∧ wr = v1 ∧ Hid (∀ (q : Nat) (h : q < s.size), 1 + k ≤ q → q < j → s[q] = 0)) (fun i _ => 64 - (intOf i).toNat)
      case atStart => exact ⟨1 + k, Nat.le_refl _, by omega, by congr 1, rfl, fun q h a b => absurd b (by omega)⟩
      case round =>
        obtain ⟨j, hj1, hj2, rfl, rfl, HA⟩ := hrel
        by_cases hlt : j < 64
        · have b1 : decide ((j : Int) < 64) = true := decide_eq_true (by omega)
          have hjs : j < s.size := by omega
          by_cases h0 : s[j] = 0
          · have b2 : ((s[j].toNat : Int) != 0) = false := by rw [h0]; rfl
            have HF : Hid (∀ (q : Nat) (h : q < s.size), 1 + k ≤ q → q < j + 1 → s[q] = 0) := fun q h a b => by
              by_cases e : q = j
              · subst e; exact h0
              · exact HA.out q h a (by omega)
            clear h0
            go_wp2_with fail
            exact ⟨⟨j + 1, by omega, by omega, by go_num, trivial, HF⟩, by simp [intOf]; omega⟩
          · have b2 : ((s[j].toNat : Int) != 0) = true := by
              rw [bne_iff_ne]
              intro c
              exact h0 (UInt8.toNat_inj.1 (by rw [show s[j].toNat = 0 by omega]; rfl))
            have HE : Hid (look s.data.toList = .none) := by
              show _ = _
              rw [HLK.out, if_pos]
              cases hz : allz (s.data.toList.drop (1 + k)) with
              | false => rfl
              | true => exact absurd (hAZ.out.1 hz j hjs hj1) h0
            clear h0
            have HP := Lib.hid (S.out.put Shd.none)
            have HKP := Lib.hid (putSh_kept K.out w.heap.size Shd.none (Nat.le_refl _))
            obtain ⟨p0, p1, p2, p3, f0, f1, f2, f3⟩ := S.out
            unfold putSh at HP HKP
            dsimp only [Shd.none] at HP HKP p0 p1 p2 p3
            go_wp2_with fail
            rw [HE.out]
            exact bodyPost_ret (v := hdV .none) (by have q0 := HP.out.c0; have q1 := HP.out.c1; have q2 := HP.out.c2; have q3 := HP.out.c3; (try simp at q0 q1 q2 q3); simp [results, Tryz.results38, go_sem, hdV, Shd.val, Shd.none, q0, q1, q2, q3]) rfl ⟨rfl, HKP.out⟩
        · obtain rfl : j = 64 := by omega
          have HE : Hid (look s.data.toList = some ⟨n0, n1, n2, n3, sm⟩) := by
            show _ = _
            rw [HLK.out, if_neg]
            rw [hAZ.out.2 (fun q h a => HA.out q h a (by omega))]
            decide
          have HP := Lib.hid (S.out.put ⟨n0, n1, n2, ⟨#[]⟩⟩)
          have HKP := Lib.hid (putSh_kept K.out w.heap.size ⟨n0, n1, n2, ⟨#[]⟩⟩ (Nat.le_refl _))
          obtain ⟨p0, p1, p2, p3, f0, f1, f2, f3⟩ := S.out
          unfold putSh at HP HKP
          dsimp only [Shd.none] at HP HKP p0 p1 p2 p3
          have x1 := X.out.c1
          have x2 := X.out.c2
          have x3 := X.out.c3
          (try dsimp only at x1 x2 x3)
          go_wp2_with fail
          rw [HE.out]
          exact bodyPost_ret (v := hdV (some ⟨n0, n1, n2, n3, sm⟩)) (by have q0 := HP.out.c0; have q1 := HP.out.c1; have q2 := HP.out.c2; have q3 := HP.out.c3; have hv := HSV.out; (try simp at q0 q1 q2 q3); simp [results, Tryz.results38, go_sem, hdV, Shd.val, q0, q1, q2, q3, hv]) rfl ⟨rfl, HKP.out⟩
    · rw [if_neg hok] at HLK
      have HE : Hid (look s.data.toList = .none) := by
        show _ = _
        rw [HLK.out]
        split <;> rfl
      have hc : ((re : Int) != 0) = true ∨ (((re : Int) != 0) = false ∧ ((sv.size : Int) != 4) = true) ∨ (((re : Int) != 0) = false ∧ ((sv.size : Int) != 4) = false ∧ n0 = 0) := by
        by_cases h1 : re = 0
        · right
          by_cases h2 : sm.length = 4
          · right
            exact ⟨by rw [h1]; rfl, by rw [hsz4, h2]; rfl, Classical.byContradiction fun h3 => hok ⟨h1, h2, h3⟩⟩
          · left
            exact ⟨by rw [h1]; rfl, by rw [hsz4, bne_iff_ne]; omega⟩
        · left; rw [bne_iff_ne]; omega
      clear hok HLK hsz4
      rcases hc with h1 | ⟨h1, h2⟩ | ⟨h1, h2, rfl⟩
      all_goals
        have HP := Lib.hid (S.out.put Shd.none)
        have HKP := Lib.hid (putSh_kept K.out w.heap.size Shd.none (Nat.le_refl _))
        obtain ⟨p0, p1, p2, p3, f0, f1, f2, f3⟩ := S.out
        unfold putSh at HP HKP
        dsimp only [Shd.none] at HP HKP p0 p1 p2 p3
        go_wp2_with fail
        rw [HE.out]
        exact bodyPost_ret (v := hdV .none) (by have q0 := HP.out.c0; have q1 := HP.out.c1; have q2 := HP.out.c2; have q3 := HP.out.c3; (try simp at q0 q1 q2 q3); simp [results, Tryz.results38, go_sem, hdV, Shd.val, Shd.none, q0, q1, q2, q3]) rfl ⟨rfl, HKP.out⟩
end Go.Proofs.YtdpkmonlkdegjaaGreatDoor

