/- What the document's rack answers: wipes, and all of a drive. -/
import Derived.Test.YtnfehfmmpjbgdaaDocOps2
import Derived.Shelf.Strings.Builder1
namespace Go.Proofs.Ytnfehfmmpjbgdaa
open Go.RowKit RSt
set_option linter.unusedVariables false
/-- The first k sectors of a drive are wiped. -/
def RSt.wipeTo (s : RSt) (d k : Nat) : RSt :=
  { s with T := fun d' i => if d' = d ∧ i < k then zero64 else s.T d' i, bad := fun d' i => if d' = d ∧ i < k then false else s.bad d' i }
theorem wipeTo_zero (s : RSt) (d : Nat) : s.wipeTo d 0 = s := by
  cases s
  unfold RSt.wipeTo
  simp
theorem wipeTo_next (s : RSt) (d k : Nat) : RSt.mk (s.wipeTo d k).n (s.wipeTo d k).m (up2 (s.wipeTo d k).T d k zero64) (up2 (s.wipeTo d k).bad d k false) (s.wipeTo d k).cnt (s.wipeTo d k).cut (s.wipeTo d k).left = s.wipeTo d (k + 1) := by
  unfold RSt.wipeTo
  congr 1
  · funext d' i
    show (if d' = d ∧ i = k then zero64 else if d' = d ∧ i < k then zero64 else s.T d' i) = if d' = d ∧ i < k + 1 then zero64 else s.T d' i
    by_cases e : d' = d
    · by_cases e2 : i = k
      · rw [if_pos ⟨e, e2⟩, if_pos ⟨e, by omega⟩]
      · by_cases e3 : i < k
        · rw [if_neg (fun c => e2 c.2), if_pos ⟨e, e3⟩, if_pos ⟨e, by omega⟩]
        · rw [if_neg (fun c => e2 c.2), if_neg (fun c => e3 c.2), if_neg (fun c => by have := c.2; omega)]
    · rw [if_neg (fun c => e c.1), if_neg (fun c => e c.1), if_neg (fun c => e c.1)]
  · funext d' i
    show (if d' = d ∧ i = k then false else if d' = d ∧ i < k then false else s.bad d' i) = if d' = d ∧ i < k + 1 then false else s.bad d' i
    by_cases e : d' = d
    · by_cases e2 : i = k
      · rw [if_pos ⟨e, e2⟩, if_pos ⟨e, by omega⟩]
      · by_cases e3 : i < k
        · rw [if_neg (fun c => e2 c.2), if_pos ⟨e, e3⟩, if_pos ⟨e, by omega⟩]
        · rw [if_neg (fun c => e2 c.2), if_neg (fun c => e3 c.2), if_neg (fun c => by have := c.2; omega)]
    · rw [if_neg (fun c => e c.1), if_neg (fun c => e c.1), if_neg (fun c => e c.1)]
/-- What is told of the sectors that are there is the same. -/
structure Alike (s s' : RSt) : Prop where
  n : s.n = s'.n
  m : s.m = s'.m
  cnt : s.cnt = s'.cnt
  cut : s.cut = s'.cut
  left : s.left = s'.left
  T : ∀ d i, d < s.n → i < s.m → s.T d i = s'.T d i
  bad : ∀ d i, d < s.n → i < s.m → s.bad d i = s'.bad d i
theorem DocAt.alike {L : DLay} {lo hi : Nat} {s s' : RSt} {w : World} (h : DocAt L lo hi s w) (a : Alike s s') : DocAt L lo hi s' w := by
  obtain ⟨n, m, T, bad, cnt, cut, left⟩ := s
  obtain ⟨n', m', T', bad', cnt', cut', left'⟩ := s'
  obtain ⟨h1, h2, h3, h4, h5, h6, h7⟩ := a
  simp only at h1 h2 h3 h4 h5 h6 h7
  subst h1 h2 h3 h4 h5
  exact ⟨⟨h.wf.n1, h.wf.n2, h.wf.m1, h.wf.m2, fun d i hd hi => by show (T' d i).length = 64; rw [← h6 d i hd hi]; exact h.wf.len d i hd hi, h.wf.cnt, h.wf.left⟩, h.ox, h.os, h.ob, h.oc,
    fun d hd => (h.ot d hd).congr fun i hi => by show Value.string ⟨(T' d i).toArray⟩ = .string ⟨(T d i).toArray⟩; rw [h6 d i hd hi],
    fun d hd => (h.od d hd).congr fun i hi => by show Value.bool (bad' d i) = .bool (bad d i); rw [h7 d i hd hi], h.it, h.ib, h.rx, h.rs, h.rb, h.rc, h.rt, h.rd⟩
theorem wipeTo_all (s : RSt) (d : Nat) : Alike (s.wipeTo d s.m) (s.wipe d) := by
  refine ⟨rfl, rfl, rfl, rfl, rfl, fun d' i hd hi => ?_, fun d' i hd hi => ?_⟩
  · show (if d' = d ∧ i < s.m then zero64 else s.T d' i) = if d' = d then zero64 else s.T d' i
    by_cases e : d' = d
    · rw [if_pos ⟨e, hi⟩, if_pos e]
    · rw [if_neg (fun c => e c.1), if_neg e]
  · show (if d' = d ∧ i < s.m then false else s.bad d' i) = if d' = d then false else s.bad d' i
    by_cases e : d' = d
    · rw [if_pos ⟨e, hi⟩, if_pos e]
    · rw [if_neg (fun c => e c.1), if_neg e]
set_option maxHeartbeats 2000000 in
set_option maxRecDepth 100000 in
theorem dWipe_any (L : DLay) (lo hi : Nat) (s : RSt) (d : Int) (w : World) (h : DocAt L lo hi s w) :
    Calls Try.prog 27 #[.pointer (some ⟨L.x, 0, none⟩), .int .i64 d] w fun r w' => r = .returned (.int .i64 (s.wipeE d : Nat)) ∧ DocAt L lo hi (s.wipeS d) w' ∧ Only lo hi w w' := by
  have HD := Lib.hid h
  have hth := drive_there h.wf d
  have hcall := there_any L lo hi s d 0 w h
  rw [hth] at hcall
  unfold RSt.wipeE RSt.wipeS
  cases hd : s.drive d
  · rw [hd] at hcall
    have HCALL := Lib.hid hcall
    rw [if_neg (by decide), if_neg (by decide)]
    clear hcall hth h
    go_enter Try.func27, Try.ntmps27
    go_wp2_with fail
    refine HCALL.out.mono ?_
    rintro e w1 ⟨rfl, rfl⟩
    clear HCALL
    go_wp2_with fail
    go_ret
    exact ⟨rfl, HD.out, Only.refl _ _ _⟩
  · rw [hd] at hcall
    have HCALL := Lib.hid hcall
    rw [if_pos rfl, if_pos rfl]
    obtain ⟨d', rfl, hd'⟩ := RSt.drive_iff hd
    rw [Int.toNat_natCast]
    have n2 := h.wf.n2
    have m2 := h.wf.m2
    obtain ⟨nz, hnz⟩ : ∃ nz, nz = none64 := ⟨_, rfl⟩
    have hnone := none_text
    rw [← hnz] at hnone
    have HNONE := Lib.hid hnone
    have HNZ := Lib.hid hnz
    clear hcall hth h hd hnone hnz
    go_enter Try.func27, Try.ntmps27
    go_wp2_with fail
    refine HCALL.out.mono ?_
    rintro e w1 ⟨rfl, rfl⟩
    clear HCALL
    obtain ⟨w0, hw0⟩ : ∃ w0, w0 = w1 := ⟨_, rfl⟩
    subst hw0
    go_wp2_with fail
    go_loopw [5] (fun i wr => ∃ k : Nat, k ≤ s.m ∧ i = .int .i64 k ∧ Hid (DocAt L lo hi (s.wipeTo d' k) wr) ∧ Hid (Only lo hi w0 wr)) (fun i _ => s.m - (intOf i).toNat)
    case atStart => exact ⟨0, Nat.zero_le _, rfl, by show DocAt _ _ _ _ _; rw [wipeTo_zero]; exact HD.out, Only.refl _ _ _⟩
    case round =>
      obtain ⟨k, hk, rfl, HDK, HO⟩ := hrel
      have c0 : wr.cell? ⟨L.x, 0, none⟩ = some (.slice (some ⟨L.sb, 0, none⟩) s.n L.cs) := HDK.out.ox.cell 0 (by decide)
      have c1 : wr.cell? ⟨L.sb, d', none⟩ = some (.slice (some ⟨L.T d', 0, none⟩) s.m (L.ct d')) := HDK.out.os.cell d' hd'
      by_cases hlt : k < s.m
      · have c2 := (HDK.out.ot d' hd').cell k hlt
        have f2 := (HDK.out.ot d' hd').free k
        have hltT := (HDK.out.ot d' hd').lt
        go_upto_region 6 with fail
        go_region_with (first | (go_at_call 24; refine (HNONE.out _).mono ?_; rintro e wn ⟨rfl, hkn⟩; have q0 := cell_kept c0 (((Kept.refl _).drewN _).trans hkn); have q1 := cell_kept c1 (((Kept.refl _).drewN _).trans hkn); have q2 := cell_kept c2 (((Kept.refl _).drewN _).trans hkn); have q3 : wn.frozen? ⟨L.T d', k, none⟩ = false := by (rw [Below.frozen (((Kept.refl wr).drewN _).trans hkn) (p := ⟨L.T d', k, none⟩) hltT]; exact f2)))
        all_goals
          have KW : Kept wr wn := ((Kept.refl _).drewN _).trans hkn
          have HA1 : Hid (DocAt L lo hi { s.wipeTo d' k with T := up2 (s.wipeTo d' k).T d' k zero64 } (wn.setCell ⟨L.T d', k, none⟩ (.string nz))) := (HDK.out.kept KW).setT d' k hd' hlt zero64 zero64_length _ (congrArg Value.string HNZ.out)
          have HO1 : Hid (Only lo hi w0 (wn.setCell ⟨L.T d', k, none⟩ (.string nz))) := (HO.out.trans (KW.only _ _)).setCell _ _ (HDK.out.rt d' hd').1 (HDK.out.rt d' hd').2
          generalize wn.setCell ⟨L.T d', k, none⟩ (.string nz) = A1 at *
          have e1 : A1.cell? ⟨L.x, 1, none⟩ = some (.slice (some ⟨L.bb, 0, none⟩) s.n L.cn) := HA1.out.ox.cell 1 (by decide)
          have e2 : A1.cell? ⟨L.bb, d', none⟩ = some (.slice (some ⟨L.B d', 0, none⟩) s.m s.m) := HA1.out.ob.cell d' hd'
          have e3 := (HA1.out.od d' hd').cell k hlt
          have e4 := (HA1.out.od d' hd').free k
          have HA2 := Lib.hid (HA1.out.setB d' k hd' false)
          have HA3 : Hid (DocAt L lo hi (s.wipeTo d' (k + 1)) (A1.setCell ⟨L.B d', k, none⟩ (.bool false))) := by
            show DocAt _ _ _ _ _
            rw [← wipeTo_next]
            exact HA2.out
          have HO2 : Hid (Only lo hi w0 (A1.setCell ⟨L.B d', k, none⟩ (.bool false))) := HO1.out.setCell _ _ (HA1.out.rd d' hd').1 (HA1.out.rd d' hd').2
          clear q0 q1 q2 q3 c0 c1 c2 f2 hltT KW hkn HA2
          go_wp2_with fail
          exact ⟨⟨k + 1, by omega, by go_num, HA3, HO2⟩, by simp [intOf]; omega⟩
      · obtain rfl : k = s.m := by omega
        go_wp2_with fail
        go_ret
        exact ⟨rfl, HDK.out.alike (wipeTo_all s d'), HO.out⟩
theorem shown_text (s : RSt) (d i : Nat) : (⟨(s.shown d i).toArray⟩ : ByteArray) = if s.bad d i then none64 else ⟨(s.T d i).toArray⟩ := by
  unfold RSt.shown none64
  cases s.bad d i <;> rfl
theorem strCells_of (l : List UInt8) : Lib.strCells ⟨l.toArray⟩ = Lib.byteCells l := by
  rw [Lib.strCells_eq]
theorem own_kept {B n : Nat} {e : TypeId} {v : Value} {xs : List Value} {w w' : World} (h : w.ownsRow B e 1 v n xs) (k : Kept w w') : w'.ownsRow B e 1 v n xs := by
  obtain ⟨h1, h2⟩ := h
  refine ⟨h1, ?_⟩
  rcases h2 with h2 | ⟨g, cap, cur, h2, h3, h4, h5⟩
  · exact .inl h2
  · exact .inr ⟨g, cap, cur, h2, h3, by rw [k.block g (Array.getElem?_eq_some_iff.1 h4).1]; exact h4, h5⟩
theorem own_text {B n : Nat} {v : Value} {l : List UInt8} {w : World} (h : w.ownsRow B 5 1 v n (Lib.byteCells l)) (hl : l.length = n) (hn : 1 ≤ n) :
    (convert 48 9 v).run Try.prog w = .ok (.string ⟨l.toArray⟩) w := by
  obtain ⟨h1, h2⟩ := h
  rcases h2 with ⟨_, h2⟩ | ⟨g, cap, cur, rfl, h3, h4, h5, h6, h7, h8⟩
  · omega
  · have hr := run_convert_bytes_back (P := Try.prog) w 48 9 5 ⟨g, 0, none⟩ cap l Try.underlying48 Try.underlying5 Try.underlying9 (fun j hj => by
      rw [add_at, cell_of_row _ _ j _ _ _ h4]
      have e : (cur.toList.take (n * 1))[j]? = (Lib.byteCells l)[j]? := by rw [h8]
      rw [List.getElem?_take_of_lt (by omega)] at e
      rw [← Array.getElem?_toList, e]
      unfold Lib.byteCells
      rw [List.getElem?_map, List.getElem?_eq_getElem hj]
      rfl)
    rw [hl] at hr
    exact hr
theorem info_byt : (Try.prog.info? 5).map (fun i => (i.zero, i.size, i.bytes)) = some (some (.int .u8 0), 1, 1) := by kernel_rfl
set_option maxHeartbeats 2000000 in
set_option maxRecDepth 100000 in
theorem dAll_any (L : DLay) (lo hi : Nat) (s : RSt) (d : Int) (w : World) (h : DocAt L lo hi s w) :
    Calls Try.prog 13 #[.pointer (some ⟨L.x, 0, none⟩), .int .i64 d] w fun r w' => r = .returned (.string (s.all d)) ∧ Kept w w' := by
  have HD := Lib.hid h
  have hth := drive_there h.wf d
  have hcall := there_any L lo hi s d 0 w h
  rw [hth] at hcall
  unfold RSt.all
  cases hd : s.drive d
  · rw [hd] at hcall
    have HCALL := Lib.hid hcall
    rw [if_neg (by decide)]
    clear hcall hth h
    go_enter Try.func13, Try.ntmps13
    go_wp2_with fail
    refine HCALL.out.mono ?_
    rintro e w1 ⟨rfl, rfl⟩
    clear HCALL
    go_wp2_with fail
    go_ret
    exact ⟨rfl, Kept.refl _⟩
  · rw [hd] at hcall
    have HCALL := Lib.hid hcall
    rw [if_pos rfl]
    obtain ⟨d', rfl, hd'⟩ := RSt.drive_iff hd
    rw [Int.toNat_natCast]
    have n2 := h.wf.n2
    have m2 := h.wf.m2
    have m1 := h.wf.m1
    obtain ⟨i0, hi0, hzz⟩ := Option.map_eq_some_iff.1 info_byt
    simp only [Prod.mk.injEq] at hzz
    obtain ⟨hz0, hz1, hz2⟩ := hzz
    clear hcall hth h hd
    go_enter Try.func13, Try.ntmps13
    go_wp2_with fail
    refine HCALL.out.mono ?_
    rintro e w1 ⟨rfl, rfl⟩
    clear HCALL
    obtain ⟨w0, hw0⟩ : ∃ w0, w0 = w1 := ⟨_, rfl⟩
    subst hw0
    go_wp2_with fail
    go_loopw [5, 6] (fun x i wr => ∃ k : Nat, k ≤ s.m ∧ i = .int .i64 k ∧ Hid (Kept w0 wr) ∧ Hid (wr.ownsRow w0.heap.size 5 1 x (k * 64) (Lib.byteCells (s.allTo d' k)))) (fun _ i _ => s.m - (intOf i).toNat)
    case atStart => exact ⟨0, Nat.zero_le _, rfl, Kept.refl _, World.ownsRow_nil _ _ _ _⟩
    case round =>
      obtain ⟨k, hk, rfl, HK, HO⟩ := hrel
      have HDK := HD.out.kept HK.out
      have c0 : wr.cell? ⟨L.x, 0, none⟩ = some (.slice (some ⟨L.sb, 0, none⟩) s.n L.cs) := HDK.ox.cell 0 (by decide)
      have c1 : wr.cell? ⟨L.sb, d', none⟩ = some (.slice (some ⟨L.T d', 0, none⟩) s.m (L.ct d')) := HDK.os.cell d' hd'
      by_cases hlt : k < s.m
      · have c2 : wr.cell? ⟨L.x, 1, none⟩ = some (.slice (some ⟨L.bb, 0, none⟩) s.n L.cn) := HDK.ox.cell 1 (by decide)
        have c3 : wr.cell? ⟨L.bb, d', none⟩ = some (.slice (some ⟨L.B d', 0, none⟩) s.m s.m) := HDK.ob.cell d' hd'
        have c4 := (HDK.od d' hd').cell k hlt
        have c5 := (HDK.ot d' hd').cell k hlt
        have HNXT : Hid (∀ (W : World) (X : Value), W.ownsRow w0.heap.size 5 1 X (k * 64 + (⟨(s.shown d' k).toArray⟩ : ByteArray).size) (Lib.byteCells (s.allTo d' k) ++ Lib.strCells ⟨(s.shown d' k).toArray⟩) → W.ownsRow w0.heap.size 5 1 X ((k + 1) * 64) (Lib.byteCells (s.allTo d' (k + 1)))) := fun W X h => by
          rw [strCells_of, ← Lib.byteCells_append, show (⟨(s.shown d' k).toArray⟩ : ByteArray).size = 64 from HDK.wf.shown hd' hlt, show k * 64 + 64 = (k + 1) * 64 by omega] at h
          exact h
        have HSZ : Hid ((⟨(s.shown d' k).toArray⟩ : ByteArray).size = 64) := HDK.wf.shown hd' hlt
        have hshown := shown_text s d' k
        clear HDK
        cases hb : s.bad d' k
        · rw [hb] at c4 hshown
          rw [if_neg (by decide)] at hshown
          rw [hshown] at HNXT HSZ
          generalize (⟨(s.T d' k).toArray⟩ : ByteArray) = Y at *
          clear hb hshown
          have hys : Y.size = 64 := HSZ.out
          go_wp2_with (first | (at_builtin; refine Lib.wpList_append_own_string _ rfl (.tmp 36) (.tmp 46) 48 9 rfl w0.heap.size 5 i0 Try.underlying48 Try.underlying9 hi0 hz0 hz1 hz2 _ _ _ rfl HO.out Y rfl (by unfold maxLen; omega) (by omega) HK.out.size ?_; intro v9 w9 hO9 hg9 _))
          have HK9 : Hid (Kept w0 w9) := Below.grown HK.out hg9 HK.out.size (fun q hq => (HO.out.lt q hq).1)
          have HO9 := Lib.hid (HNXT.out _ _ hO9)
          clear hO9 hg9
          go_wp2_with fail
          exact ⟨⟨k + 1, by omega, by go_num, HK9, HO9⟩, by simp [intOf]; omega⟩
        · rw [hb] at c4 hshown
          rw [if_pos rfl] at hshown
          rw [hshown] at HNXT HSZ
          obtain ⟨Y, hY⟩ : ∃ Y, Y = none64 := ⟨_, rfl⟩
          have hnone := none_text
          rw [← hY] at hnone HNXT HSZ
          have HNONE := Lib.hid hnone
          have hys : Y.size = 64 := HSZ.out
          clear hb hshown hnone hY
          go_wp2_with fail
          refine (HNONE.out _).mono ?_
          rintro e wn ⟨rfl, hkn⟩
          have HKN : Hid (Kept w0 wn) := HK.out.trans hkn
          have HON : Hid (wn.ownsRow w0.heap.size 5 1 u5 (k * 64) (Lib.byteCells (s.allTo d' k))) := own_kept HO.out hkn
          clear hkn
          go_wp2_with (first | (at_builtin; refine Lib.wpList_append_own_string _ rfl (.tmp 33) (.tmp 34) 48 9 rfl w0.heap.size 5 i0 Try.underlying48 Try.underlying9 hi0 hz0 hz1 hz2 _ _ _ rfl HON.out Y rfl (by unfold maxLen; omega) (by omega) HKN.out.size ?_; intro v9 w9 hO9 hg9 _))
          have HK9 : Hid (Kept w0 w9) := Below.grown HKN.out hg9 HKN.out.size (fun q hq => (HON.out.lt q hq).1)
          have HO9 := Lib.hid (HNXT.out _ _ hO9)
          clear hO9 hg9
          go_wp2_with fail
          exact ⟨⟨k + 1, by omega, by go_num, HK9, HO9⟩, by simp [intOf]; omega⟩
      · obtain rfl : k = s.m := by omega
        have hcv := own_text HO.out (allTo_length HDK.wf d' hd' s.m (Nat.le_refl _)) (by omega)
        clear HDK
        go_wp2_with fail
        go_ret
        exact ⟨rfl, HK.out⟩
end Go.Proofs.Ytnfehfmmpjbgdaa
