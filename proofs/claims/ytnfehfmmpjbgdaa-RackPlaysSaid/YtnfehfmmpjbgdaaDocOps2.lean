/- What the document's rack answers: writes. -/
import Derived.Test.YtnfehfmmpjbgdaaDocOps
import Derived.Deep.RegionWith
namespace Go.Proofs.Ytnfehfmmpjbgdaa
open Go.RowKit RSt
set_option linter.unusedVariables false
theorem pad_text (t : ByteArray) (h : t.size ≤ 64) : t ++ none64.extract t.size 64 = ⟨(padL t).toArray⟩ := by
  apply ByteArray.ext
  rw [ByteArray.data_append, ByteArray.data_extract]
  apply Array.ext'
  have hd : (List.replicate 64 (0 : UInt8)).drop t.size = List.replicate (64 - t.size) 0 := List.drop_replicate
  unfold padL none64 zero64
  rw [Array.toList_append, Array.toList_extract]
  show _ ++ (List.replicate 64 0).extract t.size 64 = _
  rw [List.extract_eq_take_drop, hd, List.take_of_length_le (by rw [List.length_replicate]; exact Nat.le_refl _)]
theorem leftV_pos (s : RSt) (h : s.down = false) : decide (0 < leftV s) = s.cut := by
  unfold leftV RSt.down at *
  cases hc : s.cut
  · rfl
  · rw [hc] at h
    have : s.left ≠ 0 := by simpa using h
    exact decide_eq_true (by show 0 < (s.left : Int); omega)
set_option maxHeartbeats 2000000 in
set_option maxRecDepth 100000 in
theorem dWrite_any (L : DLay) (lo hi : Nat) (s : RSt) (d i : Int) (t : ByteArray) (ht : t.size ≤ 9223372036854775807) (w : World) (h : DocAt L lo hi s w) :
    Calls Try.prog 25 #[.pointer (some ⟨L.x, 0, none⟩), .int .i64 d, .int .i64 i, .string t] w fun r w' => r = .returned (.int .i64 (s.writeE d i t : Nat)) ∧ DocAt L lo hi (s.writeS d i t) w' ∧ Only lo hi w w' := by
  have hcall := there_any L lo hi s d i w h
  have cl : w.cell? ⟨L.x, 3, none⟩ = some (.int .i64 (leftV s)) := h.ox.cell 3 (by decide)
  have hlz := leftV_zero s
  have HCALL := Lib.hid hcall
  have HD := Lib.hid h
  clear hcall
  rcases s.writeS_cases d i t with ⟨hne, hS⟩ | ⟨hE, hth, hsz, hdn, hS⟩
  · rw [hS]
    cases hth : s.there d i
    · have he : s.writeE d i t = 70 := by unfold RSt.writeE; rw [hth]; rfl
      rw [he]
      have HC2 := HCALL
      rw [hth] at HC2
      clear h HCALL he hne hS hth
      go_enter Try.func25, Try.ntmps25
      go_wp2_with fail
      refine HC2.out.mono ?_
      rintro e w1 ⟨rfl, rfl⟩
      clear HC2
      go_wp2_with fail
      go_ret
      exact ⟨rfl, HD.out, Only.refl _ _ _⟩
    · have HC2 := HCALL
      rw [hth] at HC2
      by_cases hsz : 64 < t.size
      · have he : s.writeE d i t = 4 := by unfold RSt.writeE; rw [hth, if_neg (by decide), if_pos hsz]
        rw [he]
        have hb : decide ((64 : Int) < (t.size : Nat)) = true := decide_eq_true (by omega)
        clear h HCALL he hne hS hth
        go_enter Try.func25, Try.ntmps25
        go_wp2_with fail
        refine HC2.out.mono ?_
        rintro e w1 ⟨rfl, rfl⟩
        clear HC2
        go_wp2_with fail
        go_ret
        exact ⟨rfl, HD.out, Only.refl _ _ _⟩
      · have hdn : s.down = true := by
          cases hd : s.down
          · exact absurd (by unfold RSt.writeE; rw [hth, hd, if_neg (by decide), if_neg hsz]; rfl) hne
          · rfl
        have he : s.writeE d i t = 71 := by unfold RSt.writeE; rw [hth, hdn, if_neg (by decide), if_neg hsz]; rfl
        rw [he]
        rw [hdn] at hlz
        have hb : decide ((64 : Int) < (t.size : Nat)) = false := decide_eq_false (by omega)
        clear h HCALL he hne hS hth hdn
        go_enter Try.func25, Try.ntmps25
        go_wp2_with fail
        refine HC2.out.mono ?_
        rintro e w1 ⟨rfl, rfl⟩
        clear HC2
        go_wp2_with fail
        go_ret
        exact ⟨rfl, HD.out, Only.refl _ _ _⟩
  · rw [hE, hS]
    have HC2 := HCALL
    rw [hth] at HC2
    rw [hdn] at hlz
    have hb : decide ((64 : Int) < (t.size : Nat)) = false := decide_eq_false (by omega)
    obtain ⟨d', i', rfl, rfl, hd', him⟩ := RSt.there_iff hth
    rw [Int.toNat_natCast, Int.toNat_natCast]
    have hpos := leftV_pos s hdn
    have n2 := h.wf.n2
    have m2 := h.wf.m2
    have HPT := Lib.hid (pad_text t hsz)
    have hp64 := padL_length t hsz
    have HNZ : Hid (none64.size = 64) := by show _ = _; kernel_rfl
    obtain ⟨nz, hnz⟩ : ∃ nz, nz = none64 := ⟨_, rfl⟩
    have hnone := none_text
    rw [← hnz] at hnone HPT HNZ
    have hnzs : nz.size = 64 := HNZ.out
    have HNONE := Lib.hid hnone
    have hsl : ∀ W, (Instr.slice 9 (.string nz) (some (.int .i64 (t.size : Nat))) none none).run Try.prog W = .ok (.string (nz.extract t.size 64)) W := fun W => by
      have h := run_slice_string_l (P := Try.prog) W 9 nz Try.underlying9 .i64 (t.size : Int) (by omega) (by omega)
      rw [Int.toNat_natCast, hnzs] at h
      exact h
    have hw := wrap_inc (s.cnt d')
    clear hth hE hS HCALL hnone hnz
    cases hcut : s.cut
    · rw [hcut] at hpos
      have HWR := Lib.hid (s.wr_free d' i' (padL t) hcut)
      go_enter Try.func25, Try.ntmps25
      go_wp2_with fail
      refine HC2.out.mono ?_
      rintro e W0 ⟨rfl, rfl⟩
      clear HC2 h
      have c0 : W0.cell? ⟨L.x, 0, none⟩ = some (.slice (some ⟨L.sb, 0, none⟩) s.n L.cs) := HD.out.ox.cell 0 (by decide)
      have c1 : W0.cell? ⟨L.sb, d', none⟩ = some (.slice (some ⟨L.T d', 0, none⟩) s.m (L.ct d')) := HD.out.os.cell d' hd'
      have c2 := (HD.out.ot d' hd').cell i' him
      have f2 := (HD.out.ot d' hd').free i'
      have hltT := (HD.out.ot d' hd').lt
      go_wp2_with fail
      go_region_with (first | (go_at_call 24; refine (HNONE.out _).mono ?_; rintro e wn ⟨rfl, hkn⟩; have q0 := cell_kept c0 (((Kept.refl _).drewN _).trans hkn); have q1 := cell_kept c1 (((Kept.refl _).drewN _).trans hkn); have q2 := cell_kept c2 (((Kept.refl _).drewN _).trans hkn); have q3 : wn.frozen? ⟨L.T d', i', none⟩ = false := by (rw [Below.frozen (((Kept.refl W0).drewN _).trans hkn) (p := ⟨L.T d', i', none⟩) hltT]; exact f2)))
      all_goals
        have KW : Kept W0 wn := ((Kept.refl _).drewN _).trans hkn
        have HA1 : Hid (DocAt L lo hi { s with T := up2 s.T d' i' (padL t) } (wn.setCell ⟨L.T d', i', none⟩ (.string (t ++ nz.extract t.size 64)))) := (HD.out.kept KW).setT d' i' hd' him (padL t) hp64 _ (congrArg Value.string HPT.out)
        have HO1 : Hid (Only lo hi W0 (wn.setCell ⟨L.T d', i', none⟩ (.string (t ++ nz.extract t.size 64)))) := ((Only.refl lo hi W0).trans (KW.only _ _)).setCell _ _ (HD.out.rt d' hd').1 (HD.out.rt d' hd').2
        generalize wn.setCell ⟨L.T d', i', none⟩ (.string (t ++ nz.extract t.size 64)) = A1 at *
        have e1 : A1.cell? ⟨L.x, 1, none⟩ = some (.slice (some ⟨L.bb, 0, none⟩) s.n L.cn) := HA1.out.ox.cell 1 (by decide)
        have e2 : A1.cell? ⟨L.bb, d', none⟩ = some (.slice (some ⟨L.B d', 0, none⟩) s.m s.m) := HA1.out.ob.cell d' hd'
        have e3 := (HA1.out.od d' hd').cell i' him
        have e4 := (HA1.out.od d' hd').free i'
        have HA2 := Lib.hid (HA1.out.setB d' i' hd' false)
        have HO2 : Hid (Only lo hi W0 (A1.setCell ⟨L.B d', i', none⟩ (.bool false))) := HO1.out.setCell _ _ (HA1.out.rd d' hd').1 (HA1.out.rd d' hd').2
        clear q0 q1 q2 q3 c0 c1 c2 f2 hltT KW hkn
        go_upto_region 11 with fail
        generalize A1.setCell ⟨L.B d', i', none⟩ (.bool false) = A2 at *
        have g1 : A2.cell? ⟨L.x, 2, none⟩ = some (.slice (some ⟨L.cb, 0, none⟩) s.n s.n) := HA2.out.ox.cell 2 (by decide)
        have g2 : A2.cell? ⟨L.cb, d', none⟩ = some (.int .u64 (s.cnt d' : Nat)) := HA2.out.oc.cell d' hd'
        have g3 := HA2.out.oc.free d'
        have HA3 := Lib.hid (HA2.out.inc d' hd' _ rfl)
        have HO3 : Hid (∀ v, Only lo hi W0 (A2.setCell ⟨L.cb, d', none⟩ v)) := fun v => HO2.out.setCell _ _ HA2.out.rc.1 HA2.out.rc.2
        clear e1 e2 e3 e4
        go_wp2_with fail
        go_ret
        rw [HWR.out]
        exact ⟨rfl, HA3.out, HO3.out _⟩
    · rw [hcut] at hpos
      have hwr := s.wr_cut d' i' (padL t) hcut
      rw [show ((s.put d' i' (padL t) false).inc d').cut = true from hcut] at hwr
      have HWR := Lib.hid hwr
      clear hwr
      have hl1 : 1 ≤ s.left := by
        unfold RSt.down at hdn
        rw [hcut] at hdn
        simp at hdn
        omega
      have hl2 := h.wf.left
      have hlv : leftV s = (s.left : Int) := by unfold leftV; rw [hcut]; rfl
      have fl : w.frozen? ⟨L.x, 3, none⟩ = false := h.ox.free 3
      have HDL : Hid (DocAt L lo hi (s.lim true (s.left - 1)) (w.setCell ⟨L.x, 3, none⟩ (.int .i64 ((s.left : Int) - 1)))) := h.setL true (s.left - 1) (by omega) _ (by rw [if_pos rfl]; omega)
      have HOL : Hid (Only lo hi w (w.setCell ⟨L.x, 3, none⟩ (.int .i64 ((s.left : Int) - 1)))) := (Only.refl _ _ _).setCell _ _ h.rx.1 h.rx.2
      rw [hlv] at cl hlz hpos
      clear hlv hdn
      go_enter Try.func25, Try.ntmps25
      go_wp2_with fail
      refine HC2.out.mono ?_
      rintro e W0 ⟨rfl, rfl⟩
      clear HC2 h
      go_upto_region 9 with fail
      generalize W0.setCell ⟨L.x, 3, none⟩ (.int .i64 ((s.left : Int) - 1)) = W1 at *
      clear cl fl
      have c0 : W1.cell? ⟨L.x, 0, none⟩ = some (.slice (some ⟨L.sb, 0, none⟩) s.n L.cs) := HDL.out.ox.cell 0 (by decide)
      have c1 : W1.cell? ⟨L.sb, d', none⟩ = some (.slice (some ⟨L.T d', 0, none⟩) s.m (L.ct d')) := HDL.out.os.cell d' hd'
      have c2 := (HDL.out.ot d' hd').cell i' him
      have f2 := (HDL.out.ot d' hd').free i'
      have hltT := (HDL.out.ot d' hd').lt
      go_wp2_with fail
      go_region_with (first | (go_at_call 24; refine (HNONE.out _).mono ?_; rintro e wn ⟨rfl, hkn⟩; have q0 := cell_kept c0 (((Kept.refl _).drewN _).trans hkn); have q1 := cell_kept c1 (((Kept.refl _).drewN _).trans hkn); have q2 := cell_kept c2 (((Kept.refl _).drewN _).trans hkn); have q3 : wn.frozen? ⟨L.T d', i', none⟩ = false := by (rw [Below.frozen (((Kept.refl W1).drewN _).trans hkn) (p := ⟨L.T d', i', none⟩) hltT]; exact f2)))
      all_goals
        have KW : Kept W1 wn := ((Kept.refl _).drewN _).trans hkn
        have HA1 : Hid (DocAt L lo hi { s.lim true (s.left - 1) with T := up2 s.T d' i' (padL t) } (wn.setCell ⟨L.T d', i', none⟩ (.string (t ++ nz.extract t.size 64)))) := (HDL.out.kept KW).setT d' i' hd' him (padL t) hp64 _ (congrArg Value.string HPT.out)
        have HO1 : Hid (Only lo hi W0 (wn.setCell ⟨L.T d', i', none⟩ (.string (t ++ nz.extract t.size 64)))) := (HOL.out.trans (KW.only _ _)).setCell _ _ (HDL.out.rt d' hd').1 (HDL.out.rt d' hd').2
        generalize wn.setCell ⟨L.T d', i', none⟩ (.string (t ++ nz.extract t.size 64)) = A1 at *
        have e1 : A1.cell? ⟨L.x, 1, none⟩ = some (.slice (some ⟨L.bb, 0, none⟩) s.n L.cn) := HA1.out.ox.cell 1 (by decide)
        have e2 : A1.cell? ⟨L.bb, d', none⟩ = some (.slice (some ⟨L.B d', 0, none⟩) s.m s.m) := HA1.out.ob.cell d' hd'
        have e3 := (HA1.out.od d' hd').cell i' him
        have e4 := (HA1.out.od d' hd').free i'
        have HA2 := Lib.hid (HA1.out.setB d' i' hd' false)
        have HO2 : Hid (Only lo hi W0 (A1.setCell ⟨L.B d', i', none⟩ (.bool false))) := HO1.out.setCell _ _ (HA1.out.rd d' hd').1 (HA1.out.rd d' hd').2
        clear q0 q1 q2 q3 c0 c1 c2 f2 hltT KW hkn
        go_upto_region 11 with fail
        generalize A1.setCell ⟨L.B d', i', none⟩ (.bool false) = A2 at *
        have g1 : A2.cell? ⟨L.x, 2, none⟩ = some (.slice (some ⟨L.cb, 0, none⟩) s.n s.n) := HA2.out.ox.cell 2 (by decide)
        have g2 : A2.cell? ⟨L.cb, d', none⟩ = some (.int .u64 (s.cnt d' : Nat)) := HA2.out.oc.cell d' hd'
        have g3 := HA2.out.oc.free d'
        have HA3 := Lib.hid (HA2.out.inc d' hd' _ rfl)
        have HO3 : Hid (∀ v, Only lo hi W0 (A2.setCell ⟨L.cb, d', none⟩ v)) := fun v => HO2.out.setCell _ _ HA2.out.rc.1 HA2.out.rc.2
        clear e1 e2 e3 e4
        go_wp2_with fail
        go_ret
        rw [HWR.out]
        exact ⟨rfl, HA3.out, HO3.out _⟩
end Go.Proofs.Ytnfehfmmpjbgdaa
