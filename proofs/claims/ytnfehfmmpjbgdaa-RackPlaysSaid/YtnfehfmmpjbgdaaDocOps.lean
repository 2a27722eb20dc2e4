/- What the document's rack answers. -/
import Derived.Test.YtnfehfmmpjbgdaaDocSt
import Derived.BigQuiet
import Derived.Deep.RegionHeld3
namespace Go.Proofs.Ytnfehfmmpjbgdaa
open Go.RowKit RSt
set_option linter.unusedVariables false
theorem info_u8d : (Try.prog.info? 5).map (fun i => (i.zero, i.size, i.bytes)) = some (some (.int .u8 0), 1, 1) := by kernel_rfl
def none64 : ByteArray := ⟨zero64.toArray⟩
theorem mk64 : ∃ M, (∀ W, (Instr.makeSlice 48 (.int .i64 64) (.int .i64 64)).run Try.prog W = .ok (.slice (some ⟨W.heap.size, 0, none⟩) 64 64) (W.alloc (.cells M 5))) ∧
    ∀ W : World, (convert 48 9 (.slice (some ⟨W.heap.size, 0, none⟩) 64 64)).run Try.prog (W.alloc (.cells M 5)) = .ok (.string none64) (W.alloc (.cells M 5)) := by
  obtain ⟨i0, hi, hzz⟩ := Option.map_eq_some_iff.1 info_u8d
  simp only [Prod.mk.injEq] at hzz
  refine ⟨madeCells #[.int .u8 0] 64, fun W => ?_, fun W => ?_⟩
  · have h := run_make (P := Try.prog) W 48 5 i0 _ Try.underlying48 hi hzz.1 .i64 .i64 64 64 (by decide) (by decide) (by rw [hzz.2.2]; decide) (by decide)
    rw [hzz.2.1] at h
    exact h
  · have hr := run_convert_bytes_back (P := Try.prog) (W.alloc (.cells (madeCells #[.int .u8 0] 64) 5)) 48 9 5 ⟨W.heap.size, 0, none⟩ 64 (List.replicate 64 (0 : UInt8)) Try.underlying48 Try.underlying5 Try.underlying9 (fun j hj => by
      rw [add_at, World.cell?_alloc_mark]
      have hj' : j < 64 := by rw [List.length_replicate] at hj; exact hj
      have h := made_get #[.int .u8 0] 64 j 0 hj' (by decide)
      rw [show (#[Value.int .u8 0] : Array Value).size = 1 from rfl, Nat.mul_one, Nat.mul_one] at h
      rw [show j + 0 = j from rfl] at h
      rw [h, List.getElem_replicate]
      rfl)
    rw [List.length_replicate] at hr
    exact hr
set_option maxRecDepth 100000 in
theorem none_text (w : World) : Calls Try.prog 24 #[] w fun r w' => r = .returned (.string none64) ∧ Kept w w' := by
  obtain ⟨M, hM, hMC⟩ := mk64
  obtain ⟨Z, hZ⟩ : ∃ Z, Z = none64 := ⟨_, rfl⟩
  rw [← hZ] at hMC
  rw [← hZ]
  clear hZ
  go_enter Try.func24, Try.ntmps24
  go_wp2_with fail
  go_ret
  exact ⟨rfl, (Kept.refl _).alloc _⟩
set_option maxHeartbeats 1000000 in
set_option maxRecDepth 100000 in
theorem there_any (L : DLay) (lo hi : Nat) (s : RSt) (d i : Int) (w : World) (h : DocAt L lo hi s w) :
    Calls Try.prog 34 #[.pointer (some ⟨L.x, 0, none⟩), .int .i64 d, .int .i64 i] w fun r w' => r = .returned (.bool (s.there d i)) ∧ w' = w := by
  have c0 : w.cell? ⟨L.x, 0, none⟩ = some (.slice (some ⟨L.sb, 0, none⟩) s.n L.cs) := h.ox.cell 0 (by decide)
  have c1 := h.os.cell 0 (by have := h.wf.n1; omega)
  have n1 := h.wf.n1
  have n2 := h.wf.n2
  have m2 := h.wf.m2
  clear h
  by_cases a1 : 0 ≤ d
  · have b1 : decide (0 ≤ d) = true := decide_eq_true a1
    by_cases a2 : d < s.n
    · have b2 : decide (d < s.n) = true := decide_eq_true a2
      by_cases a3 : 0 ≤ i
      · have b3 : decide (0 ≤ i) = true := decide_eq_true a3
        by_cases a4 : i < s.m
        · have b4 : decide (i < s.m) = true := decide_eq_true a4
          rw [show s.there d i = true from decide_eq_true ⟨a1, a2, a3, a4⟩]
          clear a1 a2 a3 a4
          go_enter Try.func34, Try.ntmps34
          go_wp2_with fail
          go_ret
          exact ⟨rfl, rfl⟩
        · have b4 : decide (i < s.m) = false := decide_eq_false a4
          rw [show s.there d i = false from decide_eq_false (fun c => a4 c.2.2.2)]
          clear a1 a2 a3 a4
          go_enter Try.func34, Try.ntmps34
          go_wp2_with fail
          go_ret
          exact ⟨rfl, rfl⟩
      · have b3 : decide (0 ≤ i) = false := decide_eq_false a3
        rw [show s.there d i = false from decide_eq_false (fun c => a3 c.2.2.1)]
        clear a1 a2 a3
        go_enter Try.func34, Try.ntmps34
        go_wp2_with fail
        go_ret
        exact ⟨rfl, rfl⟩
    · have b2 : decide (d < s.n) = false := decide_eq_false a2
      rw [show s.there d i = false from decide_eq_false (fun c => a2 c.2.1)]
      clear a1 a2
      go_enter Try.func34, Try.ntmps34
      go_wp2_with fail
      go_ret
      exact ⟨rfl, rfl⟩
  · have b1 : decide (0 ≤ d) = false := decide_eq_false a1
    rw [show s.there d i = false from decide_eq_false (fun c => a1 c.1)]
    clear a1
    go_enter Try.func34, Try.ntmps34
    go_wp2_with fail
    go_ret
    exact ⟨rfl, rfl⟩
theorem drive_there {s : RSt} (h : s.Wf) (d : Int) : s.there d 0 = s.drive d := by
  have := h.m1
  unfold RSt.there RSt.drive
  by_cases e : 0 ≤ d ∧ d < s.n
  · rw [decide_eq_true e, decide_eq_true ⟨e.1, e.2, by omega, by omega⟩]
  · rw [decide_eq_false e, decide_eq_false (fun c => e ⟨c.1, c.2.1⟩)]
theorem leftV_zero (s : RSt) : (leftV s == 0) = s.down := by
  unfold leftV RSt.down
  cases s.cut
  · rfl
  · by_cases e : s.left = 0
    · rw [e]; rfl
    · have h1 : ((s.left : Int) == 0) = false := by simp [e]
      have h2 : (s.left == 0) = false := by simp [e]
      show ((s.left : Int) == 0) = (true && (s.left == 0))
      rw [h1, h2]; rfl
set_option maxRecDepth 100000 in
theorem dWrites_any (L : DLay) (lo hi : Nat) (s : RSt) (d : Int) (w : World) (h : DocAt L lo hi s w) :
    Calls Try.prog 15 #[.pointer (some ⟨L.x, 0, none⟩), .int .i64 d] w fun r w' => r = .returned (.int .u64 (s.writes d : Nat)) ∧ w' = w := by
  have HD := Lib.hid h
  have hth := drive_there h.wf d
  have hcall := there_any L lo hi s d 0 w h
  rw [hth] at hcall
  unfold RSt.writes
  cases hd : s.drive d
  · rw [hd] at hcall
    have HCALL := Lib.hid hcall
    rw [if_neg (by decide)]
    clear hcall hth h
    go_enter Try.func15, Try.ntmps15
    go_wp2_with fail
    refine HCALL.out.mono ?_
    rintro e w1 ⟨rfl, rfl⟩
    clear HCALL
    go_wp2_with fail
    go_ret
    exact ⟨rfl, rfl⟩
  · rw [hd] at hcall
    have HCALL := Lib.hid hcall
    rw [if_pos rfl]
    obtain ⟨d', rfl, hdn⟩ := RSt.drive_iff hd
    rw [Int.toNat_natCast]
    have c2 : w.cell? ⟨L.x, 2, none⟩ = some (.slice (some ⟨L.cb, 0, none⟩) s.n s.n) := h.ox.cell 2 (by decide)
    have c3 := h.oc.cell d' hdn
    have n2 := h.wf.n2
    clear hcall hth h hd
    go_enter Try.func15, Try.ntmps15
    go_wp2_with fail
    refine HCALL.out.mono ?_
    rintro e w1 ⟨rfl, rfl⟩
    clear HCALL
    go_wp2_with fail
    go_ret
    exact ⟨rfl, rfl⟩
set_option maxRecDepth 100000 in
theorem dSpoil_any (L : DLay) (lo hi : Nat) (s : RSt) (d i : Int) (w : World) (h : DocAt L lo hi s w) :
    Calls Try.prog 28 #[.pointer (some ⟨L.x, 0, none⟩), .int .i64 d, .int .i64 i] w fun r w' => r = .returned (.int .i64 (s.spoilE d i : Nat)) ∧ DocAt L lo hi (s.spoilS d i) w' ∧ Only lo hi w w' := by
  have HD := Lib.hid h
  have hcall := there_any L lo hi s d i w h
  unfold RSt.spoilE RSt.spoilS
  cases hd : s.there d i
  · rw [hd] at hcall
    have HCALL := Lib.hid hcall
    rw [if_neg (by decide), if_neg (by decide)]
    clear hcall h
    go_enter Try.func28, Try.ntmps28
    go_wp2_with fail
    refine HCALL.out.mono ?_
    rintro e w1 ⟨rfl, rfl⟩
    clear HCALL
    go_wp2_with fail
    go_ret
    exact ⟨rfl, HD.out, Only.refl _ _ _⟩
  · rw [hd] at hcall
    have HCALL := Lib.hid hcall
    rw [if_pos rfl, if_pos rfl]
    obtain ⟨d', i', rfl, rfl, hdn, him⟩ := RSt.there_iff hd
    rw [Int.toNat_natCast, Int.toNat_natCast]
    have c1 : w.cell? ⟨L.x, 1, none⟩ = some (.slice (some ⟨L.bb, 0, none⟩) s.n L.cn) := h.ox.cell 1 (by decide)
    have c3 := h.ob.cell d' hdn
    have c4 := (h.od d' hdn).cell i' him
    have f4 := (h.od d' hdn).free i'
    have n2 := h.wf.n2
    have m2 := h.wf.m2
    have HS := Lib.hid (h.setB d' i' hdn true)
    have HO : Hid (Only lo hi w (w.setCell ⟨L.B d', i', none⟩ (.bool true))) := (Only.refl _ _ _).setCell _ _ (h.rd d' hdn).1 (h.rd d' hdn).2
    have HE : Hid (∀ W, DocAt L lo hi { s with bad := up2 s.bad d' i' true } W → DocAt L lo hi (s.spoil d' i') W) := fun W hW => by
      have e : s.spoil d' i' = { s with bad := up2 s.bad d' i' true } := by
        unfold RSt.spoil RSt.put
        congr 1
        funext a b
        show up2 s.T d' i' (s.T d' i') a b = _
        unfold up2
        split
        · rename_i c; rw [c.1, c.2]
        · rfl
      rw [e]; exact hW
    clear hcall h hd
    go_enter Try.func28, Try.ntmps28
    go_wp2_with fail
    refine HCALL.out.mono ?_
    rintro e w1 ⟨rfl, rfl⟩
    clear HCALL
    go_wp2_with fail
    go_ret
    exact ⟨rfl, HE.out _ HS.out, HO.out⟩
set_option maxHeartbeats 1000000 in
set_option maxRecDepth 100000 in
theorem dRead_any (L : DLay) (lo hi : Nat) (s : RSt) (d i : Int) (w : World) (h : DocAt L lo hi s w) :
    Calls Try.prog 26 #[.pointer (some ⟨L.x, 0, none⟩), .int .i64 d, .int .i64 i] w fun r w' => r = .returned (.tuple #[.string (s.readT d i), .int .i64 (s.readE d i : Nat)]) ∧ w' = w := by
  have hcall := there_any L lo hi s d i w h
  have cl : w.cell? ⟨L.x, 3, none⟩ = some (.int .i64 (leftV s)) := h.ox.cell 3 (by decide)
  have hlz := leftV_zero s
  have HCALL := Lib.hid hcall
  clear hcall
  cases hdn : s.down
  · rw [hdn] at hlz
    cases hd : s.there d i
    · have he : s.readE d i = 70 := by unfold RSt.readE; rw [hdn, hd]; rfl
      have ht : s.readT d i = ByteArray.empty := by unfold RSt.readT; rw [he]; rfl
      rw [he, ht]
      have HC2 := HCALL
      rw [hd] at HC2
      clear h HCALL he ht
      go_enter Try.func26, Try.ntmps26
      go_wp2_with fail
      refine HC2.out.mono ?_
      rintro e w1 ⟨rfl, rfl⟩
      clear HC2
      go_wp2_with fail
      go_ret2
      exact ⟨rfl, rfl⟩
    · obtain ⟨d', i', rfl, rfl, hdn', him⟩ := RSt.there_iff hd
      have hE : s.readE d' i' = if s.bad d' i' then 72 else 0 := by unfold RSt.readE; rw [hdn, hd, Int.toNat_natCast, Int.toNat_natCast]; rfl
      have hT : s.readT d' i' = if s.bad d' i' then ByteArray.empty else ⟨(s.T d' i').toArray⟩ := by
        unfold RSt.readT; rw [hE, Int.toNat_natCast, Int.toNat_natCast]
        cases s.bad d' i' <;> rfl
      rw [hE, hT]
      clear hE hT
      have HC2 := HCALL
      rw [hd] at HC2
      have c0 : w.cell? ⟨L.x, 0, none⟩ = some (.slice (some ⟨L.sb, 0, none⟩) s.n L.cs) := h.ox.cell 0 (by decide)
      have c1 : w.cell? ⟨L.x, 1, none⟩ = some (.slice (some ⟨L.bb, 0, none⟩) s.n L.cn) := h.ox.cell 1 (by decide)
      have c2 := h.os.cell d' hdn'
      have c3 := h.ob.cell d' hdn'
      have c4 := (h.od d' hdn').cell i' him
      have c5 := (h.ot d' hdn').cell i' him
      have n2 := h.wf.n2
      have m2 := h.wf.m2
      generalize (⟨(s.T d' i').toArray⟩ : ByteArray) = Y at *
      clear h HCALL hd
      cases hb : s.bad d' i'
      · rw [hb] at c4
        rw [if_neg (by decide), if_neg (by decide)]
        clear hb
        go_enter Try.func26, Try.ntmps26
        go_wp2_with fail
        refine HC2.out.mono ?_
        rintro e w1 ⟨rfl, rfl⟩
        clear HC2
        go_wp2_with fail
        go_ret2
        exact ⟨rfl, rfl⟩
      · rw [hb] at c4
        rw [if_pos rfl, if_pos rfl]
        clear hb
        go_enter Try.func26, Try.ntmps26
        go_wp2_with fail
        refine HC2.out.mono ?_
        rintro e w1 ⟨rfl, rfl⟩
        clear HC2
        go_wp2_with fail
        go_ret2
        exact ⟨rfl, rfl⟩
  · rw [hdn] at hlz
    have he : s.readE d i = 71 := by unfold RSt.readE; rw [hdn]; rfl
    have ht : s.readT d i = ByteArray.empty := by unfold RSt.readT; rw [he]; rfl
    rw [he, ht]
    clear h HCALL hdn he ht
    go_enter Try.func26, Try.ntmps26
    go_wp2_with fail
    go_ret2
    exact ⟨rfl, rfl⟩
end Go.Proofs.Ytnfehfmmpjbgdaa
