/- RackCode4, RackNew. -/
import Derived.Test.YtmgkkoajjdgmbaaGreatDoorPart18
import Derived.StillTailTactics
import Derived.Laws.MakeOwn
import Derived.BigRegion
set_option linter.unusedVariables false
set_option linter.unusedSimpArgs false
set_option linter.unusedSectionVars false
set_option linter.unnecessarySimpa false
set_option linter.deprecated false
/- What the program's rack does: a write. -/
namespace Go.Proofs.YtmgkkoajjdgmbaaGreatDoor
open Go.RowKit
set_option linter.unusedVariables false
/-- A load among what only reads, by its run. -/
theorem still_load {P : Program} {ops : Array Oper} {w : World} {Q : Act → Prop} {a : Act} {o : Oper} {rest : List Oper} (hgd : o.guard = none) (ty : TypeId) (x : Operand) (ho : o.op = .load ty x) (v : Value)
    (hrun : (Instr.loadAt ty (a.eval x)).run P w = .ok v w) (h : wpStill P ops w Q rest (a.put o.dst v)) : wpStill P ops w Q (o :: rest) a := by
  refine wpStill_step fun K hK => ?_
  rw [if_pos (by simp [Region.wanted, hgd])]
  unfold Oper.still execOp
  simp only [ho, Sem.run_bind, hrun, Sem.run_pure, Result.andThen_ok, Oper.stillUpon_value]
  exact hK _ h
theorem RSt.wr_free (s : RSt) (d i : Nat) (l : List UInt8) (h : s.cut = false) : s.wr d i l = (s.put d i l false).inc d := by
  cases s
  simp only at h
  subst h
  rfl
theorem RSt.wr_cut (s : RSt) (d i : Nat) (l : List UInt8) (h : s.cut = true) : s.wr d i l = ((s.put d i l false).inc d).lim ((s.put d i l false).inc d).cut (s.left - 1) := by
  cases s
  simp only at h
  subst h
  rfl
theorem wrap_inc (c : Nat) : IntKind.u64.wrap ((c : Int) + 1) = (((c + 1) % 18446744073709551616 : Nat) : Int) := by
  show ((c : Int) + 1) % 18446744073709551616 = _
  omega
theorem Only.but1 {b : Nat} {w w' : World} (h : Only b (b + 1) w w') : But b w w' := ⟨h.os, h.tape, h.output, h.size, fun k hk hb => h.block k hk (by omega)⟩
theorem wrote (w : World) (t : ByteArray) (ht : t.size ≤ 64) (Z : Array Value) (hZ : Z = (secL zero64 false).toArray) (W : World) (hW : W = (w.alloc (.cells Z 109)).setCells w.heap.size 0 (t.data.toList.map fun x => Value.int .u8 (x.toNat : Int))) :
    W.rangeAt w.heap.size 0 (secL (padL t) false) ∧ Kept w W ∧ ∀ (ty : TypeId), (Builtin.copy_ #[24, 9] ty #[.slice (some ⟨w.heap.size, 0, none⟩) 64 64, .string t]).run Tryz.prog (w.alloc (.cells Z 109)) = .ok (goInt t.size) W := by
  have hl : (t.data.toList.map fun x => Value.int .u8 (x.toNat : Int)).length = t.size := by simp
  have hzl := secL_length zero64 false zero64_length
  have hc : ∀ j, (w.alloc (.cells Z 109)).cell? ⟨w.heap.size, 0 + j, none⟩ = (secL zero64 false)[j]? := fun j => by
    rw [World.cell?_alloc_mark, hZ, Nat.zero_add, List.getElem?_toArray]
  have hs : ∀ j, j < t.size → ((w.alloc (.cells Z 109)).cell? ⟨w.heap.size, 0 + j, none⟩).isSome = true := fun j hj => by
    rw [hc, List.getElem?_eq_getElem (by omega)]; rfl
  refine ⟨?_, ?_, fun ty => ?_⟩
  · intro j v hj
    rw [hW]
    by_cases h1 : j < t.size
    · have h2 := World.cell?_setCells_in w.heap.size (t.data.toList.map fun x => Value.int .u8 (x.toNat : Int)) 0 (w.alloc (.cells Z 109)) (fun q hq => hs q (by omega)) j (by omega)
      rw [h2, ← List.getElem?_eq_getElem (by omega), ← hj]
      unfold secL padL
      have hdl : t.data.toList.length = t.size := by simp
      rw [List.getElem?_append_left (by rw [List.length_map, List.length_append]; omega), List.map_append, List.getElem?_append_left (by rw [List.length_map]; omega)]
    · rw [World.cell?_setCells_out _ _ _ _ _ (fun _ _ => .inr (by rw [hl]; simp; omega)), hc, ← hj]
      unfold secL padL zero64
      have hdl : t.data.toList.length = t.size := by simp
      by_cases h2 : j < 64
      · rw [List.getElem?_append_left (by simp; omega), List.getElem?_append_left (by simp [hdl]; omega), List.map_append, List.getElem?_append_right (by rw [List.length_map]; omega), List.getElem?_map, List.getElem?_map, List.length_map, hdl, List.getElem?_replicate, List.getElem?_replicate, if_pos h2, if_pos (by omega)]
      · rw [List.getElem?_append_right (by simp; omega), List.getElem?_append_right (by simp; omega)]
        simp
        rw [Nat.add_sub_cancel' ht]
  · rw [hW]
    exact But.kept (Kept.refl _ |>.alloc _) (Nat.le_refl _) (Only.but1 (Only.setCells w.heap.size (Nat.le_refl _) (Nat.lt_succ_self _) _ 0 (Only.refl _ _ _)))
  · rw [hW]
    exact run_copy_string _ 24 9 ty 5 w.heap.size 0 64 64 t Tryz.underlying24 Tryz.sizeOf5 ht hs (fun j _ => by rw [World.frozen?_alloc_mark]; simp)
set_option maxHeartbeats 1000000 in
set_option maxRecDepth 100000 in
theorem pWrite_ok (g : Nat) (s : RSt) (d i : Nat) (hd : d < s.n) (hi : i < s.m) (t : ByteArray) (ht64 : t.size ≤ 64) (hdn : s.down = false) (w : World) (hR : RackAt g s w) :
    Calls Tryz.prog 57 #[.pointer (some ⟨g + 1, 0, none⟩), .int .i64 (d : Nat), .int .i64 (i : Nat), .string t] w fun r w' => r = .returned (.int .i64 0) ∧ RackAt g (s.wr d i (padL t)) w' ∧ Only g (g + 2 + s.n) w w' := by
  have ht : t.size ≤ 9223372036854775807 := by omega
  have hd1 : -9223372036854775808 ≤ (d : Int) := by omega
  have hd2 : (d : Int) ≤ 9223372036854775807 := by have := hR.wf.n2; omega
  have hi1 : -9223372036854775808 ≤ (i : Int) := by omega
  have hi2 : (i : Int) ≤ 9223372036854775807 := by have := hR.wf.m2; omega
  have hmf : ∀ (fn : Fn) (first cap : Array Value) (w : World), (Instr.makeFunc fn first cap).run Tryz.prog w = .ok (.func fn first cap) w := fun _ _ _ _ => rfl
  obtain ⟨n, hn⟩ : ∃ n, n = s.n := ⟨_, rfl⟩
  obtain ⟨p, hpe⟩ : ∃ p, p = some (⟨g + 1, 0, none⟩ : Addr) := ⟨_, rfl⟩
  have hp : (p = none ∧ n = 0) ∨ (p = some ⟨g + 1, 0, none⟩ ∧ n = s.n ∧ RackAt g s w) := .inr ⟨hpe, hn, hR⟩
  have h1 : noneE n = 0 := if_neg (by have := hR.wf.n1; omega)
  have he : or2 (or2 (or2 (noneE n) (secE s d i)) (longE t)) (ifE s.down 71) = 0 := by
    rw [h1, hdn, show longE t = 0 from if_neg (by omega), show secE s d i = 0 from if_pos (decide_eq_true ⟨by omega, by omega, by omega, by omega⟩)]; rfl
  have HRK := Lib.hid hR
  clear h1 hn hR
  rw [← hpe]
  have HPE := Lib.hid hpe
  clear hpe
  have HH : Hid (Has p n w) := by
    rcases hp with ⟨rfl, rfl⟩ | ⟨rfl, rfl, hR⟩
    · exact .inl ⟨rfl, rfl⟩
    · exact hR.has
  have HP : Hid (noneE n = 0 → p = some ⟨g + 1, 0, none⟩ ∧ RackAt g s w) := fun hz => by
    rcases hp with ⟨rfl, rfl⟩ | ⟨rfl, rfl, hR⟩
    · cases hz
    · exact ⟨rfl, hR⟩
  have HN : Hid (n ≤ 1000) := by
    show _ ≤ _
    rcases hp with ⟨rfl, rfl⟩ | ⟨rfl, rfl, hR⟩
    · omega
    · have := hR.wf.n2; omega
  clear hp
  go_enter Tryz.func57, Tryz.ntmps57
  go_wp2_with fail
  refine (none_any _ n _ HH.out).mono ?_
  rintro e w1 ⟨j0, caps0, rfl, hf, hk⟩
  have F0 := Lib.hid hf
  have K0 := Lib.hid hk
  clear hf hk
  go_wp2_with fail
  refine (noSector_any g s _ d i _ hd1 hd2 hi1 hi2).mono ?_
  rintro e w2 ⟨j1, caps1, rfl, hf, hk⟩
  have F1 := Lib.hid hf
  have K1 : Hid (Kept w w2) := K0.out.trans hk
  have L1 := Lib.hid hk
  clear hf hk
  go_wp2_with fail
  refine (tooLong_any t _ ht).mono ?_
  rintro e w3 ⟨j2, caps2, rfl, hf, hk⟩
  have F2 := Lib.hid hf
  have K2 : Hid (Kept w w3) := K1.out.trans hk
  have L2 := Lib.hid hk
  clear hf hk
  go_wp2_with fail
  refine (still_any g s _ _).mono ?_
  rintro e w4 ⟨j3, caps3, rfl, hf, hk⟩
  have F3 := Lib.hid hf
  have K3 : Hid (Kept w w4) := K2.out.trans hk
  have L3 := Lib.hid hk
  clear hf hk
  go_wp2_with fail
  refine (first4 w4.heap.size (.func (.func j0) #[] caps0) (.func (.func j1) #[] caps1) (.func (.func j2) #[] caps2) (.func (.func j3) #[] caps3) (noneE n) (secE s d i) (longE t) (ifE s.down 71) _ (by rw [World.cell?_alloc_mark]; rfl) (by rw [World.cell?_alloc_mark]; rfl) (by rw [World.cell?_alloc_mark]; rfl) (by rw [World.cell?_alloc_mark]; rfl) (F0.out.kept (((((Kept.refl _).trans L1.out).trans L2.out).trans L3.out).alloc _)) (fun z0 => (F1.out (HP.out z0).1 ((HP.out z0).2.kept K0.out)).kept ((((Kept.refl _).trans L2.out).trans L3.out).alloc _)) (fun z0 z1 => F2.out.kept (((Kept.refl _).trans L3.out).alloc _)) (fun z0 z1 z2 => (F3.out (HP.out z0).1 ((HP.out z0).2.kept K2.out)).kept ((Kept.refl _).alloc _))).mono ?_
  rintro x w9 ⟨rfl, hk⟩
  have K9 : Hid (Kept w w9) := (K3.out.trans ((Kept.refl _).alloc _)).trans hk
  rw [he]
  clear hk
  have hR9 := HRK.out.kept K9.out
  obtain ⟨Z, hZ⟩ : ∃ Z, Z = (secL zero64 false).toArray := ⟨_, rfl⟩
  have hz0 := zero_sec
  rw [← hZ] at hz0
  have HZ := Lib.hid hZ
  have HA := Lib.hid hR9
  clear hR9 hZ
  obtain ⟨W1, hW1⟩ : ∃ W1, W1 = (w9.alloc (.cells Z 109)).setCells w9.heap.size 0 (t.data.toList.map fun x => Value.int .u8 (x.toNat : Int)) := ⟨_, rfl⟩
  obtain ⟨hr1, hk1, hcp⟩ := wrote w9 t ht64 Z HZ.out W1 hW1
  have K1' := Lib.hid hk1
  have R1 := Lib.hid hr1
  clear hW1 hr1 hk1
  go_wp2_with fail
  have hpe := HPE.out
  subst hpe
  obtain ⟨wd, hwd⟩ : ∃ wd, W1.drew = wd := ⟨_, rfl⟩
  have KD : Hid (Kept w wd) := by show Kept _ _; rw [← hwd]; exact (K9.out.trans K1'.out).drew
  have RD : wd.rangeAt w9.heap.size 0 (secL (padL t) false) := by rw [← hwd]; exact (World.rangeAt_drew _ _ _ _).2 R1.out
  have hAd := HRK.out.kept KD.out
  have hp64 := padL_length t ht64
  have c0 := hAd.c0
  have c1 := hAd.ds d hd
  have n2 := hAd.wf.n2
  have m2 := hAd.wf.m2
  have n1 := hAd.wf.n1
  obtain ⟨Y, hY⟩ : ∃ Y, Y = (secL (padL t) false).toArray := ⟨_, rfl⟩
  have hys : Y.size = 65 := by rw [hY]; simp [secL_length _ _ hp64]
  have HYS : Hid ((Tryz.prog.info? 109).map (·.size) = some Y.size) := by show _ = _; rw [hys]; exact info_sec
  have HC : Hid (Y.all (·.oneCell') = true) := by show _ = _; rw [hY]; exact all_oneCell_toArray (secL_one _ _)
  have HYL : Hid (Y.toList = secL (padL t) false) := by show _ = _; rw [hY]
  have HT2 : Hid (wd.there (g + 2 + d) (i * 65) Y.size) := by show World.there _ _ _ _; rw [hys]; exact hAd.st d i hd hi
  have hld : (Instr.loadAt 109 (.pointer (some ⟨w9.heap.size, 0, none⟩))).run Tryz.prog wd = .ok (.agg Y) wd := by
    rw [hY]
    exact run_loadAt_mid wd w9.heap.size 0 109 _ _ RD Tryz.underlying109 rfl (by rw [secL_length _ _ hp64]; exact info_sec)
  obtain ⟨W3, hW3⟩ : ∃ W3, W3 = wd.setCells (g + 2 + d) (i * 65) (secL (padL t) false) := ⟨_, rfl⟩
  have hA3 : RackAt g (s.put d i (padL t) false) W3 := by rw [hW3]; exact hAd.put d i (padL t) false hd hi hp64 _ rfl
  have HO3 : Hid (Only g (g + 2 + s.n) w W3) := by show Only _ _ _ _; rw [hW3]; exact Only.setCells _ (by omega) (by omega) _ _ (KD.out.only _ _)
  have HA3 := Lib.hid hA3
  have HAD := Lib.hid hAd
  have HW3 := Lib.hid hW3
  clear hAd hA3 hW3 RD R1 hY hp64 hys
  refine wp_region_still_tail 11 (by kernel_rfl) (by kernel_rfl) ?_
  simp only [List.take_succ_cons, List.take_zero, List.drop_succ_cons, List.drop_zero]
  change wpStill _ _ W1.drew (fun a' => wpList _ _ _ _ a' W1.drew) _ _
  rw [hwd]
  clear hwd
  have HLD := Lib.hid hld
  clear hld
  iterate 9 still_step
  refine still_load rfl 109 _ rfl (.agg Y) HLD.out ?_
  go_simp
  still_step
  refine wpStill_nil ?_
  have e0 : W3.cell? ⟨g + 1, 0, none⟩ = some (.slice (some ⟨g, 0, none⟩) s.n s.n) := HA3.out.c0
  have e1 : W3.cell? ⟨g, d * 2 + 1, none⟩ = some (.int .u64 (s.cnt d : Nat)) := HA3.out.dw d hd
  have ef := HA3.out.fw d hd
  have e2 : W3.cell? ⟨g + 1, 1, none⟩ = some (.bool s.cut) := HA3.out.c1
  have e3 : W3.cell? ⟨g + 1, 2, none⟩ = some (.int .i64 (s.left : Nat)) := HA3.out.c2
  have eg := HA3.out.f2
  have hw := wrap_inc (s.cnt d)
  have HI := Lib.hid (HA3.out.inc d hd _ rfl)
  have HWI := Lib.hid hw
  cases hcut : s.cut
  · have HE := Lib.hid (s.wr_free d i (padL t) hcut)
    rw [hcut] at e2
    clear hcut hdn
    go_wp2_with (first | ((with_reducible refine wpList_store_mid rfl 109 _ _ rfl (g + 2 + d) (i * 65) Y rfl rfl HT2.out HYS.out HC.out ?_); rw [HYL.out, ← HW3.out]; clear HYL HW3 HT2 HYS HC))
    go_ret
    rw [HE.out]
    exact ⟨rfl, HI.out, HO3.out.setCell _ _ (by simp <;> omega) (by simp <;> omega)⟩
  · have HE := Lib.hid (s.wr_cut d i (padL t) hcut)
    rw [hcut] at e2
    have hl : 1 ≤ s.left := by
      unfold RSt.down at hdn
      rw [hcut] at hdn
      simp at hdn
      omega
    have hl2 := HAD.out.wf.left
    have hsub : ((s.left : Int) - 1) = ((s.left - 1 : Nat) : Int) := by omega
    clear hcut hdn
    go_wp2_with (first | ((with_reducible refine wpList_store_mid rfl 109 _ _ rfl (g + 2 + d) (i * 65) Y rfl rfl HT2.out HYS.out HC.out ?_); rw [HYL.out, ← HW3.out]; clear HYL HW3 HT2 HYS HC))
    go_ret
    rw [HE.out]
    exact ⟨rfl, HI.out.left (s.left - 1) (by omega), (HO3.out.setCell _ _ (by simp <;> omega) (by simp <;> omega)).setCell _ _ (by simp <;> omega) (by simp <;> omega)⟩
end Go.Proofs.YtmgkkoajjdgmbaaGreatDoor

/- A new rack. -/
namespace Go.Proofs.YtmgkkoajjdgmbaaGreatDoor
open Go.RowKit
set_option linter.unusedVariables false
theorem made_get (z : Array Value) (n i j : Nat) (hi : i < n) (hj : j < z.size) : (madeCells z (n * z.size))[i * z.size + j]? = z[j]? := by
  have hlt : i * z.size + j < n * z.size := by
    have h1 : (i + 1) * z.size ≤ n * z.size := Nat.mul_le_mul_right _ hi
    rw [Nat.add_mul, Nat.one_mul] at h1
    omega
  unfold madeCells
  rw [Array.getElem?_map]
  have hr : (Array.range (n * z.size))[i * z.size + j]? = some (i * z.size + j) := by
    rw [Array.getElem?_eq_getElem (by simpa using hlt)]
    simp
  rw [hr, Array.getElem?_eq_getElem hj]
  show some (z[(i * z.size + j) % z.size]!) = _
  have hm : (i * z.size + j) % z.size = j := by rw [Nat.mul_comm, Nat.mul_add_mod, Nat.mod_eq_of_lt hj]
  rw [hm, getElem!_pos z j hj]
theorem frozen_row {w : World} {b : Nat} {cs : Array Value} {t : TypeId} (h : w.heap[b]? = some (.cells cs t (0, 0))) (j : Nat) : w.frozen? ⟨b, j, none⟩ = false := by
  unfold World.frozen?
  rw [h]
  simp
def drv0 : Array Value := #[.slice none 0 0, .int .u64 0]
theorem info_drv : (Tryz.prog.info? 77).map (fun i => (i.zero, i.size, i.bytes)) = some (some (.agg drv0), 2, 32) := by kernel_rfl
theorem info_sec3 : (Tryz.prog.info? 109).map (fun i => (i.zero, i.size, i.bytes)) = some (some (.agg (secL zero64 false).toArray), 65, 65) := by kernel_rfl
theorem make_drv (n : Nat) (hn : n ≤ 12) (W : World) : (Instr.makeSlice 72 (.int .i64 (n : Int)) (.int .i64 (n : Int))).run Tryz.prog W = .ok (.slice (some ⟨W.heap.size, 0, none⟩) n n) (W.alloc (.cells (madeCells drv0 (n * 2)) 77)) := by
  obtain ⟨i0, hi, hzz⟩ := Option.map_eq_some_iff.1 info_drv
  simp only [Prod.mk.injEq] at hzz
  have h := run_make (P := Tryz.prog) W 72 77 i0 _ Tryz.underlying72 hi hzz.1 .i64 .i64 (n : Int) (n : Int) (by omega) (by omega) (by rw [hzz.2.2]; omega) (by omega)
  rw [hzz.2.1] at h
  simpa [Value.cells] using h
theorem make_sec (n : Nat) (hn : n ≤ 4096) (W : World) : (Instr.makeSlice 75 (.int .i64 (n : Int)) (.int .i64 (n : Int))).run Tryz.prog W = .ok (.slice (some ⟨W.heap.size, 0, none⟩) n n) (W.alloc (.cells (madeCells (secL zero64 false).toArray (n * 65)) 109)) := by
  obtain ⟨i0, hi, hzz⟩ := Option.map_eq_some_iff.1 info_sec3
  simp only [Prod.mk.injEq] at hzz
  have h := run_make (P := Tryz.prog) W 75 109 i0 _ Tryz.underlying75 hi hzz.1 .i64 .i64 (n : Int) (n : Int) (by omega) (by omega) (by rw [hzz.2.2]; omega) (by omega)
  rw [hzz.2.1, Int.toNat_natCast] at h
  exact h
/-- A rack of which nothing was written. -/
def rack0 (n m : Nat) : RSt := ⟨n, m, fun _ _ => zero64, fun _ _ => false, fun _ => 0, false, 0⟩
/-- A rack whose first k drives have their sectors. -/
structure NewAt (g n m k : Nat) (w : World) : Prop where
  size : w.heap.size = g + 2 + k
  c0 : w.cell? ⟨g + 1, 0, none⟩ = some (.slice (some ⟨g, 0, none⟩) n n)
  c1 : w.cell? ⟨g + 1, 1, none⟩ = some (.bool false)
  c2 : w.cell? ⟨g + 1, 2, none⟩ = some (.int .i64 (0 : Nat))
  f1 : w.frozen? ⟨g + 1, 1, none⟩ = false
  f2 : w.frozen? ⟨g + 1, 2, none⟩ = false
  ds : ∀ d, d < k → w.cell? ⟨g, d * 2, none⟩ = some (.slice (some ⟨g + 2 + d, 0, none⟩) m m)
  dn : ∀ d, d < n → ∃ v, w.cell? ⟨g, d * 2, none⟩ = some v
  dw : ∀ d, d < n → w.cell? ⟨g, d * 2 + 1, none⟩ = some (.int .u64 (0 : Nat))
  fw : ∀ j, w.frozen? ⟨g, j, none⟩ = false
  sr : ∀ d i, d < k → i < m → w.rangeAt (g + 2 + d) (i * 65) (secL zero64 false)
  st : ∀ d i, d < k → i < m → w.there (g + 2 + d) (i * 65) 65
theorem NewAt.rack {g n m : Nat} {w : World} (h : NewAt g n m n w) (hn1 : 1 ≤ n) (hn2 : n ≤ 12) (hm1 : 1 ≤ m) (hm2 : m ≤ 4096) : RackAt g (rack0 n m) w :=
  ⟨⟨hn1, hn2, hm1, hm2, fun _ _ _ _ => zero64_length, fun _ => by show 0 < _; decide, by show 0 ≤ _; decide⟩, h.c0, h.c1, h.c2, h.f1, h.f2, h.ds, h.dw, fun d _ => h.fw _, h.sr, h.st⟩
theorem NewAt.start (w : World) (n m : Nat) (T : TypeId) : NewAt w.heap.size n m 0 ((w.alloc (.cells (madeCells drv0 (n * 2)) 77)).alloc (.cells #[.slice (some ⟨w.heap.size, 0, none⟩) n n, .bool false, .int .i64 0] T)) := by
  have h2 := heap_alloc2_new w (.cells (madeCells drv0 (n * 2)) 77) (.cells #[.slice (some ⟨w.heap.size, 0, none⟩) n n, .bool false, .int .i64 0] T)
  have h1 := heap_alloc2_old w (.cells (madeCells drv0 (n * 2)) 77) (.cells #[.slice (some ⟨w.heap.size, 0, none⟩) n n, .bool false, .int .i64 0] T)
  refine ⟨by rw [size_alloc, size_alloc], ?_, ?_, ?_, ?_, ?_, fun d hd => absurd hd (by omega), fun d hd => ⟨.slice none 0 0, ?_⟩, fun d hd => ?_, fun j => ?_, fun d i hd => absurd hd (by omega), fun d i hd => absurd hd (by omega)⟩
  · rw [cell_of_row _ _ _ _ _ _ h2]; rfl
  · rw [cell_of_row _ _ _ _ _ _ h2]; rfl
  · rw [cell_of_row _ _ _ _ _ _ h2]; rfl
  · exact frozen_row h2 _
  · exact frozen_row h2 _
  · rw [cell_of_row _ _ _ _ _ _ h1]; exact made_get drv0 n d 0 hd (by decide)
  · rw [cell_of_row _ _ _ _ _ _ h1]; exact made_get drv0 n d 1 hd (by decide)
  · exact frozen_row h1 _
theorem NewAt.drewN {g n m k : Nat} {w : World} (h : NewAt g n m k w) (j : Nat) : NewAt g n m k (w.drewN j) := ⟨h.size, h.c0, h.c1, h.c2, h.f1, h.f2, h.ds, h.dn, h.dw, h.fw, h.sr, h.st⟩
theorem NewAt.next {g n m k : Nat} {w : World} (h : NewAt g n m k w) (hk : k < n) (hm : m ≤ 4096) :
    NewAt g n m (k + 1) ((w.alloc (.cells (madeCells (secL zero64 false).toArray (m * 65)) 109)).setCell ⟨g, k * 2, none⟩ (.slice (some ⟨w.heap.size, 0, none⟩) m m)) := by
  have hs := h.size
  have hnew := heap_alloc_new w (.cells (madeCells (secL zero64 false).toArray (m * 65)) 109)
  have co : ∀ b j, b < g + 2 + k → (w.alloc (.cells (madeCells (secL zero64 false).toArray (m * 65)) 109)).cell? ⟨b, j, none⟩ = w.cell? ⟨b, j, none⟩ := fun b j hb => World.cell?_alloc_lt _ _ ⟨b, j, none⟩ (by simp; omega)
  have fo : ∀ b j, b < g + 2 + k → (w.alloc (.cells (madeCells (secL zero64 false).toArray (m * 65)) 109)).frozen? ⟨b, j, none⟩ = w.frozen? ⟨b, j, none⟩ := fun b j hb => World.frozen?_alloc_past _ _ _ (by omega)
  have ce : ∀ (W : World) (v : Value) b j, (b ≠ g ∨ j ≠ k * 2) → (W.setCell ⟨g, k * 2, none⟩ v).cell? ⟨b, j, none⟩ = W.cell? ⟨b, j, none⟩ := fun W v b j hb =>
    World.cell?_setCell_other _ _ _ _ (fun e => by injection e with e1 e2; rcases hb with hb | hb; exact hb e1.symm; exact hb e2.symm)
  obtain ⟨v0, hv0⟩ := h.dn k hk
  refine ⟨?_, ?_, ?_, ?_, ?_, ?_, fun d hd => ?_, fun d hd => ?_, fun d hd => ?_, fun j => ?_, fun d i hd hi => fun j v hj => ?_, fun d i hd hi => fun j hj => ?_⟩
  · rw [World.size_setCell, size_alloc, hs]; omega
  · rw [ce _ _ _ _ (by omega), co _ _ (by omega)]; exact h.c0
  · rw [ce _ _ _ _ (by omega), co _ _ (by omega)]; exact h.c1
  · rw [ce _ _ _ _ (by omega), co _ _ (by omega)]; exact h.c2
  · rw [World.frozen?_setCell, fo _ _ (by omega)]; exact h.f1
  · rw [World.frozen?_setCell, fo _ _ (by omega)]; exact h.f2
  · by_cases e : d = k
    · subst e
      rw [World.cell?_setCell_same _ _ _ (by rw [co _ _ (by omega)]; exact hv0), hs]
    · rw [ce _ _ _ _ (by omega), co _ _ (by omega)]; exact h.ds d (by omega)
  · by_cases e : d = k
    · subst e
      exact ⟨_, World.cell?_setCell_same _ _ _ (by rw [co _ _ (by omega)]; exact hv0)⟩
    · rw [ce _ _ _ _ (by omega), co _ _ (by omega)]; exact h.dn d hd
  · rw [ce _ _ _ _ (by omega), co _ _ (by omega)]; exact h.dw d hd
  · rw [World.frozen?_setCell, fo _ _ (by omega)]; exact h.fw j
  · rw [ce _ _ _ _ (by omega)]
    have hj65 : j < 65 := by
      have := (List.getElem?_eq_some_iff.1 hj).1
      rw [secL_length _ _ zero64_length] at this; exact this
    by_cases e : d = k
    · subst e
      rw [← hs, cell_of_row _ _ _ _ _ _ hnew]
      have := made_get (secL zero64 false).toArray m i j hi (by rw [sec0_size]; exact hj65)
      rw [sec0_size] at this
      rw [this, List.getElem?_toArray, hj]
    · rw [co _ _ (by omega)]; exact h.sr d i (by omega) hi j v hj
  · rw [ce _ _ _ _ (by omega), World.frozen?_setCell]
    by_cases e : d = k
    · subst e
      rw [← hs, cell_of_row _ _ _ _ _ _ hnew]
      have := made_get (secL zero64 false).toArray m i j hi (by rw [sec0_size]; exact hj)
      rw [sec0_size] at this
      rw [this, Array.getElem?_eq_getElem (by rw [sec0_size]; exact hj)]
      exact ⟨rfl, frozen_row hnew _⟩
    · rw [co _ _ (by omega), fo _ _ (by omega)]; exact h.st d i (by omega) hi j hj
set_option maxHeartbeats 1000000 in
set_option maxRecDepth 100000 in
theorem pNew_ok (n m : Nat) (hn1 : 1 ≤ n) (hn2 : n ≤ 12) (hm1 : 1 ≤ m) (hm2 : m ≤ 4096) (w : World) :
    Calls Tryz.prog 11 #[.int .i64 (n : Nat), .int .i64 (m : Nat)] w fun r w' => r = .returned (.tuple #[.pointer (some ⟨w.heap.size + 1, 0, none⟩), .int .i64 0]) ∧ Kept w w' ∧ RackAt w.heap.size (rack0 n m) w' ∧ w'.heap.size = w.heap.size + 2 + n := by
  have b1 : decide ((n : Int) < 1) = false := decide_eq_false (by omega)
  have b2 : decide ((12 : Int) < n) = false := decide_eq_false (by omega)
  have b3 : decide ((m : Int) < 1) = false := decide_eq_false (by omega)
  have b4 : decide ((4096 : Int) < m) = false := decide_eq_false (by omega)
  have hmd := make_drv n hn2
  have HMS := Lib.hid (make_sec m hm2)
  obtain ⟨MD, hMD⟩ : ∃ MD, MD = madeCells drv0 (n * 2) := ⟨_, rfl⟩
  rw [← hMD] at hmd
  have HMD := Lib.hid hMD
  clear hMD
  go_enter Tryz.func11, Tryz.ntmps11
  go_wp2_with fail
  have hst : NewAt w.heap.size n m 0 ((w.alloc (.cells MD 77)).alloc (.cells #[.slice (some ⟨w.heap.size, 0, none⟩) n n, .bool false, .int .i64 0] 74)) := by rw [HMD.out]; exact NewAt.start w n m _
  have hkk : Kept w ((w.alloc (.cells MD 77)).alloc (.cells #[.slice (some ⟨w.heap.size, 0, none⟩) n n, .bool false, .int .i64 0] 74)) := ((Kept.refl _).alloc _).alloc _
  generalize hw0 : (w.alloc (.cells MD 77)).alloc (.cells #[.slice (some ⟨w.heap.size, 0, none⟩) n n, .bool false, .int .i64 0] 74) = w0 at *
  clear hw0 hmd
  go_loopw [31] (fun i wr => ∃ k : Nat, k ≤ n ∧ i = .int .i64 k ∧ Kept w wr ∧ NewAt w.heap.size n m k wr) (fun i _ => n - (intOf i).toNat)
  case atStart => exact ⟨0, Nat.zero_le _, rfl, hkk, hst⟩
  case round =>
    obtain ⟨k, hk, rfl, hK, hN⟩ := hrel
    by_cases hlt : k < n
    · have HN := Lib.hid hN
      have HK := Lib.hid hK
      have c0 := hN.c0
      have hsz := hN.size
      have HNX := Lib.hid (hN.next hlt hm2)
      obtain ⟨v0, hv0⟩ := hN.dn k hlt
      have hf := hN.fw (k * 2)
      have l0 : w.heap.size < wr.heap.size := by omega
      have l1 : w.heap.size + 1 < wr.heap.size := by omega
      have hms := HMS.out
      obtain ⟨MS, hMS⟩ : ∃ MS, MS = madeCells (secL zero64 false).toArray (m * 65) := ⟨_, rfl⟩
      rw [← hMS] at HNX hms
      have a0 : (wr.alloc (.cells MS 109)).cell? ⟨w.heap.size + 1, 0, none⟩ = some (.slice (some ⟨w.heap.size, 0, none⟩) n n) := by rw [World.cell?_alloc_lt _ _ _ (by simp; omega)]; exact c0
      have a1 : (wr.alloc (.cells MS 109)).cell? ⟨w.heap.size, k * 2, none⟩ = some v0 := by rw [World.cell?_alloc_lt _ _ _ (by simp; omega)]; exact hv0
      have a2 : (wr.alloc (.cells MS 109)).frozen? ⟨w.heap.size, k * 2, none⟩ = false := by rw [World.frozen?_alloc_past _ _ _ (by omega)]; exact hf
      have HKX : Hid (Kept w ((wr.alloc (.cells MS 109)).setCell ⟨w.heap.size, k * 2, none⟩ (.slice (some ⟨wr.heap.size, 0, none⟩) m m))) := (HK.out.alloc _).setCell (Nat.le_refl _) _
      rw [World.setCell_alloc_past _ _ _ _ l0] at HNX HKX
      clear hN hK hst hkk hMS hsz
      go_wp2_with fail
      go_region
      go_wp2_with fail
      exact ⟨⟨k + 1, by omega, by go_num, HKX.out.drew, HNX.out.drewN 1⟩, by simp [intOf]; omega⟩
    · obtain rfl : k = n := by omega
      go_wp2_with fail
      go_ret2
      exact ⟨rfl, hK, hN.rack hn1 hn2 hm1 hm2, hN.size⟩
set_option maxHeartbeats 1000000 in
set_option maxRecDepth 100000 in
theorem pNew_bad (n m : Int) (hn1 : -9223372036854775808 ≤ n) (hn2 : n ≤ 9223372036854775807) (hm1 : -9223372036854775808 ≤ m) (hm2 : m ≤ 9223372036854775807) (h : ¬ (1 ≤ n ∧ n ≤ 12 ∧ 1 ≤ m ∧ m ≤ 4096)) (w : World) :
    Calls Tryz.prog 11 #[.int .i64 n, .int .i64 m] w fun r w' => r = .returned (.tuple #[.pointer none, .int .i64 2]) ∧ Kept w w' := by
  by_cases h1 : n < 1
  · have b1 : decide (n < 1) = true := decide_eq_true h1
    go_enter Tryz.func11, Tryz.ntmps11
    go_wp2_with fail
    go_ret2
    exact ⟨rfl, Kept.refl _⟩
  · have b1 : decide (n < 1) = false := decide_eq_false h1
    by_cases h2 : 12 < n
    · have b2 : decide (12 < n) = true := decide_eq_true h2
      go_enter Tryz.func11, Tryz.ntmps11
      go_wp2_with fail
      go_ret2
      exact ⟨rfl, Kept.refl _⟩
    · have b2 : decide (12 < n) = false := decide_eq_false h2
      by_cases h3 : m < 1
      · have b3 : decide (m < 1) = true := decide_eq_true h3
        go_enter Tryz.func11, Tryz.ntmps11
        go_wp2_with fail
        go_ret2
        exact ⟨rfl, Kept.refl _⟩
      · have b3 : decide (m < 1) = false := decide_eq_false h3
        have b4 : decide (4096 < m) = true := decide_eq_true (by omega)
        go_enter Tryz.func11, Tryz.ntmps11
        go_wp2_with fail
        go_ret2
        exact ⟨rfl, Kept.refl _⟩
end Go.Proofs.YtmgkkoajjdgmbaaGreatDoor

