/- What the program's rack does: a write. -/
import Derived.Test.YtnfehfmmpjbgdaaRackCode3
import Derived.StillTailTactics
namespace Go.Proofs.Ytnfehfmmpjbgdaa
open Go.RowKit
set_option linter.unusedVariables false
/-- A load among what only reads, by its run. -/
theorem still_load {P : Program} {ops : Array Oper} {w : World} {Q : Act → Prop} {a : Act} {o : Oper} {rest : List Oper} (hgd : o.guard = none) (ty : TypeId) (x : Operand) (ho : o.op = .load ty x) (v : Value)
    (hrun : (Instr.loadAt ty (a.eval x)).run P w = .ok v w) (h : wpStill P ops w Q rest (a.put o.dst v)) : wpStill P ops w Q (o :: rest) a := by
  refine wpStill_step fun K hK => ?_
  rw [if_pos (by simp [Region.wanted, hgd])]
  unfold Oper.still execOp
  simp only [ho, Sem.run_bind, hrun, Sem.run_pure, Result.andThen_ok, Oper.stillUpon_value]
  exact hK _ h
theorem RSt.wr_free (s : RSt) (d i : Nat) (l : List UInt8) (h : s.cut = false) : s.wr d i l = (s.put d i l false).inc d := by
  cases s
  simp only at h
  subst h
  rfl
theorem RSt.wr_cut (s : RSt) (d i : Nat) (l : List UInt8) (h : s.cut = true) : s.wr d i l = ((s.put d i l false).inc d).lim ((s.put d i l false).inc d).cut (s.left - 1) := by
  cases s
  simp only at h
  subst h
  rfl
theorem wrap_inc (c : Nat) : IntKind.u64.wrap ((c : Int) + 1) = (((c + 1) % 18446744073709551616 : Nat) : Int) := by
  show ((c : Int) + 1) % 18446744073709551616 = _
  omega
theorem Only.but1 {b : Nat} {w w' : World} (h : Only b (b + 1) w w') : But b w w' := ⟨h.os, h.tape, h.output, h.size, fun k hk hb => h.block k hk (by omega)⟩
theorem wrote (w : World) (t : ByteArray) (ht : t.size ≤ 64) (Z : Array Value) (hZ : Z = (secL zero64 false).toArray) (W : World) (hW : W = (w.alloc (.cells Z 82)).setCells w.heap.size 0 (t.data.toList.map fun x => Value.int .u8 (x.toNat : Int))) :
    W.rangeAt w.heap.size 0 (secL (padL t) false) ∧ Kept w W ∧ ∀ (ty : TypeId), (Builtin.copy_ #[48, 9] ty #[.slice (some ⟨w.heap.size, 0, none⟩) 64 64, .string t]).run Try.prog (w.alloc (.cells Z 82)) = .ok (goInt t.size) W := by
  have hl : (t.data.toList.map fun x => Value.int .u8 (x.toNat : Int)).length = t.size := by simp
  have hzl := secL_length zero64 false zero64_length
  have hc : ∀ j, (w.alloc (.cells Z 82)).cell? ⟨w.heap.size, 0 + j, none⟩ = (secL zero64 false)[j]? := fun j => by
    rw [World.cell?_alloc_mark, hZ, Nat.zero_add, List.getElem?_toArray]
  have hs : ∀ j, j < t.size → ((w.alloc (.cells Z 82)).cell? ⟨w.heap.size, 0 + j, none⟩).isSome = true := fun j hj => by
    rw [hc, List.getElem?_eq_getElem (by omega)]; rfl
  refine ⟨?_, ?_, fun ty => ?_⟩
  · intro j v hj
    rw [hW]
    by_cases h1 : j < t.size
    · have h2 := World.cell?_setCells_in w.heap.size (t.data.toList.map fun x => Value.int .u8 (x.toNat : Int)) 0 (w.alloc (.cells Z 82)) (fun q hq => hs q (by omega)) j (by omega)
      rw [h2, ← List.getElem?_eq_getElem (by omega), ← hj]
      unfold secL padL
      have hdl : t.data.toList.length = t.size := by simp
      rw [List.getElem?_append_left (by rw [List.length_map, List.length_append]; omega), List.map_append, List.getElem?_append_left (by rw [List.length_map]; omega)]
    · rw [World.cell?_setCells_out _ _ _ _ _ (fun _ _ => .inr (by rw [hl]; simp; omega)), hc, ← hj]
      unfold secL padL zero64
      have hdl : t.data.toList.length = t.size := by simp
      by_cases h2 : j < 64
      · rw [List.getElem?_append_left (by simp; omega), List.getElem?_append_left (by simp [hdl]; omega), List.map_append, List.getElem?_append_right (by rw [List.length_map]; omega), List.getElem?_map, List.getElem?_map, List.length_map, hdl, List.getElem?_replicate, List.getElem?_replicate, if_pos h2, if_pos (by omega)]
      · rw [List.getElem?_append_right (by simp; omega), List.getElem?_append_right (by simp; omega)]
        simp
        rw [Nat.add_sub_cancel' ht]
  · rw [hW]
    exact But.kept (Kept.refl _ |>.alloc _) (Nat.le_refl _) (Only.but1 (Only.setCells w.heap.size (Nat.le_refl _) (Nat.lt_succ_self _) _ 0 (Only.refl _ _ _)))
  · rw [hW]
    exact run_copy_string _ 48 9 ty 5 w.heap.size 0 64 64 t Try.underlying48 Try.sizeOf5 ht hs (fun j _ => by rw [World.frozen?_alloc_mark]; simp)
set_option maxHeartbeats 1000000 in
set_option maxRecDepth 100000 in
theorem pWrite_ok (g : Nat) (s : RSt) (d i : Nat) (hd : d < s.n) (hi : i < s.m) (t : ByteArray) (ht64 : t.size ≤ 64) (hdn : s.down = false) (w : World) (hR : RackAt g s w) :
    Calls Try.prog 19 #[.pointer (some ⟨g + 1, 0, none⟩), .int .i64 (d : Nat), .int .i64 (i : Nat), .string t] w fun r w' => r = .returned (.int .i64 0) ∧ RackAt g (s.wr d i (padL t)) w' ∧ Only g (g + 2 + s.n) w w' := by
  have ht : t.size ≤ 9223372036854775807 := by omega
  have hd1 : -9223372036854775808 ≤ (d : Int) := by omega
  have hd2 : (d : Int) ≤ 9223372036854775807 := by have := hR.wf.n2; omega
  have hi1 : -9223372036854775808 ≤ (i : Int) := by omega
  have hi2 : (i : Int) ≤ 9223372036854775807 := by have := hR.wf.m2; omega
  have hmf : ∀ (fn : Fn) (first cap : Array Value) (w : World), (Instr.makeFunc fn first cap).run Try.prog w = .ok (.func fn first cap) w := fun _ _ _ _ => rfl
  obtain ⟨n, hn⟩ : ∃ n, n = s.n := ⟨_, rfl⟩
  obtain ⟨p, hpe⟩ : ∃ p, p = some (⟨g + 1, 0, none⟩ : Addr) := ⟨_, rfl⟩
  have hp : (p = none ∧ n = 0) ∨ (p = some ⟨g + 1, 0, none⟩ ∧ n = s.n ∧ RackAt g s w) := .inr ⟨hpe, hn, hR⟩
  have h1 : noneE n = 0 := if_neg (by have := hR.wf.n1; omega)
  have he : or2 (or2 (or2 (noneE n) (secE s d i)) (longE t)) (ifE s.down 71) = 0 := by
    rw [h1, hdn, show longE t = 0 from if_neg (by omega), show secE s d i = 0 from if_pos (decide_eq_true ⟨by omega, by omega, by omega, by omega⟩)]; rfl
  have HRK := Lib.hid hR
  clear h1 hn hR
  rw [← hpe]
  have HPE := Lib.hid hpe
  clear hpe
  have HH : Hid (Has p n w) := by
    rcases hp with ⟨rfl, rfl⟩ | ⟨rfl, rfl, hR⟩
    · exact .inl ⟨rfl, rfl⟩
    · exact hR.has
  have HP : Hid (noneE n = 0 → p = some ⟨g + 1, 0, none⟩ ∧ RackAt g s w) := fun hz => by
    rcases hp with ⟨rfl, rfl⟩ | ⟨rfl, rfl, hR⟩
    · cases hz
    · exact ⟨rfl, hR⟩
  have HN : Hid (n ≤ 1000) := by
    show _ ≤ _
    rcases hp with ⟨rfl, rfl⟩ | ⟨rfl, rfl, hR⟩
    · omega
    · have := hR.wf.n2; omega
  clear hp
  go_enter Try.func19, Try.ntmps19
  go_wp2_with fail
  refine (none_any _ n _ HH.out).mono ?_
  rintro e w1 ⟨j0, caps0, rfl, hf, hk⟩
  have F0 := Lib.hid hf
  have K0 := Lib.hid hk
  clear hf hk
  go_wp2_with fail
  refine (noSector_any g s _ d i _ hd1 hd2 hi1 hi2).mono ?_
  rintro e w2 ⟨j1, caps1, rfl, hf, hk⟩
  have F1 := Lib.hid hf
  have K1 : Hid (Kept w w2) := K0.out.trans hk
  have L1 := Lib.hid hk
  clear hf hk
  go_wp2_with fail
  refine (tooLong_any t _ ht).mono ?_
  rintro e w3 ⟨j2, caps2, rfl, hf, hk⟩
  have F2 := Lib.hid hf
  have K2 : Hid (Kept w w3) := K1.out.trans hk
  have L2 := Lib.hid hk
  clear hf hk
  go_wp2_with fail
  refine (still_any g s _ _).mono ?_
  rintro e w4 ⟨j3, caps3, rfl, hf, hk⟩
  have F3 := Lib.hid hf
  have K3 : Hid (Kept w w4) := K2.out.trans hk
  have L3 := Lib.hid hk
  clear hf hk
  go_wp2_with fail
  refine (first4 w4.heap.size (.func (.func j0) #[] caps0) (.func (.func j1) #[] caps1) (.func (.func j2) #[] caps2) (.func (.func j3) #[] caps3) (noneE n) (secE s d i) (longE t) (ifE s.down 71) _ (by rw [World.cell?_alloc_mark]; rfl) (by rw [World.cell?_alloc_mark]; rfl) (by rw [World.cell?_alloc_mark]; rfl) (by rw [World.cell?_alloc_mark]; rfl) (F0.out.kept (((((Kept.refl _).trans L1.out).trans L2.out).trans L3.out).alloc _)) (fun z0 => (F1.out (HP.out z0).1 ((HP.out z0).2.kept K0.out)).kept ((((Kept.refl _).trans L2.out).trans L3.out).alloc _)) (fun z0 z1 => F2.out.kept (((Kept.refl _).trans L3.out).alloc _)) (fun z0 z1 z2 => (F3.out (HP.out z0).1 ((HP.out z0).2.kept K2.out)).kept ((Kept.refl _).alloc _))).mono ?_
  rintro x w9 ⟨rfl, hk⟩
  have K9 : Hid (Kept w w9) := (K3.out.trans ((Kept.refl _).alloc _)).trans hk
  rw [he]
  clear hk
  have hR9 := HRK.out.kept K9.out
  obtain ⟨Z, hZ⟩ : ∃ Z, Z = (secL zero64 false).toArray := ⟨_, rfl⟩
  have hz0 := zero_sec
  rw [← hZ] at hz0
  have HZ := Lib.hid hZ
  have HA := Lib.hid hR9
  clear hR9 hZ
  obtain ⟨W1, hW1⟩ : ∃ W1, W1 = (w9.alloc (.cells Z 82)).setCells w9.heap.size 0 (t.data.toList.map fun x => Value.int .u8 (x.toNat : Int)) := ⟨_, rfl⟩
  obtain ⟨hr1, hk1, hcp⟩ := wrote w9 t ht64 Z HZ.out W1 hW1
  have K1' := Lib.hid hk1
  have R1 := Lib.hid hr1
  clear hW1 hr1 hk1
  go_wp2_with fail
  have hpe := HPE.out
  subst hpe
  obtain ⟨wd, hwd⟩ : ∃ wd, W1.drew = wd := ⟨_, rfl⟩
  have KD : Hid (Kept w wd) := by show Kept _ _; rw [← hwd]; exact (K9.out.trans K1'.out).drew
  have RD : wd.rangeAt w9.heap.size 0 (secL (padL t) false) := by rw [← hwd]; exact (World.rangeAt_drew _ _ _ _).2 R1.out
  have hAd := HRK.out.kept KD.out
  have hp64 := padL_length t ht64
  have c0 := hAd.c0
  have c1 := hAd.ds d hd
  have n2 := hAd.wf.n2
  have m2 := hAd.wf.m2
  have n1 := hAd.wf.n1
  obtain ⟨Y, hY⟩ : ∃ Y, Y = (secL (padL t) false).toArray := ⟨_, rfl⟩
  have hys : Y.size = 65 := by rw [hY]; simp [secL_length _ _ hp64]
  have HYS : Hid ((Try.prog.info? 82).map (·.size) = some Y.size) := by show _ = _; rw [hys]; exact info_sec
  have HC : Hid (Y.all (·.oneCell') = true) := by show _ = _; rw [hY]; exact all_oneCell_toArray (secL_one _ _)
  have HYL : Hid (Y.toList = secL (padL t) false) := by show _ = _; rw [hY]
  have HT2 : Hid (wd.there (g + 2 + d) (i * 65) Y.size) := by show World.there _ _ _ _; rw [hys]; exact hAd.st d i hd hi
  have hld : (Instr.loadAt 82 (.pointer (some ⟨w9.heap.size, 0, none⟩))).run Try.prog wd = .ok (.agg Y) wd := by
    rw [hY]
    exact run_loadAt_mid wd w9.heap.size 0 82 _ _ RD Try.underlying82 rfl (by rw [secL_length _ _ hp64]; exact info_sec)
  obtain ⟨W3, hW3⟩ : ∃ W3, W3 = wd.setCells (g + 2 + d) (i * 65) (secL (padL t) false) := ⟨_, rfl⟩
  have hA3 : RackAt g (s.put d i (padL t) false) W3 := by rw [hW3]; exact hAd.put d i (padL t) false hd hi hp64 _ rfl
  have HO3 : Hid (Only g (g + 2 + s.n) w W3) := by show Only _ _ _ _; rw [hW3]; exact Only.setCells _ (by omega) (by omega) _ _ (KD.out.only _ _)
  have HA3 := Lib.hid hA3
  have HAD := Lib.hid hAd
  have HW3 := Lib.hid hW3
  clear hAd hA3 hW3 RD R1 hY hp64 hys
  refine wp_region_still_tail 11 (by kernel_rfl) (by kernel_rfl) ?_
  simp only [List.take_succ_cons, List.take_zero, List.drop_succ_cons, List.drop_zero]
  change wpStill _ _ W1.drew (fun a' => wpList _ _ _ _ a' W1.drew) _ _
  rw [hwd]
  clear hwd
  have HLD := Lib.hid hld
  clear hld
  iterate 9 still_step
  refine still_load rfl 82 _ rfl (.agg Y) HLD.out ?_
  go_simp
  still_step
  refine wpStill_nil ?_
  have e0 : W3.cell? ⟨g + 1, 0, none⟩ = some (.slice (some ⟨g, 0, none⟩) s.n s.n) := HA3.out.c0
  have e1 : W3.cell? ⟨g, d * 2 + 1, none⟩ = some (.int .u64 (s.cnt d : Nat)) := HA3.out.dw d hd
  have ef := HA3.out.fw d hd
  have e2 : W3.cell? ⟨g + 1, 1, none⟩ = some (.bool s.cut) := HA3.out.c1
  have e3 : W3.cell? ⟨g + 1, 2, none⟩ = some (.int .i64 (s.left : Nat)) := HA3.out.c2
  have eg := HA3.out.f2
  have hw := wrap_inc (s.cnt d)
  have HI := Lib.hid (HA3.out.inc d hd _ rfl)
  have HWI := Lib.hid hw
  cases hcut : s.cut
  · have HE := Lib.hid (s.wr_free d i (padL t) hcut)
    rw [hcut] at e2
    clear hcut hdn
    go_wp2_with (first | ((with_reducible refine wpList_store_mid rfl 82 _ _ rfl (g + 2 + d) (i * 65) Y rfl rfl HT2.out HYS.out HC.out ?_); rw [HYL.out, ← HW3.out]; clear HYL HW3 HT2 HYS HC))
    go_ret
    rw [HE.out]
    exact ⟨rfl, HI.out, HO3.out.setCell _ _ (by simp <;> omega) (by simp <;> omega)⟩
  · have HE := Lib.hid (s.wr_cut d i (padL t) hcut)
    rw [hcut] at e2
    have hl : 1 ≤ s.left := by
      unfold RSt.down at hdn
      rw [hcut] at hdn
      simp at hdn
      omega
    have hl2 := HAD.out.wf.left
    have hsub : ((s.left : Int) - 1) = ((s.left - 1 : Nat) : Int) := by omega
    clear hcut hdn
    go_wp2_with (first | ((with_reducible refine wpList_store_mid rfl 82 _ _ rfl (g + 2 + d) (i * 65) Y rfl rfl HT2.out HYS.out HC.out ?_); rw [HYL.out, ← HW3.out]; clear HYL HW3 HT2 HYS HC))
    go_ret
    rw [HE.out]
    exact ⟨rfl, HI.out.left (s.left - 1) (by omega), (HO3.out.setCell _ _ (by simp <;> omega) (by simp <;> omega)).setCell _ _ (by simp <;> omega) (by simp <;> omega)⟩
end Go.Proofs.Ytnfehfmmpjbgdaa
