/- What the program's rack does: a wipe, a read, how many writes. -/
import Derived.Test.YtmgkkoajjdgmbaaGreatDoorPart17
import Derived.Lib.LazyBuf
set_option linter.unusedVariables false
set_option linter.unusedSimpArgs false
set_option linter.unusedSectionVars false
set_option linter.unnecessarySimpa false
set_option linter.deprecated false
namespace Go.Proofs.YtmgkkoajjdgmbaaGreatDoor
open Go.RowKit
set_option linter.unusedVariables false
/-- The cells of n sectors that are 0. -/
def wiped (n : Nat) : List Value := (Builtin.zeroCells (secL zero64 false).toArray n).toList
theorem sec0_size : (secL zero64 false).toArray.size = 65 := by kernel_rfl
theorem wiped_length (n : Nat) : (wiped n).length = n * 65 := by
  unfold wiped Builtin.zeroCells
  rw [sec0_size]
  simp
theorem wiped_get (n i j : Nat) (hi : i < n) (hj : j < 65) : (wiped n)[i * 65 + j]? = (secL zero64 false)[j]? := by
  have hl : i * 65 + j < (wiped n).length := by rw [wiped_length]; omega
  unfold wiped Builtin.zeroCells at *
  rw [sec0_size] at *
  have hm : (i * 65 + j) % 65 = j := by omega
  rw [Array.getElem?_toList]
  rw [Array.getElem?_map]
  have hr : (Array.range (n * 65))[i * 65 + j]? = some (i * 65 + j) := by
    rw [Array.getElem?_eq_getElem (by simp; omega)]
    simp
  rw [hr]
  have h65 : (secL zero64 false).length = 65 := secL_length _ _ zero64_length
  rw [List.getElem?_eq_getElem (show j < (secL zero64 false).length by omega)]
  show some ((secL zero64 false).toArray[(i * 65 + j) % 65]!) = some _
  rw [hm, getElem!_pos (secL zero64 false).toArray j (by rw [sec0_size]; exact hj)]
  rfl
theorem wiped_one (n : Nat) : ∀ v ∈ wiped n, v.oneCell' = true := by
  intro v hv
  obtain ⟨k, hk, rfl⟩ := List.getElem_of_mem hv
  rw [wiped_length] at hk
  have h := wiped_get n (k / 65) (k % 65) (by omega) (by omega)
  rw [show k / 65 * 65 + k % 65 = k by omega, List.getElem?_eq_getElem (by rw [wiped_length]; omega)] at h
  exact secL_one _ _ _ (List.mem_of_getElem? h.symm)
theorem RackAt.has_cells {g : Nat} {s : RSt} {w : World} (h : RackAt g s w) {d : Nat} (hd : d < s.n) : w.there (g + 2 + d) 0 (s.m * 65) := by
  intro j hj
  have h2 := h.st d (j / 65) hd (by omega) (j % 65) (by omega)
  rw [show j / 65 * 65 + j % 65 = 0 + j by omega] at h2
  exact h2
/-- A drive is wiped. -/
theorem RackAt.wiped {g : Nat} {s : RSt} {w : World} (h : RackAt g s w) (d : Nat) (hd : d < s.n) : RackAt g (s.wipe d) (w.setCells (g + 2 + d) 0 (wiped s.m)) := by
  have n1 := h.wf.n1
  have ht := h.has_cells hd
  have ce : ∀ k o, k < g + 2 → (w.setCells (g + 2 + d) 0 (Go.Proofs.YtmgkkoajjdgmbaaGreatDoor.wiped s.m)).cell? ⟨k, o, none⟩ = w.cell? ⟨k, o, none⟩ := fun k o hk =>
    World.cell?_setCells_out _ _ _ _ ⟨k, o, none⟩ (fun hb _ => absurd hb (by simp; omega))
  refine ⟨h.wf.wipe d, ?_, ?_, ?_, ?_, ?_, fun d' hd' => ?_, fun d' hd' => ?_, fun d' hd' => ?_, fun d' i' hd' hi' => ?_, fun d' i' hd' hi' => ?_⟩
  · rw [ce _ _ (by omega)]; exact h.c0
  · rw [ce _ _ (by omega)]; exact h.c1
  · rw [ce _ _ (by omega)]; exact h.c2
  · rw [World.frozen?_setCells]; exact h.f1
  · rw [World.frozen?_setCells]; exact h.f2
  · rw [ce _ _ (by omega)]; exact h.ds d' hd'
  · rw [ce _ _ (by omega)]; exact h.dw d' hd'
  · rw [World.frozen?_setCells]; exact h.fw d' hd'
  · show World.rangeAt _ _ _ (secL (if (if d' = d then false else s.bad d' i') then zero64 else if d' = d then zero64 else s.T d' i') (if d' = d then false else s.bad d' i'))
    by_cases e : d' = d
    · subst e
      rw [if_pos rfl, if_pos rfl, if_neg (by decide)]
      intro j v hj
      have hj65 : j < 65 := by
        have := (List.getElem?_eq_some_iff.1 hj).1
        rw [secL_length _ _ zero64_length] at this; exact this
      have hi2 : i' < s.m := hi'
      have hk : i' * 65 + j < (Go.Proofs.YtmgkkoajjdgmbaaGreatDoor.wiped s.m).length := by rw [wiped_length]; omega
      have := World.cell?_setCells_in (g + 2 + d') (Go.Proofs.YtmgkkoajjdgmbaaGreatDoor.wiped s.m) 0 w (fun q hq => (ht q (by rw [wiped_length] at hq; exact hq)).1) (i' * 65 + j) hk
      rw [Nat.zero_add] at this
      rw [this, ← List.getElem?_eq_getElem hk, wiped_get _ _ _ hi2 hj65, hj]
    · rw [if_neg e, if_neg e]
      exact World.rangeAt_setCells_apart (h.sr d' i' hd' hi') _ _ _ (.inl (by omega))
  · exact World.there_setCells (h.st d' i' hd' hi') _ _ _
theorem run_clear_sec (w : World) (ty : TypeId) (b n c : Nat) (hn : 0 < n) (ht : w.there b 0 (n * 65)) :
    (Builtin.clear_ #[75] ty #[.slice (some ⟨b, 0, none⟩) n c]).run Tryz.prog w = .ok (.tuple #[]) (w.setCells b 0 (wiped n)) := by
  have hst := run_storeCells_cells (P := Tryz.prog) b 0 (wiped n) 0 w (fun j hj => by rw [wiped_length] at hj; simpa using (ht j hj).1) (fun j hj => by rw [wiped_length] at hj; simpa using (ht j hj).2) (wiped_one n)
  obtain ⟨m, rfl⟩ : ∃ m, n = m + 1 := ⟨n - 1, by omega⟩
  have hz := zero_sec
  unfold wiped at *
  generalize secL zero64 false = Z at *
  simp only [Nat.add_zero] at hst
  have hu := run_underlying (P := Tryz.prog) Tryz.underlying75
  simp [Builtin.clear_, hu, hz, Value.cells, hst]
set_option maxHeartbeats 1000000 in
set_option maxRecDepth 100000 in
theorem pWipe_ok (g : Nat) (s : RSt) (d : Nat) (hd : d < s.n) (w : World) (hR : RackAt g s w) :
    Calls Tryz.prog 26 #[.pointer (some ⟨g + 1, 0, none⟩), .int .i64 (d : Nat)] w fun r w' => r = .returned (.int .i64 0) ∧ RackAt g (s.wipe d) w' ∧ Only g (g + 2 + s.n) w w' := by
  have hd1 : -9223372036854775808 ≤ (d : Int) := by omega
  have hd2 : (d : Int) ≤ 9223372036854775807 := by have := hR.wf.n2; omega
  have hmf : ∀ (fn : Fn) (first cap : Array Value) (w : World), (Instr.makeFunc fn first cap).run Tryz.prog w = .ok (.func fn first cap) w := fun _ _ _ _ => rfl
  obtain ⟨n, hn⟩ : ∃ n, n = s.n := ⟨_, rfl⟩
  obtain ⟨p, hpe⟩ : ∃ p, p = some (⟨g + 1, 0, none⟩ : Addr) := ⟨_, rfl⟩
  have hp : (p = none ∧ n = 0) ∨ (p = some ⟨g + 1, 0, none⟩ ∧ n = s.n ∧ RackAt g s w) := .inr ⟨hpe, hn, hR⟩
  have h1 : noneE n = 0 := if_neg (by have := hR.wf.n1; omega)
  have he : or2 (noneE n) (drvE n d) = 0 := by
    rw [h1, hn, show drvE s.n d = 0 from if_pos ⟨by omega, by omega⟩]; rfl
  have HRK := Lib.hid hR
  clear h1 hn hR
  rw [← hpe]
  have HPE := Lib.hid hpe
  clear hpe
  have HH : Hid (Has p n w) := by
    rcases hp with ⟨rfl, rfl⟩ | ⟨rfl, rfl, hR⟩
    · exact .inl ⟨rfl, rfl⟩
    · exact hR.has
  have HP : Hid (noneE n = 0 → p = some ⟨g + 1, 0, none⟩ ∧ RackAt g s w) := fun hz => by
    rcases hp with ⟨rfl, rfl⟩ | ⟨rfl, rfl, hR⟩
    · cases hz
    · exact ⟨rfl, hR⟩
  have HN : Hid (n ≤ 1000) := by
    show _ ≤ _
    rcases hp with ⟨rfl, rfl⟩ | ⟨rfl, rfl, hR⟩
    · omega
    · have := hR.wf.n2; omega
  clear hp
  go_enter Tryz.func26, Tryz.ntmps26
  go_wp2_with fail
  refine (none_any _ n _ HH.out).mono ?_
  rintro e w1 ⟨j0, caps0, rfl, hf, hk⟩
  have F0 := Lib.hid hf
  have K0 := Lib.hid hk
  clear hf hk
  go_wp2_with fail
  refine (noDrive_any _ n d _ HN.out hd1 hd2 (HH.out.kept K0.out)).mono ?_
  rintro e w2 ⟨j1, caps1, rfl, hf, hk⟩
  have F1 := Lib.hid hf
  have K1 : Hid (Kept w w2) := K0.out.trans hk
  have L1 := Lib.hid hk
  clear hf hk
  go_wp2_with fail
  refine (first2 w2.heap.size (.func (.func j0) #[] caps0) (.func (.func j1) #[] caps1) (noneE n) (drvE n d) _ (by rw [World.cell?_alloc_mark]; rfl) (by rw [World.cell?_alloc_mark]; rfl) (F0.out.kept (((Kept.refl _).trans L1.out).alloc _)) (fun z0 => F1.out.kept ((Kept.refl _).alloc _))).mono ?_
  rintro x w9 ⟨rfl, hk⟩
  have K9 : Hid (Kept w w9) := (K1.out.trans ((Kept.refl _).alloc _)).trans hk
  rw [he]
  clear hk
  have hR9 := HRK.out.kept K9.out
  have c0 := hR9.c0
  have c1 := hR9.ds d hd
  have n2 := hR9.wf.n2
  have m2 := hR9.wf.m2
  have n1 := hR9.wf.n1
  have hcl := fun ty => run_clear_sec w9 ty (g + 2 + d) s.m s.m (by have := hR9.wf.m1; omega) (hR9.has_cells hd)
  have HA := Lib.hid (hR9.wiped d hd)
  have HO : Hid (Only g (g + 2 + s.n) w (w9.setCells (g + 2 + d) 0 (wiped s.m))) := Only.setCells _ (by omega) (by omega) _ _ (K9.out.only _ _)
  have hpe := HPE.out
  subst hpe
  clear hR9
  go_wp2_with fail
  go_ret
  exact ⟨rfl, HA.out, HO.out⟩
/-- The bytes of a sector, as a text. -/
theorem sec_text (b o : Nat) (l : List UInt8) (x : Bool) (w : World) (hl : l.length = 64) (h : w.rangeAt b o (secL l x)) :
    (convert 24 9 (.slice (some ⟨b, o, none⟩) 64 64)).run Tryz.prog w = .ok (.string ⟨l.toArray⟩) w := by
  have hr := run_convert_bytes_back (P := Tryz.prog) w 24 9 5 ⟨b, o, none⟩ 64 l Tryz.underlying24 Tryz.underlying5 Tryz.underlying9 (fun j hj => by
    rw [Addr.add_mid]
    refine h j _ ?_
    unfold secL
    rw [List.getElem?_append_left (by rw [List.length_map]; exact hj), List.getElem?_map, List.getElem?_eq_getElem hj]
    rfl)
  rw [hl] at hr
  exact hr
set_option maxHeartbeats 1000000 in
set_option maxRecDepth 100000 in
theorem pRead_ok (g : Nat) (s : RSt) (d i : Nat) (hd : d < s.n) (hi : i < s.m) (hdn : s.down = false) (hb : s.bad d i = false) (w : World) (hR : RackAt g s w) :
    Calls Tryz.prog 76 #[.pointer (some ⟨g + 1, 0, none⟩), .int .i64 (d : Nat), .int .i64 (i : Nat)] w fun r w' => r = .returned (.tuple #[.string ⟨(s.T d i).toArray⟩, .int .i64 0]) ∧ Kept w w' := by
  have hd1 : -9223372036854775808 ≤ (d : Int) := by omega
  have hd2 : (d : Int) ≤ 9223372036854775807 := by have := hR.wf.n2; omega
  have hi1 : -9223372036854775808 ≤ (i : Int) := by omega
  have hi2 : (i : Int) ≤ 9223372036854775807 := by have := hR.wf.m2; omega
  have hmf : ∀ (fn : Fn) (first cap : Array Value) (w : World), (Instr.makeFunc fn first cap).run Tryz.prog w = .ok (.func fn first cap) w := fun _ _ _ _ => rfl
  obtain ⟨n, hn⟩ : ∃ n, n = s.n := ⟨_, rfl⟩
  obtain ⟨p, hpe⟩ : ∃ p, p = some (⟨g + 1, 0, none⟩ : Addr) := ⟨_, rfl⟩
  have hp : (p = none ∧ n = 0) ∨ (p = some ⟨g + 1, 0, none⟩ ∧ n = s.n ∧ RackAt g s w) := .inr ⟨hpe, hn, hR⟩
  have h1 : noneE n = 0 := if_neg (by have := hR.wf.n1; omega)
  have he : or2 (or2 (or2 (noneE n) (ifE s.down 71)) (secE s d i)) (ifE (s.bad (d : Int).toNat (i : Int).toNat) 72) = 0 := by
    rw [h1, hdn, Int.toNat_natCast, Int.toNat_natCast, hb, show secE s d i = 0 from if_pos (decide_eq_true ⟨by omega, by omega, by omega, by omega⟩)]; rfl
  have HRK := Lib.hid hR
  clear h1 hn hR
  rw [← hpe]
  have HPE := Lib.hid hpe
  clear hpe
  have HH : Hid (Has p n w) := by
    rcases hp with ⟨rfl, rfl⟩ | ⟨rfl, rfl, hR⟩
    · exact .inl ⟨rfl, rfl⟩
    · exact hR.has
  have HP : Hid (noneE n = 0 → p = some ⟨g + 1, 0, none⟩ ∧ RackAt g s w) := fun hz => by
    rcases hp with ⟨rfl, rfl⟩ | ⟨rfl, rfl, hR⟩
    · cases hz
    · exact ⟨rfl, hR⟩
  have HN : Hid (n ≤ 1000) := by
    show _ ≤ _
    rcases hp with ⟨rfl, rfl⟩ | ⟨rfl, rfl, hR⟩
    · omega
    · have := hR.wf.n2; omega
  clear hp
  go_enter Tryz.func76, Tryz.ntmps76
  go_wp2_with fail
  refine (none_any _ n _ HH.out).mono ?_
  rintro e w1 ⟨j0, caps0, rfl, hf, hk⟩
  have F0 := Lib.hid hf
  have K0 := Lib.hid hk
  clear hf hk
  go_wp2_with fail
  refine (still_any g s _ _).mono ?_
  rintro e w2 ⟨j1, caps1, rfl, hf, hk⟩
  have F1 := Lib.hid hf
  have K1 : Hid (Kept w w2) := K0.out.trans hk
  have L1 := Lib.hid hk
  clear hf hk
  go_wp2_with fail
  refine (noSector_any g s _ d i _ hd1 hd2 hi1 hi2).mono ?_
  rintro e w3 ⟨j2, caps2, rfl, hf, hk⟩
  have F2 := Lib.hid hf
  have K2 : Hid (Kept w w3) := K1.out.trans hk
  have L2 := Lib.hid hk
  clear hf hk
  go_wp2_with fail
  refine (spoilt_any g s _ d i _).mono ?_
  rintro e w4 ⟨j3, caps3, rfl, hf, hk⟩
  have F3 := Lib.hid hf
  have K3 : Hid (Kept w w4) := K2.out.trans hk
  have L3 := Lib.hid hk
  clear hf hk
  go_wp2_with fail
  refine (first4 w4.heap.size (.func (.func j0) #[] caps0) (.func (.func j1) #[] caps1) (.func (.func j2) #[] caps2) (.func (.func j3) #[] caps3) (noneE n) (ifE s.down 71) (secE s d i) (ifE (s.bad (d : Int).toNat (i : Int).toNat) 72) _ (by rw [World.cell?_alloc_mark]; rfl) (by rw [World.cell?_alloc_mark]; rfl) (by rw [World.cell?_alloc_mark]; rfl) (by rw [World.cell?_alloc_mark]; rfl) (F0.out.kept (((((Kept.refl _).trans L1.out).trans L2.out).trans L3.out).alloc _)) (fun z0 => (F1.out (HP.out z0).1 ((HP.out z0).2.kept K0.out)).kept ((((Kept.refl _).trans L2.out).trans L3.out).alloc _)) (fun z0 z1 => (F2.out (HP.out z0).1 ((HP.out z0).2.kept K1.out)).kept (((Kept.refl _).trans L3.out).alloc _)) (fun z0 z1 z2 => (F3.out (HP.out z0).1 ((HP.out z0).2.kept K2.out) (secE_there z2)).kept ((Kept.refl _).alloc _))).mono ?_
  rintro x w9 ⟨rfl, hk⟩
  have K9 : Hid (Kept w w9) := (K3.out.trans ((Kept.refl _).alloc _)).trans hk
  rw [he]
  clear hk
  have hR9 := HRK.out.kept K9.out
  have c0 := hR9.c0
  have c1 := hR9.ds d hd
  have hsr := hR9.sr d i hd hi
  rw [show s.shown d i = s.T d i from by unfold RSt.shown; rw [hb]; rfl] at hsr
  have hcv := sec_text (g + 2 + d) (i * 65) (s.T d i) _ w9 (hR9.wf.len d i hd hi) hsr
  have n2 := hR9.wf.n2
  have m2 := hR9.wf.m2
  have hpe := HPE.out
  subst hpe
  clear hR9 hsr hb hdn
  go_wp2_with fail
  go_ret2
  exact ⟨rfl, K9.out⟩
end Go.Proofs.YtmgkkoajjdgmbaaGreatDoor
