/- RackAll, RackAny. -/
import Derived.Test.YtoekaabngjjefaaGreatPart19
import Derived.Test.YtoekaabngjjefaaGreatPart12
/- All bytes of a drive. -/
namespace Go.Proofs.YtoekaabngjjefaaGreat
open Go.RowKit
set_option linter.unusedVariables false
theorem allTo_length {s : RSt} (h : s.Wf) (d : Nat) (hd : d < s.n) : ∀ k, k ≤ s.m → (s.allTo d k).length = k * 64
  | 0, _ => by simp [RSt.allTo]
  | k + 1, hk => by
    unfold RSt.allTo
    rw [List.length_append, allTo_length h d hd k (by omega), h.shown hd (by omega)]
    omega
theorem sec_news {b o : Nat} {l : List UInt8} {x : Bool} {w : World} (h : w.rangeAt b o (secL l x)) : ∀ j u, (Lib.byteCells l)[j]? = some u → w.cell? ((⟨b, o, none⟩ : Addr).add j) = some u := by
  intro j u hj
  rw [Addr.add_mid]
  refine h j u ?_
  unfold secL
  have hlt : j < (Lib.byteCells l).length := (List.getElem?_eq_some_iff.1 hj).1
  rw [Lib.byteCells_length] at hlt
  rw [List.getElem?_append_left (by rw [List.length_map]; exact hlt)]
  exact hj
set_option maxHeartbeats 1000000 in
set_option maxRecDepth 100000 in
theorem pAll_bad (g n : Nat) (s : RSt) (p : Option Addr) (d : Int) (hd1 : -9223372036854775808 ≤ d) (hd2 : d ≤ 9223372036854775807) (w : World) (hp : Has p n w) (hn : n ≤ 1000) (h : ¬ (0 ≤ d ∧ d < n)) :
    Calls Tryz.prog 13 #[.pointer p, .int .i64 d] w fun r w' => r = .returned (.string ⟨#[]⟩) ∧ Kept w w' := by
  have hmf : ∀ (fn : Fn) (first cap : Array Value) (w : World), (Instr.makeFunc fn first cap).run Tryz.prog w = .ok (.func fn first cap) w := fun _ _ _ _ => rfl
  have HH := Lib.hid hp
  have HN := Lib.hid hn
  have HE : Hid (drvE n d = 70) := if_neg h
  clear hp h hn
  go_enter Tryz.func13, Tryz.ntmps13
  go_wp2_with fail
  refine (noDrive_any _ n d _ HN.out hd1 hd2 HH.out).mono ?_
  rintro e w1 ⟨j0, caps0, rfl, hf, hk⟩
  have F0 := Lib.hid hf
  have K0 := Lib.hid hk
  clear hf hk
  go_wp2_with fail
  refine (first1 w1.heap.size (.func (.func j0) #[] caps0) (drvE n d) _ (by rw [World.cell?_alloc_mark]; rfl) (F0.out.kept ((Kept.refl _).alloc _))).mono ?_
  rintro x w9 ⟨rfl, hk⟩
  have K9 : Hid (Kept w w9) := (K0.out.trans ((Kept.refl _).alloc _)).trans hk
  rw [HE.out]
  clear hk
  go_wp2_with fail
  go_ret
  exact ⟨rfl, K9.out⟩
set_option maxHeartbeats 2000000 in
set_option maxRecDepth 100000 in
theorem pAll_ok (g : Nat) (s : RSt) (d : Nat) (hd : d < s.n) (w : World) (hR : RackAt g s w) :
    Calls Tryz.prog 13 #[.pointer (some ⟨g + 1, 0, none⟩), .int .i64 (d : Nat)] w fun r w' => r = .returned (.string ⟨(s.allTo d s.m).toArray⟩) ∧ Kept w w' := by
  have hmf : ∀ (fn : Fn) (first cap : Array Value) (w : World), (Instr.makeFunc fn first cap).run Tryz.prog w = .ok (.func fn first cap) w := fun _ _ _ _ => rfl
  have HR := Lib.hid hR
  have n2 := hR.wf.n2
  have m2 := hR.wf.m2
  have m1 := hR.wf.m1
  have HE : Hid (drvE s.n d = 0) := if_pos ⟨by omega, by omega⟩
  clear hR
  go_enter Tryz.func13, Tryz.ntmps13
  go_wp2_with fail
  refine (noDrive_any _ s.n d _ (by omega) (by omega) (by omega) HR.out.has).mono ?_
  rintro e w1 ⟨j0, caps0, rfl, hf, hk⟩
  have F0 := Lib.hid hf
  have K0 := Lib.hid hk
  clear hf hk
  go_wp2_with fail
  refine (first1 w1.heap.size (.func (.func j0) #[] caps0) (drvE s.n d) _ (by rw [World.cell?_alloc_mark]; rfl) (F0.out.kept ((Kept.refl _).alloc _))).mono ?_
  rintro x w9 ⟨rfl, hk⟩
  have K9 : Hid (Kept w w9) := (K0.out.trans ((Kept.refl _).alloc _)).trans hk
  rw [HE.out]
  clear hk
  go_wp2_with fail
  refine (sectors_any g s _ (HR.out.kept (K9.out.alloc _))).mono ?_
  rintro e w10 ⟨rfl, hk⟩
  have hbk : w10.heap[w9.heap.size]? = some (.cells #[.pointer none, .slice none 0 0] 98 (0, 0)) := by
    rw [hk.block w9.heap.size (by rw [size_alloc]; omega)]
    exact heap_alloc_new _ _
  have K10 : Hid (Kept w9 w10) := ((Kept.refl _).alloc _).trans hk
  have HBK := Lib.hid hbk
  clear hk hbk
  go_wp2_with fail
  have hgr := bld_grow w9.heap.size w9.heap.size (s.m * 64) w10 (Nat.le_refl _) HBK.out K10.out.size (by omega) (by omega)
  rw [show ((s.m * 64 : Nat) : Int) = (s.m : Int) * 64 from by omega] at hgr
  refine hgr.mono ?_
  clear hgr
  rintro e w11 ⟨rfl, hb, hk⟩
  have K11 : Hid (Kept w9 w11) := Below.trans K10.out hk
  have HB := Lib.hid hb
  have hA := HR.out.kept (K9.out.trans K11.out)
  have c0 := hA.c0
  have c1 := hA.ds d hd
  have HLT : Hid (g + 2 + s.n ≤ w9.heap.size) := (HR.out.kept K9.out).lt
  clear hk hb hA HBK
  go_wp2_with fail
  go_loopw [26] (fun i wr => ∃ k : Nat, k ≤ s.m ∧ i = .int .i64 k ∧ Kept w9 wr ∧ Bld w9.heap.size w9.heap.size (s.allTo d k) wr) (fun i _ => s.m - (intOf i).toNat)
  case atStart => exact ⟨0, Nat.zero_le _, rfl, K11.out, HB.out⟩
  case round =>
    obtain ⟨k, hk, rfl, hK, hB⟩ := hrel
    have hA := HR.out.kept (K9.out.trans hK)
    have HKR := Lib.hid hK
    have HBR := Lib.hid hB
    by_cases hlt : k < s.m
    · have c2 := hA.c0
      have c3 := hA.ds d hd
      have HNW := Lib.hid (sec_news (hA.sr d k hd hlt))
      have hsl := hA.wf.shown hd hlt
      have hal := allTo_length hA.wf d hd k (by omega)
      have HLN : Hid ((s.allTo d k).length + 64 ≤ 140737488355328) := by show _ ≤ _; omega
      have HSL := Lib.hid hsl
      clear hK hB hA c0 c1 hsl hal
      go_wp2_with fail
      refine (bld_bytes w9.heap.size w9.heap.size (s.allTo d k) _ 64 64 (s.shown d k) _ HBR.out HSL.out HNW.out (by have := HLT.out; show g + 2 + d < _; omega) HLN.out HKR.out.size).mono ?_
      rintro e w12 ⟨rfl, hb, hk2⟩
      have HB2 : Hid (Bld w9.heap.size w9.heap.size (s.allTo d (k + 1)) w12) := hb
      have HK2 : Hid (Kept w9 w12) := Below.trans HKR.out hk2
      clear hb hk2
      go_wp2_with fail
      exact ⟨⟨k + 1, by omega, by go_num, HK2.out, HB2.out⟩, by simp [intOf]; omega⟩
    · obtain rfl : k = s.m := by omega
      clear hK hB hA c0 c1
      go_wp2_with fail
      refine (bld_string w9.heap.size w9.heap.size (s.allTo d s.m) _ HBR.out HKR.out.size).mono ?_
      rintro e w12 ⟨rfl, hk2⟩
      have HK2 : Hid (Kept w w12) := K9.out.trans (Below.trans HKR.out hk2)
      clear hk2
      go_wp2_with fail
      go_ret
      exact ⟨rfl, HK2.out⟩
end Go.Proofs.YtoekaabngjjefaaGreat

/- What the program's rack answers, whatever is asked. -/
namespace Go.Proofs.YtoekaabngjjefaaGreat
open Go.RowKit
set_option linter.unusedVariables false
theorem there_of (s : RSt) (d i : Int) : secE s d i = if s.there d i = false then 70 else 0 := by
  unfold secE
  cases s.there d i <;> rfl
theorem write_code (s : RSt) (h : s.Wf) (d i : Int) (t : ByteArray) : or2 (or2 (or2 (noneE s.n) (secE s d i)) (longE t)) (ifE s.down 71) = s.writeE d i t := by
  have h1 : noneE s.n = 0 := if_neg (by have := h.n1; omega)
  rw [h1, there_of]
  unfold RSt.writeE longE ifE or2
  cases s.there d i <;> cases s.down <;> by_cases h2 : 64 < t.size <;> simp [h2]
theorem read_code (s : RSt) (h : s.Wf) (d i : Int) : or2 (or2 (or2 (noneE s.n) (ifE s.down 71)) (secE s d i)) (ifE (s.bad d.toNat i.toNat) 72) = s.readE d i := by
  have h1 : noneE s.n = 0 := if_neg (by have := h.n1; omega)
  rw [h1, there_of]
  unfold RSt.readE ifE or2
  cases s.there d i <;> cases s.down <;> cases s.bad d.toNat i.toNat <;> rfl
theorem write_any (g : Nat) (s : RSt) (d i : Int) (hd1 : -9223372036854775808 ≤ d) (hd2 : d ≤ 9223372036854775807) (hi1 : -9223372036854775808 ≤ i) (hi2 : i ≤ 9223372036854775807) (t : ByteArray) (ht : t.size ≤ 9223372036854775807) (w : World) (hR : RackAt g s w) :
    Calls Tryz.prog 25 #[.pointer (some ⟨g + 1, 0, none⟩), .int .i64 d, .int .i64 i, .string t] w fun r w' => r = .returned (.int .i64 (s.writeE d i t : Nat)) ∧ RackAt g (s.writeS d i t) w' ∧ Only g (g + 2 + s.n) w w' := by
  by_cases he : s.writeE d i t = 0
  · have h1 : s.there d i = true := by
      unfold RSt.writeE at he
      split at he
      · cases he
      · rename_i h; cases h2 : s.there d i
        · exact absurd h2 h
        · rfl
    have h2 : t.size ≤ 64 := by
      unfold RSt.writeE at he
      rw [if_neg (by rw [h1]; decide)] at he
      split at he
      · cases he
      · omega
    have h3 : s.down = false := by
      unfold RSt.writeE at he
      rw [if_neg (by rw [h1]; decide), if_neg (by omega)] at he
      split at he
      · cases he
      · rename_i h; simpa using h
    have hs : s.writeS d i t = s.wr d.toNat i.toNat (padL t) := if_pos he
    rw [he, hs]
    obtain ⟨d', i', rfl, rfl, hd, hi⟩ := RSt.there_iff h1
    rw [Int.toNat_natCast, Int.toNat_natCast]
    exact pWrite_ok g s d' i' hd hi t h2 h3 w hR
  · have hs : s.writeS d i t = s := if_neg he
    rw [hs]
    refine (pWrite_bad g s.n s (some ⟨g + 1, 0, none⟩) d i hd1 hd2 hi1 hi2 t ht (s.writeE d i t) w (.inr ⟨rfl, rfl, hR⟩) (write_code s hR.wf d i t) he).mono ?_
    rintro r w' ⟨rfl, hk⟩
    exact ⟨rfl, hR.kept hk, hk.only _ _⟩
theorem read_any (g : Nat) (s : RSt) (d i : Int) (hd1 : -9223372036854775808 ≤ d) (hd2 : d ≤ 9223372036854775807) (hi1 : -9223372036854775808 ≤ i) (hi2 : i ≤ 9223372036854775807) (w : World) (hR : RackAt g s w) :
    Calls Tryz.prog 35 #[.pointer (some ⟨g + 1, 0, none⟩), .int .i64 d, .int .i64 i] w fun r w' => r = .returned (.tuple #[.string (s.readT d i), .int .i64 (s.readE d i : Nat)]) ∧ Kept w w' := by
  by_cases he : s.readE d i = 0
  · have h1 : s.down = false := by
      unfold RSt.readE at he
      split at he
      · cases he
      · rename_i h; simpa using h
    have h2 : s.there d i = true := by
      unfold RSt.readE at he
      rw [if_neg (by rw [h1]; decide)] at he
      split at he
      · cases he
      · rename_i h; cases h2 : s.there d i
        · exact absurd h2 h
        · rfl
    have h3 : s.bad d.toNat i.toNat = false := by
      unfold RSt.readE at he
      rw [if_neg (by rw [h1]; decide), if_neg (by rw [h2]; decide)] at he
      split at he
      · cases he
      · rename_i h; simpa using h
    have hs : s.readT d i = ⟨(s.T d.toNat i.toNat).toArray⟩ := if_pos he
    rw [he, hs]
    obtain ⟨d', i', rfl, rfl, hd, hi⟩ := RSt.there_iff h2
    rw [Int.toNat_natCast, Int.toNat_natCast] at *
    exact pRead_ok g s d' i' hd hi h1 h3 w hR
  · have hs : s.readT d i = ByteArray.empty := if_neg he
    rw [hs]
    exact pRead_bad g s.n s (some ⟨g + 1, 0, none⟩) d i hd1 hd2 hi1 hi2 (s.readE d i) w (.inr ⟨rfl, rfl, hR⟩) (read_code s hR.wf d i) he
theorem cut_any (g : Nat) (s : RSt) (k : Int) (hk1 : -9223372036854775808 ≤ k) (hk2 : k ≤ 9223372036854775807) (w : World) (hR : RackAt g s w) :
    Calls Tryz.prog 17 #[.pointer (some ⟨g + 1, 0, none⟩), .int .i64 k] w fun r w' => r = .returned (.int .i64 (RSt.cutE k : Nat)) ∧ RackAt g (s.cutS k) w' ∧ Only g (g + 2 + s.n) w w' := by
  have h1 : noneE s.n = 0 := if_neg (by have := hR.wf.n1; omega)
  by_cases h : k < 0
  · have he : RSt.cutE k = 2 := if_pos h
    have hs : s.cutS k = s := if_pos h
    rw [hs]
    refine (pCut_bad g s.n s (some ⟨g + 1, 0, none⟩) k hk1 hk2 (RSt.cutE k) w (.inr ⟨rfl, rfl, hR⟩) (by rw [h1]; rfl) (by omega)).mono ?_
    rintro r w' ⟨rfl, hk⟩
    exact ⟨rfl, hR.kept hk, hk.only _ _⟩
  · have he : RSt.cutE k = 0 := if_neg h
    have hs : s.cutS k = s.lim true k.toNat := if_neg h
    obtain ⟨k', rfl⟩ : ∃ k' : Nat, k = k' := ⟨k.toNat, by omega⟩
    rw [hs, he]
    exact pCut_ok g s k' (by omega) w hR
theorem lift_any (g : Nat) (s : RSt) (w : World) (hR : RackAt g s w) :
    Calls Tryz.prog 18 #[.pointer (some ⟨g + 1, 0, none⟩)] w fun r w' => r = .returned (.int .i64 0) ∧ RackAt g s.liftS w' ∧ Only g (g + 2 + s.n) w w' := pLift_ok g s w hR
theorem wipe_any (g : Nat) (s : RSt) (d : Int) (hd1 : -9223372036854775808 ≤ d) (hd2 : d ≤ 9223372036854775807) (w : World) (hR : RackAt g s w) :
    Calls Tryz.prog 19 #[.pointer (some ⟨g + 1, 0, none⟩), .int .i64 d] w fun r w' => r = .returned (.int .i64 (s.wipeE d : Nat)) ∧ RackAt g (s.wipeS d) w' ∧ Only g (g + 2 + s.n) w w' := by
  have h1 : noneE s.n = 0 := if_neg (by have := hR.wf.n1; omega)
  unfold RSt.wipeE RSt.wipeS
  cases h : s.drive d
  · have he : drvE s.n d = 70 := if_neg (by unfold RSt.drive at h; exact of_decide_eq_false h)
    rw [if_neg (by decide), if_neg (by decide)]
    refine (pWipe_bad g s.n s (some ⟨g + 1, 0, none⟩) d hd1 hd2 70 w (.inr ⟨rfl, rfl, hR⟩) (by rw [h1, he]; rfl) (by decide)).mono ?_
    rintro r w' ⟨rfl, hk⟩
    exact ⟨rfl, hR.kept hk, hk.only _ _⟩
  · rw [if_pos rfl, if_pos rfl]
    obtain ⟨d', rfl, hd⟩ := RSt.drive_iff h
    exact pWipe_ok g s d' hd w hR
theorem spoil_any (g : Nat) (s : RSt) (d i : Int) (hd1 : -9223372036854775808 ≤ d) (hd2 : d ≤ 9223372036854775807) (hi1 : -9223372036854775808 ≤ i) (hi2 : i ≤ 9223372036854775807) (w : World) (hR : RackAt g s w) :
    Calls Tryz.prog 37 #[.pointer (some ⟨g + 1, 0, none⟩), .int .i64 d, .int .i64 i] w fun r w' => r = .returned (.int .i64 (s.spoilE d i : Nat)) ∧ RackAt g (s.spoilS d i) w' ∧ Only g (g + 2 + s.n) w w' := by
  have h1 : noneE s.n = 0 := if_neg (by have := hR.wf.n1; omega)
  unfold RSt.spoilE RSt.spoilS
  cases h : s.there d i
  · have he : secE s d i = 70 := by rw [there_of, h]; rfl
    rw [if_neg (by decide), if_neg (by decide)]
    refine (pSpoil_bad g s.n s (some ⟨g + 1, 0, none⟩) d i hd1 hd2 hi1 hi2 70 w (.inr ⟨rfl, rfl, hR⟩) (by rw [h1, he]; rfl) (by decide)).mono ?_
    rintro r w' ⟨rfl, hk⟩
    exact ⟨rfl, hR.kept hk, hk.only _ _⟩
  · rw [if_pos rfl, if_pos rfl]
    obtain ⟨d', i', rfl, rfl, hd, hi⟩ := RSt.there_iff h
    exact pSpoil_ok g s d' i' hd hi w hR
theorem all_any (g : Nat) (s : RSt) (d : Int) (hd1 : -9223372036854775808 ≤ d) (hd2 : d ≤ 9223372036854775807) (w : World) (hR : RackAt g s w) :
    Calls Tryz.prog 13 #[.pointer (some ⟨g + 1, 0, none⟩), .int .i64 d] w fun r w' => r = .returned (.string (s.all d)) ∧ Kept w w' := by
  unfold RSt.all
  cases h : s.drive d
  · rw [if_neg (by decide)]
    exact pAll_bad g s.n s (some ⟨g + 1, 0, none⟩) d hd1 hd2 w hR.has (by have := hR.wf.n2; omega) (by unfold RSt.drive at h; exact of_decide_eq_false h)
  · rw [if_pos rfl]
    obtain ⟨d', rfl, hd⟩ := RSt.drive_iff h
    exact pAll_ok g s d' hd w hR
/- No rack. -/
theorem read_nil (d i : Int) (hd1 : -9223372036854775808 ≤ d) (hd2 : d ≤ 9223372036854775807) (hi1 : -9223372036854775808 ≤ i) (hi2 : i ≤ 9223372036854775807) (w : World) :
    Calls Tryz.prog 35 #[.pointer none, .int .i64 d, .int .i64 i] w fun r w' => r = .returned (.tuple #[.string ⟨#[]⟩, .int .i64 1]) ∧ Kept w w' :=
  pRead_bad 0 0 (rack0 1 1) none d i hd1 hd2 hi1 hi2 1 w (.inl ⟨rfl, rfl⟩) rfl (by decide)
theorem write_nil (d i : Int) (hd1 : -9223372036854775808 ≤ d) (hd2 : d ≤ 9223372036854775807) (hi1 : -9223372036854775808 ≤ i) (hi2 : i ≤ 9223372036854775807) (t : ByteArray) (ht : t.size ≤ 9223372036854775807) (w : World) :
    Calls Tryz.prog 25 #[.pointer none, .int .i64 d, .int .i64 i, .string t] w fun r w' => r = .returned (.int .i64 1) ∧ Kept w w' :=
  pWrite_bad 0 0 (rack0 1 1) none d i hd1 hd2 hi1 hi2 t ht 1 w (.inl ⟨rfl, rfl⟩) rfl (by decide)
theorem cut_nil (k : Int) (hk1 : -9223372036854775808 ≤ k) (hk2 : k ≤ 9223372036854775807) (w : World) :
    Calls Tryz.prog 17 #[.pointer none, .int .i64 k] w fun r w' => r = .returned (.int .i64 1) ∧ Kept w w' :=
  pCut_bad 0 0 (rack0 1 1) none k hk1 hk2 1 w (.inl ⟨rfl, rfl⟩) rfl (by decide)
theorem lift_nil (w : World) : Calls Tryz.prog 18 #[.pointer none] w fun r w' => r = .returned (.int .i64 1) ∧ Kept w w' :=
  pLift_bad 0 0 (rack0 1 1) none 1 w (.inl ⟨rfl, rfl⟩) rfl (by decide)
theorem wipe_nil (d : Int) (hd1 : -9223372036854775808 ≤ d) (hd2 : d ≤ 9223372036854775807) (w : World) :
    Calls Tryz.prog 19 #[.pointer none, .int .i64 d] w fun r w' => r = .returned (.int .i64 1) ∧ Kept w w' :=
  pWipe_bad 0 0 (rack0 1 1) none d hd1 hd2 1 w (.inl ⟨rfl, rfl⟩) rfl (by decide)
theorem spoil_nil (d i : Int) (hd1 : -9223372036854775808 ≤ d) (hd2 : d ≤ 9223372036854775807) (hi1 : -9223372036854775808 ≤ i) (hi2 : i ≤ 9223372036854775807) (w : World) :
    Calls Tryz.prog 37 #[.pointer none, .int .i64 d, .int .i64 i] w fun r w' => r = .returned (.int .i64 1) ∧ Kept w w' :=
  pSpoil_bad 0 0 (rack0 1 1) none d i hd1 hd2 hi1 hi2 1 w (.inl ⟨rfl, rfl⟩) rfl (by decide)
theorem all_nil (d : Int) (hd1 : -9223372036854775808 ≤ d) (hd2 : d ≤ 9223372036854775807) (w : World) :
    Calls Tryz.prog 13 #[.pointer none, .int .i64 d] w fun r w' => r = .returned (.string ⟨#[]⟩) ∧ Kept w w' :=
  pAll_bad 0 0 (rack0 1 1) none d hd1 hd2 w (.inl ⟨rfl, rfl⟩) (by decide) (by omega)
end Go.Proofs.YtoekaabngjjefaaGreat

