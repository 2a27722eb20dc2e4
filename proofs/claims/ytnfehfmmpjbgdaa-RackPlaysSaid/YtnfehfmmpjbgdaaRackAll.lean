/- All bytes of a drive. -/
import Derived.Test.YtnfehfmmpjbgdaaRackNew
import Derived.Test.YtnfehfmmpjbgdaaBuilderW
namespace Go.Proofs.Ytnfehfmmpjbgdaa
open Go.RowKit
set_option linter.unusedVariables false
theorem allTo_length {s : RSt} (h : s.Wf) (d : Nat) (hd : d < s.n) : ∀ k, k ≤ s.m → (s.allTo d k).length = k * 64
  | 0, _ => by simp [RSt.allTo]
  | k + 1, hk => by
    unfold RSt.allTo
    rw [List.length_append, allTo_length h d hd k (by omega), h.shown hd (by omega)]
    omega
theorem sec_news {b o : Nat} {l : List UInt8} {x : Bool} {w : World} (h : w.rangeAt b o (secL l x)) : ∀ j u, (Lib.byteCells l)[j]? = some u → w.cell? ((⟨b, o, none⟩ : Addr).add j) = some u := by
  intro j u hj
  rw [Addr.add_mid]
  refine h j u ?_
  unfold secL
  have hlt : j < (Lib.byteCells l).length := (List.getElem?_eq_some_iff.1 hj).1
  rw [Lib.byteCells_length] at hlt
  rw [List.getElem?_append_left (by rw [List.length_map]; exact hlt)]
  exact hj
set_option maxHeartbeats 1000000 in
set_option maxRecDepth 100000 in
theorem pAll_bad (g n : Nat) (s : RSt) (p : Option Addr) (d : Int) (hd1 : -9223372036854775808 ≤ d) (hd2 : d ≤ 9223372036854775807) (w : World) (hp : Has p n w) (hn : n ≤ 1000) (h : ¬ (0 ≤ d ∧ d < n)) :
    Calls Try.prog 12 #[.pointer p, .int .i64 d] w fun r w' => r = .returned (.string ⟨#[]⟩) ∧ Kept w w' := by
  have hmf : ∀ (fn : Fn) (first cap : Array Value) (w : World), (Instr.makeFunc fn first cap).run Try.prog w = .ok (.func fn first cap) w := fun _ _ _ _ => rfl
  have HH := Lib.hid hp
  have HN := Lib.hid hn
  have HE : Hid (drvE n d = 70) := if_neg h
  clear hp h hn
  go_enter Try.func12, Try.ntmps12
  go_wp2_with fail
  refine (noDrive_any _ n d _ HN.out hd1 hd2 HH.out).mono ?_
  rintro e w1 ⟨j0, caps0, rfl, hf, hk⟩
  have F0 := Lib.hid hf
  have K0 := Lib.hid hk
  clear hf hk
  go_wp2_with fail
  refine (first1 w1.heap.size (.func (.func j0) #[] caps0) (drvE n d) _ (by rw [World.cell?_alloc_mark]; rfl) (F0.out.kept ((Kept.refl _).alloc _))).mono ?_
  rintro x w9 ⟨rfl, hk⟩
  have K9 : Hid (Kept w w9) := (K0.out.trans ((Kept.refl _).alloc _)).trans hk
  rw [HE.out]
  clear hk
  go_wp2_with fail
  go_ret
  exact ⟨rfl, K9.out⟩
set_option maxHeartbeats 2000000 in
set_option maxRecDepth 100000 in
theorem pAll_ok (g : Nat) (s : RSt) (d : Nat) (hd : d < s.n) (w : World) (hR : RackAt g s w) :
    Calls Try.prog 12 #[.pointer (some ⟨g + 1, 0, none⟩), .int .i64 (d : Nat)] w fun r w' => r = .returned (.string ⟨(s.allTo d s.m).toArray⟩) ∧ Kept w w' := by
  have hmf : ∀ (fn : Fn) (first cap : Array Value) (w : World), (Instr.makeFunc fn first cap).run Try.prog w = .ok (.func fn first cap) w := fun _ _ _ _ => rfl
  have HR := Lib.hid hR
  have n2 := hR.wf.n2
  have m2 := hR.wf.m2
  have m1 := hR.wf.m1
  have HE : Hid (drvE s.n d = 0) := if_pos ⟨by omega, by omega⟩
  clear hR
  go_enter Try.func12, Try.ntmps12
  go_wp2_with fail
  refine (noDrive_any _ s.n d _ (by omega) (by omega) (by omega) HR.out.has).mono ?_
  rintro e w1 ⟨j0, caps0, rfl, hf, hk⟩
  have F0 := Lib.hid hf
  have K0 := Lib.hid hk
  clear hf hk
  go_wp2_with fail
  refine (first1 w1.heap.size (.func (.func j0) #[] caps0) (drvE s.n d) _ (by rw [World.cell?_alloc_mark]; rfl) (F0.out.kept ((Kept.refl _).alloc _))).mono ?_
  rintro x w9 ⟨rfl, hk⟩
  have K9 : Hid (Kept w w9) := (K0.out.trans ((Kept.refl _).alloc _)).trans hk
  rw [HE.out]
  clear hk
  go_wp2_with fail
  refine (sectors_any g s _ (HR.out.kept (K9.out.alloc _))).mono ?_
  rintro e w10 ⟨rfl, hk⟩
  have hbk : w10.heap[w9.heap.size]? = some (.cells #[.pointer none, .slice none 0 0] 74 (0, 0)) := by
    rw [hk.block w9.heap.size (by rw [size_alloc]; omega)]
    exact heap_alloc_new _ _
  have K10 : Hid (Kept w9 w10) := ((Kept.refl _).alloc _).trans hk
  have HBK := Lib.hid hbk
  clear hk hbk
  go_wp2_with fail
  have hgr := bld_grow w9.heap.size w9.heap.size (s.m * 64) w10 (Nat.le_refl _) HBK.out K10.out.size (by omega) (by omega)
  rw [show ((s.m * 64 : Nat) : Int) = (s.m : Int) * 64 from by omega] at hgr
  refine hgr.mono ?_
  clear hgr
  rintro e w11 ⟨rfl, hb, hk⟩
  have K11 : Hid (Kept w9 w11) := Below.trans K10.out hk
  have HB := Lib.hid hb
  have hA := HR.out.kept (K9.out.trans K11.out)
  have c0 := hA.c0
  have c1 := hA.ds d hd
  have HLT : Hid (g + 2 + s.n ≤ w9.heap.size) := (HR.out.kept K9.out).lt
  clear hk hb hA HBK
  go_wp2_with fail
  go_loopw [26] (fun i wr => ∃ k : Nat, k ≤ s.m ∧ i = .int .i64 k ∧ Kept w9 wr ∧ Bld w9.heap.size w9.heap.size (s.allTo d k) wr) (fun i _ => s.m - (intOf i).toNat)
  case atStart => exact ⟨0, Nat.zero_le _, rfl, K11.out, HB.out⟩
  case round =>
    obtain ⟨k, hk, rfl, hK, hB⟩ := hrel
    have hA := HR.out.kept (K9.out.trans hK)
    have HKR := Lib.hid hK
    have HBR := Lib.hid hB
    by_cases hlt : k < s.m
    · have c2 := hA.c0
      have c3 := hA.ds d hd
      have HNW := Lib.hid (sec_news (hA.sr d k hd hlt))
      have hsl := hA.wf.shown hd hlt
      have hal := allTo_length hA.wf d hd k (by omega)
      have HLN : Hid ((s.allTo d k).length + 64 ≤ 140737488355328) := by show _ ≤ _; omega
      have HSL := Lib.hid hsl
      clear hK hB hA c0 c1 hsl hal
      go_wp2_with fail
      refine (bld_bytes w9.heap.size w9.heap.size (s.allTo d k) _ 64 64 (s.shown d k) _ HBR.out HSL.out HNW.out (by have := HLT.out; show g + 2 + d < _; omega) HLN.out HKR.out.size).mono ?_
      rintro e w12 ⟨rfl, hb, hk2⟩
      have HB2 : Hid (Bld w9.heap.size w9.heap.size (s.allTo d (k + 1)) w12) := hb
      have HK2 : Hid (Kept w9 w12) := Below.trans HKR.out hk2
      clear hb hk2
      go_wp2_with fail
      exact ⟨⟨k + 1, by omega, by go_num, HK2.out, HB2.out⟩, by simp [intOf]; omega⟩
    · obtain rfl : k = s.m := by omega
      clear hK hB hA c0 c1
      go_wp2_with fail
      refine (bld_string w9.heap.size w9.heap.size (s.allTo d s.m) _ HBR.out HKR.out.size).mono ?_
      rintro e w12 ⟨rfl, hk2⟩
      have HK2 : Hid (Kept w w12) := K9.out.trans (Below.trans HKR.out hk2)
      clear hk2
      go_wp2_with fail
      go_ret
      exact ⟨rfl, HK2.out⟩
end Go.Proofs.Ytnfehfmmpjbgdaa
