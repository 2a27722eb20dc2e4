/- RackLoses' walk. -/
import Derived.Test.YtnfehfmmpjbgdaaRackMath
import Derived.Test.YtnfehfmmpjbgdaaGat
import Derived.OpenShut
namespace Go.Proofs.Ytnfehfmmpjbgdaa
open Go.RowKit Go.ChangeShapes Go.WideShapes
set_option linter.unusedVariables false
open RSt
theorem info_u8 : (Try.prog.info? 5).map (fun i => (i.zero, i.size, i.bytes)) = some (some (.int .u8 0), 1, 1) := by kernel_rfl
theorem mk512 : ∃ M, (∀ W, (Instr.makeSlice 48 (.int .i64 512) (.int .i64 512)).run Try.prog W = .ok (.slice (some ⟨W.heap.size, 0, none⟩) 512 512) (W.alloc (.cells M 5))) ∧
    ∀ W : World, (convert 48 9 (.slice (some ⟨W.heap.size, 0, none⟩) 512 512)).run Try.prog (W.alloc (.cells M 5)) = .ok (.string ⟨(List.replicate 512 (0 : UInt8)).toArray⟩) (W.alloc (.cells M 5)) := by
  obtain ⟨i0, hi, hzz⟩ := Option.map_eq_some_iff.1 info_u8
  simp only [Prod.mk.injEq] at hzz
  refine ⟨madeCells #[.int .u8 0] 512, fun W => ?_, fun W => ?_⟩
  · have h := run_make (P := Try.prog) W 48 5 i0 _ Try.underlying48 hi hzz.1 .i64 .i64 512 512 (by decide) (by decide) (by rw [hzz.2.2]; decide) (by decide)
    rw [hzz.2.1] at h
    exact h
  · have hr := run_convert_bytes_back (P := Try.prog) (W.alloc (.cells (madeCells #[.int .u8 0] 512) 5)) 48 9 5 ⟨W.heap.size, 0, none⟩ 512 (List.replicate 512 (0 : UInt8)) Try.underlying48 Try.underlying5 Try.underlying9 (fun j hj => by
      rw [add_at, World.cell?_alloc_mark]
      have hj' : j < 512 := by rw [List.length_replicate] at hj; exact hj
      have h := made_get #[.int .u8 0] 512 j 0 hj' (by decide)
      rw [show (#[Value.int .u8 0] : Array Value).size = 1 from rfl, Nat.mul_one, Nat.mul_one] at h
      rw [show j + 0 = j from rfl] at h
      rw [h, List.getElem_replicate]
      rfl)
    rw [List.length_replicate] at hr
    exact hr
/-- What lay in the first k drives. -/
def wasL (s : RSt) (k : Nat) : List ByteArray := (List.range k).map fun d => s.all (d : Nat)
theorem wasL_length (s : RSt) (k : Nat) : (wasL s k).length = k := by simp [wasL]
theorem wasL_next (s : RSt) (k : Nat) : wasL s k ++ [s.all (k : Nat)] = wasL s (k + 1) := by
  unfold wasL
  rw [List.range_succ, List.map_append]
  rfl
theorem wasL_get (s : RSt) (k j : Nat) (h : j < k) : (wasL s k).getD j ByteArray.empty = s.all (j : Nat) := by
  unfold wasL
  rw [List.getD_eq_getElem?_getD, List.getElem?_map, List.getElem?_range h]
  rfl
/-- What lay in the three drives lies at b, from o on. -/
def WasAt (g b o : Nat) (s : RSt) (w : World) : Prop := g + 5 ≤ b ∧ ∀ j, j < 3 → w.cell? ⟨b, o + j, none⟩ = some (.string (s.all (j : Nat)))
theorem WasAt.lt {g b o : Nat} {s : RSt} {w : World} (h : WasAt g b o s w) : b < w.heap.size := block_lt_of_cell (h.2 0 (by decide))
theorem WasAt.kept {g b o : Nat} {s : RSt} {w w' : World} (h : WasAt g b o s w) (k : Kept w w') : WasAt g b o s w' := ⟨h.1, fun j hj => cell_kept (h.2 j hj) k⟩
theorem WasAt.only {g b o : Nat} {s : RSt} {w w' : World} (h : WasAt g b o s w) (k : Only g (g + 5) w w') : WasAt g b o s w' :=
  ⟨h.1, fun j hj => by rw [k.cell (p := ⟨b, o + j, none⟩) h.lt (.inr h.1)]; exact h.2 j hj⟩
theorem Gat.wasAt {B g : Nat} {v : Value} {s : RSt} {w : World} (h : Gat B v (wasL s 3) w) (hB : g + 5 ≤ B) : ∃ b o c, v = .slice (some ⟨b, o, none⟩) 3 c ∧ WasAt g b o s w := by
  have hlt := h.lt
  obtain ⟨a, cp, rfl, hs⟩ := h.strs
  have hl := wasL_length s 3
  rcases hs with h0 | ⟨b, o, rfl, hc⟩
  · rw [h0] at hl; cases hl
  · refine ⟨b, o, cp, by rw [hl], ?_, fun j hj => ?_⟩
    · have := (hlt b rfl).1
      omega
    · rw [hc j (by omega), wasL_get s 3 j hj]
theorem gat_was {B : Nat} {v : Value} {s : RSt} {k : Nat} {X : ByteArray} {w : World} (h : Gat B v (wasL s k ++ [X]) w) : ∃ b o cp, v = .slice (some ⟨b, o, none⟩) (k + 1) cp ∧ w.cell? ⟨b, o + k, none⟩ = some (.string X) := by
  obtain ⟨a, cp, rfl, hs⟩ := h.strs
  have hl : (wasL s k ++ [X]).length = k + 1 := by rw [List.length_append, wasL_length]; rfl
  rcases hs with h0 | ⟨b, o, rfl, hc⟩
  · rw [h0] at hl; cases hl
  · refine ⟨b, o, cp, by rw [hl], ?_⟩
    have h2 := hc k (by omega)
    rw [List.getD_eq_getElem?_getD, List.getElem?_append_right (by rw [wasL_length]; exact Nat.le_refl _), wasL_length, Nat.sub_self] at h2
    exact h2
set_option maxHeartbeats 4000000 in
set_option maxRecDepth 100000 in
theorem rackLoses_walk (a0 : Option Addr) (len0 cap0 : Nat) (z0 : List Stp) (a1 a2 : Int) (w : World) (w0 : IsSteps w a0 len0 cap0 z0) (w1 : (Lit.int .u8 a1).wf = true) (w2 : (Lit.int .u8 a2).wf = true) :
    Calls Try.prog 5 #[.slice a0 len0 cap0, .int .u8 a1, .int .u8 a2] w fun e w' => e = .returned (.bool true) ∧ Kept w w' := by
  obtain ⟨d1, d2⟩ := bounds_u8 w1
  obtain ⟨s1, s2⟩ := bounds_u8 w2
  obtain ⟨hS, hzl, hml⟩ := w0.stps
  have HS := Lib.hid hS
  have HZL := Lib.hid hzl
  have HHV := Lib.hid (heavy_any a0 len0 cap0 z0 hzl hml w hS)
  clear w0 w1 w2 hS hzl
  have hml2 : len0 ≤ 9223372036854775807 := by unfold maxLen at hml; exact hml
  clear hml
  cases hh : heavyB z0
  · obtain ⟨h300, ht⟩ := heavy_not hh
    have HT := Lib.hid ht
    have hcall := HHV.out
    rw [hh] at hcall
    have H3 : len0 ≤ 300 := by rw [← HZL.out]; exact h300
    clear h300 ht hh HHV
    go_enter Try.func5, Try.ntmps5
    go_wp2_with fail
    refine hcall.mono ?_
    rintro e wa ⟨rfl, hk⟩
    have KA : Hid (Kept w wa) := hk
    clear hk hcall
    go_wp2_with fail
    refine (pNew_ok 3 8 (by decide) (by decide) (by decide) (by decide) _).mono ?_
    rintro e wb ⟨rfl, hk, hR, _⟩
    obtain ⟨g, hg⟩ : ∃ g, g = wa.heap.size := ⟨_, rfl⟩
    rw [← hg] at hR
    rw [← hg]
    have HG0 : Hid (w.heap.size ≤ g) := by show _ ≤ _; rw [hg]; exact KA.out.size
    have HG := HG0
    have KB : Hid (Kept w wb) := KA.out.trans hk
    have RB : Hid (RackAt g (rack0 3 8) wb) := hR
    clear hk hR hg
    go_wp2_with fail
    go_loopw [9] (fun i wr => ∃ k : Nat, k ≤ len0 ∧ i = .int .i64 k ∧ Kept w wr ∧ Hid (∃ s : RSt, s.Plain ∧ RackAt g s wr)) (fun i _ => len0 - (intOf i).toNat)
    case atStart => exact ⟨0, Nat.zero_le _, rfl, KB.out, ⟨_, plain0, RB.out⟩⟩
    case round =>
      obtain ⟨k, hk, rfl, hkk, HE⟩ := hrel
      by_cases hlt : k < len0
      · obtain ⟨s, hp, hR⟩ := HE.out
        have HK := Lib.hid hkk
        have HP := Lib.hid hp
        have HR := Lib.hid hR
        have hkz : k < z0.length := by rw [HZL.out]; exact hlt
        rcases HS.out with h0 | ⟨b, o, rfl, hq⟩
        · rw [h0] at hkz; cases hkz
        · obtain ⟨_, c1, c2, c3, _, b1, b2, hsz⟩ := (hq k hkz).kept hkk
          have hts : z0[k].t.size ≤ 9223372036854775807 := by have := HT.out k hkz; omega
          generalize z0[k] = z at *
          obtain ⟨zop, d, i, t⟩ := z
          dsimp only at c1 c2 c3 b1 b2 hts
          have HWR : Hid (∀ n, Calls Try.prog 19 #[.pointer (some ⟨g + 1, 0, none⟩), .int .i64 d, .int .i64 i, .string t] (wr.drewN n) fun r w' => r = .returned (.int .i64 (s.writeE d i t : Nat)) ∧ RackAt g (s.writeS d i t) w' ∧ Only g (g + 2 + s.n) (wr.drewN n) w') := fun n => write_any g s d i b1.1 b1.2 b2.1 b2.2 t hts (wr.drewN n) (HR.out.drewN n)
          clear hq hkk hp hR hsz b1 b2 hts
          go_wp2_with fail
          refine wp_region_still_tail 16 (by kernel_rfl) (by kernel_rfl) ?_
          simp only [List.take_succ_cons, List.take_zero, List.drop_succ_cons, List.drop_zero]
          change wpStill _ _ wr.drew (fun a' => wpList _ _ _ _ a' wr.drew) _ _
          repeat still_step
          refine wpStill_nil ?_
          go_wp2_with fail
          refine (HWR.out 1).mono ?_
          rintro e wc ⟨rfl, hR, hO⟩
          have HE2 : Hid (∃ s : RSt, s.Plain ∧ RackAt g s wc) := ⟨_, HP.out.write d i t, hR⟩
          have HK2 : Hid (Kept w wc) := Only.kept (HK.out.drew) HG.out hO
          clear hR hO
          go_wp2_with fail
          exact ⟨⟨k + 1, by omega, by go_num, HK2.out, HE2⟩, by simp [intOf]; omega⟩
      · obtain rfl : k = len0 := by omega
        obtain ⟨s, hp, hR⟩ := HE.out
        have KC := Lib.hid hkk
        have HP := Lib.hid hp
        have RC := Lib.hid hR
        have HG5 : Hid (g + 5 ≤ wr.heap.size) := by show _ ≤ _; have := hR.lt; rw [hp.n] at this; omega
        clear hkk hp hR HE KB RB HS HT HZL HG
        obtain ⟨W2, hW2⟩ : ∃ W2, W2 = wr := ⟨_, rfl⟩
        subst hW2
        go_wp2_with fail
        go_loopw [10, 11] (fun x i wr => ∃ k : Nat, k ≤ 3 ∧ i = .int .i64 k ∧ Kept W2 wr ∧ Hid (Gat W2.heap.size x (wasL s k) wr)) (fun _ i _ => 3 - (intOf i).toNat)
        case atStart => exact ⟨0, Nat.zero_le _, rfl, Kept.refl _, Gat.nil _ _⟩
        case round =>
          obtain ⟨k, hk, rfl, hkk, HGT⟩ := hrel
          have HK := Lib.hid hkk
          clear hkk
          by_cases hlt : k < 3
          · obtain ⟨X, hX⟩ : ∃ X, X = s.all (k : Nat) := ⟨_, rfl⟩
            have hXs : X.size = 512 := by rw [hX]; exact HP.out.all_size hlt
            have hcall := all_any g s (k : Nat) (by omega) (by omega) wr (RC.out.kept HK.out)
            rw [← hX] at hcall
            have HCALL := Lib.hid hcall
            have HX := Lib.hid hX
            clear hcall hX
            go_wp2_with fail
            refine HCALL.out.mono ?_
            rintro e wd ⟨rfl, hk2⟩
            have KD : Hid (Kept W2 wd) := HK.out.trans hk2
            have GD : Hid (Gat W2.heap.size u10 (wasL s k) wd) := HGT.out.kept hk2
            clear HCALL hk2
            go_upto_region 15 with (first | (at_builtin; refine wpList_gat _ rfl (.tmp 62) (.tmp 66) 46 rfl Try.underlying46 W2 _ (wasL s k) rfl (GD.out.kept ((Kept.refl _).alloc _)) (KD.out.alloc _) X wd.heap.size rfl (by rw [World.cell?_alloc_mark]; rfl) (by rw [wasL_length]; omega) ?_; intro v9 w9 hG9 hK9; obtain ⟨b9, o9, c9, rfl, hc9⟩ := gat_was hG9))
            have HG9 : Hid (Gat W2.heap.size (.slice (some ⟨b9, o9, none⟩) (k + 1) c9) (wasL s (k + 1)) w9) := by
              show Gat _ _ _ _
              rw [← wasL_next, ← HX.out]
              exact hG9
            have HK9 := Lib.hid hK9
            clear hG9 hK9
            go_wp2_with fail
            exact ⟨⟨k + 1, by omega, by go_num, HK9.out, HG9⟩, by simp [intOf]; omega⟩
          · obtain rfl : k = 3 := by omega
            obtain ⟨b9, o9, c9, rfl, hwas⟩ := HGT.out.wasAt HG5.out
            have HW0 := Lib.hid hwas
            have R3 : Hid (RackAt g s wr) := RC.out.kept HK.out
            have K3 : Hid (Kept w wr) := KC.out.trans HK.out
            have HG := HG0
            obtain ⟨K, hK3, hK⟩ : ∃ K : Nat, K < 3 ∧ a1 % 3 = (K : Int) := ⟨(a1 % 3).toNat, by omega, by omega⟩
            obtain ⟨A, hA8, hA⟩ : ∃ A : Nat, A < 8 ∧ a2 % 8 = (A : Int) := ⟨(a2 % 8).toNat, by omega, by omega⟩
            clear HGT HK KC RC hwas
            go_wp2_with fail
            rw [hK, hA]
            clear hK hA
            have hcall := spoil_any g s (K : Nat) (A : Nat) (by omega) (by omega) (by omega) (by omega) wr R3.out
            rw [(HP.out.spoilE hK3 hA8).1, (HP.out.spoilE hK3 hA8).2, HP.out.n] at hcall
            refine hcall.mono ?_
            clear hcall
            rintro e w4 ⟨rfl, hR, hO⟩
            have R4 : Hid (RackAt g (s.spoil K A) w4) := hR
            have W4 : Hid (WasAt g b9 o9 s w4) := HW0.out.only hO
            have K4 : Hid (Kept w w4) := Only.kept K3.out HG.out hO
            clear hR hO R3 HW0 K3
            go_wp2_with fail
            go_loopw [14] (fun i wr => ∃ k : Nat, k ≤ 24 ∧ i = .int .i64 k ∧ Kept w wr ∧ Hid (RackAt g (s.spoil K A) wr) ∧ Hid (WasAt g b9 o9 s wr)) (fun i _ => 24 - (intOf i).toNat)
            case atStart => exact ⟨0, Nat.zero_le _, rfl, K4.out, R4, W4⟩
            case round =>
              obtain ⟨k, hk, rfl, hkk, HR, HW⟩ := hrel
              have HK := Lib.hid hkk
              clear hkk
              by_cases hlt : k < 24
              · obtain ⟨q, r, hq, hr, hkqr⟩ : ∃ q r : Nat, q < 3 ∧ r < 8 ∧ k = q * 8 + r := ⟨k / 8, k % 8, by omega, by omega, by omega⟩
                have hdiv : (k : Int) / 8 = (q : Int) := by omega
                have hmod : (k : Int) % 8 = (r : Int) := by omega
                have HKQ := Lib.hid hkqr
                clear hkqr
                have hcall := read_any g (s.spoil K A) (q : Nat) (r : Nat) (by omega) (by omega) (by omega) (by omega) wr HR.out
                rw [(HP.out.spoil_read K A hq hr).1, (HP.out.spoil_read K A hq hr).2] at hcall
                by_cases hbad : q = K ∧ r = A
                · rw [if_pos hbad, if_pos hbad] at hcall
                  obtain ⟨rfl, rfl⟩ := hbad
                  have HCALL := Lib.hid hcall
                  clear hcall
                  go_wp2_with fail
                  refine HCALL.out.mono ?_
                  rintro e w5 ⟨rfl, hk2⟩
                  have R5 : Hid (RackAt g (s.spoil q r) w5) := HR.out.kept hk2
                  have W5 : Hid (WasAt g b9 o9 s w5) := HW.out.kept hk2
                  have K5 : Hid (Kept w w5) := HK.out.trans hk2
                  clear hk2 HCALL
                  go_wp2_with fail
                  exact ⟨⟨k + 1, by omega, by go_num, K5.out, R5, W5⟩, by simp [intOf]; omega⟩
                · rw [if_neg hbad, if_neg hbad] at hcall
                  obtain ⟨X, hX⟩ : ∃ X, X = s.all (q : Nat) := ⟨_, rfl⟩
                  obtain ⟨Y, hY⟩ : ∃ Y : ByteArray, Y = ⟨(s.T q r).toArray⟩ := ⟨_, rfl⟩
                  have hXs : X.size = 512 := by rw [hX]; exact HP.out.all_size hq
                  have hXY : X.extract (r * 64) ((r + 1) * 64) = Y := by rw [hX, hY]; exact HP.out.part hq hr
                  have hsl : ∀ W, (Instr.slice 9 (.string X) (some (.int .i64 ((r : Int) * 64))) (some (.int .i64 (((r : Int) + 1) * 64))) none).run Try.prog W = .ok (.string Y) W := fun W => by
                    have h := run_slice_string (P := Try.prog) W 9 X .i64 .i64 ((r : Int) * 64) (((r : Int) + 1) * 64) Try.underlying9 (by omega) (by omega) (by omega)
                    rw [show ((r : Int) * 64).toNat = r * 64 by omega, show (((r : Int) + 1) * 64).toNat = (r + 1) * 64 by omega, hXY] at h
                    exact h
                  rw [← hY] at hcall
                  have HWX : Hid (∀ W, WasAt g b9 o9 s W → W.cell? ⟨b9, o9 + q, none⟩ = some (.string X)) := fun W hw => by rw [hX]; exact hw.2 q hq
                  have HCALL := Lib.hid hcall
                  clear hcall hX hY hXY hXs
                  have hqK : ((q : Int) == (K : Int)) = decide (q = K) := by
                    by_cases e : q = K
                    · subst e; simp
                    · rw [decide_eq_false e]; simp; omega
                  have hrA : ((r : Int) == (A : Int)) = decide (r = A) := by
                    by_cases e : r = A
                    · subst e; simp
                    · rw [decide_eq_false e]; simp; omega
                  by_cases e1 : q = K
                  · have e2 : r ≠ A := fun e => hbad ⟨e1, e⟩
                    rw [decide_eq_true e1] at hqK
                    rw [decide_eq_false e2] at hrA
                    clear hbad e1 e2
                    go_wp2_with fail
                    refine HCALL.out.mono ?_
                    rintro e w5 ⟨rfl, hk2⟩
                    have R5 : Hid (RackAt g (s.spoil K A) w5) := HR.out.kept hk2
                    have W5 : Hid (WasAt g b9 o9 s w5) := HW.out.kept hk2
                    have K5 : Hid (Kept w w5) := HK.out.trans hk2
                    have hcx := HWX.out w5 W5.out
                    clear hk2 HCALL
                    go_wp2_with fail
                    exact ⟨⟨k + 1, by omega, by go_num, K5.out, R5, W5⟩, by simp [intOf]; omega⟩
                  · rw [decide_eq_false e1] at hqK
                    clear hbad e1 hrA
                    go_wp2_with fail
                    refine HCALL.out.mono ?_
                    rintro e w5 ⟨rfl, hk2⟩
                    have R5 : Hid (RackAt g (s.spoil K A) w5) := HR.out.kept hk2
                    have W5 : Hid (WasAt g b9 o9 s w5) := HW.out.kept hk2
                    have K5 : Hid (Kept w w5) := HK.out.trans hk2
                    have hcx := HWX.out w5 W5.out
                    clear hk2 HCALL
                    go_wp2_with fail
                    exact ⟨⟨k + 1, by omega, by go_num, K5.out, R5, W5⟩, by simp [intOf]; omega⟩
              · obtain rfl : k = 24 := by omega
                obtain ⟨hwe, hws⟩ := HP.out.write_again hK3 hA8 ⟨#[122]⟩ (by decide)
                have hcall := write_any g (s.spoil K A) (K : Nat) (A : Nat) (by omega) (by omega) (by omega) (by omega) ⟨#[122]⟩ (by decide) wr HR.out
                rw [hwe, hws, show (s.spoil K A).n = 3 from HP.out.n] at hcall
                have HCALL := Lib.hid hcall
                clear hcall hwe hws K4 R4 W4
                go_wp2_with fail
                refine HCALL.out.mono ?_
                rintro e w6 ⟨rfl, hR, hO⟩
                obtain ⟨u, hu⟩ : ∃ u, u = (s.spoil K A).wr K A (padL ⟨#[122]⟩) := ⟨_, rfl⟩
                rw [← hu] at hR
                have HU := Lib.hid hu
                have R6 : Hid (RackAt g u w6) := hR
                have W6 : Hid (WasAt g b9 o9 s w6) := HW.out.only hO
                have K6 : Hid (Kept w w6) := Only.kept HK.out HG.out hO
                obtain ⟨hre, hrt⟩ := RSt.wr_read (s.spoil K A) (K := K) (A := A) (padL ⟨#[122]⟩) HP.out.cut (HP.out.there hK3 hA8)
                have hcall := read_any g u (K : Nat) (A : Nat) (by omega) (by omega) (by omega) (by omega) w6 hR
                rw [hu, hre, hrt] at hcall
                obtain ⟨T, hT⟩ : ∃ T : ByteArray, T = ⟨(padL ⟨#[122]⟩).toArray⟩ := ⟨_, rfl⟩
                rw [← hT] at hcall
                have hTs : T.size = 64 := by rw [hT]; kernel_rfl
                have hT0 : T[0] = 122 := by subst hT; kernel_rfl
                have HCALL2 := Lib.hid hcall
                clear hcall hre hrt hT hu hR hO HCALL HR HW HK
                go_wp2_with fail
                refine HCALL2.out.mono ?_
                rintro e w7 ⟨rfl, hk2⟩
                have R7 : Hid (RackAt g u w7) := R6.out.kept hk2
                have W7 : Hid (WasAt g b9 o9 s w7) := W6.out.kept hk2
                have K7 : Hid (Kept w w7) := K6.out.trans hk2
                have hdr : u.drive (K : Nat) = true := by rw [HU.out]; exact HP.out.drive hK3
                have hcall := wipe_any g u (K : Nat) (by omega) (by omega) w7 R7.out
                rw [show u.wipeE (K : Nat) = 0 from if_pos hdr, show u.wipeS (K : Nat) = u.wipe K from by unfold RSt.wipeS; rw [if_pos hdr, Int.toNat_natCast], show u.n = 3 from by rw [HU.out]; exact HP.out.n] at hcall
                have HCALL3 := Lib.hid hcall
                clear hk2 HCALL2 R6 W6 K6 hdr hcall
                go_wp2_with fail
                refine HCALL3.out.mono ?_
                rintro e w8 ⟨rfl, hR, hO⟩
                have R8 : Hid (RackAt g (u.wipe K) w8) := hR
                have W8 : Hid (WasAt g b9 o9 s w8) := W7.out.only hO
                have K8 : Hid (Kept w w8) := Only.kept K7.out HG.out hO
                clear hR hO HCALL3 R7 W7 K7
                go_wp2_with fail
                go_loopw [20] (fun i wr => ∃ k : Nat, k ≤ 3 ∧ i = .int .i64 k ∧ Kept w wr ∧ Hid (RackAt g (u.wipe K) wr) ∧ Hid (WasAt g b9 o9 s wr)) (fun i _ => 3 - (intOf i).toNat)
                case atStart => exact ⟨0, Nat.zero_le _, rfl, K8.out, R8, W8⟩
                case round =>
                  obtain ⟨k, hk, rfl, hkk, HR, HW⟩ := hrel
                  have HK := Lib.hid hkk
                  clear hkk
                  by_cases hlt : k < 3
                  · obtain ⟨X, hX⟩ : ∃ X, X = s.all (k : Nat) := ⟨_, rfl⟩
                    have hcx := HW.out.2 k hlt
                    rw [← hX] at hcx
                    have hall : (u.wipe K).all (k : Nat) = if k = K then ⟨(List.replicate 512 0).toArray⟩ else X := by rw [HU.out, hX]; exact HP.out.wiped_all hK3 _ hlt
                    by_cases e : k = K
                    · rw [if_pos e] at hall
                      obtain ⟨M, hM, hMC⟩ := mk512
                      obtain ⟨ZT, hZT⟩ : ∃ ZT : ByteArray, ZT = ⟨(List.replicate 512 0).toArray⟩ := ⟨_, rfl⟩
                      rw [← hZT] at hall hMC
                      have hcall := fun n => all_any g (u.wipe K) (k : Nat) (by omega) (by omega) ((wr.alloc (.cells M 5)).drewN n) ((HR.out.kept ((Kept.refl _).alloc _)).drewN n)
                      rw [hall] at hcall
                      have HCALL := Lib.hid hcall
                      have hkK : ((k : Int) == (K : Int)) = true := by simp [e]
                      clear hcall hall hX hZT e
                      go_wp2_with fail
                      refine (HCALL.out 0).mono ?_
                      rintro e w9 ⟨rfl, hk2⟩
                      have K9 : Hid (Kept w w9) := (HK.out.alloc _).trans hk2
                      have R9 : Hid (RackAt g (u.wipe K) w9) := HR.out.kept (((Kept.refl _).alloc _).trans hk2)
                      have W9 : Hid (WasAt g b9 o9 s w9) := HW.out.kept (((Kept.refl _).alloc _).trans hk2)
                      clear hk2 HCALL
                      go_wp2_with fail
                      exact ⟨⟨k + 1, by omega, by go_num, K9.out, R9, W9⟩, by simp [intOf]; omega⟩
                    · rw [if_neg e] at hall
                      have hcall := all_any g (u.wipe K) (k : Nat) (by omega) (by omega) wr HR.out
                      rw [hall] at hcall
                      have HCALL := Lib.hid hcall
                      have hkK : ((k : Int) == (K : Int)) = false := by simp; omega
                      clear hcall hall hX
                      go_wp2_with fail
                      refine HCALL.out.mono ?_
                      rintro e w9 ⟨rfl, hk2⟩
                      have K9 : Hid (Kept w w9) := HK.out.trans hk2
                      have R9 : Hid (RackAt g (u.wipe K) w9) := HR.out.kept hk2
                      have W9 : Hid (WasAt g b9 o9 s w9) := HW.out.kept hk2
                      clear hk2 HCALL
                      go_wp2_with fail
                      exact ⟨⟨k + 1, by omega, by go_num, K9.out, R9, W9⟩, by simp [intOf]; omega⟩
                  · obtain rfl : k = 3 := by omega
                    go_wp2_with fail
                    refine (alive_any _).mono ?_
                    rintro e w9 ⟨rfl, hk2⟩
                    have K9 : Hid (Kept w w9) := HK.out.trans hk2
                    clear hk2
                    go_wp2_with fail
                    go_ret
                    exact ⟨rfl, K9.out⟩
  · have hcall := HHV.out
    rw [hh] at hcall
    clear HHV
    go_enter Try.func5, Try.ntmps5
    go_wp2_with fail
    refine hcall.mono ?_
    rintro e wa ⟨rfl, hk⟩
    have KA : Hid (Kept w wa) := hk
    clear hk hcall
    go_wp2_with fail
    refine (alive_any _).mono ?_
    rintro e w9 ⟨rfl, hk2⟩
    have K9 : Hid (Kept w w9) := KA.out.trans hk2
    clear hk2
    go_wp2_with fail
    go_ret
    exact ⟨rfl, K9.out⟩
end Go.Proofs.Ytnfehfmmpjbgdaa
