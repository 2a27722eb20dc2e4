/- TailWrong2, TailEach, TailMend, TailMend2, TailApp, TailTO, TailAll, TailTop, TailTop2, TailTop3, TailMiss, TailEachC, TailMiss2, TailBegin, TailPos, TailTell, TailInv, TailInv2, TailInv3, TailLoad, TailInv4, TailLaws. -/
import Derived.Test.YtmgkkoajjdgmbaaGreatDoorPart39
import Derived.Deep.RegionHeld3
import Derived.Sort.CutIn
import Derived.Test.YtmgkkoajjdgmbaaGreatDoorPart37
import Derived.Test.YtmgkkoajjdgmbaaGreatDoorPart16
import Derived.Test.YtmgkkoajjdgmbaaGreatDoorPart34
import Derived.Test.YtmgkkoajjdgmbaaGreatDoorPart32
import Derived.Test.YtmgkkoajjdgmbaaGreatDoorPart35
set_option linter.unusedVariables false
set_option linter.unusedSimpArgs false
set_option linter.unusedSectionVars false
set_option linter.unnecessarySimpa false
set_option linter.deprecated false
/- The program's: what is wrong with a drive's sectors: the walk. -/
namespace Go.Proofs.YtmgkkoajjdgmbaaGreatDoor
open Go.RowKit Go.Shelf Sm Wr _root_.Go.Proofs.YtmgkkoajjdgmbaaGreatDoor.Nm
attribute [local go_sem] Oper.semAt_some
set_option linter.unusedVariables false
theorem psectors_agg (G : Nat) (g : Geo) (gen : Nat) (d : Int) (w : World) :
    Calls Tryz.prog 60 #[.agg #[.pointer (some ⟨G + 1, 0, none⟩), .int .i64 g.n, .int .i64 g.p, .int .i64 g.m, .int .i64 g.t, .int .u64 (gen : Nat)], .int .i64 d] w fun e w' => e = .returned (.func (.func 75) #[] #[.pointer (some ⟨w.heap.size, 0, none⟩), .pointer (some ⟨w.heap.size + 1, 0, none⟩)]) ∧
      PlAt w' w.heap.size 0 G g gen ∧ w'.cell? ⟨w.heap.size + 1, 0, none⟩ = some (.int .i64 d) ∧ w'.heap.size = w.heap.size + 2 ∧ Kept w w' := psectors_any G g gen d w
theorem two_new (w : World) (tb : Nat) (B : Nat) : Two B (w.heap.size + 1 + 1 + 1) (w.heap.size + 1 + 1 + 1 + 1) [] [] (w5Laid w tb) := by
  unfold w5Laid
  have a := RowBox.new (((w.alloc (.cells #[.pointer (some ⟨tb, 0, none⟩)] 34)).alloc (.cells #[.slice none 0 0] 50)).alloc (.cells #[.int .i64 0] 31)) B
  have b := RowBox.new ((((w.alloc (.cells #[.pointer (some ⟨tb, 0, none⟩)] 34)).alloc (.cells #[.slice none 0 0] 50)).alloc (.cells #[.int .i64 0] 31)).alloc (.cells #[.slice none 0 0] 50)) B
  simp only [size_alloc] at a b
  refine ⟨a.kept ((Kept.refl _).alloc _), b, by omega, fun v v' h1 h2 => ?_⟩
  left
  obtain ⟨u, c1, _⟩ := b.r
  have : (((((w.alloc (.cells #[.pointer (some ⟨tb, 0, none⟩)] 34)).alloc (.cells #[.slice none 0 0] 50)).alloc (.cells #[.int .i64 0] 31)).alloc (.cells #[.slice none 0 0] 50)).alloc (.cells #[.slice none 0 0] 50)).cell? ⟨w.heap.size + 1 + 1 + 1 + 1, 0, none⟩ = some (.slice none 0 0) := newT_cell _ _ _ 0 _ _ (by simp) rfl
  rw [this] at h2
  rw [← Option.some.inj h2]
  rfl
theorem bytes_same9 (p q : ByteArray) : (p.toList == q.toList) = true ↔ p = q := by
  rw [beq_iff_eq, ByteArray.toList_eq, ByteArray.toList_eq]
  exact ⟨fun c => ByteArray.ext (Array.toList_inj.1 c), fun c => by rw [c]⟩
set_option maxHeartbeats 2000000 in
set_option maxRecDepth 100000 in
theorem wrong_any (tb B G : Nat) (s : RSt) (g : Geo) (gen : Nat) (v : Value) (must : List ByteArray) (next : Nat) (br : Bool) (d : Int) (n : Nat) (w : World) (hT : TailAt B tb G g gen v must next br w) (hR : RackAt G s w) (hn : g.t = (n : Int)) (hn2 : n ≤ 512) (hd1 : -9223372036854775808 ≤ d) (hd2 : d ≤ 9223372036854775807) (hl : must.length ≤ 1000000)
    (hsect : ∀ i, i < n → (rdB s d (fstS g.t gen) i).1 = 0 → Sect (rdB s d (fstS g.t gen) i).2.data.toList) :
    Calls Tryz.prog 46 #[.pointer (some ⟨tb, 0, none⟩), .int .i64 d] w fun e w' => (∃ u, e = .returned (.tuple #[u, .int .i64 ((wAll must gen (rdB s d (fstS g.t gen)) n).1 : Nat)]) ∧ GatI w.heap.size u (wAll must gen (rdB s d (fstS g.t gen)) n).2 w') ∧ Kept w w' := by
  have HRR := Lib.hid hR
  have HTT := Lib.hid hT
  have HN := Lib.hid hn
  have HSC := Lib.hid hsect
  have HPS := Lib.hid (fun W => psectors_agg G g gen d W)
  have HST := Lib.hid (fun bp bd Kp hKp wl hI => tsec_stops 5 (by decide) G s g gen d bp bd hd1 hd2 n hn hn2 Kp hKp wl hI)
  clear hR hn hT hsect
  generalize fstS g.t gen = ff at *
  refine (callsIn_wide (n := 6)).1 ?_
  refine callsIn_of_wp_marks Tryz.func46 rfl trivial ?_ rfl
  simp only [Tryz.ntmps46, List.size_toArray, List.length_cons, List.length_nil, Nat.reduceAdd, Nat.reduceSub, Array.replicate_succ, Array.replicate_zero, List.push_toArray, List.append_toArray, List.nil_append, List.cons_append]
  have HL5 := Lib.hid (w5_laid w tb)
  have HK5 := Lib.hid (w5_kept w tb)
  have HS5 : Hid ((w5Laid w tb).heap.size = w.heap.size + 1 + 1 + 1 + 1 + 1) := w5_size w tb
  have HTW := Lib.hid (fun B => two_new w tb B)
  unfold w5Laid at HL5 HK5 HS5 HTW
  have hT5 := HTT.out.kept HK5.out
  obtain ⟨c0, c1, c2, c3, c4, c5⟩ := hT5.pl
  have hc2 := HL5.out.c2
  clear hT5
  gi_wp2
  generalize ((((w.alloc (.cells #[.pointer (some ⟨tb, 0, none⟩)] 34)).alloc (.cells #[.slice none 0 0] 50)).alloc (.cells #[.int .i64 0] 31)).alloc (.cells #[.slice none 0 0] 50)).alloc (.cells #[.slice none 0 0] 50) = w5 at *
  refine ⟨trivial, ?_⟩
  refine (callsIn_wide.2 (HPS.out _)).mono ?_
  rintro e wl ⟨rfl, hpl, hcd, hsz, hkl⟩
  have hs5 := HS5.out
  rw [hs5] at hpl hcd hsz
  have HKL : Hid (Kept w wl) := HK5.out.trans hkl
  have HWL := Lib.hid (HL5.out.frame (W' := wl) fun i h1 h2 => hkl.block i (by omega))
  have HBL : Hid (∀ B, Two B (w.heap.size + 1 + 1 + 1) (w.heap.size + 1 + 1 + 1 + 1) [] [] wl) := fun B => (HTW.out B).kept hkl
  have HLS : Hid (wl.heap.size = w.heap.size + 1 + 1 + 1 + 1 + 1 + 2) := hsz
  have HIT : Hid (TIt G s g gen d (w.heap.size + 1 + 1 + 1 + 1 + 1) (w.heap.size + 1 + 1 + 1 + 1 + 1 + 1) wl) := ⟨hpl, hcd, HRR.out.kept HKL.out⟩
  clear c0 c1 c2 c3 c4 c5 hc2 hpl hcd hsz hkl HK5 HL5 HTW HPS
  rw [hs5]
  gi_wp2
  have HRS := Lib.hid HRR.out.lt
  have HTL : Hid (tb < w.heap.size) := HTT.out.ty.lt
  have HBB : Hid (∀ (W : World), But2 wl.heap.size (w.heap.size + 1 + 1 + 1) wl W → Kept w W) := fun W h => But2.kept HKL.out h HKL.out.size (by omega)
  have HLAID : Hid (∀ (W : World), But2 wl.heap.size (w.heap.size + 1 + 1 + 1) wl W → HLaid W w.heap.size tb) := fun W h => HWL.out.frame fun i h1 h2 => h.block i (by have := HLS.out; omega) (by omega) (by omega)
  refine wpIn_rangeFunc_ownH rfl (by omega) (gf := 75) (lb := #[.pointer (some ⟨w.heap.size + 1 + 1 + 1 + 1 + 1, 0, none⟩), .pointer (some ⟨w.heap.size + 1 + 1 + 1 + 1 + 1 + 1, 0, none⟩)]) rfl trivial (enters_of Tryz.func75 (by kernel_rfl) rfl)
    (HST.out _ _ (But2 wl.heap.size (w.heap.size + 1 + 1 + 1)) (fun A B h hi => ⟨hi.pl.frame (h.block _ (by have := HLS.out; omega) (by omega) (by omega)), by rw [World.cell?_of_block (w := A) (a := ⟨w.heap.size + 1 + 1 + 1 + 1 + 1 + 1, 0, none⟩) (h.block _ (by have := HLS.out; show _ + 1 + 1 + 1 + 1 + 1 + 1 < _; omega) (by show _ + 1 + 1 + 1 + 1 + 1 + 1 ≠ _; omega) (by show _ + 1 + 1 + 1 + 1 + 1 + 1 ≠ _; omega))]; exact hi.cd, hi.rk.frame fun k h1 h2 => h.block k (by have := HLS.out; have := HRS.out; omega) (by have := HRS.out; omega) (by have := HRS.out; omega)⟩) wl HIT.out)
    (fun h k => But2.trans h k) (fun W l o o' hl h _ _ => (But2.refl _ _ W).grown (grownBy_putObj' W l o') (fun r e => by cases e; exact hl) (by have := (Array.getElem?_eq_some_iff.1 h).1; omega)) (Below.refl _ _) (fun _ => rfl)
    (fun pre W => WLoop must gen (rdB s d ff) (w.heap.size + 1 + 1 + 1) wl (pre.map Subtype.val) W)
    (fun c pre W => WIx must gen (rdB s d ff) w c (pre.map Subtype.val) W)
    (fun l A A' row hs hg hr => WLoop.own _ A A' row hs hg hr)
    (fun c l A A' row hs hg hr => WIx.own (by have := HLS.out; omega) c _ A A' row hs hg hr)
    ⟨⟨[], [], rfl, HBL.out _⟩, But2.refl _ _ _⟩
    (fun x a' W => ∃ Bx, wl.heap.size ≤ Bx ∧ W.heap[Bx]? = some (fndO s d ff x.1) ∧ a' = { tmps := #[.pointer (some ⟨tb, 0, none⟩), .int .i64 d, .pointer (some ⟨w.heap.size, 0, none⟩), undef, .pointer (some ⟨w.heap.size + 1, 0, none⟩), .pointer (some ⟨w.heap.size + 1 + 1, 0, none⟩), .pointer (some ⟨w.heap.size + 1 + 1 + 1, 0, none⟩), .pointer (some ⟨w.heap.size + 1 + 1 + 1 + 1, 0, none⟩), .int .i64 (x.1 : Nat), .pointer (some ⟨Bx, 0, none⟩), .pointer (some ⟨tb, 0, none⟩), .pointer (some ⟨tb, 0, none⟩), .pointer (some ⟨tb, 0, none⟩), .agg #[.pointer (some ⟨G + 1, 0, none⟩), .int .i64 g.n, .int .i64 g.p, .int .i64 g.m, .int .i64 g.t, .int .u64 (gen : Nat)], .int .i64 d, .func (.func 75) #[] #[.pointer (some ⟨w.heap.size + 1 + 1 + 1 + 1 + 1, 0, none⟩), .pointer (some ⟨w.heap.size + 1 + 1 + 1 + 1 + 1 + 1, 0, none⟩)], .int .i64 (x.1 : Nat), .agg #[.string (s.readT d (ff + (x.1 : Nat))), .int .i64 (s.readE d (ff + (x.1 : Nat)) : Nat)], undef, undef, undef, undef, undef, undef, undef, undef, undef, undef, undef, undef, undef, undef, undef, undef, undef, undef, undef, undef, undef, undef, undef, undef, undef, undef, undef, undef, undef, undef, undef, undef, undef, undef, undef, undef, undef, undef, undef, undef, undef, undef, undef, undef, undef, undef, undef, undef, undef, undef], defers := [] })
    (fun x a' => fun _ A A' row hs hg hr => by
      obtain ⟨Bx, h1, h2, h3⟩ := hs
      exact ⟨Bx, h1, by rw [hg.block Bx (Array.getElem?_eq_some_iff.1 h2).1 (fun e => by obtain ⟨_, o, ho, hc⟩ := hr Bx e.symm; rw [h2] at ho; injection ho with ho; subst ho; cases hc)]; exact h2, h3⟩)
    ?assign ?body ?done ?stop
  case assign =>
    rintro l pre x W K hi hK
    simp only [tsecV]
    gi_wp2
    have hka : Kept W (W.alloc (.cells #[.string (s.readT d (ff + (x.1 : Nat))), .int .i64 (s.readE d (ff + (x.1 : Nat)) : Nat)] 117)) := (Kept.refl _).alloc _
    obtain ⟨a, b, hk1, hk2⟩ := hi.k
    exact hK _ _ ((KeepsOthers.alloc _ _).from _) (hka.but2 hi.o.size) ⟨⟨a, b, hk1, hk2.kept hka⟩, hi.o.trans (hka.but2 hi.o.size)⟩ ⟨W.heap.size, hi.o.size, heap_alloc_new W _, rfl⟩
  case body =>
    rintro l pre x a' W hl' hrr hI ⟨Bx, hBx, hsp, rfl⟩ hlen
    have hkw : Kept w W := HBB.out _ hI.o
    have hld := HLAID.out _ hI.o
    obtain ⟨has, beh, hk1, hk2⟩ := hI.k
    have H2 := Lib.hid hk2
    have HO := Lib.hid hI.o
    have HKW := Lib.hid hkw
    have HTW := Lib.hid (HTT.out.kept hkw)
    have HLN : Hid (has.length + beh.length ≤ 512) := by
      show _ ≤ _
      have h1 := wL_len must gen (rdB s d ff) _ has beh hk1
      rw [List.length_map] at h1
      omega
    have HRES : Hid (wL must gen (rdB s d ff) ((pre ++ [x]).map Subtype.val) = if s.readE d (ff + (x.1 : Nat)) = 71 then .down else if must.length ≤ x.1 then (if s.readE d (ff + (x.1 : Nat)) ≠ 0 ∨ ownsB gen (s.readT d (ff + (x.1 : Nat))).data.toList = true then .go has (beh ++ [(x.1 : Int)]) else .go has beh)
      else if s.readT d (ff + (x.1 : Nat)) = must.getD x.1 ByteArray.empty then .go has beh else .go (has ++ [(x.1 : Int)]) beh) := by
      show _ = _
      rw [List.map_append, show ([x].map Subtype.val) = [x.1] from rfl, wL_snoc, hk1]
      rfl
    have HSX := Lib.hid (HSC.out x.1 x.2)
    unfold rdB at HSX
    dsimp only at HSX
    have p0 : W.cell? ⟨Bx, 0, none⟩ = some (.string (s.readT d (ff + (x.1 : Nat)))) := by rw [World.cell?, hsp]; rfl
    have p1 : W.cell? ⟨Bx, 1, none⟩ = some (.int .i64 (s.readE d (ff + (x.1 : Nat)) : Nat)) := by rw [World.cell?, hsp]; rfl
    have HBX : Hid (wl.heap.size ≤ Bx) := hBx
    obtain ⟨c2, c4, f4, c5, f5⟩ := hld
    have HLD : Hid (HLaid W w.heap.size tb) := ⟨c2, c4, f4, c5, f5⟩
    clear hI hsp hlen hrr hkw hk1 hk2 hBx
    have hWn := HO.out.size
    obtain ⟨xi, hxi⟩ : ∃ xi, xi = x.1 := ⟨_, rfl⟩
    have hx2 := x.2
    rw [← hxi] at HRES HSX p0 p1 hx2 ⊢
    have HXI := Lib.hid hxi
    clear hxi
    generalize hT : s.readT d (ff + (xi : Nat)) = T at *
    generalize hE : s.readE d (ff + (xi : Nat)) = e2 at *
    clear hT hE
    by_cases h71 : e2 = 71
    · have hz : ((e2 : Int) == 71) = true := by rw [h71]; rfl
      have hzN : (e2 == 71) = true := by rw [h71]; rfl
      have HRS2 : Hid (wL must gen (rdB s d ff) ((pre ++ [x]).map Subtype.val) = .down) := by show _ = _; rw [HRES.out, if_pos h71]
      have HF := Lib.hid (w_ret (B := wl.heap.size) HRS2.out HKW.out HLD.out)
      subst h71
      clear HRES HSX
      gi_wp2
      gi_region
      all_goals
        gi_wp2
        exact ⟨⟨HF.out.1.size, HF.out.1.same⟩, rfl, HF.out.2.drew⟩
    · have hz : ((e2 : Int) == 71) = false := by rw [beq_eq_false_iff_ne]; omega
      have hzN : (e2 == 71) = false := by rw [beq_eq_false_iff_ne]; exact h71
      obtain ⟨am, cp, hve, hsm⟩ := HTW.out.gt.strs
      have cm : W.cell? ⟨tb, 6, none⟩ = some (.slice am must.length cp) := by rw [← hve]; exact HTW.out.cm
      have HSM := Lib.hid hsm
      clear hve hsm
      have HWN := Lib.hid hWn
      obtain ⟨va, hva, hga⟩ := H2.out.o1.r
      obtain ⟨vb, hvb, hgb⟩ := H2.out.o2.r
      have HGA := Lib.hid hga
      have HGB := Lib.hid hgb
      have HD1 : Hid (Kept W W.drew) := (Kept.refl W).drew
      have HSW : Hid (Two wl.heap.size (w.heap.size + 1 + 1 + 1 + 1) (w.heap.size + 1 + 1 + 1) beh has W) := H2.out.swap
      have HLA : Hid (has.length ≤ 1000000) := by show _ ≤ _; have := HLN.out; omega
      have HLB : Hid (beh.length ≤ 1000000) := by show _ ≤ _; have := HLN.out; omega
      clear hga hgb hWn
      by_cases hi : must.length ≤ xi
      · have b1 : decide ((must.length : Int) ≤ (xi : Int)) = true := decide_eq_true (by omega)
        have b1N : decide (must.length ≤ xi) = true := decide_eq_true hi
        by_cases h0 : e2 = 0
        · have hy : ((e2 : Int) != 0) = false := by rw [h0]; rfl
          have hyN : (e2 != 0) = false := by rw [h0]; rfl
          have HOW := Lib.hid (fun W => owns_any G g gen T (HSX.out h0) W)
          have hmix : Tryz.prog.follows .mixedOrders = true := by kernel_rfl
          obtain ⟨q0, q1, q2, q3, q4, q5⟩ := HTW.out.pl
          by_cases hq : ownsB gen T.data.toList = true
          · rw [hq] at HOW
            have HRS1 : Hid (wL must gen (rdB s d ff) ((pre ++ [x]).map Subtype.val) = .go has (beh ++ [(xi : Int)])) := by
              show _ = _
              rw [HRES.out, if_neg h71, if_pos hi, if_pos (.inr hq)]
            clear h71 HRES h0 hi hq HSX
            gi_upto_region 8 with fail
            gi_cut [43] from 32 (fun y wx => y = .bool true ∧ Hid (Kept W wx))
            case first =>
              gi_region_with_o (refine ⟨trivial, ?_⟩; gi_at_call 62; refine (CallsIn.inRound l (callsIn_wide.2 (HOW.out _))).mono ?_; rintro e w2 ⟨rfl, hk⟩; have HK2 : Hid (Kept W w2) := Kept.trans (Kept.refl W).drew hk; clear hk)
              all_goals
                gi_wp2_with fail
                gi_meet
                case rel => exact ⟨rfl, HK2⟩
            case rest =>
              obtain ⟨rfl, HKC⟩ := hcut
              have hvb2 : wc.cell? ⟨w.heap.size + 1 + 1 + 1 + 1, 0, none⟩ = some vb := by rw [Below.cell HKC.out (p := ⟨w.heap.size + 1 + 1 + 1 + 1, 0, none⟩) H2.out.o2.ty.lt]; exact hvb
              gi_wp2_with (first | (gi_at_builtin; go_must (refine wpListIn_push _ rfl (.tmp 44) (.tmp 46) rfl HSW (HKC.out.alloc _) HWN (.inr rfl) _ hvb (xi : Int) wc.heap.size rfl rfl (newT_cell _ _ _ 0 _ _ rfl rfl) HLB ?_; intro a9 l9 c9 w9 e9 f9 HP9 HT9)))
              exact ⟨HP9.out.1, HP9.out.2, ⟨⟨has, beh ++ [(xi : Int)], HRS1.out, HT9.out.swap⟩, HO.out.trans HP9.out.2⟩⟩
          · rw [Bool.not_eq_true] at hq
            have HRS1 : Hid (wL must gen (rdB s d ff) ((pre ++ [x]).map Subtype.val) = .go has beh) := by
              show _ = _
              rw [HRES.out, if_neg h71, if_pos hi, if_neg (fun c => c.elim (fun c => c h0) (fun c => by rw [hq] at c; cases c))]
            rw [hq] at HOW
            clear h71 HRES h0 hi hq HSX
            gi_upto_region 8 with fail
            gi_cut [43] from 32 (fun y wx => y = .bool false ∧ Hid (Kept W wx))
            case first =>
              gi_region_with_o (refine ⟨trivial, ?_⟩; gi_at_call 62; refine (CallsIn.inRound l (callsIn_wide.2 (HOW.out _))).mono ?_; rintro e w2 ⟨rfl, hk⟩; have HK2 : Hid (Kept W w2) := Kept.trans (Kept.refl W).drew hk; clear hk)
              all_goals
                gi_wp2_with fail
                gi_meet
                case rel => exact ⟨rfl, HK2⟩
            case rest =>
              obtain ⟨rfl, HKC⟩ := hcut
              gi_wp2
              exact ⟨HKC.out.others.from _, HKC.out.but2 HWN.out, ⟨⟨has, beh, HRS1.out, H2.out.kept HKC.out⟩, HO.out.trans (HKC.out.but2 HWN.out)⟩⟩
        · have hy : ((e2 : Int) != 0) = true := by rw [bne_iff_ne]; omega
          have hyN : (e2 != 0) = true := by rw [bne_iff_ne]; exact h0
          have hq : True := trivial
          have HRS1 : Hid (wL must gen (rdB s d ff) ((pre ++ [x]).map Subtype.val) = .go has (beh ++ [(xi : Int)])) := by
            show _ = _
            rw [HRES.out, if_neg h71, if_pos hi, if_pos (.inl h0)]
          clear h71 HRES h0 hi hq HSX
          gi_upto_region 8 with fail
          gi_cut [43] from 32 (fun y wx => y = .bool true ∧ Hid (Kept W wx))
          case first =>
            refine wpIn_region_round (by kernel_rfl) (by kernel_rfl) (by kernel_rfl) ?_
            repeat (first | gi_big_quiet_step (fail) | (simp only [hy]))
            refine BigFrame.wpQuietIn_skip (fun _ _ _ _ => trivial) rfl ?_
            simp only [Act.put, List.setIfInBounds_toArray, List.set_cons_succ, List.set_cons_zero]
            repeat (gi_big_quiet_step (fail))
            refine wpQuietIn_nil ?_
            intro _ hw'
            obtain ⟨nq, rfl⟩ := hw'
            gi_wp2_with fail
            gi_meet
            case rel => exact ⟨by go_num, (Kept.refl W).drewN _⟩
          case rest =>
            obtain ⟨rfl, HKC⟩ := hcut
            have hvb2 : wc.cell? ⟨w.heap.size + 1 + 1 + 1 + 1, 0, none⟩ = some vb := by rw [Below.cell HKC.out (p := ⟨w.heap.size + 1 + 1 + 1 + 1, 0, none⟩) H2.out.o2.ty.lt]; exact hvb
            gi_wp2_with (first | (gi_at_builtin; go_must (refine wpListIn_push _ rfl (.tmp 44) (.tmp 46) rfl HSW (HKC.out.alloc _) HWN (.inr rfl) _ hvb (xi : Int) wc.heap.size rfl rfl (newT_cell _ _ _ 0 _ _ rfl rfl) HLB ?_; intro a9 l9 c9 w9 e9 f9 HP9 HT9)))
            exact ⟨HP9.out.1, HP9.out.2, ⟨⟨has, beh ++ [(xi : Int)], HRS1.out, HT9.out.swap⟩, HO.out.trans HP9.out.2⟩⟩
      · have b1 : decide ((must.length : Int) ≤ (xi : Int)) = false := decide_eq_false (by omega)
        have b1N : decide (must.length ≤ xi) = false := decide_eq_false hi
        obtain ⟨q, o, rfl, hcl⟩ : ∃ q o, am = some ⟨q, o, none⟩ ∧ W.cell? ⟨q, o + xi, none⟩ = some (.string (must.getD xi ByteArray.empty)) := by
          rcases HSM.out with h | ⟨q, o, h1, h2⟩
          · rw [h] at hi; exact absurd (Nat.zero_le _) hi
          · exact ⟨q, o, h1, h2 xi (by omega)⟩
        have xi1 : (xi : Int) < (must.length : Int) := by omega
        have xi0 : (0 : Int) ≤ (xi : Int) := by omega
        have xiN : xi < must.length := by omega
        have hwi : ((xi : Int)).toNat = xi := by omega
        obtain ⟨M, hM⟩ : ∃ M, M = must.getD xi ByteArray.empty := ⟨_, rfl⟩
        rw [← hM] at HRES hcl
        clear hM
        by_cases hq : T = M
        · have hs1 : (T.toList == M.toList) = true := by rw [hq]; exact beq_self_eq_true _
          have hs2 : (T.toList != M.toList) = false := by rw [bne, hs1]; rfl
          have HRS1 : Hid (wL must gen (rdB s d ff) ((pre ++ [x]).map Subtype.val) = .go has beh) := by
            show _ = _
            rw [HRES.out, if_neg h71, if_neg hi, if_pos hq]
          clear h71 HRES hi HSX hq
          gi_upto_region 10 with fail
          gi_cut [48] from 49 (fun y wx => y = .bool false ∧ Hid (Kept W wx))
          case first =>
            refine wpIn_region_round (by kernel_rfl) (by kernel_rfl) (by kernel_rfl) ?_
            repeat (gi_big_quiet_step (fail))
            refine wpQuietIn_nil ?_
            intro _ hw'
            obtain ⟨nq, hw''⟩ := hw'
            subst hw''
            gi_wp2_with fail
            gi_meet
            case rel => exact ⟨by go_num, (Kept.refl W).drewN _⟩
          case rest =>
            obtain ⟨rfl, HKC⟩ := hcut
            gi_wp2
            exact ⟨HKC.out.others.from _, HKC.out.but2 HWN.out, ⟨⟨has, beh, HRS1.out, H2.out.kept HKC.out⟩, HO.out.trans (HKC.out.but2 HWN.out)⟩⟩
        · have hs1 : (T.toList == M.toList) = false := by rw [← Bool.not_eq_true, bytes_same9]; exact hq
          have hs2 : (T.toList != M.toList) = true := by rw [bne, hs1]; rfl
          have HRS1 : Hid (wL must gen (rdB s d ff) ((pre ++ [x]).map Subtype.val) = .go (has ++ [(xi : Int)]) beh) := by
            show _ = _
            rw [HRES.out, if_neg h71, if_neg hi, if_neg hq]
          clear h71 HRES hi HSX hq
          gi_upto_region 10 with fail
          gi_cut [48] from 49 (fun y wx => y = .bool true ∧ Hid (Kept W wx))
          case first =>
            refine wpIn_region_round (by kernel_rfl) (by kernel_rfl) (by kernel_rfl) ?_
            repeat (gi_big_quiet_step (fail))
            refine wpQuietIn_nil ?_
            intro _ hw'
            obtain ⟨nq, hw''⟩ := hw'
            subst hw''
            gi_wp2_with fail
            gi_meet
            case rel => exact ⟨by go_num, (Kept.refl W).drewN _⟩
          case rest =>
            obtain ⟨rfl, HKC⟩ := hcut
            have hva2 : wc.cell? ⟨w.heap.size + 1 + 1 + 1, 0, none⟩ = some va := by rw [Below.cell HKC.out (p := ⟨w.heap.size + 1 + 1 + 1, 0, none⟩) H2.out.o1.ty.lt]; exact hva
            gi_wp2_with (first | (gi_at_builtin; go_must (refine wpListIn_push _ rfl (.tmp 59) (.tmp 61) rfl H2 (HKC.out.alloc _) HWN (.inl rfl) _ hva (xi : Int) wc.heap.size rfl rfl (newT_cell _ _ _ 0 _ _ rfl rfl) HLA ?_; intro a9 l9 c9 w9 e9 f9 HP9 HT9)))
            exact ⟨HP9.out.1, HP9.out.2, ⟨⟨has ++ [(xi : Int)], beh, HRS1.out, HT9.out⟩, HO.out.trans HP9.out.2⟩⟩
  case done =>
    rintro D ys W hD hys hI hK
    rw [hys] at hI
    obtain ⟨has, beh, hk1, hk2⟩ := hI.k
    obtain ⟨va, hva, hga⟩ := hk2.o1.r
    obtain ⟨vb, hvb, hgb⟩ := hk2.o2.r
    have hll := wL_len must gen (rdB s d ff) _ has beh hk1
    rw [List.length_range] at hll
    have HALL : Hid (wAll must gen (rdB s d ff) n = (0, beh ++ has.reverse)) := by show wRes _ = _; rw [hk1]; rfl
    have HFIN := Lib.hid (fun w2 => w_fin (w2 := w2) hk2 (HBB.out _ hI.o) (HLAID.out _ hI.o) hK (by have := HLS.out; omega) hD hI.o.size hva hvb)
    have HREV := Lib.hid (reverse_any wl.heap.size va has W hga (by omega))
    have HLL : Hid (beh.length + has.reverse.length ≤ 1000000) := by show _ ≤ _; rw [List.length_reverse]; omega
    clear hI hk1 hk2 hys hK hll
    obtain ⟨aa, la, ca, rfl⟩ := gati_slice hga
    obtain ⟨ab, lb, cb, rfl⟩ := gati_slice hgb
    clear hga hgb
    gi_wp2
    refine ⟨trivial, (callsIn_wide.2 HREV.out).mono ?_⟩
    rintro e w2 ⟨rfl, h2, g2⟩
    obtain ⟨d1, d2, d3, d4, d5⟩ := HFIN.out w2 h2 g2
    have HX := Lib.hid h2
    have HY := Lib.hid d4
    have HF5 := Lib.hid d5
    clear HFIN HREV h2 g2 d4 d5
    gi_wp2_with (first | (gi_at_builtin; go_must (refine wpListIn_gatis _ rfl (.tmp 65) (.tmp 66) rfl d3 rfl HY rfl HX HLL ?_; intro a9 l9 c9 w9 hG9 hg9; obtain ⟨e4, f4, e5, f5, HFF⟩ := HF5.out a9 l9 c9 w9 hG9.out hg9.out; clear hG9 hg9)))
    obtain ⟨hDF, d8, d9, hfin⟩ := HFF.out
    refine ⟨by simp, .inl ⟨_, _, rfl, run_takeDeferred hDF, ?_⟩⟩
    have e8 := _root_.Go.cell_kept d8 (grownBy_putObj' _ D (.deferred none)) (fun r e => by cases e; exact ⟨_, hDF, rfl⟩)
    have e9 := _root_.Go.cell_kept d9 (grownBy_putObj' _ D (.deferred none)) (fun r e => by cases e; exact ⟨_, hDF, rfl⟩)
    obtain ⟨hg1, hg2⟩ := hfin _ (grownBy_putObj' _ D (.deferred none))
    refine ⟨.tuple #[.slice a9 l9 c9, .int .i64 ((0 : Nat) : Int)], ?_, ⟨⟨_, by rw [HALL.out], by rw [HALL.out]; exact hg1⟩, hg2⟩⟩
    simp [results, Tryz.results46, go_sem, e8, e9]
  case stop =>
    rintro D c pre W hD ⟨q, hq, hpre⟩ hI hK
    obtain ⟨rfl, hI⟩ := hI
    have h1 := hI.r
    have hc4 := hI.c4
    have hc5 := hI.c5
    have hlt := hI.o
    have hall : wAll must gen (rdB s d ff) n = (71, []) := by
      rw [hpre] at h1
      unfold wAll
      rw [wL_down must gen _ q h1 n hq]
      rfl
    gi_wp2
    refine ⟨by simp, .inl ⟨_, _, rfl, run_takeDeferred hK, ?_⟩⟩
    have e8 := _root_.Go.cell_kept hc4 (grownBy_putObj' _ D (.deferred none)) (fun r e => by cases e; exact ⟨_, hK, rfl⟩)
    have e9 := _root_.Go.cell_kept hc5 (grownBy_putObj' _ D (.deferred none)) (fun r e => by cases e; exact ⟨_, hK, rfl⟩)
    refine ⟨.tuple #[.slice none 0 0, .int .i64 ((71 : Nat) : Int)], ?_, ⟨⟨.slice none 0 0, by rw [hall], by rw [hall]; exact GatI.nil _ _⟩, keptT_above hlt (grownBy_putObj' _ D (.deferred none)) (fun r e => by cases e; have := HLS.out; omega)⟩⟩
    simp [results, Tryz.results46, go_sem, e8, e9]
end Go.Proofs.YtmgkkoajjdgmbaaGreatDoor

/- The program's: what is done to the tail's drives one after the other, up to the first error. -/
namespace Go.Proofs.YtmgkkoajjdgmbaaGreatDoor
open Go.RowKit Go.Shelf Sm Wr _root_.Go.Proofs.YtmgkkoajjdgmbaaGreatDoor.Nm
set_option linter.unusedVariables false
def stepAll {σ : Type} (act : Int → σ → Nat × σ) : List Int → σ → Nat × σ
  | [], x => (0, x)
  | d :: l, x => if (act d x).1 ≠ 0 then act d x else stepAll act l (act d x).2
theorem GatI.cells {B : Nat} {v : Value} {rs : List Int} {w : World} (h : GatI B v rs w) (h0 : 0 < rs.length) : ∃ q cap, v = .slice (some ⟨q, 0, none⟩) rs.length cap ∧ B ≤ q ∧ q < w.heap.size ∧ ∀ i, i < rs.length → w.cell? ⟨q, i, none⟩ = some (.int .i64 (rs.getD i 0)) := by
  have hX := h
  obtain ⟨h1, h2⟩ := h
  rcases h2 with ⟨rfl, h2⟩ | ⟨q, cap, cur, rfl, h3, h4, h5⟩
  · omega
  · refine ⟨q, cap, rfl, h3, (Array.getElem?_eq_some_iff.1 h4).1, fun i hi => ?_⟩
    have := World.ownsRow.cells hX (g := q) rfl i (.int .i64 (rs.getD i 0)) (by rw [List.getElem?_map, List.getElem?_eq_getElem hi, List.getD_eq_getElem?_getD, List.getElem?_eq_getElem hi]; rfl)
    have e : (⟨q, 0, none⟩ : Addr).add i = ⟨q, i, none⟩ := by
      unfold Addr.add
      split
      · rename_i h; subst h; rfl
      · simp
    rw [e] at this
    exact this
theorem drop_cons (l : List Int) (k : Nat) (h : k < l.length) : l.drop k = l.getD k 0 :: l.drop (k + 1) := by
  rw [List.drop_eq_getElem_cons h, List.getD_eq_getElem?_getD, List.getElem?_eq_getElem h]; rfl
theorem getD_mem (l : List Int) (k : Nat) (h : k < l.length) : l.getD k 0 ∈ l := by
  rw [List.getD_eq_getElem?_getD, List.getElem?_eq_getElem h]; exact List.getElem_mem h
theorem drives_part (g : Geo) (gen : Nat) (w : World) (h : gOk g gen) :
    Calls Tryz.prog 25 #[.agg #[.int .i64 g.n, .int .i64 g.p, .int .i64 g.m, .int .i64 g.t], .int .u64 (gen : Nat)] w fun e w' => ∃ q c, e = .returned (.slice (some ⟨q, 0, none⟩) (drvL g gen).length c) ∧ Hid (w.heap.size ≤ q ∧ q < w'.heap.size ∧ Typ w' q 3 ∧ (∀ i, i < (drvL g gen).length → w'.cell? ⟨q, i, none⟩ = some (.int .i64 ((drvL g gen).getD i 0))) ∧ Kept w w') := by
  refine (drives_anyT g gen w h).mono ?_
  rintro e w' ⟨⟨v, rfl, hG⟩, hk⟩
  obtain ⟨q, c, rfl, h1, h2, h3⟩ := hG.cells (by rw [drvL_length]; omega)
  exact ⟨q, c, rfl, h1, h2, own_typ hG q rfl, h3, hk⟩
set_option maxRecDepth 100000 in
set_option maxHeartbeats 1000000 in
theorem each_any {σ : Type} (Inv : Nat → σ → World → Prop) (act : Int → σ → Nat × σ) (j : Nat) (bound caps : Array Value) (B tb G : Nat) (g : Geo) (gen : Nat) (v : Value) (must : List ByteArray) (next : Nat) (br : Bool) (x0 : σ) (w : World)
    (hT : TailAt B tb G g gen v must next br w) (hg : gOk g gen) (hen : ∀ args w, (callFunc j args).run Tryz.prog w = .ok (.enter j args) w)
    (h0 : ∀ b W, Kept w W → w.heap.size ≤ b → b < W.heap.size → Typ W b 3 → Inv b x0 W)
    (hI : ∀ b x W d, Inv b x W → d ∈ drvL g gen → Calls Tryz.prog j (bound ++ #[.int .i64 d] ++ caps) W fun e w' => e = .returned (.int .i64 ((act d x).1 : Nat)) ∧ Inv b (act d x).2 w' ∧ w'.heap[b]? = W.heap[b]?) :
    Calls Tryz.prog 36 #[.pointer (some ⟨tb, 0, none⟩), .func (.func j) bound caps] w fun e w' => e = .returned (.int .i64 ((stepAll act (drvL g gen) x0).1 : Nat)) ∧ ∃ b, Inv b (stepAll act (drvL g gen) x0).2 w' := by
  have HDR := Lib.hid (fun W => drives_part g gen W hg)
  have HI := Lib.hid hI
  have H0 := Lib.hid h0
  have HEJ := Lib.hid hen
  have HPL : Hid (∀ W, Kept w W → PlAt W tb 0 G g gen) := fun W k => hT.pl.kept k
  have hNL : (drvL g gen).length ≤ 100000 := by
    rw [drvL_length]
    obtain ⟨m1, m2, m3, m4, m5, m6, m7, m8⟩ := g.may_iff.1 hg.1
    omega
  clear hI h0 hen hT hg
  generalize hdl : drvL g gen = dl at *
  clear hdl
  obtain ⟨N, hN⟩ : ∃ N, N = dl.length := ⟨_, rfl⟩
  rw [← hN] at HDR hNL
  have HN := Lib.hid hN
  clear hN
  have KD : Hid (Kept w w.drew) := (Kept.refl _).drew
  have k0 := Kept.refl w
  go_enter Tryz.func36, Tryz.ntmps36
  go_upto_region 1 with fail
  go_region_held3 (fun W' => W'.cell? ⟨tb, 1, none⟩ = some (.int .i64 g.n) ∧ W'.cell? ⟨tb, 2, none⟩ = some (.int .i64 g.p) ∧ W'.cell? ⟨tb, 3, none⟩ = some (.int .i64 g.m) ∧ W'.cell? ⟨tb, 4, none⟩ = some (.int .i64 g.t) ∧ W'.cell? ⟨tb, 5, none⟩ = some (.int .u64 (gen : Nat)))
    (first | exact ⟨(HPL.out _ k0).c1, (HPL.out _ k0).c2, (HPL.out _ k0).c3, (HPL.out _ k0).c4, (HPL.out _ k0).c5⟩ | exact ⟨(HPL.out _ KD.out).c1, (HPL.out _ KD.out).c2, (HPL.out _ KD.out).c3, (HPL.out _ KD.out).c4, (HPL.out _ KD.out).c5⟩ | exact ⟨(HPL.out _ kA).c1, (HPL.out _ kA).c2, (HPL.out _ kA).c3, (HPL.out _ kA).c4, (HPL.out _ kA).c5⟩)
    (first | (go_at_call 25; refine (HDR.out _).mono ?_; rintro e wA ⟨q, c, rfl, HQ⟩; have kA := Kept.trans KD.out HQ.out.2.2.2.2))
  obtain ⟨hq1, hq2, hq3, hq4, hq5⟩ := HQ.out
  have HS0 : Hid (Inv q x0 wA ∧ ∀ i, i < N → wA.cell? ⟨q, i, none⟩ = some (.int .i64 (dl.getD i 0))) := ⟨H0.out q wA kA (Nat.le_trans KD.out.size hq1) hq2 hq3, hq4⟩
  clear hq1 hq2 hq3 hq4 hq5 HQ HDR H0 HPL k0 kA KD
  go_wp2_with fail
  go_loopw [20] (fun i wr => ∃ (k : Nat) (x : σ), k ≤ N ∧ i = .int .i64 k ∧ Hid (Inv q x wr ∧ (∀ i, i < N → wr.cell? ⟨q, i, none⟩ = some (.int .i64 (dl.getD i 0))) ∧ stepAll act (dl.drop k) x = stepAll act dl x0)) (fun i _ => N - (intOf i).toNat)
  case atStart => exact ⟨0, x0, Nat.zero_le _, rfl, HS0.out.1, HS0.out.2, rfl⟩
  case round =>
    obtain ⟨k, x, hk, rfl, HR⟩ := hrel
    by_cases hlt : k < N
    · have b1 : decide ((k : Int) < (N : Int)) = true := decide_eq_true (by omega)
      have b1N : decide (k < N) = true := decide_eq_true hlt
      have hw1 : IntKind.i64.wrap ((k : Int) + 1) = ((k + 1 : Nat) : Int) := by rw [IntWalk.i64_in _ (by omega)]; omega
      have hc := HR.out.2.1 k hlt
      have HDC : Hid (dl.drop k = dl.getD k 0 :: dl.drop (k + 1)) := drop_cons dl k (by rw [← HN.out]; exact hlt)
      have HCL := Lib.hid (HI.out q x wr (dl.getD k 0) HR.out.1 (getD_mem dl k (by rw [← HN.out]; exact hlt)))
      generalize dl.getD k 0 = dk at *
      have HST : Hid (stepAll act (dl.drop k) x = if (act dk x).1 ≠ 0 then act dk x else stepAll act (dl.drop (k + 1)) (act dk x).2) := by show _ = _; rw [HDC.out]; rfl
      have HCS := Lib.hid HR.out.2.1
      have HEQ := Lib.hid HR.out.2.2
      obtain ⟨e1, x1, hact⟩ : ∃ e1 x1, act dk x = (e1, x1) := ⟨_, _, rfl⟩
      rw [hact] at HST HCL
      dsimp only at HST HCL
      clear HR hact HDC
      by_cases he : e1 = 0
      · have hz := int_eq e1 he
        go_wp2_with fail
        rw [HEJ.out, Oper.upon_enter]
        refine HCL.out.mono ?_
        rintro r w1 ⟨rfl, hk1, hk2⟩
        have HS1 : Hid (Inv q x1 w1 ∧ (∀ i, i < N → w1.cell? ⟨q, i, none⟩ = some (.int .i64 (dl.getD i 0))) ∧ stepAll act (dl.drop (k + 1)) x1 = stepAll act dl x0) := ⟨hk1, fun i hi => by rw [World.cell?_of_block (w := wr) (a := ⟨q, i, none⟩) hk2]; exact HCS.out i hi, by rw [← HEQ.out, HST.out, if_neg (fun c => c he)]⟩
        clear HCL hk1 hk2
        go_wp2_with fail
        exact ⟨⟨k + 1, x1, by omega, by go_num, HS1⟩, by simp [intOf]; omega⟩
      · have hz := int_nz e1 he
        go_wp2_with fail
        rw [HEJ.out, Oper.upon_enter]
        refine HCL.out.mono ?_
        rintro r w1 ⟨rfl, hk1, hk2⟩
        have HS1 : Hid (Inv q x1 w1 ∧ stepAll act dl x0 = (e1, x1)) := ⟨hk1, by rw [← HEQ.out, HST.out, if_pos he]⟩
        clear HCL hk1 hk2
        go_wp2_with fail
        go_ret
        rw [HS1.out.2]
        exact ⟨rfl, q, HS1.out.1⟩
    · obtain rfl : k = N := by omega
      have b1 : decide ((k : Int) < (k : Int)) = false := decide_eq_false (by omega)
      have b1N : decide (k < k) = false := decide_eq_false (by omega)
      have HS1 : Hid (Inv q x wr ∧ stepAll act dl x0 = (0, x)) := ⟨HR.out.1, by rw [← HR.out.2.2, List.drop_eq_nil_of_le (by rw [← HN.out]; exact Nat.le_refl _)]; rfl⟩
      clear HR
      go_wp2_with fail
      go_ret
      rw [HS1.out.2]
      exact ⟨rfl, q, HS1.out.1⟩
end Go.Proofs.YtmgkkoajjdgmbaaGreatDoor

/- The program's: one drive of a tail is mended. -/
namespace Go.Proofs.YtmgkkoajjdgmbaaGreatDoor
open Go.RowKit Go.Shelf Sm Wr _root_.Go.Proofs.YtmgkkoajjdgmbaaGreatDoor.Nm
set_option linter.unusedVariables false
/-- Writes of these sectors, one after the other, up to the first error. -/
def wrS (s : RSt) (d f : Int) (T : Int → ByteArray) : List Int → Nat × RSt
  | [] => (0, s)
  | i :: r => if s.writeE d (f + i) (T i) ≠ 0 then (s.writeE d (f + i) (T i), s.writeS d (f + i) (T i)) else wrS (s.writeS d (f + i) (T i)) d f T r
def mendT (must : List ByteArray) (i : Int) : ByteArray := must.getD i.toNat ByteArray.empty
noncomputable def mendD (s : RSt) (d f : Int) (gen : Nat) (must : List ByteArray) (n : Nat) : Nat × RSt :=
  if (wAll must gen (rdB s d f) n).1 ≠ 0 then ((wAll must gen (rdB s d f) n).1, s) else wrS s d f (mendT must) (wAll must gen (rdB s d f) n).2
theorem nwr (s : RSt) (d i : Int) (t : ByteArray) : (s.writeS d i t).n = s.n ∧ (s.writeS d i t).m = s.m := by
  unfold RSt.writeS RSt.wr; split <;> (try split) <;> exact ⟨rfl, rfl⟩
theorem wrS_n (d f : Int) (T : Int → ByteArray) : ∀ (l : List Int) (s : RSt), (wrS s d f T l).2.n = s.n ∧ (wrS s d f T l).2.m = s.m
  | [], s => ⟨rfl, rfl⟩
  | i :: r, s => by
    unfold wrS
    split
    · exact nwr _ _ _ _
    · obtain ⟨h1, h2⟩ := wrS_n d f T r (s.writeS d (f + i) (T i))
      exact ⟨h1.trans (nwr _ _ _ _).1, h2.trans (nwr _ _ _ _).2⟩
theorem mendD_n (s : RSt) (d f : Int) (gen : Nat) (must : List ByteArray) (n : Nat) : (mendD s d f gen must n).2.n = s.n ∧ (mendD s d f gen must n).2.m = s.m := by
  unfold mendD; split
  · exact ⟨rfl, rfl⟩
  · exact wrS_n _ _ _ _ _
theorem wL_in (must : List ByteArray) (gen : Nat) (rd : Nat → Nat × ByteArray) : ∀ (q : Nat) (has beh : List Int), wL must gen rd (List.range q) = .go has beh → ∀ i, i ∈ has ∨ i ∈ beh → ∃ k : Nat, k < q ∧ i = (k : Int)
  | 0, has, beh, h, i, hi => by
    simp [wL] at h
    obtain ⟨rfl, rfl⟩ := h
    rcases hi with hi | hi <;> cases hi
  | q + 1, has, beh, h, i, hi => by
    rw [List.range_succ, wL_snoc] at h
    generalize hw : wL must gen rd (List.range q) = r at h
    cases r with
    | down => simp [wStep] at h
    | go a b =>
      have ih := wL_in must gen rd q a b hw
      have up : (i ∈ a ∨ i ∈ b) → ∃ k : Nat, k < q + 1 ∧ i = (k : Int) := fun c => by obtain ⟨k, h1, h2⟩ := ih i c; exact ⟨k, by omega, h2⟩
      have here : i = (q : Int) → ∃ k : Nat, k < q + 1 ∧ i = (k : Int) := fun c => ⟨q, by omega, c⟩
      unfold wStep at h
      dsimp only at h
      split at h
      · cases h
      · split at h
        · split at h
          · injection h with h1 h2; subst h1 h2
            rcases hi with hi | hi
            · exact up (.inl hi)
            · rcases List.mem_append.1 hi with hi | hi
              · exact up (.inr hi)
              · exact here (by simpa using hi)
          · injection h with h1 h2; subst h1 h2
            exact up hi
        · split at h
          · injection h with h1 h2; subst h1 h2
            exact up hi
          · injection h with h1 h2; subst h1 h2
            rcases hi with hi | hi
            · rcases List.mem_append.1 hi with hi | hi
              · exact up (.inl hi)
              · exact here (by simpa using hi)
            · exact up (.inr hi)
theorem wAll_in (must : List ByteArray) (gen : Nat) (rd : Nat → Nat × ByteArray) (n : Nat) : ∀ i ∈ (wAll must gen rd n).2, ∃ k : Nat, k < n ∧ i = (k : Int) := by
  intro i hi
  unfold wAll at hi
  generalize hw : wL must gen rd (List.range n) = r at hi
  cases r with
  | down => cases hi
  | go a b =>
    refine wL_in must gen rd n a b hw i ?_
    rcases List.mem_append.1 hi with h | h
    · exact .inr h
    · exact .inl (List.mem_reverse.1 h)
theorem wAll_len (must : List ByteArray) (gen : Nat) (rd : Nat → Nat × ByteArray) (n : Nat) : (wAll must gen rd n).2.length ≤ n := by
  unfold wAll
  generalize hw : wL must gen rd (List.range n) = r
  cases r with
  | down => exact Nat.zero_le _
  | go a b =>
    have := wL_len must gen rd _ a b hw
    rw [List.length_range] at this
    show (b ++ a.reverse).length ≤ n
    rw [List.length_append, List.length_reverse]
    omega
theorem gati_shape {B : Nat} {v : Value} {rs : List Int} {w : World} (h : GatI B v rs w) : ∃ a c, v = .slice a rs.length c ∧ (rs.length = 0 ∨ ∃ q, a = some ⟨q, 0, none⟩ ∧ B ≤ q ∧ q < w.heap.size ∧ ∀ i, i < rs.length → w.cell? ⟨q, i, none⟩ = some (.int .i64 (rs.getD i 0))) := by
  by_cases h0 : 0 < rs.length
  · obtain ⟨q, c, rfl, h1, h2, h3⟩ := h.cells h0
    exact ⟨_, _, rfl, .inr ⟨q, rfl, h1, h2, h3⟩⟩
  · obtain ⟨h1, h2⟩ := h
    rcases h2 with ⟨rfl, h2⟩ | ⟨g, cap, cur, rfl, h3, h4, h5⟩
    · exact ⟨none, 0, by rw [h2], .inl h2⟩
    · exact ⟨_, _, rfl, .inl (by omega)⟩
end Go.Proofs.YtmgkkoajjdgmbaaGreatDoor

/- The program's: one drive of a tail is mended: the walk. -/
namespace Go.Proofs.YtmgkkoajjdgmbaaGreatDoor
open Go.RowKit Go.Shelf Sm Wr _root_.Go.Proofs.YtmgkkoajjdgmbaaGreatDoor.Nm
set_option linter.unusedVariables false
theorem pwrite_agg (G : Nat) (s : RSt) (g : Geo) (gen : Nat) (d i : Int) (t : ByteArray) (w : World) (hR : RackAt G s w) (h1 : 0 ≤ g.t) (h2 : g.t ≤ 512) (hd1 : -9223372036854775808 ≤ d) (hd2 : d ≤ 9223372036854775807) (hi1 : 0 ≤ i) (hi2 : i ≤ 100000) (ht : t.size ≤ 100000) :
    Calls Tryz.prog 38 #[.agg #[.pointer (some ⟨G + 1, 0, none⟩), .int .i64 g.n, .int .i64 g.p, .int .i64 g.m, .int .i64 g.t, .int .u64 (gen : Nat)], .int .i64 d, .int .i64 i, .string t] w fun e w' => e = .returned (.int .i64 (s.writeE d (fstS g.t gen + i) t : Nat)) ∧ RackAt G (s.writeS d (fstS g.t gen + i) t) w' ∧ Only G (G + 2 + s.n) w w' := pwrite_any G s g gen d i t w hR h1 h2 hd1 hd2 hi1 hi2 ht
theorem wrong_shape (tb B G : Nat) (s : RSt) (g : Geo) (gen : Nat) (v : Value) (must : List ByteArray) (next : Nat) (br : Bool) (d : Int) (n : Nat) (w : World) (hT : TailAt B tb G g gen v must next br w) (hR : RackAt G s w) (hn : g.t = (n : Int)) (hn2 : n ≤ 512) (hd1 : -9223372036854775808 ≤ d) (hd2 : d ≤ 9223372036854775807) (hl : must.length ≤ 1000000)
    (hsect : ∀ i, i < n → (rdB s d (fstS g.t gen) i).1 = 0 → Sect (rdB s d (fstS g.t gen) i).2.data.toList) :
    Calls Tryz.prog 46 #[.pointer (some ⟨tb, 0, none⟩), .int .i64 d] w fun e w' => ∃ a c, e = .returned (.tuple #[.slice a (wAll must gen (rdB s d (fstS g.t gen)) n).2.length c, .int .i64 ((wAll must gen (rdB s d (fstS g.t gen)) n).1 : Nat)]) ∧
      Hid (Kept w w' ∧ ((wAll must gen (rdB s d (fstS g.t gen)) n).2.length = 0 ∨ ∃ q, a = some ⟨q, 0, none⟩ ∧ w.heap.size ≤ q ∧ q < w'.heap.size ∧ ∀ i, i < (wAll must gen (rdB s d (fstS g.t gen)) n).2.length → w'.cell? ⟨q, i, none⟩ = some (.int .i64 ((wAll must gen (rdB s d (fstS g.t gen)) n).2.getD i 0)))) := by
  refine (wrong_any tb B G s g gen v must next br d n w hT hR hn hn2 hd1 hd2 hl hsect).mono ?_
  rintro e w' ⟨⟨u, rfl, hG⟩, hk⟩
  obtain ⟨a, c, rfl, h⟩ := gati_shape hG
  exact ⟨a, c, rfl, hk, h⟩
set_option maxRecDepth 100000 in
set_option maxHeartbeats 1000000 in
theorem mend_any (tb B G : Nat) (s : RSt) (g : Geo) (gen : Nat) (v : Value) (must : List ByteArray) (next : Nat) (br : Bool) (d : Int) (n : Nat) (w : World) (hT : TailAt B tb G g gen v must next br w) (hR : RackAt G s w) (hn : g.t = (n : Int)) (hn2 : n ≤ 512) (hd1 : -9223372036854775808 ≤ d) (hd2 : d ≤ 9223372036854775807) (hl : must.length ≤ 1000000) (hm : ∀ x ∈ must, x.size ≤ 100000)
    (hB : G + 2 + s.n ≤ B) (htb : G + 2 + s.n ≤ tb)
    (hsect : ∀ i, i < n → (rdB s d (fstS g.t gen) i).1 = 0 → Sect (rdB s d (fstS g.t gen) i).2.data.toList) :
    Calls Tryz.prog 43 #[.pointer (some ⟨tb, 0, none⟩), .int .i64 d] w fun e w' => e = .returned (.int .i64 ((mendD s d (fstS g.t gen) gen must n).1 : Nat)) ∧ RackAt G (mendD s d (fstS g.t gen) gen must n).2 w' ∧ Only G (G + 2 + s.n) w w' := by
  have HWG := Lib.hid (wrong_shape tb B G s g gen v must next br d n w hT hR hn hn2 hd1 hd2 hl hsect)
  have HPW := Lib.hid (fun s' i t W hR' hi1 hi2 ht => pwrite_agg G s' g gen d i t W hR' (by omega) (by omega) hd1 hd2 hi1 hi2 ht)
  have HRL : Hid (G + 2 + s.n ≤ w.heap.size) := hR.lt
  have HTO : Hid (∀ W W', Kept w W → Only G (G + 2 + s.n) W W' → TailAt B tb G g gen v must next br W') := fun W W' k o => (hT.kept k).only o (.inr htb) hB
  have HRK : Hid (∀ W, Kept w W → RackAt G s W) := fun W k => hR.kept k
  have HMD : Hid (mendD s d (fstS g.t gen) gen must n = if (wAll must gen (rdB s d (fstS g.t gen)) n).1 ≠ 0 then ((wAll must gen (rdB s d (fstS g.t gen)) n).1, s) else wrS s d (fstS g.t gen) (mendT must) (wAll must gen (rdB s d (fstS g.t gen)) n).2) := rfl
  have HIN := Lib.hid (wAll_in must gen (rdB s d (fstS g.t gen)) n)
  have hlen := wAll_len must gen (rdB s d (fstS g.t gen)) n
  have HMS : Hid (∀ i, (mendT must i).size ≤ 100000) := fun i => by
    unfold mendT
    rw [List.getD_eq_getElem?_getD]
    cases h : must[i.toNat]? with
    | none => show (0 : Nat) ≤ _; omega
    | some x => exact hm x (List.mem_of_getElem? h)
  clear hT hR hn hm hsect hB htb
  generalize mendD s d (fstS g.t gen) gen must n = MD at *
  generalize wAll must gen (rdB s d (fstS g.t gen)) n = WA at *
  generalize fstS g.t gen = ff at *
  obtain ⟨we, wl⟩ := WA
  dsimp only at HWG HMD HIN hlen
  obtain ⟨N, hN⟩ : ∃ N, N = wl.length := ⟨_, rfl⟩
  rw [← hN] at HWG hlen
  have HN := Lib.hid hN
  clear hN
  by_cases hwe : we = 0
  · have hz := int_eq we hwe
    have HMD2 : Hid (MD = wrS s d ff (mendT must) wl) := by show _ = _; rw [HMD.out, if_neg (fun c => c hwe)]
    clear hwe HMD
    go_enter Tryz.func43, Tryz.ntmps43
    go_wp2_with (go_at_call 46; refine HWG.out.mono ?_; rintro e w1 ⟨a, c, rfl, HA⟩; clear HWG)
    have KA := Lib.hid HA.out.1
    have HS0 := Lib.hid (HRK.out w1 KA.out)
    have HGL1 : Hid (w.heap.size ≤ w1.heap.size) := KA.out.size
    clear HRK
    go_loopw [22] (fun i wr => ∃ (k : Nat) (s' : RSt), k ≤ N ∧ i = .int .i64 k ∧ Hid (RackAt G s' wr ∧ Only G (G + 2 + s.n) w1 wr ∧ s'.n = s.n ∧ wrS s' d ff (mendT must) (wl.drop k) = MD)) (fun i _ => N - (intOf i).toNat)
    case atStart => exact ⟨0, s, Nat.zero_le _, rfl, HS0.out, Only.refl _ _ _, rfl, HMD2.out.symm⟩
    case round =>
      obtain ⟨k, s', hk, rfl, HR⟩ := hrel
      by_cases hlt : k < N
      · have b1 : decide ((k : Int) < (N : Int)) = true := decide_eq_true (by omega)
        have b1N : decide (k < N) = true := decide_eq_true hlt
        have hw1 : IntKind.i64.wrap ((k : Int) + 1) = ((k + 1 : Nat) : Int) := by rw [IntWalk.i64_in _ (by omega)]; omega
        obtain ⟨q, rfl, hq1, hq2, hq3⟩ : ∃ q, a = some ⟨q, 0, none⟩ ∧ w.heap.size ≤ q ∧ q < w1.heap.size ∧ ∀ i, i < N → w1.cell? ⟨q, i, none⟩ = some (.int .i64 (wl.getD i 0)) := by
          rcases HA.out.2 with h | h
          · omega
          · exact h
        have hc : wr.cell? ⟨q, k, none⟩ = some (.int .i64 (wl.getD k 0)) := by rw [Only.cell HR.out.2.1 (p := ⟨q, k, none⟩) hq2 (.inr (by have := HRL.out; show _ ≤ q; omega))]; exact hq3 k hlt
        have HDC : Hid (wl.drop k = wl.getD k 0 :: wl.drop (k + 1)) := drop_cons wl k (by rw [← HN.out]; exact hlt)
        obtain ⟨z, hzn, hzk⟩ := HIN.out (wl.getD k 0) (getD_mem wl k (by rw [← HN.out]; exact hlt))
        rw [hzk] at HDC hc
        have HTW := Lib.hid (HTO.out w1 wr KA.out HR.out.2.1)
        obtain ⟨am, cp, hve, hsm⟩ := HTW.out.gt.strs
        have cm : wr.cell? ⟨tb, 6, none⟩ = some (.slice am must.length cp) := by rw [← hve]; exact HTW.out.cm
        obtain ⟨q0, q1, q2, q3, q4, q5⟩ := HTW.out.pl
        have HSM := Lib.hid hsm
        have hMT : mendT must (z : Int) = must.getD z ByteArray.empty := rfl
        have HEX : Hid (wrS s' d ff (mendT must) (wl.drop k) = if s'.writeE d (ff + (z : Int)) (mendT must (z : Int)) ≠ 0 then (s'.writeE d (ff + (z : Int)) (mendT must (z : Int)), s'.writeS d (ff + (z : Int)) (mendT must (z : Int))) else wrS (s'.writeS d (ff + (z : Int)) (mendT must (z : Int))) d ff (mendT must) (wl.drop (k + 1))) := by show _ = _; rw [HDC.out]; rfl
        have HCW := Lib.hid (fun W o => HPW.out s' (z : Int) (mendT must (z : Int)) W o (by omega) (by omega) (HMS.out _))
        have HNW : Hid ((s'.writeS d (ff + (z : Int)) (mendT must (z : Int))).n = s'.n) := (nwr _ _ _ _).1
        have HR1 := Lib.hid HR.out.1
        have HR2 := Lib.hid HR.out.2.1
        have HR3 := Lib.hid HR.out.2.2.1
        have HR4 := Lib.hid HR.out.2.2.2
        obtain ⟨X, hX⟩ : ∃ X, X = mendT must (z : Int) := ⟨_, rfl⟩
        rw [← hX] at HEX HCW HNW hMT
        have HXE := Lib.hid hMT
        generalize hE : s'.writeE d (ff + (z : Int)) X = E at *
        generalize hS : s'.writeS d (ff + (z : Int)) X = S at *
        clear HR hve hsm hzk hq3 hq1 hq2 hE hS hX HIN hMT HPW HDC
        have HFIN : Hid (∀ W, RackAt G S W → Only G (G + 2 + s'.n) wr W → RackAt G S W ∧ Only G (G + 2 + s.n) w1 W ∧ S.n = s.n) := fun W h1 h2 => ⟨h1, HR2.out.trans (HR3.out ▸ h2), HNW.out.trans HR3.out⟩
        clear HNW
        by_cases hi : z < must.length
        · have b2 : decide ((z : Int) < (must.length : Int)) = true := decide_eq_true (by omega)
          have b2N : decide (z < must.length) = true := decide_eq_true hi
          obtain ⟨q, o, rfl, hcl⟩ : ∃ q o, am = some ⟨q, o, none⟩ ∧ wr.cell? ⟨q, o + z, none⟩ = some (.string X) := by
            rcases HSM.out with h | ⟨q, o, h1, h2⟩
            · rw [h] at hi; exact absurd hi (Nat.not_lt_zero _)
            · exact ⟨q, o, h1, by rw [HXE.out]; exact h2 z hi⟩
          have xi1 : (z : Int) < (must.length : Int) := by omega
          have xi0 : (0 : Int) ≤ (z : Int) := by omega
          have hwi : ((z : Int)).toNat = z := by omega
          clear HXE
          by_cases he : E = 0
          · have hy := int_eq E he
            have HEY : Hid (wrS S d ff (mendT must) (wl.drop (k + 1)) = MD) := by show _ = _; rw [← HR4.out, HEX.out, if_neg (fun c => c he)]
            clear HEX he
            go_wp2_with (go_at_call 38; refine (HCW.out _ HR1.out).mono ?_; rintro e w2 ⟨rfl, h1, h2⟩; have HF := Lib.hid (HFIN.out _ h1 h2); clear h1 h2)
            exact ⟨⟨k + 1, S, by omega, by go_num, HF.out.1, HF.out.2.1, HF.out.2.2, HEY.out⟩, by simp [intOf]; omega⟩
          · have hy := int_nz E he
            have HEY : Hid (MD = (E, S)) := by show _ = _; rw [← HR4.out, HEX.out, if_pos he]
            clear HEX he
            go_wp2_with (go_at_call 38; refine (HCW.out _ HR1.out).mono ?_; rintro e w2 ⟨rfl, h1, h2⟩; have HF := Lib.hid (HFIN.out _ h1 h2); clear h1 h2)
            go_ret
            rw [HEY.out]
            exact ⟨rfl, HF.out.1, (KA.out.only _ _).trans HF.out.2.1⟩
        · have b2 : decide ((z : Int) < (must.length : Int)) = false := decide_eq_false (by omega)
          have b2N : decide (z < must.length) = false := decide_eq_false hi
          have hXe : X = ByteArray.empty := by rw [HXE.out, List.getD_eq_getElem?_getD, List.getElem?_eq_none (by omega)]; rfl
          subst hXe
          clear HXE
          by_cases he : E = 0
          · have hy := int_eq E he
            have HEY : Hid (wrS S d ff (mendT must) (wl.drop (k + 1)) = MD) := by show _ = _; rw [← HR4.out, HEX.out, if_neg (fun c => c he)]
            clear HEX he
            go_wp2_with (go_at_call 38; refine (HCW.out _ HR1.out).mono ?_; rintro e w2 ⟨rfl, h1, h2⟩; have HF := Lib.hid (HFIN.out _ h1 h2); clear h1 h2)
            exact ⟨⟨k + 1, S, by omega, by go_num, HF.out.1, HF.out.2.1, HF.out.2.2, HEY.out⟩, by simp [intOf]; omega⟩
          · have hy := int_nz E he
            have HEY : Hid (MD = (E, S)) := by show _ = _; rw [← HR4.out, HEX.out, if_pos he]
            clear HEX he
            go_wp2_with (go_at_call 38; refine (HCW.out _ HR1.out).mono ?_; rintro e w2 ⟨rfl, h1, h2⟩; have HF := Lib.hid (HFIN.out _ h1 h2); clear h1 h2)
            go_ret
            rw [HEY.out]
            exact ⟨rfl, HF.out.1, (KA.out.only _ _).trans HF.out.2.1⟩
      · obtain rfl : k = N := by omega
        have b1 : decide ((k : Int) < (k : Int)) = false := decide_eq_false (by omega)
        have b1N : decide (k < k) = false := decide_eq_false (by omega)
        have HF : Hid (MD = (0, s') ∧ RackAt G s' wr ∧ Only G (G + 2 + s.n) w wr) := ⟨by rw [← HR.out.2.2.2, List.drop_eq_nil_of_le (by rw [← HN.out]; exact Nat.le_refl _)]; rfl, HR.out.1, (KA.out.only _ _).trans HR.out.2.1⟩
        clear HR
        go_wp2_with fail
        go_ret
        rw [HF.out.1]
        exact ⟨rfl, HF.out.2⟩
  · have hz := int_nz we hwe
    have HMD2 : Hid (MD = (we, s)) := by show _ = _; rw [HMD.out, if_pos hwe]
    clear hwe HMD
    go_enter Tryz.func43, Tryz.ntmps43
    go_wp2_with (go_at_call 46; refine HWG.out.mono ?_; rintro e w1 ⟨a, c, rfl, HA⟩; clear HWG)
    go_ret
    rw [HMD2.out]
    exact ⟨rfl, HRK.out _ HA.out.1, HA.out.1.only _ _⟩
end Go.Proofs.YtmgkkoajjdgmbaaGreatDoor

/- The program's: a group is written on one drive (the closure of Append). -/
namespace Go.Proofs.YtmgkkoajjdgmbaaGreatDoor
open Go.RowKit Go.Shelf Sm Wr _root_.Go.Proofs.YtmgkkoajjdgmbaaGreatDoor.Nm
set_option linter.unusedVariables false
/-- The sectors from b on. -/
def fromL (b k : Nat) : List Int := (List.range k).map fun i => ((b + i : Nat) : Int)
def grpT (b : Nat) (grp : List ByteArray) (i : Int) : ByteArray := grp.getD (i.toNat - b) ByteArray.empty
def appD (s : RSt) (d f : Int) (b : Nat) (grp : List ByteArray) : Nat × RSt := wrS s d f (grpT b grp) (fromL b grp.length)
theorem appD_n (s : RSt) (d f : Int) (b : Nat) (grp : List ByteArray) : (appD s d f b grp).2.n = s.n ∧ (appD s d f b grp).2.m = s.m := wrS_n _ _ _ _ _
theorem fromL_drop (b k i : Nat) (h : i < k) : (fromL b k).drop i = ((b + i : Nat) : Int) :: (fromL b k).drop (i + 1) := by
  rw [drop_cons _ i (by simp [fromL]; exact h)]
  congr 1
  unfold fromL
  rw [List.getD_eq_getElem?_getD, List.getElem?_map, List.getElem?_range h]
  rfl
set_option maxRecDepth 100000 in
set_option maxHeartbeats 1000000 in
theorem appc_any (tb B G bx bt : Nat) (s : RSt) (g : Geo) (gen : Nat) (v : Value) (must : List ByteArray) (next : Nat) (br : Bool) (u : Value) (grp : List ByteArray) (B' : Nat) (d : Int) (w : World) (hT : TailAt B tb G g gen v must next br w) (hR : RackAt G s w) (h1 : 0 ≤ g.t) (h2 : g.t ≤ 512) (hd1 : -9223372036854775808 ≤ d) (hd2 : d ≤ 9223372036854775807) (hl : must.length ≤ 1000) (hgl : grp.length ≤ 10000) (hm : ∀ x ∈ grp, x.size ≤ 100000)
    (hB : G + 2 + s.n ≤ B) (htb : G + 2 + s.n ≤ tb) (hB' : G + 2 + s.n ≤ B') (hbx : G + 2 + s.n ≤ bx) (hbt : G + 2 + s.n ≤ bt) (cx : w.cell? ⟨bx, 0, none⟩ = some u) (ct : w.cell? ⟨bt, 0, none⟩ = some (.pointer (some ⟨tb, 0, none⟩))) (hG : Gat B' u grp w) :
    Calls Tryz.prog 37 #[.int .i64 d, .pointer (some ⟨bx, 0, none⟩), .pointer (some ⟨bt, 0, none⟩)] w fun e w' => e = .returned (.int .i64 ((appD s d (fstS g.t gen) must.length grp).1 : Nat)) ∧ RackAt G (appD s d (fstS g.t gen) must.length grp).2 w' ∧ Only G (G + 2 + s.n) w w' := by
  have HPW := Lib.hid (fun s' i t W hR' hi1 hi2 ht => pwrite_agg G s' g gen d i t W hR' h1 h2 hd1 hd2 hi1 hi2 ht)
  have HTO : Hid (∀ W, Only G (G + 2 + s.n) w W → TailAt B tb G g gen v must next br W) := fun W o => hT.only o (.inr htb) hB
  obtain ⟨am, cm, rfl, _⟩ := hT.gt.strs
  obtain ⟨ax, cxx, rfl, hsx⟩ := hG.strs
  have hax : ∀ q o, ax = some ⟨q, o, none⟩ → 0 < grp.length → B' ≤ q ∧ q < w.heap.size := by
    intro q o e h0
    obtain ⟨q', c', e1, e2, e3, _⟩ := Gat.cells hG h0
    injection e1 with e1 e4 e5
    rw [e] at e1
    injection e1 with e1
    injection e1 with e1 e6
    subst e1
    exact ⟨e2, e3⟩
  have HCE : Hid (∀ W, Only G (G + 2 + s.n) w W → W.cell? ⟨bt, 0, none⟩ = some (.pointer (some ⟨tb, 0, none⟩)) ∧ W.cell? ⟨tb, 0, none⟩ = some (.pointer (some ⟨G + 1, 0, none⟩)) ∧ W.cell? ⟨tb, 1, none⟩ = some (.int .i64 g.n) ∧ W.cell? ⟨tb, 2, none⟩ = some (.int .i64 g.p) ∧ W.cell? ⟨tb, 3, none⟩ = some (.int .i64 g.m) ∧ W.cell? ⟨tb, 4, none⟩ = some (.int .i64 g.t) ∧ W.cell? ⟨tb, 5, none⟩ = some (.int .u64 (gen : Nat)) ∧ W.cell? ⟨tb, 6, none⟩ = some (.slice am must.length cm)) := fun W o => by
    have t := HTO.out W o
    exact ⟨by rw [o.cell (p := ⟨bt, 0, none⟩) (block_lt_of_cell ct) (.inr hbt)]; exact ct, t.pl.c0, t.pl.c1, t.pl.c2, t.pl.c3, t.pl.c4, t.pl.c5, t.cm⟩
  have HMS : Hid (∀ i, (grp.getD i ByteArray.empty).size ≤ 100000) := fun i => by
    rw [List.getD_eq_getElem?_getD]
    cases h : grp[i]? with
    | none => show (0 : Nat) ≤ _; omega
    | some x => exact hm x (List.mem_of_getElem? h)
  have HGC : Hid (∀ i, i < grp.length → ∃ q o, ax = some ⟨q, o, none⟩ ∧ ∀ W, Only G (G + 2 + s.n) w W → W.cell? ⟨q, o + i, none⟩ = some (.string (grp.getD i ByteArray.empty))) := fun i hi => by
    rcases hsx with h | ⟨q, o, h1, h2⟩
    · rw [h] at hi; cases hi
    · obtain ⟨g1, g2⟩ := hax q o h1 (by omega)
      exact ⟨q, o, h1, fun W k => by rw [k.cell (p := ⟨q, o + i, none⟩) g2 (.inr (by show _ ≤ q; omega))]; exact h2 i hi⟩
  have HAD : Hid (appD s d (fstS g.t gen) must.length grp = wrS s d (fstS g.t gen) (grpT must.length grp) (fromL must.length grp.length)) := rfl
  have HR0 := Lib.hid hR
  clear hT hR hG hsx hax ct hB htb hB' hbx hbt hm h1 h2
  generalize appD s d (fstS g.t gen) must.length grp = MD at *
  generalize fstS g.t gen = ff at *
  obtain ⟨N, hN⟩ : ∃ N, N = grp.length := ⟨_, rfl⟩
  obtain ⟨L, hL⟩ : ∃ L, L = must.length := ⟨_, rfl⟩
  rw [← hN, ← hL] at HAD
  rw [← hN] at HGC hgl cx
  rw [← hL] at HCE hl
  have HN := Lib.hid hN
  clear hN hL
  go_enter Tryz.func37, Tryz.ntmps37
  go_wp2_with fail
  go_loopw [10] (fun i wr => ∃ (k : Nat) (s' : RSt), k ≤ N ∧ i = .int .i64 k ∧ Hid (RackAt G s' wr ∧ Only G (G + 2 + s.n) w wr ∧ s'.n = s.n ∧ wrS s' d ff (grpT L grp) ((fromL L N).drop k) = MD)) (fun i _ => N - (intOf i).toNat)
  case atStart => exact ⟨0, s, Nat.zero_le _, rfl, HR0.out, Only.refl _ _ _, rfl, HAD.out.symm⟩
  case round =>
    obtain ⟨k, s', hk, rfl, HR⟩ := hrel
    by_cases hlt : k < N
    · have b1 : decide ((k : Int) < (N : Int)) = true := decide_eq_true (by omega)
      have b1N : decide (k < N) = true := decide_eq_true hlt
      have hw1 : IntKind.i64.wrap ((k : Int) + 1) = ((k + 1 : Nat) : Int) := by rw [IntWalk.i64_in _ (by omega)]; omega
      have hw2 : IntKind.i64.wrap ((L : Int) + (k : Int)) = ((L + k : Nat) : Int) := by rw [IntWalk.i64_in _ (by omega)]; omega
      obtain ⟨q, o, rfl, hqc⟩ := HGC.out k hlt
      have hc := hqc wr HR.out.2.1
      have xi1 : (k : Int) < (N : Int) := by omega
      have xi0 : (0 : Int) ≤ (k : Int) := by omega
      have hwi : ((k : Int)).toNat = k := by omega
      have HDC := Lib.hid (fromL_drop L N k hlt)
      have hX : grpT L grp ((L + k : Nat) : Int) = grp.getD k ByteArray.empty := by unfold grpT; congr 1; omega
      have HEX : Hid (wrS s' d ff (grpT L grp) ((fromL L N).drop k) = if s'.writeE d (ff + ((L + k : Nat) : Int)) (grp.getD k ByteArray.empty) ≠ 0 then (s'.writeE d (ff + ((L + k : Nat) : Int)) (grp.getD k ByteArray.empty), s'.writeS d (ff + ((L + k : Nat) : Int)) (grp.getD k ByteArray.empty)) else wrS (s'.writeS d (ff + ((L + k : Nat) : Int)) (grp.getD k ByteArray.empty)) d ff (grpT L grp) ((fromL L N).drop (k + 1))) := by show _ = _; rw [HDC.out, ← hX]; rfl
      have HCW := Lib.hid (fun W o => HPW.out s' ((L + k : Nat) : Int) (grp.getD k ByteArray.empty) W o (by omega) (by omega) (HMS.out k))
      have HNW : Hid ((s'.writeS d (ff + ((L + k : Nat) : Int)) (grp.getD k ByteArray.empty)).n = s'.n) := (nwr _ _ _ _).1
      have HR1 := Lib.hid HR.out.1
      have HR2 := Lib.hid HR.out.2.1
      have HR3 := Lib.hid HR.out.2.2.1
      have HR4 := Lib.hid HR.out.2.2.2
      generalize grp.getD k ByteArray.empty = X at *
      generalize hE : s'.writeE d (ff + ((L + k : Nat) : Int)) X = E at *
      generalize hS : s'.writeS d (ff + ((L + k : Nat) : Int)) X = S at *
      obtain ⟨LK, hLK⟩ : ∃ LK, LK = L + k := ⟨_, rfl⟩
      rw [← hLK] at HCW hw2
      have HFIN : Hid (∀ W, RackAt G S W → Only G (G + 2 + s'.n) wr.drew W → RackAt G S W ∧ Only G (G + 2 + s.n) w W ∧ S.n = s.n) := fun W h1 h2 => ⟨h1, (HR2.out.trans ((Kept.refl wr).drew.only _ _)).trans (HR3.out ▸ h2), HNW.out.trans HR3.out⟩
      have HRD : Hid (RackAt G s' wr.drew) := HR1.out.kept (Kept.refl wr).drew
      have HOD : Hid (Only G (G + 2 + s.n) w wr.drew) := HR2.out.trans ((Kept.refl wr).drew.only _ _)
      have hcw := HCE.out wr HR2.out
      have hcd := HCE.out _ HOD.out
      clear HR hE hS hX HPW HDC HNW HGC hLK hqc
      by_cases he : E = 0
      · have hy := int_eq E he
        have HEY : Hid (wrS S d ff (grpT L grp) ((fromL L N).drop (k + 1)) = MD) := by show _ = _; rw [← HR4.out, HEX.out, if_neg (fun c => c he)]
        clear HEX he
        go_upto_region 4 with fail
        go_region_held3 (fun W' => W'.cell? ⟨bt, 0, none⟩ = some (.pointer (some ⟨tb, 0, none⟩)) ∧ W'.cell? ⟨tb, 0, none⟩ = some (.pointer (some ⟨G + 1, 0, none⟩)) ∧ W'.cell? ⟨tb, 1, none⟩ = some (.int .i64 g.n) ∧ W'.cell? ⟨tb, 2, none⟩ = some (.int .i64 g.p) ∧ W'.cell? ⟨tb, 3, none⟩ = some (.int .i64 g.m) ∧ W'.cell? ⟨tb, 4, none⟩ = some (.int .i64 g.t) ∧ W'.cell? ⟨tb, 5, none⟩ = some (.int .u64 (gen : Nat)) ∧ W'.cell? ⟨tb, 6, none⟩ = some (.slice am L cm))
          (first | exact hcw | exact hcd | exact HCE.out _ HFD.out)
          (first | (go_at_call 38; refine (HCW.out _ HRD.out).mono ?_; rintro e w2 ⟨rfl, h1, h2⟩; have HF := Lib.hid (HFIN.out _ h1 h2); have HFD := Lib.hid HF.out.2.1; clear h1 h2))
        go_wp2_with fail
        exact ⟨⟨k + 1, S, by omega, by go_num, HF.out.1, HF.out.2.1, HF.out.2.2, HEY.out⟩, by simp [intOf]; omega⟩
      · have hy := int_nz E he
        have HEY : Hid (MD = (E, S)) := by show _ = _; rw [← HR4.out, HEX.out, if_pos he]
        clear HEX he
        go_upto_region 4 with fail
        go_region_held3 (fun W' => W'.cell? ⟨bt, 0, none⟩ = some (.pointer (some ⟨tb, 0, none⟩)) ∧ W'.cell? ⟨tb, 0, none⟩ = some (.pointer (some ⟨G + 1, 0, none⟩)) ∧ W'.cell? ⟨tb, 1, none⟩ = some (.int .i64 g.n) ∧ W'.cell? ⟨tb, 2, none⟩ = some (.int .i64 g.p) ∧ W'.cell? ⟨tb, 3, none⟩ = some (.int .i64 g.m) ∧ W'.cell? ⟨tb, 4, none⟩ = some (.int .i64 g.t) ∧ W'.cell? ⟨tb, 5, none⟩ = some (.int .u64 (gen : Nat)) ∧ W'.cell? ⟨tb, 6, none⟩ = some (.slice am L cm))
          (first | exact hcw | exact hcd | exact HCE.out _ HFD.out)
          (first | (go_at_call 38; refine (HCW.out _ HRD.out).mono ?_; rintro e w2 ⟨rfl, h1, h2⟩; have HF := Lib.hid (HFIN.out _ h1 h2); have HFD := Lib.hid HF.out.2.1; clear h1 h2))
        go_wp2_with fail
        go_ret
        rw [HEY.out]
        exact ⟨rfl, HF.out.1, HF.out.2.1⟩
    · obtain rfl : k = N := by omega
      have b1 : decide ((k : Int) < (k : Int)) = false := decide_eq_false (by omega)
      have b1N : decide (k < k) = false := decide_eq_false (by omega)
      have HF : Hid (MD = (0, s') ∧ RackAt G s' wr ∧ Only G (G + 2 + s.n) w wr) := ⟨by rw [← HR.out.2.2.2, List.drop_eq_nil_of_le (by simp [fromL])]; rfl, HR.out.1, HR.out.2.1⟩
      clear HR
      go_wp2_with fail
      go_ret
      rw [HF.out.1]
      exact ⟨rfl, HF.out.2⟩
end Go.Proofs.YtmgkkoajjdgmbaaGreatDoor

/- What a call on a tail leaves; the frames of the rows gathered. -/
namespace Go.Proofs.YtmgkkoajjdgmbaaGreatDoor
open Go.RowKit Go.Shelf Sm Wr _root_.Go.Proofs.YtmgkkoajjdgmbaaGreatDoor.Nm
set_option linter.unusedVariables false
/-- All that was there is as it was, but for the blocks from lo on below hi, block b, and the row's own. -/
structure TO (lo hi b : Nat) (v : Value) (w w' : World) : Prop where
  os : w'.os = w.os
  tape : w'.tape = w.tape
  output : w'.output = w.output
  size : w.heap.size ≤ w'.heap.size
  block : ∀ k, k < w.heap.size → (k < lo ∨ hi ≤ k) → k ≠ b → v.ownBlock ≠ some k → w'.heap[k]? = w.heap[k]?
theorem Only.to {lo hi : Nat} {w w' : World} (h : Only lo hi w w') (b : Nat) (v : Value) : TO lo hi b v w w' := ⟨h.os, h.tape, h.output, h.size, fun k h1 h2 _ _ => h.block k h1 h2⟩
theorem Kept.to {w w' : World} (h : Kept w w') (lo hi b : Nat) (v : Value) : TO lo hi b v w w' := ⟨h.os, h.tape, h.output, h.size, fun k h1 _ _ _ => h.block k h1⟩
theorem TLeft.to {b : Nat} {v : Value} {w w' : World} (h : TLeft b v w w') (lo hi : Nat) : TO lo hi b v w w' := ⟨h.os, h.tape, h.output, h.size, fun k h1 _ h3 h4 => h.block k h1 h3 h4⟩
theorem But.to {b : Nat} {w w' : World} (h : But b w w') (lo hi : Nat) (v : Value) : TO lo hi b v w w' := ⟨h.os, h.tape, h.output, h.size, fun k h1 _ h3 _ => h.block k h1 h3⟩
theorem TO.trans {lo hi b : Nat} {v v' : Value} {u w w' : World} (h : TO lo hi b v u w) (k : TO lo hi b v' w w') (hv : ∀ q, v'.ownBlock = some q → v.ownBlock = some q ∨ u.heap.size ≤ q) : TO lo hi b v u w' :=
  ⟨k.os.trans h.os, k.tape.trans h.tape, k.output.trans h.output, Nat.le_trans h.size k.size, fun i hi h1 h2 h3 => (k.block i (Nat.lt_of_lt_of_le hi h.size) h1 h2 (fun e => by
    rcases hv i e with h | h
    · exact h3 h
    · omega)).trans (h.block i hi h1 h2 h3)⟩
theorem TO.kept {lo hi b : Nat} {v : Value} {u w w' : World} (h : Kept u w) (k : TO lo hi b v w w') (h1 : u.heap.size ≤ lo) (h2 : u.heap.size ≤ b) (h3 : ∀ q, v.ownBlock = some q → u.heap.size ≤ q) : Kept u w' :=
  Below.trans h ⟨k.os, k.tape, k.output, k.size, fun i hi => k.block i (Nat.lt_of_lt_of_le hi h.size) (by omega) (by omega) (fun e => by have := h3 i e; omega)⟩
theorem Gat.only {B lo hi : Nat} {v : Value} {ss : List ByteArray} {w w' : World} (h : Gat B v ss w) (k : Only lo hi w w') (hb : hi ≤ B) : Gat B v ss w' := by
  obtain ⟨h1, h2⟩ := h
  refine ⟨h1, ?_⟩
  rcases h2 with h2 | ⟨q, cap, cur, rfl, h3, h4, h5⟩
  · exact .inl h2
  · exact .inr ⟨q, cap, cur, rfl, h3, by rw [k.block q (Array.getElem?_eq_some_iff.1 h4).1 (.inr (by omega))]; exact h4, h5⟩
theorem drvL_in {g : Geo} {gen : Nat} (h : gOk g gen) {d : Int} (hd : d ∈ drvL g gen) : 0 ≤ d ∧ d < g.n := by
  obtain ⟨m1, m2, m3, m4, m5, m6, m7, m8⟩ := g.may_iff.1 h.1
  obtain ⟨i, _, rfl⟩ := List.mem_map.1 hd
  unfold drvN
  have : (gen + i) % g.n.toNat < g.n.toNat := Nat.mod_lt _ (by omega)
  constructor <;> omega
theorem geo_n {g : Geo} {gen : Nat} (h : gOk g gen) : 1 ≤ g.n ∧ g.n ≤ 12 ∧ 0 ≤ g.p ∧ g.p < g.n ∧ 2 ≤ g.t ∧ g.t ≤ 512 ∧ 10 + 2 * g.t ≤ g.m ∧ g.m ≤ 4096 := by
  obtain ⟨m1, m2, m3, m4, m5, m6, m7, m8⟩ := g.may_iff.1 h.1
  refine ⟨?_, ?_, ?_, ?_, ?_, ?_, ?_, ?_⟩ <;> omega
def appAll (s : RSt) (g : Geo) (gen : Nat) (must : List ByteArray) (next : Nat) (text : ByteArray) : Nat × RSt :=
  stepAll (fun d s => appD s d (fstS g.t gen) must.length (grpL gen next text)) (drvL g gen) s
noncomputable def mendAll (s : RSt) (g : Geo) (gen : Nat) (must : List ByteArray) : Nat × RSt :=
  stepAll (fun d s => mendD s d (fstS g.t gen) gen must g.t.toNat) (drvL g gen) s
theorem stepAll_n (act : Int → RSt → Nat × RSt) (h : ∀ d s, (act d s).2.n = s.n ∧ (act d s).2.m = s.m) : ∀ (l : List Int) (s : RSt), (stepAll act l s).2.n = s.n ∧ (stepAll act l s).2.m = s.m
  | [], s => ⟨rfl, rfl⟩
  | d :: r, s => by
    unfold stepAll
    split
    · exact h d s
    · obtain ⟨h1, h2⟩ := stepAll_n act h r (act d s).2
      exact ⟨h1.trans (h d s).1, h2.trans (h d s).2⟩
end Go.Proofs.YtmgkkoajjdgmbaaGreatDoor

/- The program's: a group is written on all drives of the tail; all are mended. -/
namespace Go.Proofs.YtmgkkoajjdgmbaaGreatDoor
open Go.RowKit Go.Shelf Sm Wr _root_.Go.Proofs.YtmgkkoajjdgmbaaGreatDoor.Nm
set_option linter.unusedVariables false
/-- What the states of a rack have on the way keep. -/
structure Way (lo hi : Nat) (n : Nat) (w0 : World) (G b : Nat) (x : RSt) (W : World) : Prop where
  rk : RackAt G x W
  en : x.n = n
  on : Only lo hi w0 W
  bl : hi ≤ b
  bh : b < W.heap.size
theorem each_app (tb B G bx bt : Nat) (s : RSt) (g : Geo) (gen : Nat) (v : Value) (must : List ByteArray) (next : Nat) (br : Bool) (u : Value) (grp : List ByteArray) (B' : Nat) (w : World) (hT : TailAt B tb G g gen v must next br w) (hR : RackAt G s w) (hg : gOk g gen) (hl : must.length ≤ 1000) (hgl : grp.length ≤ 10000) (hm : ∀ x ∈ grp, x.size ≤ 100000)
    (hB : G + 2 + s.n ≤ B) (htb : G + 2 + s.n ≤ tb) (hB' : G + 2 + s.n ≤ B') (hbx : G + 2 + s.n ≤ bx) (hbt : G + 2 + s.n ≤ bt) (cx : w.cell? ⟨bx, 0, none⟩ = some u) (ct : w.cell? ⟨bt, 0, none⟩ = some (.pointer (some ⟨tb, 0, none⟩))) (hG : Gat B' u grp w) :
    Calls Tryz.prog 36 #[.pointer (some ⟨tb, 0, none⟩), .func (.func 37) #[] #[.pointer (some ⟨bx, 0, none⟩), .pointer (some ⟨bt, 0, none⟩)]] w fun e w' =>
      e = .returned (.int .i64 ((stepAll (fun d s => appD s d (fstS g.t gen) must.length grp) (drvL g gen) s).1 : Nat)) ∧ RackAt G (stepAll (fun d s => appD s d (fstS g.t gen) must.length grp) (drvL g gen) s).2 w' ∧ Only G (G + 2 + s.n) w w' := by
  obtain ⟨g1, g2, g3, g4, g5, g6, g7, g8⟩ := geo_n hg
  refine (each_any (fun b x W => Way G (G + 2 + s.n) s.n w G b x W) (fun d s => appD s d (fstS g.t gen) must.length grp) 37 #[] #[.pointer (some ⟨bx, 0, none⟩), .pointer (some ⟨bt, 0, none⟩)] B tb G g gen v must next br s w hT hg ?_ ?_ ?_).mono ?_
  · exact enters_of Tryz.func37 (by kernel_rfl) rfl
  · intro b W k h1 h2 _
    exact ⟨hR.kept k, rfl, k.only _ _, by have := hR.lt; omega, h2⟩
  · intro b x W d h hd
    obtain ⟨d1, d2⟩ := drvL_in hg hd
    refine (appc_any tb B G bx bt x g gen v must next br u grp B' d W (hT.only h.on (.inr htb) hB) h.rk (by omega) (by omega) (by omega) (by omega) hl hgl hm (by rw [h.en]; exact hB) (by rw [h.en]; exact htb) (by rw [h.en]; exact hB') (by rw [h.en]; exact hbx) (by rw [h.en]; exact hbt)
      (by rw [h.on.cell (p := ⟨bx, 0, none⟩) (block_lt_of_cell cx) (.inr hbx)]; exact cx) (by rw [h.on.cell (p := ⟨bt, 0, none⟩) (block_lt_of_cell ct) (.inr hbt)]; exact ct) (hG.only h.on hB')).mono ?_
    rintro e w' ⟨rfl, h1, h2⟩
    rw [h.en] at h2
    exact ⟨rfl, ⟨h1, (appD_n _ _ _ _ _).1.trans h.en, h.on.trans h2, h.bl, Nat.lt_of_lt_of_le h.bh h2.size⟩, h2.block b h.bh (.inr h.bl)⟩
  · rintro e w' ⟨rfl, b, h⟩
    exact ⟨rfl, h.rk, h.on⟩
/-- All sectors of the tail's drives that can be read have bytes that may be. -/
def SectAll (s : RSt) (g : Geo) (gen : Nat) : Prop := ∀ d ∈ drvL g gen, ∀ i, i < g.t.toNat → (rdB s d (fstS g.t gen) i).1 = 0 → Sect (rdB s d (fstS g.t gen) i).2.data.toList
theorem padL_empty : padL ByteArray.empty = zero64 := rfl
theorem readT_of (s : RSt) (d i : Int) (h : s.readE d i = 0) : (s.readT d i).data.toList = s.T d.toNat i.toNat := by
  unfold RSt.readT
  rw [if_pos h]
theorem readE_zero (s : RSt) (d i : Int) : s.readE d i = 0 ↔ s.down = false ∧ s.there d i = true ∧ s.bad d.toNat i.toNat = false := by
  unfold RSt.readE
  constructor
  · intro h
    split at h
    · cases h
    · split at h
      · cases h
      · split at h
        · cases h
        · rename_i h1 h2 h3
          exact ⟨by simpa using h1, by simpa using h2, by simpa using h3⟩
  · rintro ⟨h1, h2, h3⟩
    rw [h1, h2, h3]
    rfl
theorem there_in (s : RSt) (d i : Int) (h : s.there d i = true) : 0 ≤ d ∧ d < s.n ∧ 0 ≤ i ∧ i < s.m := by
  unfold RSt.there at h
  simpa using h
theorem sect_write (s : RSt) (d i : Int) (t : ByteArray) (ht : Sect (padL t)) (d' i' : Int) (h : s.readE d' i' = 0 → Sect (s.readT d' i').data.toList) : (s.writeS d i t).readE d' i' = 0 → Sect ((s.writeS d i t).readT d' i').data.toList := by
  intro hr
  rw [readT_of _ _ _ hr]
  obtain ⟨r1, r2, r3⟩ := (readE_zero _ _ _).1 hr
  unfold RSt.writeS at r1 r2 r3 ⊢
  split at r1 <;> rename_i hw
  · rw [if_pos hw] at r3 ⊢ r2
    have hth : s.there d' i' = true := r2
    show Sect (up2 s.T d.toNat i.toNat (padL t) d'.toNat i'.toNat)
    unfold up2
    split
    · exact ht
    · rename_i hne
      have hb : s.bad d'.toNat i'.toNat = false := by
        have : (up2 s.bad d.toNat i.toNat false) d'.toNat i'.toNat = false := r3
        unfold up2 at this
        rw [if_neg hne] at this
        exact this
      have hd : s.down = false := by
        unfold RSt.writeE at hw
        split at hw
        · cases hw
        · split at hw
          · cases hw
          · split at hw
            · cases hw
            · rename_i h; simpa using h
      have he := (readE_zero s d' i').2 ⟨hd, hth, hb⟩
      have := h he
      rw [readT_of _ _ _ he] at this
      exact this
  · rw [if_neg hw] at r3 ⊢ r2
    have he := (readE_zero s d' i').2 ⟨r1, r2, r3⟩
    have := h he
    rw [readT_of _ _ _ he] at this
    exact this
theorem SectAll.write {s : RSt} {g : Geo} {gen : Nat} (h : SectAll s g gen) (d i : Int) (t : ByteArray) (ht : Sect (padL t)) : SectAll (s.writeS d i t) g gen :=
  fun d' hd j hj he => sect_write s d i t ht d' _ (fun e => h d' hd j hj e) he
theorem SectAll.wrS {g : Geo} {gen : Nat} (d f : Int) (T : Int → ByteArray) (hT : ∀ i, Sect (padL (T i))) : ∀ (l : List Int) (s : RSt), SectAll s g gen → SectAll (wrS s d f T l).2 g gen
  | [], s, h => h
  | i :: r, s, h => by
    unfold Go.Proofs.YtmgkkoajjdgmbaaGreatDoor.wrS
    split
    · exact h.write _ _ _ (hT i)
    · exact SectAll.wrS d f T hT r _ (h.write _ _ _ (hT i))
theorem SectAll.mendD {s : RSt} {g : Geo} {gen : Nat} (h : SectAll s g gen) (d f : Int) (must : List ByteArray) (n : Nat) (hm : ∀ x ∈ must, Sect (padL x)) : SectAll (mendD s d f gen must n).2 g gen := by
  unfold Go.Proofs.YtmgkkoajjdgmbaaGreatDoor.mendD
  split
  · exact h
  · refine h.wrS _ _ _ (fun i => ?_) _ _
    unfold mendT
    rw [List.getD_eq_getElem?_getD]
    cases e : must[i.toNat]? with
    | none => exact .inl padL_empty
    | some x => exact hm x (List.mem_of_getElem? e)
theorem each_mend (tb B G : Nat) (s : RSt) (g : Geo) (gen : Nat) (v : Value) (must : List ByteArray) (next : Nat) (br : Bool) (w : World) (hT : TailAt B tb G g gen v must next br w) (hR : RackAt G s w) (hg : gOk g gen) (hl : must.length ≤ 1000000) (hm : ∀ x ∈ must, x.size ≤ 100000 ∧ Sect (padL x))
    (hB : G + 2 + s.n ≤ B) (htb : G + 2 + s.n ≤ tb) (hs : SectAll s g gen) :
    Calls Tryz.prog 36 #[.pointer (some ⟨tb, 0, none⟩), .func (.func 43) #[.pointer (some ⟨tb, 0, none⟩)] #[]] w fun e w' =>
      e = .returned (.int .i64 ((mendAll s g gen must).1 : Nat)) ∧ RackAt G (mendAll s g gen must).2 w' ∧ Only G (G + 2 + s.n) w w' ∧ SectAll (mendAll s g gen must).2 g gen := by
  obtain ⟨g1, g2, g3, g4, g5, g6, g7, g8⟩ := geo_n hg
  refine (each_any (fun b x W => Way G (G + 2 + s.n) s.n w G b x W ∧ SectAll x g gen) (fun d s => mendD s d (fstS g.t gen) gen must g.t.toNat) 43 #[.pointer (some ⟨tb, 0, none⟩)] #[] B tb G g gen v must next br s w hT hg ?_ ?_ ?_).mono ?_
  · exact enters_of Tryz.func43 (by kernel_rfl) rfl
  · intro b W k h1 h2 _
    exact ⟨⟨hR.kept k, rfl, k.only _ _, by have := hR.lt; omega, h2⟩, hs⟩
  · rintro b x W d ⟨h, hx⟩ hd
    obtain ⟨d1, d2⟩ := drvL_in hg hd
    refine (mend_any tb B G x g gen v must next br d g.t.toNat W (hT.only h.on (.inr htb) hB) h.rk (by omega) (by omega) (by omega) (by omega) hl (fun x hx => (hm x hx).1) (by rw [h.en]; exact hB) (by rw [h.en]; exact htb) (hx d hd)).mono ?_
    rintro e w' ⟨rfl, h1, h2⟩
    rw [h.en] at h2
    exact ⟨rfl, ⟨⟨h1, (mendD_n _ _ _ _ _ _).1.trans h.en, h.on.trans h2, h.bl, Nat.lt_of_lt_of_le h.bh h2.size⟩, hx.mendD _ _ _ _ (fun x hx => (hm x hx).2)⟩, h2.block b h.bh (.inr h.bl)⟩
  · rintro e w' ⟨rfl, b, h, h'⟩
    exact ⟨rfl, h.rk, h.on, h'⟩
end Go.Proofs.YtmgkkoajjdgmbaaGreatDoor

/- The program's: Mend and Append. -/
namespace Go.Proofs.YtmgkkoajjdgmbaaGreatDoor
open Go.RowKit Go.Shelf Sm Wr _root_.Go.Proofs.YtmgkkoajjdgmbaaGreatDoor.Nm
set_option linter.unusedVariables false
theorem box_new (w : World) (v : Value) (T : TypeId) : (w.alloc (.cells #[v] T)).cell? ⟨w.heap.size, 0, none⟩ = some v := by rw [World.cell?_alloc_mark]; rfl
set_option maxRecDepth 100000 in
theorem top_mend_nil (w : World) : Calls Tryz.prog 19 #[.pointer none] w fun e w' => e = .returned (.int .i64 1) ∧ Kept w w' := by
  go_enter Tryz.func19, Tryz.ntmps19
  go_wp2_with (go_at_call 32; refine (fault_nilT _).mono ?_; rintro e w1 ⟨rfl, rfl⟩)
  go_ret
  exact ⟨rfl, Kept.refl _⟩
set_option maxRecDepth 100000 in
theorem top_mend_broken (tb B G : Nat) (g : Geo) (gen : Nat) (v : Value) (must : List ByteArray) (next : Nat) (w : World) (hT : TailAt B tb G g gen v must next true w) :
    Calls Tryz.prog 19 #[.pointer (some ⟨tb, 0, none⟩)] w fun e w' => e = .returned (.int .i64 3) ∧ Kept w w' := by
  have HF := Lib.hid (fault_anyT B tb G g gen v must next true w hT)
  clear hT
  go_enter Tryz.func19, Tryz.ntmps19
  go_wp2_with (go_at_call 32; refine HF.out.mono ?_; rintro e w1 ⟨rfl, rfl⟩)
  go_ret
  exact ⟨rfl, Kept.refl _⟩
set_option maxRecDepth 100000 in
set_option maxHeartbeats 1000000 in
theorem top_mend (tb B G : Nat) (s : RSt) (g : Geo) (gen : Nat) (v : Value) (must : List ByteArray) (next : Nat) (w : World) (hT : TailAt B tb G g gen v must next false w) (hR : RackAt G s w) (hg : gOk g gen) (hl : must.length ≤ 1000000) (hm : ∀ x ∈ must, x.size ≤ 100000 ∧ Sect (padL x))
    (hB : G + 2 + s.n ≤ B) (htb : G + 2 + s.n ≤ tb) (hs : SectAll s g gen) :
    Calls Tryz.prog 19 #[.pointer (some ⟨tb, 0, none⟩)] w fun e w' => e = .returned (.int .i64 ((mendAll s g gen must).1 : Nat)) ∧ RackAt G (mendAll s g gen must).2 w' ∧ TailAt B tb G g gen v must next (decide ((mendAll s g gen must).1 ≠ 0)) w' ∧ TO G (G + 2 + s.n) tb v w w' ∧ SectAll (mendAll s g gen must).2 g gen := by
  have HF := Lib.hid (fault_anyT B tb G g gen v must next false w hT)
  have HE := Lib.hid (each_mend tb B G s g gen v must next false w hT hR hg hl hm hB htb hs)
  have HTD := Lib.hid (fun e W o => told_any B tb G g gen v must next false e W (hT.only (w' := W) (lo := G) (hi := G + 2 + s.n) o (.inr htb) hB))
  have HN : Hid ((mendAll s g gen must).2.n = s.n) := (stepAll_n _ (fun d s => mendD_n _ _ _ _ _ _) _ _).1
  have HTB : Hid (G + 2 + s.n ≤ tb) := htb
  clear hT hR hg hm hB htb hs
  generalize mendAll s g gen must = MA at *
  obtain ⟨me, ms⟩ := MA
  dsimp only at HE HN ⊢
  go_enter Tryz.func19, Tryz.ntmps19
  go_wp2_with (first
    | (go_at_call 32; refine HF.out.mono ?_; rintro e w1 ⟨rfl, rfl⟩)
    | (go_at_call 36; refine HE.out.mono ?_; rintro e w2 ⟨rfl, h1, h2, h3⟩; have H1 := Lib.hid h1; have H2 := Lib.hid h2; have H3 := Lib.hid h3; clear h1 h2 h3)
    | (go_at_call 40; refine (HTD.out me _ H2.out).mono ?_; rintro e w3 ⟨rfl, h1, h2⟩))
  go_ret
  refine ⟨rfl, H1.out.frame fun k a b => h2.block k (by have := H1.out.lt; omega) (by have := HTB.out; have := HN.out; omega), h1, (H2.out.to _ _).trans (h2.to _ _ _) (fun q hq => .inl hq), H3.out⟩
end Go.Proofs.YtmgkkoajjdgmbaaGreatDoor

/- The program's: Append. -/
namespace Go.Proofs.YtmgkkoajjdgmbaaGreatDoor
open Go.RowKit Go.Shelf Sm Wr _root_.Go.Proofs.YtmgkkoajjdgmbaaGreatDoor.Nm
set_option linter.unusedVariables false
set_option maxRecDepth 100000 in
theorem top_app_nil (t : ByteArray) (w : World) : Calls Tryz.prog 14 #[.pointer none, .string t] w fun e w' => e = .returned (.int .i64 1) ∧ Kept w w' := by
  have K0 : Hid (Kept w (w.alloc (.cells #[.pointer none] 34))) := (Kept.refl _).alloc _
  go_enter Tryz.func14, Tryz.ntmps14
  go_wp2_with (go_at_call 32; refine (fault_nilT _).mono ?_; rintro e w1 ⟨rfl, rfl⟩)
  go_ret
  exact ⟨rfl, K0.out⟩
set_option maxRecDepth 100000 in
theorem top_app_broken (tb B G : Nat) (g : Geo) (gen : Nat) (v : Value) (must : List ByteArray) (next : Nat) (t : ByteArray) (w : World) (hT : TailAt B tb G g gen v must next true w) :
    Calls Tryz.prog 14 #[.pointer (some ⟨tb, 0, none⟩), .string t] w fun e w' => e = .returned (.int .i64 3) ∧ Kept w w' := by
  have K0 : Hid (Kept w (w.alloc (.cells #[.pointer (some ⟨tb, 0, none⟩)] 34))) := (Kept.refl _).alloc _
  have HF := Lib.hid (fault_anyT B tb G g gen v must next true _ (hT.kept K0.out))
  clear hT
  go_enter Tryz.func14, Tryz.ntmps14
  go_wp2_with (go_at_call 32; refine HF.out.mono ?_; rintro e w1 ⟨rfl, rfl⟩)
  go_ret
  exact ⟨rfl, K0.out⟩
set_option maxRecDepth 100000 in
set_option maxHeartbeats 1000000 in
theorem top_app_full (tb B G : Nat) (g : Geo) (gen : Nat) (v : Value) (must : List ByteArray) (next : Nat) (t : ByteArray) (w : World) (hT : TailAt B tb G g gen v must next false w) (hg : gOk g gen) (hl : must.length ≤ 1000) (ht : t.size ≤ 1000000) (hf : g.t.toNat < must.length + partsN t.size) :
    Calls Tryz.prog 14 #[.pointer (some ⟨tb, 0, none⟩), .string t] w fun e w' => e = .returned (.int .i64 6) ∧ Kept w w' := by
  obtain ⟨g1, g2, g3, g4, g5, g6, g7, g8⟩ := geo_n hg
  have K0 : Hid (Kept w (w.alloc (.cells #[.pointer (some ⟨tb, 0, none⟩)] 34))) := (Kept.refl _).alloc _
  have HF := Lib.hid (fault_anyT B tb G g gen v must next false _ (hT.kept K0.out))
  have HPO := Lib.hid (fun W => partsOf_any t ht W)
  have HLF := Lib.hid (fun W k => left_any B tb G g gen v must next false W (hT.kept (w' := W) k) (by omega) g6 (by omega))
  have b1 : decide (g.t - (must.length : Nat) < ((partsN t.size : Nat) : Int)) = true := decide_eq_true (by omega)
  have CB : Hid (∀ W, Kept (w.alloc (.cells #[.pointer (some ⟨tb, 0, none⟩)] 34)) W → W.cell? ⟨w.heap.size, 0, none⟩ = some (.pointer (some ⟨tb, 0, none⟩))) := fun W k => cell_keptT (box_new _ _ _) k
  generalize partsN t.size = P at *
  generalize g.t - (must.length : Nat) = LF at *
  clear hT hg hf g1 g2 g3 g4 g5 g6 g7 g8
  go_enter Tryz.func14, Tryz.ntmps14
  go_upto_region 1 with fail
  generalize w.alloc (.cells #[.pointer (some ⟨tb, 0, none⟩)] 34) = w0 at *
  have k0 := Kept.refl w0
  have KD : Hid (Kept w0 w0.drew) := (Kept.refl _).drew
  have q0 := CB.out _ k0
  go_wp2_with (go_at_call 32; refine HF.out.mono ?_; rintro e w1 ⟨rfl, rfl⟩)
  go_region_held3 (fun W' => W'.cell? ⟨w.heap.size, 0, none⟩ = some (.pointer (some ⟨tb, 0, none⟩)))
    (first | exact CB.out _ k0 | exact CB.out _ KD.out | exact CB.out _ kA)
    (first
      | (go_at_call 33; refine (HPO.out _).mono ?_; rintro e wz ⟨rfl, hz⟩; rw [hz]; clear hz)
      | (go_at_call 34; refine (HLF.out _ (K0.out.trans KD.out)).mono ?_; rintro e wA ⟨rfl, hkA⟩; have kA := Kept.trans KD.out hkA; clear hkA))
  all_goals
    have KF : Hid (Kept w wA) := K0.out.trans kA
    clear kA k0 HF HPO HLF CB KD
    go_wp2_with fail
    go_ret
    exact ⟨rfl, KF.out⟩
end Go.Proofs.YtmgkkoajjdgmbaaGreatDoor

/- The program's: Append, of a text that has room. -/
namespace Go.Proofs.YtmgkkoajjdgmbaaGreatDoor
open Go.RowKit Go.Shelf Sm Wr _root_.Go.Proofs.YtmgkkoajjdgmbaaGreatDoor.Nm
set_option linter.unusedVariables false
theorem Gat.low {B B' : Nat} {v : Value} {ss : List ByteArray} {w : World} (h : Gat B v ss w) (hb : B' ≤ B) : Gat B' v ss w := World.ownsRow.mono h hb
set_option maxRecDepth 100000 in
set_option maxHeartbeats 2000000 in
theorem top_app (tb B G : Nat) (s : RSt) (g : Geo) (gen : Nat) (v : Value) (must : List ByteArray) (next : Nat) (t : ByteArray) (w : World) (hT : TailAt B tb G g gen v must next false w) (hR : RackAt G s w) (hg : gOk g gen) (hl : must.length ≤ 1000) (hnx : next ≤ 512) (hf : must.length + partsN t.size ≤ g.t.toNat)
    (hB : G + 2 + s.n ≤ B) (hBw : B ≤ w.heap.size) (htb : G + 2 + s.n ≤ tb) :
    Calls Tryz.prog 14 #[.pointer (some ⟨tb, 0, none⟩), .string t] w fun e w' => e = .returned (.int .i64 ((appAll s g gen must next t).1 : Nat)) ∧ RackAt G (appAll s g gen must next t).2 w' ∧
      ∃ v', TailAt B tb G g gen v' (if (appAll s g gen must next t).1 = 0 then must ++ grpL gen next t else must) (if (appAll s g gen must next t).1 = 0 then next + 1 else next) (decide ((appAll s g gen must next t).1 ≠ 0)) w' ∧
        TO G (G + 2 + s.n) tb v w w' ∧ ∀ k, v'.ownBlock = some k → v.ownBlock = some k ∨ w.heap.size ≤ k := by
  obtain ⟨g1, g2, g3, g4, g5, g6, g7, g8⟩ := geo_n hg
  have hp5 : partsN t.size ≤ 512 := by omega
  have ht : t.size ≤ 1000000 := by unfold partsN at hp5; omega
  have K0 : Hid (Kept w (w.alloc (.cells #[.pointer (some ⟨tb, 0, none⟩)] 34))) := (Kept.refl _).alloc _
  have HT := Lib.hid hT
  have HR := Lib.hid hR
  have HLT : Hid (tb < w.heap.size ∧ G + 2 + s.n ≤ w.heap.size ∧ G + 2 + s.n ≤ tb ∧ G + 2 + s.n ≤ B ∧ B ≤ w.heap.size ∧ ∀ q, v.ownBlock = some q → B ≤ q ∧ q < w.heap.size) := ⟨hT.ty.lt, hR.lt, htb, hB, hBw, hT.gt.lt⟩
  have HF := Lib.hid (fault_anyT B tb G g gen v must next false _ (hT.kept K0.out))
  have HPO := Lib.hid (fun W => partsOf_any t ht W)
  have HLF := Lib.hid (fun W k => left_any B tb G g gen v must next false W (hT.kept (w' := W) k) (by omega) g6 (by omega))
  have HGR := Lib.hid (fun W => group_any G g gen next t W hg.2.2 hnx hp5)
  have HEA := Lib.hid (fun W bx u (hw : Kept w W) (hx : w.heap.size ≤ bx) (hc : W.cell? ⟨bx, 0, none⟩ = some u) (hb : W.cell? ⟨w.heap.size, 0, none⟩ = some (.pointer (some ⟨tb, 0, none⟩))) (hu : Gat w.heap.size u (grpL gen next t) W) =>
    each_app tb B G bx w.heap.size s g gen v must next false u (grpL gen next t) w.heap.size W (hT.kept hw) (hR.kept hw) hg hl (by rw [grpL_length]; omega) (fun x hx => by
      obtain ⟨i, hi, rfl⟩ := List.mem_map.1 hx
      rw [Pt.txt_size (ptOf_ok gen next t i hg.2.2 hnx (List.mem_range.1 hi) hp5)]; decide) hB htb hR.lt (Nat.le_trans hR.lt hx) hR.lt hc hb hu)
  have HAD := Lib.hid (fun W u (hT' : TailAt B tb G g gen v must next false W) (hW : B ≤ W.heap.size) (hu : Gat w.heap.size u (grpL gen next t) W) => add_gat B tb G g gen v must next false (grpL gen next t) w.heap.size u W hT' hW hu (by rw [grpL_length]; exact partsN_pos _) (by rw [grpL_length]; omega) (by omega))
  have HAA : Hid (appAll s g gen must next t = stepAll (fun d s => appD s d (fstS g.t gen) must.length (grpL gen next t)) (drvL g gen) s) := rfl
  have b1 : decide (g.t - (must.length : Nat) < ((partsN t.size : Nat) : Int)) = false := decide_eq_false (by omega)
  have CB : Hid (∀ W, Kept (w.alloc (.cells #[.pointer (some ⟨tb, 0, none⟩)] 34)) W → W.cell? ⟨w.heap.size, 0, none⟩ = some (.pointer (some ⟨tb, 0, none⟩))) := fun W k => cell_keptT (box_new _ _ _) k
  have HNN : Hid ((appAll s g gen must next t).2.n = s.n) := (stepAll_n _ (fun d s => appD_n _ _ _ _ _) _ _).1
  rw [← HAA.out] at HEA
  clear HAA
  generalize appAll s g gen must next t = AA at *
  obtain ⟨ae, az⟩ := AA
  dsimp only at HEA HNN ⊢
  generalize grpL gen next t = grp at *
  generalize partsN t.size = P at *
  generalize g.t - (must.length : Nat) = LF at *
  clear hT hR hg hf hB hBw htb hp5 ht g1 g2 g3 g4 g5 g6 g7 g8
  go_enter Tryz.func14, Tryz.ntmps14
  go_upto_region 1 with fail
  generalize w.alloc (.cells #[.pointer (some ⟨tb, 0, none⟩)] 34) = w0 at *
  have k0 := Kept.refl w0
  have KD : Hid (Kept w0 w0.drew) := (Kept.refl _).drew
  have q0 := CB.out _ k0
  go_wp2_with (go_at_call 32; refine HF.out.mono ?_; rintro e w1 ⟨rfl, rfl⟩)
  go_region_held3 (fun W' => W'.cell? ⟨w.heap.size, 0, none⟩ = some (.pointer (some ⟨tb, 0, none⟩)))
    (first | exact CB.out _ k0 | exact CB.out _ KD.out | exact CB.out _ kA)
    (first
      | (go_at_call 33; refine (HPO.out _).mono ?_; rintro e wz ⟨rfl, hz⟩; rw [hz]; clear hz)
      | (go_at_call 34; refine (HLF.out _ (K0.out.trans KD.out)).mono ?_; rintro e wA ⟨rfl, hkA⟩; have kA := Kept.trans KD.out hkA; clear hkA))
  all_goals
    have KF : Hid (Kept w wA) := K0.out.trans kA
    have CB2 : Hid (∀ W, Kept wA W → W.cell? ⟨w.heap.size, 0, none⟩ = some (.pointer (some ⟨tb, 0, none⟩))) := fun W k => CB.out W (kA.trans k)
    clear kA k0 q0 HF HPO HLF CB KD K0
    clear b1
    go_upto_region 6 with fail
    have k0 := Kept.refl wA
    have kd : Kept wA wA.drew := (Kept.refl _).drew
    have kb : Kept wA (wA.alloc (.cells #[.slice none 0 0] 38)).drew := ((Kept.refl wA).alloc _).drew
    have HS : Hid (∀ W, Kept wA W → W.cell? ⟨w.heap.size, 0, none⟩ = some (.pointer (some ⟨tb, 0, none⟩)) ∧ W.cell? ⟨tb, 0, none⟩ = some (.pointer (some ⟨G + 1, 0, none⟩)) ∧ W.cell? ⟨tb, 1, none⟩ = some (.int .i64 g.n) ∧ W.cell? ⟨tb, 2, none⟩ = some (.int .i64 g.p) ∧ W.cell? ⟨tb, 3, none⟩ = some (.int .i64 g.m) ∧ W.cell? ⟨tb, 4, none⟩ = some (.int .i64 g.t) ∧ W.cell? ⟨tb, 5, none⟩ = some (.int .u64 (gen : Nat)) ∧ W.cell? ⟨tb, 7, none⟩ = some (.int .u64 (next : Nat))) := fun W k => by
      have h := HT.out.kept (KF.out.trans k)
      exact ⟨CB2.out W k, h.pl.c0, h.pl.c1, h.pl.c2, h.pl.c3, h.pl.c4, h.pl.c5, h.cn⟩
    obtain ⟨e0, e1, e2, e3, e4, e5, e6, e7⟩ := HS.out _ k0
    unfold plV at HGR
    have cN : (wA.alloc (.cells #[.slice none 0 0] 38)).drew.cell? ⟨wA.heap.size, 0, none⟩ = some (.slice none 0 0) := newT_cell wA _ 38 0 _ _ rfl rfl
    have fN : (wA.alloc (.cells #[.slice none 0 0] 38)).drew.frozen? ⟨wA.heap.size, 0, none⟩ = false := newT_soft wA _ 38 0 _ rfl
    go_cut [6] from 18 to 38 (fun y wx => ∃ bx u, y = .pointer (some ⟨bx, 0, none⟩) ∧ Hid (w.heap.size ≤ bx ∧ Kept wA wx ∧ Gat w.heap.size u grp wx ∧ wx.cell? ⟨bx, 0, none⟩ = some u))
    case first =>
      go_region_held3 (fun W' => W'.cell? ⟨w.heap.size, 0, none⟩ = some (.pointer (some ⟨tb, 0, none⟩)) ∧ W'.cell? ⟨tb, 0, none⟩ = some (.pointer (some ⟨G + 1, 0, none⟩)) ∧ W'.cell? ⟨tb, 1, none⟩ = some (.int .i64 g.n) ∧ W'.cell? ⟨tb, 2, none⟩ = some (.int .i64 g.p) ∧ W'.cell? ⟨tb, 3, none⟩ = some (.int .i64 g.m) ∧ W'.cell? ⟨tb, 4, none⟩ = some (.int .i64 g.t) ∧ W'.cell? ⟨tb, 5, none⟩ = some (.int .u64 (gen : Nat)) ∧ W'.cell? ⟨tb, 7, none⟩ = some (.int .u64 (next : Nat)))
        (with_reducible first | exact HS.out _ k0 | exact HS.out _ kd | exact HS.out _ kb | exact HS.out _ kG | exact HS.out _ kGa | exact HS.out _ kGb | exact HS.out _ kGs)
        (first
          | (go_at_call 35; with_reducible refine (HGR.out wA.drew).mono ?_; rintro e w5 ⟨⟨u5, rfl, hu5⟩, hk5⟩; obtain ⟨a5, c5, rfl, hs5⟩ := hu5.strs; clear hs5; have kG : Kept wA w5 := kd.trans hk5; have kGb : Kept wA (w5.alloc (.cells #[.slice none 0 0] 38)) := kG.alloc _; have kGa : Kept wA (w5.alloc (.cells #[.slice a5 grp.length c5] 38)) := kG.alloc _; clear hk5)
          | (go_at_call 35; with_reducible refine (HGR.out (wA.alloc (.cells #[.slice none 0 0] 38)).drew).mono ?_; rintro e w5 ⟨⟨u5, rfl, hu5⟩, hk5⟩; obtain ⟨a5, c5, rfl, hs5⟩ := hu5.strs; clear hs5; have pc := cell_keptT cN hk5; have pf := soft_keptT (block_lt_of_cell cN) fN hk5; have py := (Typ.new wA #[.slice none 0 0] 38).kept ((Kept.refl _).drew.trans hk5); have kG : Kept wA w5 := kb.trans hk5; have kGs : Kept wA (w5.setCell ⟨wA.heap.size, 0, none⟩ (.slice a5 grp.length c5)) := kG.setCell (p := ⟨wA.heap.size, 0, none⟩) (Nat.le_refl _) _; clear hk5))
      · go_wp2_with fail
        go_meet
        case rel => exact ⟨w5.heap.size, _, rfl, Nat.le_trans KF.out.size kG.size, kGa, (hu5.low (Nat.le_trans KF.out.size (Nat.le_refl _))).kept ((Kept.refl w5).alloc _), newT_cell w5 _ 38 0 _ _ rfl rfl⟩
      · go_wp2_with fail
        go_meet
        case rel => exact ⟨wA.heap.size, _, rfl, KF.out.size, kGs, World.ownsRow.mono (own_set hu5 py (by decide) 0 _) (Nat.le_trans KF.out.size (by simp)), World.cell?_setCell_same _ _ _ pc⟩
    case rest =>
      obtain ⟨bx, u, rfl, HX⟩ := hcut
      have HX1 := Lib.hid HX.out.2.1
      have hcx := HX.out.2.2.2
      have hct := CB2.out _ HX1.out
      have HX0 : Hid (w.heap.size ≤ bx ∧ bx < wc.heap.size) := ⟨HX.out.1, block_lt_of_cell hcx⟩
      have HE2 := Lib.hid (HEA.out wc bx u (KF.out.trans HX1.out) HX.out.1 hcx hct HX.out.2.2.1)
      have HU := Lib.hid HX.out.2.2.1
      have KC := Lib.hid (KF.out.trans HX1.out)
      have HCX := Lib.hid hcx
      have HCT := Lib.hid hct
      -- what stands behind the call of each
      have HAF : Hid (∀ W, RackAt G az W → Only G (G + 2 + s.n) wc W → W.cell? ⟨bx, 0, none⟩ = some u ∧ W.cell? ⟨w.heap.size, 0, none⟩ = some (.pointer (some ⟨tb, 0, none⟩)) ∧ TailAt B tb G g gen v must next false W ∧ Gat w.heap.size u grp W ∧ B ≤ W.heap.size) := fun W hr ho => by
        obtain ⟨z1, z2, z3, z4, z5, z6⟩ := HLT.out
        refine ⟨by rw [ho.cell (p := ⟨bx, 0, none⟩) HX0.out.2 (.inr (Nat.le_trans z2 HX0.out.1))]; exact HCX.out, by rw [ho.cell (p := ⟨w.heap.size, 0, none⟩) (block_lt_of_cell HCT.out) (.inr z2)]; exact HCT.out, (HT.out.kept KC.out).only ho (.inr z3) z4, HU.out.only ho z2, ?_⟩
        exact Nat.le_trans z5 (Nat.le_trans KC.out.size ho.size)
      clear HX HEA HGR HS CB2 e0 e1 e2 e3 e4 e5 e6 e7 cN fN kb kd k0
      by_cases hae : ae = 0
      · subst hae
        have hz : (((0 : Nat) : Int) == 0) = true := rfl
        go_wp2_with (first
          | (go_at_call 36; refine HE2.out.mono ?_; rintro e w7 ⟨rfl, h1, h2⟩; have H1 := Lib.hid h1; have H2 := Lib.hid h2; obtain ⟨d1, d2, d3, d4, d5⟩ := HAF.out w7 h1 h2; have HD3 := Lib.hid d3; have HA2 := Lib.hid (HAD.out w7 u d3 d5 d4); clear d3 d4 d5 h1 h2)
          | (go_at_call 39; go_loud (refine HA2.out.mono ?_; rintro e w8 ⟨rfl, v8, hT8, hL8, hF8⟩; have HT8 := Lib.hid hT8; have HL8 := Lib.hid hL8; have HF8 := Lib.hid hF8; have d6 : w8.cell? ⟨w.heap.size, 0, none⟩ = some (.pointer (some ⟨tb, 0, none⟩)) := (World.cell?_of_block (w := w7) (a := ⟨w.heap.size, 0, none⟩) (hL8.block w.heap.size (block_lt_of_cell d2) (Nat.ne_of_gt HLT.out.1) (fun e => Nat.lt_irrefl _ (HLT.out.2.2.2.2.2 w.heap.size e).2))).trans d2; have HTD : Hid (Calls Tryz.prog 40 #[.pointer (some ⟨tb, 0, none⟩), .int .i64 0] w8 fun r w' => r = .returned (.int .i64 0) ∧ TailAt B tb G g gen v8 (must ++ grp) (next + 1) false w' ∧ But tb w8 w') := told_any B tb G g gen v8 (must ++ grp) (next + 1) false 0 w8 hT8; clear hT8 hL8 hF8))
          | (go_at_call 40; refine HTD.out.mono ?_; rintro e w9 ⟨rfl, h1, h2⟩))
        go_ret
        have z := HLT.out
        have hlo8 : ∀ k, v8.ownBlock = some k → G + 2 + s.n ≤ k := fun k hk => by
          rcases HF8.out k hk with x | x
          · have := (z.2.2.2.2.2 k x).1; omega
          · have := H2.out.size; have := KC.out.size; omega
        refine ⟨rfl, (H1.out.frame fun k a b => HL8.out.block k ?_ ?_ ?_).frame fun k a b => h2.block k ?_ ?_, v8, ?_, ?_, ?_⟩
        · have := H1.out.lt; omega
        · have := HNN.out; omega
        · intro e
          have := (z.2.2.2.2.2 k e).1
          have := HNN.out
          omega
        · have := H1.out.lt; have := HL8.out.size; omega
        · have := HNN.out; omega
        · exact h1
        · exact ((((KC.out.to _ _ tb v).trans (H2.out.to tb v) (fun q hq => .inl hq)).trans (HL8.out.to _ _) (fun q hq => .inl hq)).trans (h2.to _ _ v) (fun q hq => .inl hq))
        · intro k hk
          rcases HF8.out k hk with x | x
          · exact .inl x
          · have := H2.out.size; have := KC.out.size; exact .inr (by omega)
      · have hz := int_ne ae hae
        go_wp2_with (first
          | (go_at_call 36; refine HE2.out.mono ?_; rintro e w7 ⟨rfl, h1, h2⟩; have H1 := Lib.hid h1; have H2 := Lib.hid h2; obtain ⟨d1, d2, d3, d4, d5⟩ := HAF.out w7 h1 h2; have HTD := Lib.hid (told_any B tb G g gen v must next false ae w7 d3); clear d3 d4 d5 h1 h2)
          | (go_at_call 40; refine HTD.out.mono ?_; rintro e w9 ⟨rfl, h1, h2⟩))
        go_ret
        have z := HLT.out
        refine ⟨rfl, H1.out.frame fun k a b => h2.block k ?_ ?_, v, ?_, ?_, fun k hk => .inl hk⟩
        · have := H1.out.lt; omega
        · have := HNN.out; omega
        · rw [decide_eq_true hae] at h1; exact h1
        · exact (((KC.out.to _ _ tb v).trans (H2.out.to tb v) (fun q hq => .inl hq)).trans (h2.to _ _ v) (fun q hq => .inl hq))
end Go.Proofs.YtmgkkoajjdgmbaaGreatDoor

/- The program's: Missing. -/
namespace Go.Proofs.YtmgkkoajjdgmbaaGreatDoor
open Go.RowKit Go.Shelf Sm Wr _root_.Go.Proofs.YtmgkkoajjdgmbaaGreatDoor.Nm
set_option linter.unusedVariables false
set_option maxRecDepth 100000 in
theorem ins_one (a : Option Addr) (c n : Nat) (hn : n ≤ 1) (w : World) : Calls Tryz.prog 80 #[.slice a n c, .int .i64 0, .int .i64 (n : Nat)] w fun e w' => e = .returned (.tuple #[]) ∧ w' = w := by
  have b1 : decide ((1 : Int) < (n : Int)) = false := decide_eq_false (by omega)
  go_enter Tryz.func80, Tryz.ntmps80
  go_wp2_with fail
  go_loopw [6] (fun i wr => i = .int .i64 1 ∧ wr = w) (fun i _ => 0)
  case atStart => exact ⟨rfl, rfl⟩
  case round =>
    obtain ⟨rfl, rfl⟩ := hrel
    go_wp2_with fail
    go_end0
    exact ⟨rfl, rfl⟩
set_option maxRecDepth 100000 in
theorem pdq_one (a : Option Addr) (c n : Nat) (k : Int) (hn : n ≤ 1) (w : World) : Calls Tryz.prog 64 #[.slice a n c, .int .i64 0, .int .i64 (n : Nat), .int .i64 k] w fun e w' => e = .returned (.tuple #[]) ∧ w' = w := by
  have b1 : decide ((n : Int) ≤ 12) = true := decide_eq_true (by omega)
  have hw : IntKind.i64.wrap ((n : Int) - 0) = (n : Int) := by rw [IntWalk.i64_in _ (by omega)]; omega
  go_enter Tryz.func64, Tryz.ntmps64
  go_wp2_with fail
  go_loopw [1, 2, 3] (fun x y z wr => x = .int .i64 0 ∧ y = .int .i64 (n : Nat) ∧ z = .int .i64 k ∧ wr = w) (fun x y z _ => 0)
  case atStart => exact ⟨rfl, rfl, rfl, rfl⟩
  case round =>
    obtain ⟨rfl, rfl, rfl, rfl⟩ := hrel
    go_wp2_with (go_at_call 80; refine (ins_one a c n hn _).mono ?_; rintro e w1 ⟨rfl, rfl⟩)
    refine bodyPost_ret (results_none rfl _ _ _) rfl ?_
    exact ⟨rfl, rfl⟩
set_option maxRecDepth 100000 in
theorem len64_one (n : Nat) (hn : n ≤ 1) (w : World) : Calls Tryz.prog 90 #[.int .u64 (n : Nat)] w fun e w' => (∃ k : Int, e = .returned (.int .i64 k)) ∧ w' = w := by
  obtain rfl | rfl : n = 0 ∨ n = 1 := by omega
  all_goals
    go_enter Tryz.func90, Tryz.ntmps90
    go_wp2_with fail
    go_ret
    exact ⟨⟨_, rfl⟩, rfl⟩
set_option maxRecDepth 100000 in
theorem blen_one (n : Nat) (hn : n ≤ 1) (w : World) : Calls Tryz.prog 65 #[.int .u64 (n : Nat)] w fun e w' => (∃ k : Int, e = .returned (.int .i64 k)) ∧ w' = w := by
  have H := Lib.hid (len64_one n hn w)
  have hw : IntKind.u64.wrap (n : Int) = (n : Int) := IntWalk.u64_in _ (by omega)
  go_enter Tryz.func65, Tryz.ntmps65
  go_wp2_with (go_at_call 90; refine H.out.mono ?_; rintro e w1 ⟨⟨k, rfl⟩, rfl⟩)
  go_ret
  exact ⟨⟨_, rfl⟩, rfl⟩
set_option maxRecDepth 100000 in
theorem sort_one (a : Option Addr) (c n : Nat) (hn : n ≤ 1) (w : World) : Calls Tryz.prog 47 #[.slice a n c] w fun e w' => e = .returned (.tuple #[]) ∧ w' = w := by
  have H := Lib.hid (blen_one n hn w)
  have H2 := Lib.hid (fun k => pdq_one a c n k hn w)
  have hw : IntKind.u64.wrap (n : Int) = (n : Int) := IntWalk.u64_in _ (by omega)
  go_enter Tryz.func47, Tryz.ntmps47
  go_wp2_with (first
    | (go_at_call 65; refine H.out.mono ?_; rintro e w1 ⟨⟨k, rfl⟩, rfl⟩)
    | (go_at_call 64; refine (H2.out _).mono ?_; rintro e w1 ⟨rfl, rfl⟩))
  go_end0
  exact ⟨rfl, rfl⟩
end Go.Proofs.YtmgkkoajjdgmbaaGreatDoor

/- each, whose steps are counted. -/
namespace Go.Proofs.YtmgkkoajjdgmbaaGreatDoor
open Go.RowKit Go.Shelf Sm Wr _root_.Go.Proofs.YtmgkkoajjdgmbaaGreatDoor.Nm
set_option linter.unusedVariables false
set_option maxRecDepth 100000 in
set_option maxHeartbeats 1000000 in
theorem each_ct {σ : Type} (Ct : σ → Nat) (Inv : Nat → σ → World → Prop) (act : Int → σ → Nat × σ) (j : Nat) (bound caps : Array Value) (B tb G : Nat) (g : Geo) (gen : Nat) (v : Value) (must : List ByteArray) (next : Nat) (br : Bool) (x0 : σ) (w : World)
    (hT : TailAt B tb G g gen v must next br w) (hg : gOk g gen) (hen : ∀ args w, (callFunc j args).run Tryz.prog w = .ok (.enter j args) w)
    (h0 : ∀ b W, Kept w W → w.heap.size ≤ b → b < W.heap.size → Typ W b 3 → Inv b x0 W)
    (hc0 : Ct x0 = 0) (hct : ∀ d x, Ct (act d x).2 ≤ Ct x + 1)
    (hI : ∀ b x W d, Ct x ≤ 1000 → Inv b x W → d ∈ drvL g gen → Calls Tryz.prog j (bound ++ #[.int .i64 d] ++ caps) W fun e w' => e = .returned (.int .i64 ((act d x).1 : Nat)) ∧ Inv b (act d x).2 w' ∧ w'.heap[b]? = W.heap[b]?) :
    Calls Tryz.prog 36 #[.pointer (some ⟨tb, 0, none⟩), .func (.func j) bound caps] w fun e w' => e = .returned (.int .i64 ((stepAll act (drvL g gen) x0).1 : Nat)) ∧ ∃ b, Inv b (stepAll act (drvL g gen) x0).2 w' := by
  have HDR := Lib.hid (fun W => drives_part g gen W hg)
  have HI := Lib.hid hI
  have HCT := Lib.hid hct
  have HC0 := Lib.hid hc0
  have hNL2 : (drvL g gen).length ≤ 12 := by
    rw [drvL_length]
    obtain ⟨m1, m2, m3, m4, m5, m6, m7, m8⟩ := g.may_iff.1 hg.1
    omega
  have H0 := Lib.hid h0
  have HEJ := Lib.hid hen
  have HPL : Hid (∀ W, Kept w W → PlAt W tb 0 G g gen) := fun W k => hT.pl.kept k
  have hNL : (drvL g gen).length ≤ 100000 := by
    rw [drvL_length]
    obtain ⟨m1, m2, m3, m4, m5, m6, m7, m8⟩ := g.may_iff.1 hg.1
    omega
  clear hct hc0 hI h0 hen hT hg
  generalize hdl : drvL g gen = dl at *
  clear hdl
  obtain ⟨N, hN⟩ : ∃ N, N = dl.length := ⟨_, rfl⟩
  rw [← hN] at HDR hNL hNL2
  have HN := Lib.hid hN
  clear hN
  have KD : Hid (Kept w w.drew) := (Kept.refl _).drew
  have k0 := Kept.refl w
  go_enter Tryz.func36, Tryz.ntmps36
  go_upto_region 1 with fail
  go_region_held3 (fun W' => W'.cell? ⟨tb, 1, none⟩ = some (.int .i64 g.n) ∧ W'.cell? ⟨tb, 2, none⟩ = some (.int .i64 g.p) ∧ W'.cell? ⟨tb, 3, none⟩ = some (.int .i64 g.m) ∧ W'.cell? ⟨tb, 4, none⟩ = some (.int .i64 g.t) ∧ W'.cell? ⟨tb, 5, none⟩ = some (.int .u64 (gen : Nat)))
    (first | exact ⟨(HPL.out _ k0).c1, (HPL.out _ k0).c2, (HPL.out _ k0).c3, (HPL.out _ k0).c4, (HPL.out _ k0).c5⟩ | exact ⟨(HPL.out _ KD.out).c1, (HPL.out _ KD.out).c2, (HPL.out _ KD.out).c3, (HPL.out _ KD.out).c4, (HPL.out _ KD.out).c5⟩ | exact ⟨(HPL.out _ kA).c1, (HPL.out _ kA).c2, (HPL.out _ kA).c3, (HPL.out _ kA).c4, (HPL.out _ kA).c5⟩)
    (first | (go_at_call 25; refine (HDR.out _).mono ?_; rintro e wA ⟨q, c, rfl, HQ⟩; have kA := Kept.trans KD.out HQ.out.2.2.2.2))
  obtain ⟨hq1, hq2, hq3, hq4, hq5⟩ := HQ.out
  have HS0 : Hid (Inv q x0 wA ∧ ∀ i, i < N → wA.cell? ⟨q, i, none⟩ = some (.int .i64 (dl.getD i 0))) := ⟨H0.out q wA kA (Nat.le_trans KD.out.size hq1) hq2 hq3, hq4⟩
  clear hq1 hq2 hq3 hq4 hq5 HQ HDR H0 HPL k0 kA KD
  go_wp2_with fail
  go_loopw [20] (fun i wr => ∃ (k : Nat) (x : σ), k ≤ N ∧ i = .int .i64 k ∧ Hid (Inv q x wr ∧ (∀ i, i < N → wr.cell? ⟨q, i, none⟩ = some (.int .i64 (dl.getD i 0))) ∧ stepAll act (dl.drop k) x = stepAll act dl x0 ∧ Ct x ≤ k)) (fun i _ => N - (intOf i).toNat)
  case atStart => exact ⟨0, x0, Nat.zero_le _, rfl, HS0.out.1, HS0.out.2, rfl, Nat.le_of_eq HC0.out⟩
  case round =>
    obtain ⟨k, x, hk, rfl, HR⟩ := hrel
    by_cases hlt : k < N
    · have b1 : decide ((k : Int) < (N : Int)) = true := decide_eq_true (by omega)
      have b1N : decide (k < N) = true := decide_eq_true hlt
      have hw1 : IntKind.i64.wrap ((k : Int) + 1) = ((k + 1 : Nat) : Int) := by rw [IntWalk.i64_in _ (by omega)]; omega
      have hc := HR.out.2.1 k hlt
      have HDC : Hid (dl.drop k = dl.getD k 0 :: dl.drop (k + 1)) := drop_cons dl k (by rw [← HN.out]; exact hlt)
      have HCL := Lib.hid (HI.out q x wr (dl.getD k 0) (by have := HR.out.2.2.2; omega) HR.out.1 (getD_mem dl k (by rw [← HN.out]; exact hlt)))
      generalize dl.getD k 0 = dk at *
      have HST : Hid (stepAll act (dl.drop k) x = if (act dk x).1 ≠ 0 then act dk x else stepAll act (dl.drop (k + 1)) (act dk x).2) := by show _ = _; rw [HDC.out]; rfl
      have HCS := Lib.hid HR.out.2.1
      have HEQ := Lib.hid HR.out.2.2.1
      have HCK : Hid (Ct (act dk x).2 ≤ k + 1) := Nat.le_trans (HCT.out dk x) (Nat.succ_le_succ HR.out.2.2.2)
      obtain ⟨e1, x1, hact⟩ : ∃ e1 x1, act dk x = (e1, x1) := ⟨_, _, rfl⟩
      rw [hact] at HST HCL HCK
      dsimp only at HST HCL HCK
      clear HR hact HDC
      by_cases he : e1 = 0
      · have hz := int_eq e1 he
        go_wp2_with fail
        rw [HEJ.out, Oper.upon_enter]
        refine HCL.out.mono ?_
        rintro r w1 ⟨rfl, hk1, hk2⟩
        have HS1 : Hid (Inv q x1 w1 ∧ (∀ i, i < N → w1.cell? ⟨q, i, none⟩ = some (.int .i64 (dl.getD i 0))) ∧ stepAll act (dl.drop (k + 1)) x1 = stepAll act dl x0 ∧ Ct x1 ≤ k + 1) := ⟨hk1, fun i hi => by rw [World.cell?_of_block (w := wr) (a := ⟨q, i, none⟩) hk2]; exact HCS.out i hi, by rw [← HEQ.out, HST.out, if_neg (fun c => c he)], HCK.out⟩
        clear HCL hk1 hk2
        go_wp2_with fail
        exact ⟨⟨k + 1, x1, by omega, by go_num, HS1⟩, by simp [intOf]; omega⟩
      · have hz := int_nz e1 he
        go_wp2_with fail
        rw [HEJ.out, Oper.upon_enter]
        refine HCL.out.mono ?_
        rintro r w1 ⟨rfl, hk1, hk2⟩
        have HS1 : Hid (Inv q x1 w1 ∧ stepAll act dl x0 = (e1, x1)) := ⟨hk1, by rw [← HEQ.out, HST.out, if_pos he]⟩
        clear HCL hk1 hk2
        go_wp2_with fail
        go_ret
        rw [HS1.out.2]
        exact ⟨rfl, q, HS1.out.1⟩
    · obtain rfl : k = N := by omega
      have b1 : decide ((k : Int) < (k : Int)) = false := decide_eq_false (by omega)
      have b1N : decide (k < k) = false := decide_eq_false (by omega)
      have HS1 : Hid (Inv q x wr ∧ stepAll act dl x0 = (0, x)) := ⟨HR.out.1, by rw [← HR.out.2.2.1, List.drop_eq_nil_of_le (by rw [← HN.out]; exact Nat.le_refl _)]; rfl⟩
      clear HR
      go_wp2_with fail
      go_ret
      rw [HS1.out.2]
      exact ⟨rfl, q, HS1.out.1⟩
end Go.Proofs.YtmgkkoajjdgmbaaGreatDoor

/- The program's: Missing, what it does to a drive, and whole. -/
namespace Go.Proofs.YtmgkkoajjdgmbaaGreatDoor
open Go.RowKit Go.Shelf Sm Wr _root_.Go.Proofs.YtmgkkoajjdgmbaaGreatDoor.Nm
set_option linter.unusedVariables false
theorem wpList_gatz {ops : Array Oper} {rest : List Oper} {o : Oper} {a : Act} {Q : Exit → Act → World → Prop} (W : World) (hgd : o.guard = none) (s x : Operand)
    (ho : o.op = .call { callee := .builtin .append, args := #[s, x], argTypes := #[50, 50] })
    (w0 : World) (v : Value) (rs : List Int) (hs : a.eval s = v) (hG : GatI w0.heap.size v rs W) (hK : Kept w0 W) (r : Int) (g : Nat) (hx : a.eval x = .slice (some ⟨g, 0, none⟩) 1 1) (hc : W.cell? ⟨g, 0, none⟩ = some (.int .i64 r)) (hl : rs.length ≤ 1000000000)
    (h : ∀ a9 l9 c9 w', Hid (GatI w0.heap.size (.slice a9 l9 c9) (rs ++ [r]) w' ∧ Kept w0 w' ∧ W.heap.size ≤ w'.heap.size ∧ (∀ b, b < W.heap.size → v.ownBlock ≠ some b → w'.heap[b]? = W.heap[b]?) ∧ (∀ b, (Value.slice a9 l9 c9).ownBlock = some b → v.ownBlock = some b ∨ W.heap.size ≤ b)) → wpList Tryz.prog ops Q rest (a.put o.dst (.slice a9 l9 c9)) w') : wpList Tryz.prog ops Q (o :: rest) a W := by
  refine wpList_gati2 W hgd s x ho w0 v rs hs hG hK r g hx hc hl ?_
  intro v' w' h1 h2 h3 h4 h5
  obtain ⟨a9, c9, rfl, _⟩ := h1.ints
  exact h a9 _ c9 w' ⟨h1, h2, h3, h4, h5⟩
/-- What Missing has gathered: its box is block bl; w1: the world ahead of that box. -/
structure MsAt (w1 : World) (b : Nat) (rs : List Int) (W : World) : Prop where
  kp : Kept w1 W
  lt : b < W.heap.size
  ne : w1.heap.size ≠ b
  ty : Typ W w1.heap.size 50
  g : ∃ a c, W.cell? ⟨w1.heap.size, 0, none⟩ = some (.slice a rs.length c) ∧ GatI w1.heap.size (.slice a rs.length c) rs W ∧ (Value.slice a rs.length c).ownBlock ≠ some b
theorem MsAt.push {w1 w2 : World} {b : Nat} {rs : List Int} {a : Option Addr} {c : Nat} (d : Int) (kp : Kept w1 w2) (lt : b < w2.heap.size) (ne : w1.heap.size ≠ b) (ty : Typ w2 w1.heap.size 50) (cl : w2.cell? ⟨w1.heap.size, 0, none⟩ = some (.slice a rs.length c)) (hg : GatI w1.heap.size (.slice a rs.length c) rs w2) (ow : (Value.slice a rs.length c).ownBlock ≠ some b)
    (o : Obj) (a9 : Option Addr) (l9 c9 : Nat) (w9 : World) (h1 : GatI w1.heap.size (.slice a9 l9 c9) (rs ++ [d]) w9) (h2 : Kept w1 w9) (h3 : (w2.alloc o).heap.size ≤ w9.heap.size) (h4 : ∀ b, b < (w2.alloc o).heap.size → (Value.slice a rs.length c).ownBlock ≠ some b → w9.heap[b]? = (w2.alloc o).heap[b]?)
    (h5 : ∀ b, (Value.slice a9 l9 c9).ownBlock = some b → (Value.slice a rs.length c).ownBlock = some b ∨ (w2.alloc o).heap.size ≤ b) :
    w9.cell? ⟨w1.heap.size, 0, none⟩ = some (.slice a rs.length c) ∧ w9.frozen? ⟨w1.heap.size, 0, none⟩ = false ∧ Hid (MsAt w1 b (rs ++ [d]) (w9.setCell ⟨w1.heap.size, 0, none⟩ (.slice a9 l9 c9)) ∧ (w9.setCell ⟨w1.heap.size, 0, none⟩ (.slice a9 l9 c9)).heap[b]? = w2.heap[b]?) := by
  have ka : Kept w2 (w2.alloc o) := (Kept.refl _).alloc _
  have hbl := ty.lt
  have e1 : w9.heap[w1.heap.size]? = w2.heap[w1.heap.size]? := (h4 _ (Nat.lt_of_lt_of_le hbl ka.size) (own_ne hg ty (by decide))).trans (ka.block _ hbl)
  have eb : w9.heap[b]? = w2.heap[b]? := (h4 _ (Nat.lt_of_lt_of_le lt ka.size) ow).trans (ka.block _ lt)
  have ty9 : Typ w9 w1.heap.size 50 := ty.frame e1
  have cl9 : w9.cell? ⟨w1.heap.size, 0, none⟩ = some (.slice a rs.length c) := (World.cell?_of_block (w := w2) (a := ⟨w1.heap.size, 0, none⟩) e1).trans cl
  have eb2 : (w9.setCell ⟨w1.heap.size, 0, none⟩ (.slice a9 l9 c9)).heap[b]? = w2.heap[b]? := by
    rw [← eb]
    exact (grownBy_set w9 w1.heap.size 0 _).block b (by have := ka.size; omega) (fun e => ne (Option.some.inj e).symm)
  obtain ⟨a', c', e9, _⟩ := h1.ints
  injection e9 with e9 e10 e11
  refine ⟨cl9, ty9.free 0, ⟨h2.setCell (p := ⟨w1.heap.size, 0, none⟩) (Nat.le_refl _) _, ?_, ne, ty9.setCell _ _ _, a9, c9, ?_, ?_, ?_⟩, eb2⟩
  · have := ka.size
    have := (grownBy_set w9 w1.heap.size 0 (.slice a9 l9 c9)).size
    omega
  · rw [← e10]
    exact World.cell?_setCell_same _ _ _ cl9
  · rw [← e10]
    exact own_set h1 ty9 (by decide) 0 _
  · rw [← e10]
    intro e
    rcases h5 b e with x | x
    · exact ow x
    · have := ka.size; omega
noncomputable def missD (s : RSt) (g : Geo) (gen : Nat) (must : List ByteArray) (d : Int) (rs : List Int) : Nat × List Int :=
  ((wAll must gen (rdB s d (fstS g.t gen)) g.t.toNat).1, if (wAll must gen (rdB s d (fstS g.t gen)) g.t.toNat).2.length = 0 then rs else rs ++ [d])
set_option maxRecDepth 100000 in
set_option maxHeartbeats 2000000 in
theorem missc_any (tb B G bt : Nat) (s : RSt) (g : Geo) (gen : Nat) (v : Value) (must : List ByteArray) (next : Nat) (br : Bool) (d : Int) (b : Nat) (rs : List Int) (w1 w : World) (hT : TailAt B tb G g gen v must next br w1) (hR : RackAt G s w1) (hg : gOk g gen) (hd : d ∈ drvL g gen) (hl : must.length ≤ 1000000) (hs : SectAll s g gen) (hrs : rs.length ≤ 1000)
    (ct : w1.cell? ⟨bt, 0, none⟩ = some (.pointer (some ⟨tb, 0, none⟩))) (hM : MsAt w1 b rs w) :
    Calls Tryz.prog 45 #[.int .i64 d, .pointer (some ⟨bt, 0, none⟩), .pointer (some ⟨w1.heap.size, 0, none⟩)] w fun e w' => e = .returned (.int .i64 ((missD s g gen must d rs).1 : Nat)) ∧ MsAt w1 b (missD s g gen must d rs).2 w' ∧ w'.heap[b]? = w.heap[b]? := by
  obtain ⟨g1, g2, g3, g4, g5, g6, g7, g8⟩ := geo_n hg
  obtain ⟨d1, d2⟩ := drvL_in hg hd
  have HWS := Lib.hid (wrong_shape tb B G s g gen v must next br d g.t.toNat w (hT.kept hM.kp) (hR.kept hM.kp) (by omega) (by omega) (by omega) (by omega) hl (hs d hd))
  have hcb := cell_keptT ct hM.kp
  have HKP := Lib.hid hM.kp
  have HLT := Lib.hid hM.lt
  have HNE := Lib.hid hM.ne
  have HTY := Lib.hid hM.ty
  obtain ⟨a, c, hcl, hgl, hown⟩ := hM.g
  have HGL := Lib.hid hgl
  have HOW := Lib.hid hown
  have HCL := Lib.hid hcl
  unfold missD
  clear hT hR hg hd hs hM hgl hown ct
  generalize wAll must gen (rdB s d (fstS g.t gen)) g.t.toNat = WA at *
  obtain ⟨we, wl⟩ := WA
  dsimp only at HWS ⊢
  have HMK : Hid (∀ w', Kept w w' → MsAt w1 b rs w') := fun w' k => ⟨HKP.out.trans k, Nat.lt_of_lt_of_le HLT.out k.size, HNE.out, HTY.out.kept k, a, c, cell_keptT HCL.out k, HGL.out.kept k, HOW.out⟩
  obtain ⟨N, hN⟩ : ∃ N, N = wl.length := ⟨_, rfl⟩
  rw [← hN] at HWS ⊢
  clear hN
  go_enter Tryz.func45, Tryz.ntmps45
  go_upto_region 2 with (go_at_call 46; refine HWS.out.mono ?_; rintro e w2 ⟨a2, c2, rfl, HA⟩; have K2 := Lib.hid HA.out.1; clear HA HWS)
  by_cases h0 : N = 0
  · subst h0
    have b1 : decide ((0 : Int) < ((0 : Nat) : Int)) = false := rfl
    go_wp2_with fail
    go_ret
    refine ⟨rfl, ?_, K2.out.block b HLT.out⟩
    exact HMK.out w2 K2.out
  · have b1 : decide ((0 : Int) < (N : Int)) = true := decide_eq_true (by omega)
    have b2 : decide (0 < N) = true := decide_eq_true (by omega)
    have hc2 := cell_keptT hcl K2.out
    have HG2 := Lib.hid (HGL.out.kept K2.out)
    have HK2 := Lib.hid (HKP.out.trans K2.out)
    have HT2 := Lib.hid (HTY.out.kept K2.out)
    have HL2 : Hid (b < w2.heap.size) := Nat.lt_of_lt_of_le HLT.out K2.out.size
    clear hcl hcb
    go_wp2_with (first | (at_builtin; go_must (refine wpList_gatz _ rfl (.tmp 16) (.tmp 18) rfl w1 _ rs (by rfl) (HG2.out.kept ((Kept.refl _).alloc _)) (HK2.out.alloc _) d w2.heap.size (by rfl) (by rw [World.cell?_alloc_mark]; rfl) (by omega) ?_); intro a9 l9 c9 w9 H9; obtain ⟨m1, m2, HMM⟩ := MsAt.push d HK2.out HL2.out HNE.out HT2.out hc2 HG2.out HOW.out _ a9 l9 c9 w9 H9.out.1 H9.out.2.1 H9.out.2.2.1 H9.out.2.2.2.1 H9.out.2.2.2.2; clear H9))
    go_ret
    exact ⟨rfl, HMM.out.1, HMM.out.2.trans (K2.out.block b HLT.out)⟩
set_option maxRecDepth 100000 in
theorem top_miss_nil (w : World) : Calls Tryz.prog 20 #[.pointer none] w fun e w' => e = .returned (.tuple #[.slice none 0 0, .int .i64 1]) ∧ Kept w w' := by
  have K0 : Hid (Kept w (w.alloc (.cells #[.pointer none] 34))) := (Kept.refl _).alloc _
  go_enter Tryz.func20, Tryz.ntmps20
  go_wp2_with (go_at_call 44; refine (tnone_nil _).mono ?_; rintro e w1 ⟨rfl, rfl⟩)
  go_ret2
  exact ⟨rfl, K0.out⟩
/-- What Missing tells. -/
noncomputable def missAll (s : RSt) (g : Geo) (gen : Nat) (must : List ByteArray) : Nat × List Int := stepAll (fun d rs => missD s g gen must d rs) (drvL g gen) []
set_option maxRecDepth 100000 in
set_option maxHeartbeats 2000000 in
theorem top_miss (tb B G : Nat) (s : RSt) (g : Geo) (gen : Nat) (v : Value) (must : List ByteArray) (next : Nat) (br : Bool) (w : World) (hT : TailAt B tb G g gen v must next br w) (hR : RackAt G s w) (hg : gOk g gen) (hl : must.length ≤ 1000000) (hs : SectAll s g gen)
    (hlen : (missAll s g gen must).2.length ≤ 1) :
    Calls Tryz.prog 20 #[.pointer (some ⟨tb, 0, none⟩)] w fun e w' => ∃ a c, e = .returned (.tuple #[.slice a (if (missAll s g gen must).1 = 0 then (missAll s g gen must).2 else []).length c, .int .i64 ((missAll s g gen must).1 : Nat)]) ∧ Hid (Kept w w' ∧ Ints .i64 w' a (if (missAll s g gen must).1 = 0 then (missAll s g gen must).2 else []) ∧ ∀ q o, a = some ⟨q, o, none⟩ → w.heap.size ≤ q) := by
  have K0 : Hid (Kept w (w.alloc (.cells #[.pointer (some ⟨tb, 0, none⟩)] 34))) := (Kept.refl _).alloc _
  have CB := Lib.hid (box_new w (.pointer (some ⟨tb, 0, none⟩)) 34)
  have HN := Lib.hid (tnone_any B tb G g gen v must next br _ (hT.kept K0.out))
  have HT := Lib.hid hT
  have HR := Lib.hid hR
  obtain ⟨w0, hw0⟩ : ∃ w0, w0 = w.alloc (.cells #[.pointer (some ⟨tb, 0, none⟩)] 34) := ⟨_, rfl⟩
  have HE : Hid (∀ W, W = w0.alloc (.cells #[.slice none 0 0] 50) → Calls Tryz.prog 36 #[.pointer (some ⟨tb, 0, none⟩), .func (.func 45) #[] #[.pointer (some ⟨w.heap.size, 0, none⟩), .pointer (some ⟨w0.heap.size, 0, none⟩)]] W fun e w' => e = .returned (.int .i64 ((missAll s g gen must).1 : Nat)) ∧ ∃ b, MsAt w0 b (missAll s g gen must).2 w') := by
    rintro W rfl
    have k1 : Kept w0 (w0.alloc (.cells #[.slice none 0 0] 50)) := (Kept.refl _).alloc _
    have k0 : Kept w w0 := by rw [hw0]; exact K0.out
    have ct : w0.cell? ⟨w.heap.size, 0, none⟩ = some (.pointer (some ⟨tb, 0, none⟩)) := by rw [hw0]; exact CB.out
    have hdl : (drvL g gen).length ≤ 12 := by
      obtain ⟨g1, g2, g3, g4, g5, g6, g7, g8⟩ := geo_n hg
      rw [drvL_length]; omega
    refine (each_ct (fun (x : List Int) => x.length) (fun b (x : List Int) W => MsAt w0 b x W) (fun d rs => missD s g gen must d rs) 45 #[] #[.pointer (some ⟨w.heap.size, 0, none⟩), .pointer (some ⟨w0.heap.size, 0, none⟩)] B tb G g gen v must next br [] _ (hT.kept (k0.trans k1)) hg ?_ ?_ rfl ?_ ?_).mono ?_
    · exact enters_of Tryz.func45 (by kernel_rfl) rfl
    · intro b W k h1 h2 _
      have hty : Typ W w0.heap.size 50 := (Typ.new w0 #[.slice none 0 0] 50).kept k
      refine ⟨k1.trans k, h2, ?_, hty, none, 0, cell_keptT (newT_cell w0 _ 50 0 _ _ rfl rfl) k, GatI.nil _ _, by simp [Value.ownBlock]⟩
      have : w0.heap.size + 1 ≤ b := by simpa using h1
      omega
    · intro d x
      show (missD s g gen must d x).2.length ≤ x.length + 1
      unfold missD
      simp only
      split
      · omega
      · simp
    · intro b x W d hx h hd
      exact missc_any tb B G w.heap.size s g gen v must next br d b x w0 W (hT.kept k0) (hR.kept k0) hg hd hl hs hx ct h
    · rintro e w' ⟨rfl, b, h⟩
      exact ⟨rfl, b, h⟩
  have HK1 : Hid (Kept w w0) := by show Kept w w0; rw [hw0]; exact K0.out
  have HCB : Hid (w0.cell? ⟨w.heap.size, 0, none⟩ = some (.pointer (some ⟨tb, 0, none⟩))) := by show _ = _; rw [hw0]; exact CB.out
  have HCB2 : Hid (∀ b rs W, MsAt w0 b rs W → W.cell? ⟨w.heap.size, 0, none⟩ = some (.pointer (some ⟨tb, 0, none⟩))) := fun b rs W h => cell_keptT HCB.out h.kp
  clear hT hR hg hl hs CB
  generalize missAll s g gen must = MA at *
  obtain ⟨me, ml⟩ := MA
  dsimp only at HE hlen ⊢
  go_enter Tryz.func20, Tryz.ntmps20
  go_upto_region 1 with fail
  rw [← hw0] at HN ⊢
  clear hw0
  have q0 := HCB.out
  go_upto_region 4 with (go_at_call 44; refine HN.out.mono ?_; rintro e w1 ⟨rfl, hw1⟩; rw [hw1]; clear hw1)
  have q1 : (w0.alloc (.cells #[.slice none 0 0] 50)).cell? ⟨w.heap.size, 0, none⟩ = some (.pointer (some ⟨tb, 0, none⟩)) := cell_keptT HCB.out ((Kept.refl _).alloc _)
  have HE1 := Lib.hid (HE.out _ rfl)
  generalize w0.alloc (.cells #[.slice none 0 0] 50) = w2 at *
  clear HE HT HR HN K0
  by_cases he : me = 0
  · subst he
    have HSO := Lib.hid (fun a c W => sort_one a c ml.length hlen W)
    have hz : (((0 : Nat) : Int) != 0) = false := rfl
    go_wp2_with (first
      | (go_at_call 36; refine HE1.out.mono ?_; rintro e w3 ⟨rfl, b, hM⟩; have HM := Lib.hid hM; obtain ⟨a, c, hcl, hgl, hown⟩ := hM.g; have HGL := Lib.hid hgl; clear hM hgl hown)
      | (go_at_call 47; with_reducible refine (HSO.out a c w3).mono ?_; rintro e w4 ⟨rfl, rfl⟩))
    go_ret2
    exact ⟨a, ⟨c, rfl⟩, HK1.out.trans HM.out.kp, (by
      obtain ⟨a', c', e, hi⟩ := HGL.out.ints
      injection e with e1 e2 e3
      rw [e1]; exact hi), fun q o e => Nat.le_trans HK1.out.size (HGL.out.lt q (by rw [e]; rfl)).1⟩
  · have hz := int_nz me he
    go_wp2_with (go_at_call 36; refine HE1.out.mono ?_; rintro e w3 ⟨rfl, b, hM⟩; have HM := Lib.hid hM; clear hM)
    go_ret2
    exact ⟨none, ⟨0, rfl⟩, HK1.out.trans HM.out.kp, .inl rfl, fun q o e => absurd e (by simp)⟩
end Go.Proofs.YtmgkkoajjdgmbaaGreatDoor

/- The program's: Begin. -/
namespace Go.Proofs.YtmgkkoajjdgmbaaGreatDoor
open Go.RowKit Go.Shelf Sm Wr _root_.Go.Proofs.YtmgkkoajjdgmbaaGreatDoor.Nm
set_option linter.unusedVariables false
theorem TO.only {lo hi b : Nat} {v : Value} {u w w' : World} (h : Kept u w) (k : TO lo hi b v w w') (h2 : u.heap.size ≤ b) (h3 : ∀ q, v.ownBlock = some q → u.heap.size ≤ q) : Only lo hi u w' :=
  ⟨k.os.trans h.os, k.tape.trans h.tape, k.output.trans h.output, Nat.le_trans h.size k.size, fun i hi hj => (k.block i (Nat.lt_of_lt_of_le hi h.size) hj (by omega) (fun e => by have := h3 i e; omega)).trans (h.block i hi)⟩
set_option maxRecDepth 100000 in
set_option maxHeartbeats 1000000 in
theorem begin_nil (g : Geo) (gen : Nat) (w : World) :
    Calls Tryz.prog 12 #[.pointer none, .agg #[.int .i64 g.n, .int .i64 g.p, .int .i64 g.m, .int .i64 g.t], .int .u64 (gen : Nat)] w fun e w' => e = .returned (.tuple #[.pointer none, .int .i64 1]) ∧ Kept w w' := by
  have K0 : Hid (Kept w (w.alloc (.cells #[.int .i64 g.n, .int .i64 g.p, .int .i64 g.m, .int .i64 g.t] 28))) := (Kept.refl _).alloc _
  have X0 := Lib.hid (GeoAt.laid w 28 g)
  have HP := Lib.hid (fun W => placeOf_nil g gen W)
  unfold plZ at HP
  go_enter Tryz.func12, Tryz.ntmps12
  go_upto_region 1 with fail
  generalize w.alloc (.cells #[.int .i64 g.n, .int .i64 g.p, .int .i64 g.m, .int .i64 g.t] 28) = w0 at *
  obtain ⟨c0, c1, c2, c3⟩ := X0.out
  go_wp2_with (go_at_call 27; refine (HP.out _).mono ?_; rintro e w1 ⟨rfl, hk⟩; have K1 := Lib.hid (K0.out.trans hk); clear hk)
  go_ret2
  exact ⟨rfl, K1.out.alloc _⟩
/-- What Begin tells. -/
def BegTo (G : Nat) (g : Geo) (gen : Nat) (w w' : World) (me : Nat) (p : Value) : Prop :=
  (me = 0 ∧ ∃ b v, p = .pointer (some ⟨b, 0, none⟩) ∧ w.heap.size ≤ b ∧ TailAt w.heap.size b G g gen v (tailTo gen [] 0) 1 false w') ∨ (me ≠ 0 ∧ p = .pointer none)
set_option maxRecDepth 100000 in
set_option maxHeartbeats 2000000 in
theorem begin_any (G : Nat) (s : RSt) (g : Geo) (gen : Nat) (w : World) (hR : RackAt G s w) (hg : gOk g gen) (hf : fitOk g s) (hs : SectAll s g gen) :
    Calls Tryz.prog 12 #[.pointer (some ⟨G + 1, 0, none⟩), .agg #[.int .i64 g.n, .int .i64 g.p, .int .i64 g.m, .int .i64 g.t], .int .u64 (gen : Nat)] w fun e w' =>
      ∃ p, e = .returned (.tuple #[p, .int .i64 ((mendAll s g gen (tailTo gen [] 0)).1 : Nat)]) ∧ Hid (BegTo G g gen w w' (mendAll s g gen (tailTo gen [] 0)).1 p ∧ RackAt G (mendAll s g gen (tailTo gen [] 0)).2 w' ∧ Only G (G + 2 + s.n) w w') := by
  have K0 : Hid (Kept w (w.alloc (.cells #[.int .i64 g.n, .int .i64 g.p, .int .i64 g.m, .int .i64 g.t] 28))) := (Kept.refl _).alloc _
  have X0 := Lib.hid (GeoAt.laid w 28 g)
  have HP := Lib.hid (fun W (k : Kept w W) => placeOf_any G s g gen W (hR.kept k) hg hf)
  have HPT : Hid (∀ W, Calls Tryz.prog 28 #[plV G g gen, .slice none 0 0] W fun e w' => (∃ b v, e = .returned (.pointer (some ⟨b, 0, none⟩)) ∧ W.heap.size ≤ b ∧ TailAt W.heap.size b G g gen v (tailTo gen [] 0) 1 false w') ∧ Kept W w') := (fun W => ptail_any G g gen none 0 [] W (.inl rfl) hg.2.2 (by decide) (fun x hx => absurd hx (by simp)))
  have HML : Hid (∀ x ∈ tailTo gen [] 0, x.size ≤ 100000 ∧ Sect (padL x)) := fun x hx => by
    obtain ⟨i, hi, rfl⟩ := List.mem_map.1 (show x ∈ grpL gen 0 ⟨#[]⟩ from hx)
    have hok := ptOf_ok gen 0 ⟨#[]⟩ i hg.2.2 (by decide) (List.mem_range.1 hi) (by decide)
    refine ⟨by rw [Pt.txt_size hok]; decide, .inr ⟨_, hok, ?_⟩⟩
    unfold padL
    rw [Pt.txt_size hok]
    show (Pt.raw _).toArray.toList ++ [] = _
    simp
  have HLT : Hid (G + 2 + s.n ≤ w.heap.size) := hR.lt
  have HNN : Hid ((mendAll s g gen (tailTo gen [] 0)).2.n = s.n) := (stepAll_n _ (fun d s => mendD_n _ _ _ _ _ _) _ _).1
  have HMD := Lib.hid (fun W B tb v (k : Kept w W) (hb : w.heap.size ≤ tb) (hB : w.heap.size ≤ B) (hT : TailAt B tb G g gen v (tailTo gen [] 0) 1 false W) => top_mend tb B G s g gen v (tailTo gen [] 0) 1 W hT (hR.kept k) hg (by show (grpL gen 0 ⟨#[]⟩).length ≤ _; rw [grpL_length]; decide) HML.out (Nat.le_trans hR.lt hB) (Nat.le_trans hR.lt hb) hs)
  unfold plV at HP HPT
  clear hR hf hs HML
  generalize mendAll s g gen (tailTo gen [] 0) = MA at *
  obtain ⟨me, ms⟩ := MA
  dsimp only at HMD HNN ⊢
  go_enter Tryz.func12, Tryz.ntmps12
  go_upto_region 1 with fail
  generalize w.alloc (.cells #[.int .i64 g.n, .int .i64 g.p, .int .i64 g.m, .int .i64 g.t] 28) = w0 at *
  obtain ⟨c0, c1, c2, c3⟩ := X0.out
  go_upto_region 4 with (go_at_call 27; refine (HP.out w0 K0.out).mono ?_; rintro e w1 ⟨rfl, hk⟩; have K1 := Lib.hid (K0.out.trans hk); clear hk)
  have X2 := Lib.hid (PlAt.laid w1 79 G g gen)
  have K2 : Hid (Kept w (w1.alloc (.cells #[.pointer (some ⟨G + 1, 0, none⟩), .int .i64 g.n, .int .i64 g.p, .int .i64 g.m, .int .i64 g.t, .int .u64 (gen : Nat)] 79))) := K1.out.alloc _
  generalize w1.alloc (.cells #[.pointer (some ⟨G + 1, 0, none⟩), .int .i64 g.n, .int .i64 g.p, .int .i64 g.m, .int .i64 g.t, .int .u64 (gen : Nat)] 79) = w2 at *
  clear c0 c1 c2 c3 X0 HP K0 K1
  obtain ⟨c0, c1, c2, c3, c4, c5⟩ := X2.out
  have HF3 : Hid (∀ W tb v, Kept w2 W → w2.heap.size ≤ tb → TailAt w2.heap.size tb G g gen v (tailTo gen [] 0) 1 false W → Kept w W ∧ TailAt w.heap.size tb G g gen v (tailTo gen [] 0) 1 false W ∧ w.heap.size ≤ tb) := fun W tb v k h1 h2 =>
    ⟨K2.out.trans k, h2.low K2.out.size, Nat.le_trans K2.out.size h1⟩
  by_cases he : me = 0
  · subst he
    have hz : (((0 : Nat) : Int) != 0) = false := rfl
    go_wp2_with (first
      | (go_at_call 28; refine (HPT.out w2).mono ?_; rintro e w3 ⟨⟨tb, v, rfl, h1, h2⟩, hk3⟩; have H3 := Lib.hid (HF3.out w3 tb v hk3 h1 h2); have HM3 := Lib.hid (HMD.out w3 w.heap.size tb v H3.out.1 H3.out.2.2 (Nat.le_refl _) H3.out.2.1); clear h1 h2 hk3)
      | (go_at_call 19; refine HM3.out.mono ?_; rintro e w4 ⟨rfl, q1, q2, q3, q4⟩))
    go_ret2
    refine ⟨_, rfl, .inl ⟨rfl, tb, v, rfl, H3.out.2.2, q2⟩, q1, TO.only H3.out.1 q3 H3.out.2.2 (fun q hq => (H3.out.2.1.gt.lt q hq).1)⟩
  · have hz := int_nz me he
    go_wp2_with (first
      | (go_at_call 28; refine (HPT.out w2).mono ?_; rintro e w3 ⟨⟨tb, v, rfl, h1, h2⟩, hk3⟩; have H3 := Lib.hid (HF3.out w3 tb v hk3 h1 h2); have HM3 := Lib.hid (HMD.out w3 w.heap.size tb v H3.out.1 H3.out.2.2 (Nat.le_refl _) H3.out.2.1); clear h1 h2 hk3)
      | (go_at_call 19; refine HM3.out.mono ?_; rintro e w4 ⟨rfl, q1, q2, q3, q4⟩))
    go_ret2
    refine ⟨_, rfl, .inr ⟨he, rfl⟩, q1, TO.only H3.out.1 q3 H3.out.2.2 (fun q hq => (H3.out.2.1.gt.lt q hq).1)⟩
end Go.Proofs.YtmgkkoajjdgmbaaGreatDoor

/- The positions of the parts in a tail, plain: which state of the walk stands ahead of which. -/
namespace Go.Proofs.YtmgkkoajjdgmbaaGreatDoor
open Go.RowKit Sm Wr _root_.Go.Proofs.YtmgkkoajjdgmbaaGreatDoor.Nm
set_option linter.unusedVariables false
/-- The text of group k: the head's is empty. -/
def txK (R : List ByteArray) (k : Nat) : ByteArray := (ByteArray.empty :: R).getD k ByteArray.empty
/-- How many sectors stand ahead of group k. -/
def offK (R : List ByteArray) : Nat → Nat
  | 0 => 0
  | k + 1 => offK R k + partsN (txK R k).size
theorem offK_mono (R : List ByteArray) {a b : Nat} (h : a ≤ b) : offK R a ≤ offK R b := by
  induction h with
  | refl => exact Nat.le_refl _
  | step _ ih => exact Nat.le_trans ih (Nat.le_add_right _ _)
theorem offK_pos (R : List ByteArray) {a b : Nat} (h : a < b) : offK R a < offK R b := by
  have h1 := offK_mono R (show a + 1 ≤ b from h)
  have h2 : offK R (a + 1) = offK R a + partsN (txK R a).size := rfl
  have := partsN_pos (txK R a).size
  omega
theorem tailTo_off (gen : Nat) (R : List ByteArray) : ∀ k, (tailTo gen R k).length = offK R (k + 1)
  | 0 => by
    show (grpL gen 0 ⟨#[]⟩).length = 0 + partsN (txK R 0).size
    rw [grpL_length, Nat.zero_add]; rfl
  | k + 1 => by
    show (tailTo gen R k ++ grpL gen (k + 1) (R.getD k ByteArray.empty)).length = offK R (k + 1) + partsN (txK R (k + 1)).size
    rw [List.length_append, tailTo_off gen R k, grpL_length]; rfl
theorem grpL_get (gen num : Nat) (t : ByteArray) (i : Nat) (h : i < partsN t.size) : (grpL gen num t)[i]? = some (ptOf gen num t i).txt := by
  unfold grpL
  rw [List.getElem?_map, List.getElem?_range h]; rfl
theorem tailTo_get (gen : Nat) (R : List ByteArray) (k i : Nat) (hi : i < partsN (txK R k).size) : ∀ m, k ≤ m → (tailTo gen R m)[offK R k + i]? = some (ptOf gen k (txK R k) i).txt
  | 0, h => by
    obtain rfl : k = 0 := by omega
    show (grpL gen 0 ⟨#[]⟩)[0 + i]? = _
    rw [Nat.zero_add]
    exact grpL_get gen 0 ⟨#[]⟩ i hi
  | m + 1, h => by
    show (tailTo gen R m ++ grpL gen (m + 1) (R.getD m ByteArray.empty))[offK R k + i]? = _
    by_cases e : k = m + 1
    · subst e
      rw [List.getElem?_append_right (by rw [tailTo_off]; omega), tailTo_off, show offK R (m + 1) + i - offK R (m + 1) = i by omega]
      exact grpL_get gen (m + 1) _ i hi
    · rw [List.getElem?_append_left, tailTo_get gen R k i hi m (by omega)]
      rw [tailTo_off]
      have := offK_mono R (show k + 1 ≤ m + 1 by omega)
      have h2 : offK R (k + 1) = offK R k + partsN (txK R k).size := rfl
      omega
theorem off_find (R : List ByteArray) : ∀ (K j : Nat), j < offK R K → ∃ k i, k < K ∧ i < partsN (txK R k).size ∧ j = offK R k + i
  | 0, j, h => absurd h (Nat.not_lt_zero _)
  | K + 1, j, h => by
    by_cases e : j < offK R K
    · obtain ⟨k, i, h1, h2, h3⟩ := off_find R K j e
      exact ⟨k, i, by omega, h2, h3⟩
    · have h2 : offK R (K + 1) = offK R K + partsN (txK R K).size := rfl
      exact ⟨K, j - offK R K, by omega, by omega, by omega⟩
theorem off_uniq (R : List ByteArray) {k i k' i' : Nat} (h : i < partsN (txK R k).size) (h' : i' < partsN (txK R k').size) (e : offK R k + i = offK R k' + i') : k = k' ∧ i = i' := by
  have a : offK R (k + 1) = offK R k + partsN (txK R k).size := rfl
  have b : offK R (k' + 1) = offK R k' + partsN (txK R k').size := rfl
  rcases Nat.lt_trichotomy k k' with h1 | h1 | h1
  · have := offK_mono R (show k + 1 ≤ k' from h1); omega
  · subst h1; exact ⟨rfl, by omega⟩
  · have := offK_mono R (show k' + 1 ≤ k from h1); omega
/-- The walk, as it stands behind i parts of group k. -/
def stK (gen : Nat) (R : List ByteArray) (k i : Nat) : Wk := ⟨(ByteArray.empty :: R).take k, (List.range i).map (ptOf gen k (txK R k))⟩
theorem ptOf_piece (gen num : Nat) (t : ByteArray) (i : Nat) : (ptOf gen num t i).piece.data.toList = (t.data.toList.take (i * 34 + 34)).drop (i * 34) := by
  show (t.extract (i * 34) (min (i * 34 + 34) t.size)).data.toList = _
  rw [ext_list]
  congr 1
  have : t.data.toList.length = t.size := by simp
  by_cases h : i * 34 + 34 ≤ t.size
  · rw [Nat.min_eq_left h]
  · rw [Nat.min_eq_right (by omega), List.take_of_length_le (by omega), List.take_of_length_le (by omega)]
theorem catP_pre (gen num : Nat) (t : ByteArray) : ∀ i, catP ((List.range i).map (ptOf gen num t)) = t.data.toList.take (i * 34)
  | 0 => by simp [catP]
  | i + 1 => by
    rw [List.range_succ, List.map_append]
    unfold catP
    rw [List.flatMap_append]
    have ih := catP_pre gen num t i
    unfold catP at ih
    rw [ih]
    simp only [List.map_cons, List.map_nil, List.flatMap_cons, List.flatMap_nil, List.append_nil]
    rw [ptOf_piece, show (i + 1) * 34 = i * 34 + 34 by omega]
    have e := List.take_append_drop (i * 34) (t.data.toList.take (i * 34 + 34))
    rw [List.take_take, Nat.min_eq_left (by omega)] at e
    exact e
theorem catP_all (gen num : Nat) (t : ByteArray) : catP ((List.range (partsN t.size)).map (ptOf gen num t)) = t.data.toList := by
  rw [catP_pre]
  apply List.take_of_length_le
  have : t.data.toList.length = t.size := by simp
  unfold partsN; omega
theorem st_texts (gen : Nat) (R : List ByteArray) (k i : Nat) (h : k ≤ R.length + 1) : (stK gen R k i).texts.length = k := by
  show (List.take k _).length = k
  rw [List.length_take, List.length_cons]; omega
theorem st_op (gen : Nat) (R : List ByteArray) (k i : Nat) : (stK gen R k i).op.length = i := by
  show (List.map _ _).length = i
  simp
theorem st_goes {gen : Nat} {R : List ByteArray} {k i k' i' : Nat} (hk : k ≤ R.length + 1) (h : (stK gen R k i).goes gen (ptOf gen k' (txK R k') i') = true) : k' = k ∧ i' = i := by
  have h := of_decide_eq_true h
  obtain ⟨_, h2, h3, _⟩ := h
  rw [st_texts gen R k i hk] at h2
  rw [st_op] at h3
  exact ⟨h2, h3⟩
theorem st_goes_on (gen : Nat) (R : List ByteArray) (k i : Nat) (hk : k ≤ R.length + 1) : (stK gen R k i).goes gen (ptOf gen k (txK R k) i) = true := by
  refine decide_eq_true ⟨rfl, ?_, ?_, ?_⟩
  · rw [st_texts gen R k i hk]; rfl
  · rw [st_op]; rfl
  · intro y hy
    have hm : y ∈ (List.range i).map (ptOf gen k (txK R k)) := by
      have : (stK gen R k i).op = (List.range i).map (ptOf gen k (txK R k)) := rfl
      rw [this] at hy
      exact List.mem_of_mem_head? hy
    obtain ⟨j, _, rfl⟩ := List.mem_map.1 hm
    exact ⟨rfl, rfl⟩
theorem st_head (gen : Nat) (R : List ByteArray) (k i : Nat) : ((List.range (i + 1)).map (ptOf gen k (txK R k))).headD Pt.none = ptOf gen k (txK R k) 0 := by
  rw [List.range_succ_eq_map]; rfl
theorem st_snoc (gen : Nat) (R : List ByteArray) (k i : Nat) : (stK gen R k i).op ++ [ptOf gen k (txK R k) i] = (List.range (i + 1)).map (ptOf gen k (txK R k)) := by
  rw [List.range_succ, List.map_append]; rfl
theorem st_crc (gen : Nat) (R : List ByteArray) (k i : Nat) (hi : i < partsN (txK R k).size) (hl : ¬ i + 1 < partsN (txK R k).size) : crc (catP ((stK gen R k i).op ++ [ptOf gen k (txK R k) i])) = (((stK gen R k i).op ++ [ptOf gen k (txK R k) i]).headD Pt.none).sum := by
  rw [st_snoc, st_head, show i + 1 = partsN (txK R k).size by omega, catP_all]
  rfl
theorem st_take (gen : Nat) (R : List ByteArray) (k i : Nat) (hk : k < R.length + 1) (hi : i < partsN (txK R k).size) (hok : (ptOf gen k (txK R k) i).Ok) :
    (stK gen R k i).take gen (ptOf gen k (txK R k) i).raw = some (if i + 1 < partsN (txK R k).size then stK gen R k (i + 1) else stK gen R (k + 1) 0) := by
  unfold Wk.take
  rw [lookR_raw hok]
  simp only
  rw [if_pos (st_goes_on gen R k i (by omega))]
  have hip : (ptOf gen k (txK R k) i).idx + 1 < (ptOf gen k (txK R k) i).parts ↔ i + 1 < partsN (txK R k).size := Iff.rfl
  by_cases hl : i + 1 < partsN (txK R k).size
  · rw [if_pos (hip.2 hl), if_pos hl, st_snoc]
    rfl
  · rw [if_neg (fun h => hl (hip.1 h)), if_neg hl]
    unfold Wk.close
    rw [if_pos]
    · rw [st_snoc, show i + 1 = partsN (txK R k).size by omega, catP_all]
      have e1 : (⟨(txK R k).data.toList.toArray⟩ : ByteArray) = txK R k := by simp
      rw [e1]
      unfold stK
      simp only [List.range_zero, List.map_nil]
      rw [List.take_succ_eq_append_getElem (by rw [List.length_cons]; exact hk)]
      unfold txK
      rw [List.getD_eq_getElem?_getD, List.getElem?_eq_getElem (by rw [List.length_cons]; exact hk)]
      rfl
    · refine ⟨st_crc gen R k i hi hl, fun h => ?_⟩
      have hk0 : k = 0 := by
        have := st_texts gen R k i (by omega)
        rw [h] at this
        exact this.symm
      subst hk0
      rw [st_snoc, catP_pre]
      rfl
end Go.Proofs.YtmgkkoajjdgmbaaGreatDoor

/- What a drive tells, that has sectors of a tail, or zeros, or none that can be read, plain. -/
namespace Go.Proofs.YtmgkkoajjdgmbaaGreatDoor
open Go.RowKit Sm Wr _root_.Go.Proofs.YtmgkkoajjdgmbaaGreatDoor.Nm
set_option linter.unusedVariables false
/-- The bytes of the sectors of a tail of these records. -/
def rawK (gen : Nat) (R : List ByteArray) (k i : Nat) : List UInt8 := (ptOf gen k (txK R k) i).raw
/-- The records may be: so few that all is told. -/
structure RecOk (gen : Nat) (R : List ByteArray) : Prop where
  g : gen ≤ 281474976710656
  l : offK R (R.length + 1) ≤ 512
theorem off_ge (R : List ByteArray) : ∀ k, k ≤ offK R k
  | 0 => Nat.le_refl _
  | k + 1 => by
    have := off_ge R k
    have := partsN_pos (txK R k).size
    show k + 1 ≤ offK R k + partsN (txK R k).size
    omega
theorem RecOk.len {gen : Nat} {R : List ByteArray} (h : RecOk gen R) : R.length + 1 ≤ 512 := Nat.le_trans (off_ge R _) h.l
theorem RecOk.parts {gen : Nat} {R : List ByteArray} (h : RecOk gen R) {k : Nat} (hk : k < R.length + 1) : partsN (txK R k).size ≤ 512 := by
  have a : offK R (k + 1) = offK R k + partsN (txK R k).size := rfl
  have := offK_mono R (show k + 1 ≤ R.length + 1 by omega)
  have := h.l
  omega
theorem RecOk.ok {gen : Nat} {R : List ByteArray} (h : RecOk gen R) {k i : Nat} (hk : k < R.length + 1) (hi : i < partsN (txK R k).size) : (ptOf gen k (txK R k) i).Ok :=
  ptOf_ok gen k _ i h.g (by have := h.len; omega) hi (h.parts hk)
/-- Where a walk stands that may be. -/
def PosK (R : List ByteArray) (k i : Nat) : Prop := (k < R.length + 1 ∧ i < partsN (txK R k).size) ∨ (k = R.length + 1 ∧ i = 0)
theorem PosK.le {R : List ByteArray} {k i : Nat} (h : PosK R k i) : k ≤ R.length + 1 := by rcases h with h | h <;> omega
theorem PosK.next {gen : Nat} {R : List ByteArray} {k i : Nat} (hk : k < R.length + 1) (hi : i < partsN (txK R k).size) :
    ∃ k' i', PosK R k' i' ∧ (if i + 1 < partsN (txK R k).size then stK gen R k (i + 1) else stK gen R (k + 1) 0) = stK gen R k' i' ∧ offK R k' + i' = offK R k + i + 1 := by
  have a : offK R (k + 1) = offK R k + partsN (txK R k).size := rfl
  by_cases h : i + 1 < partsN (txK R k).size
  · exact ⟨k, i + 1, .inl ⟨hk, h⟩, by rw [if_pos h], by omega⟩
  · refine ⟨k + 1, 0, ?_, by rw [if_neg h], by omega⟩
    by_cases e : k + 1 < R.length + 1
    · exact .inl ⟨e, partsN_pos _⟩
    · exact .inr ⟨by omega, rfl⟩
theorem lookR_rawK {gen : Nat} {R : List ByteArray} (h : RecOk gen R) {k i : Nat} (hk : k < R.length + 1) (hi : i < partsN (txK R k).size) : lookR (rawK gen R k i) = some (ptOf gen k (txK R k) i) := lookR_raw (h.ok hk hi)
theorem rawK_nz {gen : Nat} {R : List ByteArray} (h : RecOk gen R) {k i : Nat} (hk : k < R.length + 1) (hi : i < partsN (txK R k).size) : rawK gen R k i ≠ zero64 := Pt.raw_nz (h.ok hk hi)
/-- What stands in the sectors that can be read: zeros, or sectors of the tail, each in its place. -/
def RdU (gen : Nat) (R : List ByteArray) (rd : Nat → Nat × List UInt8) (n : Nat) : Prop :=
  ∀ q, q < n → (rd q).1 = 0 → (rd q).2 = zero64 ∨ ∃ k i, k < R.length + 1 ∧ i < partsN (txK R k).size ∧ q = offK R k + i ∧ (rd q).2 = rawK gen R k i
theorem gStep_take (gen : Nat) (rd : Nat → Nat × List UInt8) (k : Wk) (q : Nat) (h71 : ¬ (rd q).1 = 71) (h0 : (rd q).1 = 0) : gStep gen rd (.go k) q = (k.take gen (rd q).2).elim (.stop k.texts) GR.go := by
  unfold gStep
  simp only
  rw [if_neg h71, if_pos h0]
  cases k.take gen (rd q).2 <;> rfl
theorem gF_ends (gen : Nat) (rd : Nat → Nat × List UInt8) : ∀ (l : List Nat) (r : GR), r.ends → l.foldl (gStep gen rd) r = r
  | [], r, _ => rfl
  | i :: l, r, h => by
    rw [List.foldl_cons]
    have e : gStep gen rd r i = r := by
      cases r with
      | go k => exact h.elim
      | down => rfl
      | bad => rfl
      | stop t => rfl
    rw [e]
    exact gF_ends gen rd l r h
theorem gF_pos {gen : Nat} {R : List ByteArray} {rd : Nat → Nat × List UInt8} {n : Nat} (hR : RecOk gen R) (hU : RdU gen R rd n) : ∀ (l : List Nat) (k i : Nat), PosK R k i → (∀ q ∈ l, q < n) → ∀ w, l.foldl (gStep gen rd) (.go (stK gen R k i)) = .go w → ∃ k' i', PosK R k' i' ∧ w = stK gen R k' i' ∧ offK R k' + i' = offK R k + i + l.length
  | [], k, i, hp, _, w, h => by
    injection h with h
    exact ⟨k, i, hp, h.symm, rfl⟩
  | q :: l, k, i, hp, hl, w, h => by
    rw [List.foldl_cons] at h
    have hends : ∀ r : GR, r.ends → l.foldl (gStep gen rd) r = .go w → False := fun r hr e => by
      rw [gF_ends gen rd l r hr] at e
      rw [e] at hr
      exact hr
    have hq := hl q (by simp)
    by_cases h71 : (rd q).1 = 71
    · have e : gStep gen rd (.go (stK gen R k i)) q = .down := by unfold gStep; simp only; rw [if_pos h71]
      rw [e] at h
      exact (hends .down trivial h).elim
    · by_cases h0 : (rd q).1 = 0
      · have e : gStep gen rd (.go (stK gen R k i)) q = ((stK gen R k i).take gen (rd q).2).elim (.stop (stK gen R k i).texts) GR.go := gStep_take gen rd _ q h71 h0
        rw [e] at h
        rcases hU q hq h0 with hz | ⟨k', i', hk', hi', _, hr⟩
        · have e2 : (stK gen R k i).take gen (rd q).2 = none := by rw [hz]; unfold Wk.take; rw [lookR_zero]
          rw [e2] at h
          exact (hends (.stop _) trivial h).elim
        · by_cases hgo : (stK gen R k i).goes gen (ptOf gen k' (txK R k') i') = true
          · obtain ⟨rfl, rfl⟩ := st_goes hp.le hgo
            obtain ⟨k2, i2, h1, h2, h3⟩ := PosK.next (gen := gen) hk' hi'
            have e2 : (stK gen R k' i').take gen (rd q).2 = some (stK gen R k2 i2) := by
              rw [hr, ← h2]
              exact st_take gen R k' i' hk' hi' (hR.ok hk' hi')
            rw [e2] at h
            obtain ⟨k3, i3, p1, p2, p3⟩ := gF_pos hR hU l k2 i2 h1 (fun j hj => hl j (by simp [hj])) w h
            exact ⟨k3, i3, p1, p2, by rw [List.length_cons]; omega⟩
          · have e2 : (stK gen R k i).take gen (rd q).2 = none := by
              rw [hr]
              unfold Wk.take
              rw [lookR_rawK hR hk' hi']
              simp only
              rw [if_neg hgo]
            rw [e2] at h
            exact (hends (.stop _) trivial h).elim
      · have e : gStep gen rd (.go (stK gen R k i)) q = .bad := by unfold gStep; simp only; rw [if_neg h71, if_neg h0]
        rw [e] at h
        exact (hends .bad trivial h).elim
theorem gL_pos {gen : Nat} {R : List ByteArray} {rd : Nat → Nat × List UInt8} {n : Nat} (hR : RecOk gen R) (hU : RdU gen R rd n) (l : List Nat) (hl : ∀ i ∈ l, i < n) (w : Wk) (h : gL gen rd l = .go w) : ∃ k i, PosK R k i ∧ w = stK gen R k i ∧ l.length = offK R k + i := by
  obtain ⟨k, i, h1, h2, h3⟩ := gF_pos hR hU l 0 0 (.inl ⟨by omega, partsN_pos _⟩) hl w h
  exact ⟨k, i, h1, h2, by rw [h3]; show l.length = 0 + 0 + l.length; omega⟩
theorem RdU.fine {gen : Nat} {R : List ByteArray} {rd : Nat → Nat × List UInt8} {n : Nat} (hR : RecOk gen R) (hU : RdU gen R rd n) : Fine gen rd n := by
  intro l q w hl hq hg h0
  obtain ⟨k, i, hp, rfl, hlen⟩ := gL_pos hR hU l hl w hg
  have hlen1 := hR.len
  have hin : i ≤ 512 := by
    rcases hp with ⟨a, b⟩ | ⟨a, b⟩
    · have := hR.parts a; omega
    · omega
  refine ⟨?_, by rw [st_texts gen R k i hp.le]; have := hp.le; omega, by rw [st_op]; omega, ?_, ?_⟩
  · rcases hU q hq h0 with hz | ⟨k', i', hk', hi', _, hr⟩
    · exact .inl hz
    · exact .inr ⟨_, hR.ok hk' hi', hr⟩
  · intro y hy
    obtain ⟨j, hj, rfl⟩ := List.mem_map.1 (show y ∈ (List.range i).map (ptOf gen k (txK R k)) from hy)
    rcases hp with ⟨a, b⟩ | ⟨a, rfl⟩
    · exact (hR.ok a (by have := List.mem_range.1 hj; omega)).len
    · exact absurd (List.mem_range.1 hj) (by omega)
  · intro x hx hgo hlast
    rcases hU q hq h0 with hz | ⟨k', i', hk', hi', _, hr⟩
    · rw [hz, lookR_zero] at hx; cases hx
    · rw [hr, lookR_rawK hR hk' hi'] at hx
      injection hx with hx
      subst hx
      obtain ⟨rfl, rfl⟩ := st_goes hp.le hgo
      exact st_crc gen R k' i' hi' hlast
/-- Sector q is the tail's. -/
def RdR (gen : Nat) (R : List ByteArray) (rd : Nat → Nat × List UInt8) (q : Nat) : Prop := (rd q).1 = 0 ∧ ∃ k i, k < R.length + 1 ∧ i < partsN (txK R k).size ∧ q = offK R k + i ∧ (rd q).2 = rawK gen R k i
/-- How the look at a drive goes, that is not down. -/
theorem gL_how {gen : Nat} {R : List ByteArray} {rd : Nat → Nat × List UInt8} {n : Nat} (hR : RecOk gen R) (hU : RdU gen R rd n) (hd : ∀ q, q < n → (rd q).1 ≠ 71) : ∀ q, q ≤ n →
    (gL gen rd (List.range q) = .bad ∧ ∃ j, j < q ∧ (rd j).1 ≠ 0) ∨ (∃ k i, PosK R k i ∧ (∀ j, j < offK R k + i → RdR gen R rd j) ∧
      ((gL gen rd (List.range q) = .go (stK gen R k i) ∧ q = offK R k + i) ∨ (gL gen rd (List.range q) = .stop (stK gen R k i).texts ∧ offK R k + i < q ∧ (rd (offK R k + i)).1 = 0 ∧ (rd (offK R k + i)).2 = zero64)))
  | 0, _ => .inr ⟨0, 0, .inl ⟨by omega, partsN_pos _⟩, fun j hj => absurd hj (Nat.not_lt_zero _), .inl ⟨rfl, rfl⟩⟩
  | q + 1, hq => by
    rw [List.range_succ, gL_snoc]
    rcases gL_how hR hU hd q (by omega) with ⟨h, j, hj, hb⟩ | ⟨k, i, hp, hj, ⟨h, he⟩ | ⟨h, h1, h2, h3⟩⟩
    · rw [h]; exact .inl ⟨rfl, j, by omega, hb⟩
    · rw [h]
      unfold gStep
      simp only
      rw [if_neg (hd q (by omega))]
      by_cases h0 : (rd q).1 = 0
      · rw [if_pos h0]
        rcases hU q (by omega) h0 with hz | ⟨k', i', hk', hi', hqq, hr⟩
        · refine .inr ⟨k, i, hp, hj, .inr ⟨?_, by omega, by rw [← he]; exact h0, by rw [← he]; exact hz⟩⟩
          rw [hz]
          unfold Wk.take
          rw [lookR_zero]
        · obtain ⟨rfl, rfl⟩ : k = k' ∧ i = i' := by
            rcases hp with ⟨a, b⟩ | ⟨a, b⟩
            · exact off_uniq R b hi' (he.symm.trans hqq)
            · have a' : offK R (k' + 1) = offK R k' + partsN (txK R k').size := rfl
              have := offK_mono R (show k' + 1 ≤ R.length + 1 by omega)
              rw [a, b] at he
              omega
          rw [hr]
          unfold rawK
          rw [st_take gen R k i hk' hi' (hR.ok hk' hi')]
          obtain ⟨k2, i2, p1, p2, p3⟩ := PosK.next (gen := gen) hk' hi'
          simp only
          rw [p2]
          refine .inr ⟨k2, i2, p1, fun j hjj => ?_, .inl ⟨rfl, by omega⟩⟩
          by_cases e : j = q
          · subst e; exact ⟨h0, k, i, hk', hi', hqq, hr⟩
          · exact hj j (by omega)
      · rw [if_neg h0]; exact .inl ⟨rfl, q, by omega, h0⟩
    · rw [h]; exact .inr ⟨k, i, hp, hj, .inr ⟨rfl, by omega, h2, h3⟩⟩
/-- What a drive tells: nothing, or the records that are sure, or all of them. -/
theorem gAll_is {gen : Nat} {R : List ByteArray} {rd : Nat → Nat × List UInt8} {n m : Nat} (hR : RecOk gen R) (hU : RdU gen R rd n) (hd : ∀ q, q < n → (rd q).1 ≠ 71) (hn : offK R (R.length + 1) ≤ n)
    (hm1 : 1 ≤ m) (hm2 : m ≤ R.length + 1) (hm3 : R.length ≤ m) (hH : RdR gen R rd 0 → ∀ j, j < offK R m → (rd j).1 = 0 → RdR gen R rd j) :
    (gAll gen rd n).1 = 0 ∧ ((gAll gen rd n).2 = [] ∨ (gAll gen rd n).2 = (ByteArray.empty :: R).take m ∨ (gAll gen rd n).2 = ByteArray.empty :: R) ∧
      ((∀ j, j < n → (rd j).1 = 0) → (∀ j, j < offK R m → RdR gen R rd j) → (gAll gen rd n).2 ≠ []) := by
  have htk : ∀ k, k ≤ R.length + 1 → m ≤ k → (ByteArray.empty :: R).take k = (ByteArray.empty :: R).take m ∨ (ByteArray.empty :: R).take k = ByteArray.empty :: R := by
    intro k h1 h2
    by_cases e : k = m
    · rw [e]; exact .inl rfl
    · exact .inr (List.take_of_length_le (by rw [List.length_cons]; omega))
  have hne : ∀ k, 1 ≤ k → (ByteArray.empty :: R).take k ≠ [] := by
    intro k hk e
    have := congrArg List.length e
    rw [List.length_take, List.length_cons] at this
    simp at this
    omega
  unfold gAll
  rcases gL_how hR hU hd n (Nat.le_refl _) with ⟨h, j, hj, hb⟩ | ⟨k, i, hp, hj, ⟨h, he⟩ | ⟨h, h1, h2, h3⟩⟩
  · rw [h]
    exact ⟨rfl, .inl rfl, fun hall _ => absurd (hall j hj) hb⟩
  · rw [h]
    have hk : k = R.length + 1 := by
      rcases hp with ⟨a, b⟩ | ⟨a, b⟩
      · have a' : offK R (k + 1) = offK R k + partsN (txK R k).size := rfl
        have := offK_mono R (show k + 1 ≤ R.length + 1 by omega)
        omega
      · exact a
    have ht : (stK gen R k i).texts = ByteArray.empty :: R := List.take_of_length_le (by rw [hk, List.length_cons]; exact Nat.le_refl _)
    refine ⟨rfl, .inr (.inr ht), fun _ _ => ?_⟩
    show (stK gen R k i).texts ≠ []
    rw [ht]
    simp
  · rw [h]
    by_cases h0 : offK R k + i = 0
    · have hk0 : k = 0 := by have := off_ge R k; omega
      refine ⟨rfl, .inl (by subst hk0; rfl), fun _ hr => ?_⟩
      have hpos : 0 < offK R m := by have := off_ge R m; omega
      obtain ⟨_, k', i', a, b, c, d⟩ := hr 0 hpos
      rw [h0, d] at h3
      exact absurd h3 (rawK_nz hR a b)
    · have hhead := hj 0 (by omega)
      have hge : offK R m ≤ offK R k + i := by
        refine Nat.le_of_not_lt fun hlt => ?_
        obtain ⟨_, k', i', a, b, c, d⟩ := hH hhead _ hlt h2
        rw [d] at h3
        exact absurd h3 (rawK_nz hR a b)
      have hmk : m ≤ k := by
        refine Nat.le_of_not_lt fun hlt => ?_
        rcases hp with ⟨a, b⟩ | ⟨a, b⟩
        · have a' : offK R (k + 1) = offK R k + partsN (txK R k).size := rfl
          have := offK_mono R (show k + 1 ≤ m by omega)
          omega
        · omega
      refine ⟨rfl, .inr ?_, fun _ _ => hne k (by omega)⟩
      exact htk k hp.le hmk
end Go.Proofs.YtmgkkoajjdgmbaaGreatDoor

/- What the sectors of a generation's tail have, whatever becomes of the drives, plain. -/
namespace Go.Proofs.YtmgkkoajjdgmbaaGreatDoor
open Go.RowKit Sm Wr _root_.Go.Proofs.YtmgkkoajjdgmbaaGreatDoor.Nm
set_option linter.unusedVariables false
/-- Sector i of a tail with these records, as written: its text. -/
def secT (gen : Nat) (R : List ByteArray) (i : Nat) : ByteArray := (tailTo gen R R.length).getD i ByteArray.empty
def lenT (R : List ByteArray) : Nat := offK R (R.length + 1)
theorem lenT_is (gen : Nat) (R : List ByteArray) : (tailTo gen R R.length).length = lenT R := tailTo_off gen R _
theorem padL_txt {x : Pt} (h : x.Ok) : padL x.txt = x.raw := by
  unfold padL
  rw [Pt.txt_size h]
  show x.raw.toArray.toList ++ [] = _
  simp
theorem secT_is {gen : Nat} {R : List ByteArray} {k i : Nat} (hk : k < R.length + 1) (hi : i < partsN (txK R k).size) : secT gen R (offK R k + i) = (ptOf gen k (txK R k) i).txt := by
  unfold secT
  rw [List.getD_eq_getElem?_getD, tailTo_get gen R k i hi _ (by omega)]
  rfl
theorem secT_pad {gen : Nat} {R : List ByteArray} (hR : RecOk gen R) {k i : Nat} (hk : k < R.length + 1) (hi : i < partsN (txK R k).size) : padL (secT gen R (offK R k + i)) = rawK gen R k i := by
  rw [secT_is hk hi, padL_txt (hR.ok hk hi)]; rfl
theorem secT_size {gen : Nat} {R : List ByteArray} (hR : RecOk gen R) {j : Nat} (hj : j < lenT R) : (secT gen R j).size = 64 := by
  obtain ⟨k, i, hk, hi, rfl⟩ := off_find R _ j hj
  rw [secT_is hk hi]; exact Pt.txt_size (hR.ok hk hi)
/-- The bytes of sector j. -/
def rawT (gen : Nat) (R : List ByteArray) (j : Nat) : List UInt8 := padL (secT gen R j)
theorem rawT_nz {gen : Nat} {R : List ByteArray} (hR : RecOk gen R) {j : Nat} (hj : j < lenT R) : rawT gen R j ≠ zero64 := by
  obtain ⟨k, i, hk, hi, rfl⟩ := off_find R _ j hj
  unfold rawT
  rw [secT_pad hR hk hi]; exact rawK_nz hR hk hi
theorem rawT_owned {gen : Nat} {R : List ByteArray} (hR : RecOk gen R) {j : Nat} (hj : j < lenT R) : ownsB gen (rawT gen R j) = true := by
  obtain ⟨k, i, hk, hi, rfl⟩ := off_find R _ j hj
  unfold rawT ownsB
  rw [secT_pad hR hk hi, lookR_rawK hR hk hi]
  exact decide_eq_true rfl
theorem rawT_txt {gen : Nat} {R : List ByteArray} (hR : RecOk gen R) {j : Nat} (hj : j < lenT R) : (⟨(rawT gen R j).toArray⟩ : ByteArray) = secT gen R j := by
  have h := secT_size hR hj
  unfold rawT padL
  rw [h]
  simp
/-- Sector i of drive d has the tail's bytes. -/
def Rgt (gen : Nat) (R : List ByteArray) (f : Nat) (s : RSt) (d i : Nat) : Prop := s.bad d (f + i) = false ∧ s.T d (f + i) = rawT gen R i
/-- What drive d has: zeros, or sectors of the tail R in their places; all of the first L0, if it has the head. -/
structure DOk (gen : Nat) (R : List ByteArray) (L0 n f : Nat) (s : RSt) (d : Nat) : Prop where
  u : ∀ i, i < n → s.bad d (f + i) = true ∨ s.T d (f + i) = zero64 ∨ (i < lenT R ∧ s.T d (f + i) = rawT gen R i)
  h : Rgt gen R f s d 0 → ∀ i, i < L0 → s.bad d (f + i) = true ∨ s.T d (f + i) = rawT gen R i
/-- A drive that nothing was lost of. -/
structure DAll (gen : Nat) (R : List ByteArray) (L0 n f : Nat) (s : RSt) (d : Nat) : Prop where
  b : ∀ i, i < n → s.bad d (f + i) = false
  r : ∀ i, i < L0 → s.T d (f + i) = rawT gen R i
theorem DAll.mono {gen : Nat} {R : List ByteArray} {L0 L n f : Nat} {s : RSt} {d : Nat} (h : DAll gen R L0 n f s d) (hl : L ≤ L0) : DAll gen R L n f s d := ⟨h.b, fun i hi => h.r i (by omega)⟩
/-- What the rack tells of the sectors. -/
theorem rdT_fst (s : RSt) (d f i : Nat) (hd : d < s.n) (hi : f + i < s.m) (hw : s.down = false) : (rdT s d f i).1 = (if s.bad d (f + i) then 72 else 0) := by
  unfold rdT
  simp only
  unfold RSt.readE
  have ht : s.there (d : Int) ((f : Int) + (i : Nat)) = true := by unfold RSt.there; exact decide_eq_true (by omega)
  rw [hw, ht]
  have e1 : ((d : Int)).toNat = d := by omega
  have e2 : ((f : Int) + (i : Nat)).toNat = f + i := by omega
  rw [e1, e2]
  rfl
theorem rdT_snd (s : RSt) (d f i : Nat) (h : (rdT s d f i).1 = 0) : (rdT s d f i).2 = s.T d (f + i) := by
  unfold rdT at h ⊢
  simp only at h ⊢
  have e1 : ((d : Int)).toNat = d := by omega
  have e2 : ((f : Int) + (i : Nat)).toNat = f + i := by omega
  rw [readT_of _ _ _ h, e1, e2]
/-- The same records, or one more. -/
def PreK (S R : List ByteArray) : Prop := S = R ∨ ∃ t, R = S ++ [t]
theorem PreK.rfl' (S : List ByteArray) : PreK S S := .inl rfl
theorem pre_tx (S : List ByteArray) (t : ByteArray) {k : Nat} (hk : k < S.length + 1) : txK (S ++ [t]) k = txK S k := by
  unfold txK
  rw [List.getD_eq_getElem?_getD, List.getD_eq_getElem?_getD, ← List.cons_append, List.getElem?_append_left (by rw [List.length_cons]; exact hk)]
theorem pre_off (S : List ByteArray) (t : ByteArray) : ∀ k, k ≤ S.length + 1 → offK (S ++ [t]) k = offK S k
  | 0, _ => rfl
  | k + 1, h => by
    show offK (S ++ [t]) k + partsN (txK (S ++ [t]) k).size = offK S k + partsN (txK S k).size
    rw [pre_off S t k (by omega), pre_tx S t (by omega)]
theorem pre_len (S : List ByteArray) (t : ByteArray) : lenT (S ++ [t]) = lenT S + partsN t.size := by
  unfold lenT
  rw [List.length_append]
  show offK (S ++ [t]) (S.length + 1) + partsN (txK (S ++ [t]) (S.length + 1)).size = _
  rw [pre_off S t _ (Nat.le_refl _)]
  congr 2
  unfold txK
  rw [← List.cons_append, List.getD_eq_getElem?_getD, List.getElem?_append_right (by simp)]
  simp
theorem PreK.len {S R : List ByteArray} (h : PreK S R) : lenT S ≤ lenT R := by
  rcases h with rfl | ⟨t, rfl⟩
  · exact Nat.le_refl _
  · rw [pre_len]; omega
theorem pre_sec (gen : Nat) (S : List ByteArray) (t : ByteArray) {j : Nat} (hj : j < lenT S) : secT gen (S ++ [t]) j = secT gen S j := by
  obtain ⟨k, i, hk, hi, rfl⟩ := off_find S _ j hj
  have e := pre_tx S t hk
  have h := @secT_is gen (S ++ [t]) k i (by rw [List.length_append]; omega) (by rw [e]; exact hi)
  rw [pre_off S t k (by omega), e] at h
  rw [h, secT_is hk hi]
theorem PreK.sec {S R : List ByteArray} (h : PreK S R) (gen : Nat) {j : Nat} (hj : j < lenT S) : secT gen R j = secT gen S j := by
  rcases h with rfl | ⟨t, rfl⟩
  · rfl
  · exact pre_sec gen S t hj
theorem PreK.raw {S R : List ByteArray} (h : PreK S R) (gen : Nat) {j : Nat} (hj : j < lenT S) : rawT gen R j = rawT gen S j := by
  unfold rawT; rw [h.sec gen hj]
theorem PreK.ok {S R : List ByteArray} {gen : Nat} (h : PreK S R) (hR : RecOk gen R) : RecOk gen S := ⟨hR.g, Nat.le_trans h.len hR.l⟩
theorem lenT_pos (R : List ByteArray) : 1 ≤ lenT R := by
  have := off_ge R (R.length + 1)
  unfold lenT; omega
theorem DOk.up {gen : Nat} {S R : List ByteArray} {L0 n f : Nat} {s : RSt} {d : Nat} (h : DOk gen S L0 n f s d) (hp : PreK S R) (hl : L0 ≤ lenT S) : DOk gen R L0 n f s d := by
  have hpos := lenT_pos S
  refine ⟨fun i hi => ?_, fun hh i hi => ?_⟩
  · rcases h.u i hi with a | a | ⟨a, b⟩
    · exact .inl a
    · exact .inr (.inl a)
    · exact .inr (.inr ⟨Nat.lt_of_lt_of_le a hp.len, by rw [hp.raw gen a]; exact b⟩)
  · have hh' : Rgt gen S f s d 0 := ⟨hh.1, by rw [← hp.raw gen hpos]; exact hh.2⟩
    rw [hp.raw gen (show i < lenT S by omega)]
    exact h.h hh' i hi
theorem DAll.up {gen : Nat} {S R : List ByteArray} {L0 n f : Nat} {s : RSt} {d : Nat} (h : DAll gen S L0 n f s d) (hp : PreK S R) (hl : L0 ≤ lenT S) : DAll gen R L0 n f s d :=
  ⟨h.b, fun i hi => by rw [hp.raw gen (show i < lenT S by omega)]; exact h.r i hi⟩
/-- Drive d is the same in both. -/
def SameD (d : Nat) (s s' : RSt) : Prop := ∀ i, s'.bad d i = s.bad d i ∧ s'.T d i = s.T d i
theorem SameD.refl (d : Nat) (s : RSt) : SameD d s s := fun _ => ⟨rfl, rfl⟩
theorem SameD.trans {d : Nat} {s t u : RSt} (h : SameD d s t) (k : SameD d t u) : SameD d s u := fun i => ⟨(k i).1.trans (h i).1, (k i).2.trans (h i).2⟩
/-- The sectors of a tail on drive d are the same in both. -/
def SameR (f n d : Nat) (s s' : RSt) : Prop := ∀ i, i < n → s'.bad d (f + i) = s.bad d (f + i) ∧ s'.T d (f + i) = s.T d (f + i)
theorem SameD.reg {d : Nat} {s s' : RSt} (h : SameD d s s') (f n : Nat) : SameR f n d s s' := fun i _ => h _
theorem DOk.same {gen : Nat} {R : List ByteArray} {L0 n f : Nat} {s s' : RSt} {d : Nat} (h : DOk gen R L0 n f s d) (k : SameR f n d s s') (hl : L0 ≤ n) : DOk gen R L0 n f s' d :=
  ⟨fun i hi => by rw [(k i hi).1, (k i hi).2]; exact h.u i hi, fun hh i hi => by
    have h0 := k 0 (by omega)
    rw [(k i (by omega)).1, (k i (by omega)).2]
    exact h.h ⟨by rw [← h0.1]; exact hh.1, by rw [← h0.2]; exact hh.2⟩ i hi⟩
theorem DAll.same {gen : Nat} {R : List ByteArray} {L0 n f : Nat} {s s' : RSt} {d : Nat} (h : DAll gen R L0 n f s d) (k : SameR f n d s s') (hl : L0 ≤ n) : DAll gen R L0 n f s' d :=
  ⟨fun i hi => by rw [(k i hi).1]; exact h.b i hi, fun i hi => by rw [(k i (by omega)).2]; exact h.r i hi⟩
/-- What a row of writes leaves: the first k of them were done. -/
structure Wrote (s s' : RSt) (d f : Nat) (T : Int → ByteArray) (X : List Int) : Prop where
  n : s'.n = s.n
  m : s'.m = s.m
  cut : s'.cut = s.cut
  on : ∀ i ∈ X, s'.bad d (f + i.toNat) = false ∧ s'.T d (f + i.toNat) = padL (T i)
  off : ∀ d' j, ¬ (d' = d ∧ ∃ i ∈ X, j = f + i.toNat) → s'.bad d' j = s.bad d' j ∧ s'.T d' j = s.T d' j
theorem writeS_is (s : RSt) (d f : Nat) (i : Int) (t : ByteArray) (hd : d < s.n) (h0 : 0 ≤ i) (hi : f + i.toNat < s.m) (ht : t.size ≤ 64) :
    (s.down = true → s.writeE d (f + i) t = 71 ∧ s.writeS d (f + i) t = s) ∧ (s.down = false → s.writeE d (f + i) t = 0 ∧ s.writeS d (f + i) t = s.wr d (f + i.toNat) (padL t)) := by
  have hth : s.there (d : Int) ((f : Int) + i) = true := by unfold RSt.there; exact decide_eq_true (by omega)
  have e1 : ((d : Int)).toNat = d := by omega
  have e2 : ((f : Int) + i).toNat = f + i.toNat := by omega
  have hE : s.writeE d (f + i) t = if s.down then 71 else 0 := by
    unfold RSt.writeE
    rw [hth, if_neg (by decide), if_neg (by omega)]
  constructor <;> intro h
  · rw [h, if_pos rfl] at hE
    exact ⟨hE, by unfold RSt.writeS; rw [hE, if_neg (by decide)]⟩
  · rw [h, if_neg (by decide)] at hE
    exact ⟨hE, by unfold RSt.writeS; rw [hE, if_pos rfl, e1, e2]⟩
theorem wrS_is (d f : Nat) (T : Int → ByteArray) (hT : ∀ i, (T i).size ≤ 64) : ∀ (l : List Int) (s : RSt), d < s.n → (∀ i ∈ l, 0 ≤ i ∧ f + i.toNat < s.m) →
    ∃ k, k ≤ l.length ∧ Wrote s (wrS s d f T l).2 d f (fun i => T i) (l.take k) ∧ ((wrS s d f T l).1 = 0 ∧ k = l.length ∨ (wrS s d f T l).1 = 71 ∧ k < l.length ∧ s.cut = true)
  | [], s, hd, hl => ⟨0, Nat.le_refl _, ⟨rfl, rfl, rfl, fun i hi => absurd hi (by simp), fun _ _ _ => ⟨rfl, rfl⟩⟩, .inl ⟨rfl, rfl⟩⟩
  | i :: r, s, hd, hl => by
    obtain ⟨h0, hi⟩ := hl i (by simp)
    obtain ⟨wA, wB⟩ := writeS_is s d f i (T i) hd h0 hi (hT i)
    cases hdn : s.down with
    | true =>
      obtain ⟨e1, e2⟩ := wA hdn
      have e : wrS s d f T (i :: r) = (71, s) := by unfold wrS; rw [e1, e2, if_pos (by decide)]
      rw [e]
      refine ⟨0, Nat.zero_le _, ⟨rfl, rfl, rfl, fun i hi => absurd hi (by simp), fun _ _ _ => ⟨rfl, rfl⟩⟩, .inr ⟨rfl, by simp, ?_⟩⟩
      unfold RSt.down at hdn
      simp at hdn
      exact hdn.1
    | false =>
      obtain ⟨e1, e2⟩ := wB hdn
      have e : wrS s d f T (i :: r) = wrS (s.wr d (f + i.toNat) (padL (T i))) d f T r := by
        show (if s.writeE d (f + i) (T i) ≠ 0 then (s.writeE d (f + i) (T i), s.writeS d (f + i) (T i)) else wrS (s.writeS d (f + i) (T i)) d f T r) = _
        rw [e1, e2, if_neg (by decide)]
      rw [e]
      obtain ⟨k, hk, hw, hr⟩ := wrS_is d f T hT r (s.wr d (f + i.toNat) (padL (T i))) hd (fun j hj => hl j (by simp [hj]))
      refine ⟨k + 1, by simpa using hk, ⟨hw.n, hw.m, hw.cut, ?_, ?_⟩, ?_⟩
      · intro j hj
        rw [List.take_succ_cons] at hj
        by_cases hm : ∃ j' ∈ r.take k, j.toNat = j'.toNat
        · obtain ⟨j', hm1, hm2⟩ := hm
          have hj0 := (hl j (List.mem_cons.2 ((List.mem_cons.1 hj).imp id (fun h => List.mem_of_mem_take h)))).1
          have hj0' := (hl j' (List.mem_cons_of_mem _ (List.mem_of_mem_take hm1))).1
          have : j = j' := by omega
          rw [this]
          exact hw.on j' hm1
        · have hji : j = i := by
            rcases List.mem_cons.1 hj with h | h
            · exact h
            · exact absurd ⟨j, h, rfl⟩ hm
          have ho := hw.off d (f + j.toNat) (by
            rintro ⟨_, j', h1, h2⟩
            exact hm ⟨j', h1, by omega⟩)
          rw [ho.1, ho.2, hji]
          constructor
          · show up2 s.bad d (f + i.toNat) false d (f + i.toNat) = false
            unfold up2; rw [if_pos ⟨rfl, rfl⟩]
          · show up2 s.T d (f + i.toNat) (padL (T i)) d (f + i.toNat) = _
            unfold up2; rw [if_pos ⟨rfl, rfl⟩]
      · intro d' j hn
        rw [List.take_succ_cons] at hn
        have ho := hw.off d' j (by
          rintro ⟨h1, j', h2, h3⟩
          exact hn ⟨h1, j', List.mem_cons_of_mem _ h2, h3⟩)
        rw [ho.1, ho.2]
        have hne : ¬ (d' = d ∧ j = f + i.toNat) := fun h => hn ⟨h.1, i, by simp, h.2⟩
        constructor
        · show up2 s.bad d (f + i.toNat) false d' j = _
          unfold up2; rw [if_neg hne]
        · show up2 s.T d (f + i.toNat) (padL (T i)) d' j = _
          unfold up2; rw [if_neg hne]
      · rcases hr with ⟨a, b⟩ | ⟨a, b, c⟩
        · exact .inl ⟨a, by rw [b]; rfl⟩
        · exact .inr ⟨a, by rw [List.length_cons]; omega, c⟩
theorem Wrote.same {s s' : RSt} {d f : Nat} {T : Int → ByteArray} {X : List Int} (h : Wrote s s' d f T X) (d' : Nat) (hne : d' ≠ d) : SameD d' s s' := fun i => h.off d' i (fun e => hne e.1)
end Go.Proofs.YtmgkkoajjdgmbaaGreatDoor

/- What Mend and Append make of the sectors of a drive, plain. -/
namespace Go.Proofs.YtmgkkoajjdgmbaaGreatDoor
open Go.RowKit Sm Wr _root_.Go.Proofs.YtmgkkoajjdgmbaaGreatDoor.Nm
set_option linter.unusedVariables false
theorem rdB_fst (s : RSt) (d f i : Nat) (hd : d < s.n) (hi : f + i < s.m) (hw : s.down = false) : (rdB s d f i).1 = (if s.bad d (f + i) then 72 else 0) := rdT_fst s d f i hd hi hw
theorem rdB_snd (s : RSt) (d f i : Nat) (h : (rdB s d f i).1 = 0) : (rdB s d f i).2 = ⟨(s.T d (f + i)).toArray⟩ := by
  unfold rdB at h ⊢
  simp only at h ⊢
  have e1 : ((d : Int)).toNat = d := by omega
  have e2 : ((f : Int) + (i : Nat)).toNat = f + i := by omega
  unfold RSt.readT
  rw [if_pos h, e1, e2]
theorem rdB_bad (s : RSt) (d f i : Nat) (h : (rdB s d f i).1 ≠ 0) : (rdB s d f i).2 = ByteArray.empty := by
  unfold rdB at h ⊢
  simp only at h ⊢
  unfold RSt.readT
  rw [if_neg h]
/-- What is told of a drive that is not down: what is to be cleared, what is to be written. -/
theorem wL_is (must : List ByteArray) (gen : Nat) (rd : Nat → Nat × ByteArray) : ∀ q, (∀ i, i < q → (rd i).1 ≠ 71) → ∃ has beh, wL must gen rd (List.range q) = .go has beh ∧
    (∀ i : Int, i ∈ beh ↔ 0 ≤ i ∧ i.toNat < q ∧ must.length ≤ i.toNat ∧ ((rd i.toNat).1 ≠ 0 ∨ ownsB gen (rd i.toNat).2.data.toList = true)) ∧
    (∀ i : Int, i ∈ has ↔ 0 ≤ i ∧ i.toNat < q ∧ i.toNat < must.length ∧ (rd i.toNat).2 ≠ must.getD i.toNat ByteArray.empty) ∧ has.Pairwise (· < ·)
  | 0, _ => ⟨[], [], rfl, fun i => ⟨fun h => absurd h (by simp), fun h => absurd h.2.1 (Nat.not_lt_zero _)⟩, fun i => ⟨fun h => absurd h (by simp), fun h => absurd h.2.1 (Nat.not_lt_zero _)⟩, List.Pairwise.nil⟩
  | q + 1, h => by
    obtain ⟨has, beh, e, h1, h2, h3⟩ := wL_is must gen rd q (fun i hi => h i (by omega))
    rw [List.range_succ, wL_snoc, e]
    unfold wStep
    simp only
    rw [if_neg (h q (by omega))]
    have hx : ∀ i : Int, i = (q : Int) ∨ ¬ i = (q : Int) := fun i => Decidable.em _
    by_cases hm : must.length ≤ q
    · rw [if_pos hm]
      by_cases hw : (rd q).1 ≠ 0 ∨ ownsB gen (rd q).2.data.toList = true
      · rw [if_pos hw]
        refine ⟨has, beh ++ [(q : Int)], rfl, fun i => ?_, fun i => ?_, h3⟩
        · rw [List.mem_append, h1, List.mem_singleton]
          rcases hx i with rfl | hne
          · exact ⟨fun _ => ⟨by omega, by omega, by simpa using hm, by simpa using hw⟩, fun _ => .inr rfl⟩
          · exact ⟨fun hh => by rcases hh with ⟨a, b, c⟩ | hh; exact ⟨a, by omega, c⟩; exact absurd hh hne, fun ⟨a, b, c⟩ => .inl ⟨a, by omega, c⟩⟩
        · rw [h2]
          exact ⟨fun ⟨a, b, c⟩ => ⟨a, by omega, c⟩, fun ⟨a, b, c⟩ => ⟨a, by omega, c⟩⟩
      · rw [if_neg hw]
        refine ⟨has, beh, rfl, fun i => ?_, fun i => ?_, h3⟩
        · rw [h1]
          refine ⟨fun ⟨a, b, c⟩ => ⟨a, by omega, c⟩, fun ⟨a, b, c⟩ => ⟨a, ?_, c⟩⟩
          rcases hx i with rfl | hne
          · exact absurd (by simpa using c.2) hw
          · omega
        · rw [h2]
          exact ⟨fun ⟨a, b, c⟩ => ⟨a, by omega, c⟩, fun ⟨a, b, c⟩ => ⟨a, by omega, c⟩⟩
    · rw [if_neg hm]
      by_cases hw : (rd q).2 = must.getD q ByteArray.empty
      · rw [if_pos hw]
        refine ⟨has, beh, rfl, fun i => ?_, fun i => ?_, h3⟩
        · rw [h1]
          exact ⟨fun ⟨a, b, c⟩ => ⟨a, by omega, c⟩, fun ⟨a, b, c⟩ => ⟨a, by omega, c⟩⟩
        · rw [h2]
          refine ⟨fun ⟨a, b, c⟩ => ⟨a, by omega, c⟩, fun ⟨a, b, c⟩ => ⟨a, ?_, c⟩⟩
          rcases hx i with rfl | hne
          · exact absurd (by simpa using hw) c.2
          · omega
      · rw [if_neg hw]
        refine ⟨has ++ [(q : Int)], beh, rfl, fun i => ?_, fun i => ?_, ?_⟩
        · rw [h1]
          exact ⟨fun ⟨a, b, c⟩ => ⟨a, by omega, c⟩, fun ⟨a, b, c⟩ => ⟨a, by omega, c⟩⟩
        · rw [List.mem_append, h2, List.mem_singleton]
          rcases hx i with rfl | hne
          · exact ⟨fun _ => ⟨by omega, by omega, by simp; omega, by simpa using hw⟩, fun _ => .inr rfl⟩
          · exact ⟨fun hh => by rcases hh with ⟨a, b, c⟩ | hh; exact ⟨a, by omega, c⟩; exact absurd hh hne, fun ⟨a, b, c⟩ => .inl ⟨a, by omega, c⟩⟩
        · rw [List.pairwise_append]
          refine ⟨h3, List.pairwise_singleton _ _, fun a ha b hb => ?_⟩
          obtain ⟨a1, a2, _⟩ := (h2 a).1 ha
          rw [List.mem_singleton.1 hb]
          omega
theorem mendT_is {gen : Nat} {S R l : List ByteArray} (hR : RecOk gen R) (hl : PreK l R) {i : Int} (h0 : 0 ≤ i) : padL (mendT (tailTo gen l l.length) i) = if i.toNat < lenT l then rawT gen R i.toNat else zero64 := by
  unfold mendT
  split
  · rename_i h
    rw [hl.raw gen h]; rfl
  · rename_i h
    rw [List.getD_eq_getElem?_getD, List.getElem?_eq_none (by rw [lenT_is]; omega)]
    exact padL_empty
theorem mendT_size {gen : Nat} {l : List ByteArray} (hR : RecOk gen l) (i : Int) : (mendT (tailTo gen l l.length) i).size ≤ 64 := by
  unfold mendT
  by_cases h : i.toNat < lenT l
  · exact Nat.le_of_eq (secT_size hR h)
  · rw [List.getD_eq_getElem?_getD, List.getElem?_eq_none (by rw [lenT_is]; omega)]
    exact Nat.zero_le _
/-- What Mend makes of a drive of the tail. -/
theorem mendD_is {gen : Nat} {S R l : List ByteArray} {n f d : Nat} {s : RSt} (hR : RecOk gen R) (hS : PreK S R) (hl : l = S ∨ l = R) (hn : lenT R ≤ n) (hd : d < s.n) (hm : f + n ≤ s.m) (h : DOk gen R (lenT S) n f s d) :
    (mendD s d f gen (tailTo gen l l.length) n).2.n = s.n ∧ (mendD s d f gen (tailTo gen l l.length) n).2.m = s.m ∧ (mendD s d f gen (tailTo gen l l.length) n).2.cut = s.cut ∧
    (∀ d', d' ≠ d → SameD d' s (mendD s d f gen (tailTo gen l l.length) n).2) ∧ (∀ j, j < f ∨ f + n ≤ j → (mendD s d f gen (tailTo gen l l.length) n).2.bad d j = s.bad d j ∧ (mendD s d f gen (tailTo gen l l.length) n).2.T d j = s.T d j) ∧
    DOk gen R (lenT S) n f (mendD s d f gen (tailTo gen l l.length) n).2 d ∧ (DAll gen R (lenT S) n f s d → DAll gen R (lenT S) n f (mendD s d f gen (tailTo gen l l.length) n).2 d) ∧
    ((mendD s d f gen (tailTo gen l l.length) n).1 = 0 ∧ DOk gen l (lenT l) n f (mendD s d f gen (tailTo gen l l.length) n).2 d ∧ DAll gen l (lenT l) n f (mendD s d f gen (tailTo gen l l.length) n).2 d ∨
      (mendD s d f gen (tailTo gen l l.length) n).1 = 71 ∧ s.cut = true) := by
  have hlR : PreK l R := by rcases hl with rfl | rfl; exact hS; exact PreK.rfl' _
  have hSl : lenT S ≤ lenT l := by rcases hl with rfl | rfl; exact Nat.le_refl _; exact hS.len
  have hln := hlR.len
  have hl1 := lenT_pos l
  have hlok := hlR.ok hR
  cases hdn : s.down with
  | true =>
    have hw : wL (tailTo gen l l.length) gen (rdB s d f) (List.range n) = .down := by
      refine wL_down _ _ _ 1 ?_ n (by omega)
      show wStep _ _ _ (.go [] []) 0 = .down
      unfold wStep
      simp only
      rw [if_pos]
      show s.readE _ _ = 71
      unfold RSt.readE
      rw [hdn]; rfl
    have e : mendD s d f gen (tailTo gen l l.length) n = (71, s) := by
      unfold mendD wAll
      rw [hw]
      rfl
    rw [e]
    refine ⟨rfl, rfl, rfl, fun d' _ => SameD.refl _ _, fun _ _ => ⟨rfl, rfl⟩, h, id, .inr ⟨rfl, ?_⟩⟩
    unfold RSt.down at hdn
    simp at hdn
    exact hdn.1
  | false =>
    have hfst : ∀ i, i < n → (rdB s d f i).1 = (if s.bad d (f + i) then 72 else 0) := fun i hi => rdB_fst s d f i hd (by omega) hdn
    obtain ⟨has, beh, hw, hb, hh, hpw⟩ := wL_is (tailTo gen l l.length) gen (rdB s d f) n (fun i hi => by rw [hfst i hi]; split <;> decide)
    rw [lenT_is] at hb hh
    have e : mendD s d f gen (tailTo gen l l.length) n = wrS s d f (mendT (tailTo gen l l.length)) (beh ++ has.reverse) := by
      unfold mendD wAll
      rw [hw]
      rfl
    rw [e]
    have hin : ∀ i ∈ beh ++ has.reverse, 0 ≤ i ∧ i.toNat < n := by
      intro i hi
      rcases List.mem_append.1 hi with hi | hi
      · obtain ⟨a, b, _⟩ := (hb i).1 hi; exact ⟨a, b⟩
      · obtain ⟨a, b, _⟩ := (hh i).1 (List.mem_reverse.1 hi); exact ⟨a, b⟩
    obtain ⟨k, hk, hwr, hres⟩ := wrS_is d f (mendT (tailTo gen l l.length)) (mendT_size hlok) (beh ++ has.reverse) s hd (fun i hi => ⟨(hin i hi).1, by have := (hin i hi).2; omega⟩)
    generalize wrS s d f (mendT (tailTo gen l l.length)) (beh ++ has.reverse) = r at *
    -- what is written
    have hX : ∀ i ∈ (beh ++ has.reverse).take k, 0 ≤ i ∧ i.toNat < n := fun i hi => hin i (List.mem_of_mem_take hi)
    have hon : ∀ j : Nat, (j : Int) ∈ (beh ++ has.reverse).take k → r.2.bad d (f + j) = false ∧ r.2.T d (f + j) = (if j < lenT l then rawT gen R j else zero64) := by
      intro j hj
      have := hwr.on j hj
      rw [mendT_is (S := S) hR hlR (by omega)] at this
      simpa using this
    have hoff : ∀ j : Nat, (j : Int) ∉ (beh ++ has.reverse).take k → r.2.bad d (f + j) = s.bad d (f + j) ∧ r.2.T d (f + j) = s.T d (f + j) := by
      intro j hj
      refine hwr.off d (f + j) ?_
      rintro ⟨_, i, hi, hji⟩
      have := (hX i hi).1
      exact hj (by rw [show (j : Int) = i by omega]; exact hi)
    -- all that is wrong was written, if the head was
    have hwrong : ∀ j, j < n → (j : Int) ∉ beh ++ has.reverse → s.bad d (f + j) = false ∧ (if j < lenT l then s.T d (f + j) = rawT gen R j else s.T d (f + j) = zero64) := by
      intro j hj hni
      by_cases hjl : j < lenT l
      · rw [if_pos hjl]
        have hnh : (rdB s d f j).2 = (tailTo gen l l.length).getD j ByteArray.empty := by
          refine Decidable.byContradiction fun hc => hni ?_
          exact List.mem_append_right _ (List.mem_reverse.2 ((hh j).2 ⟨by omega, by simpa using hj, by simpa using hjl, by simpa using hc⟩))
        have hsz : ((tailTo gen l l.length).getD j ByteArray.empty).size = 64 := secT_size hlok hjl
        have h0 : (rdB s d f j).1 = 0 := by
          refine Decidable.byContradiction fun hc => ?_
          rw [← hnh, rdB_bad _ _ _ _ hc] at hsz
          exact absurd hsz (by decide)
        have hb0 : s.bad d (f + j) = false := by
          rw [hfst j hj] at h0
          cases hbb : s.bad d (f + j) with
          | false => rfl
          | true => rw [hbb] at h0; cases h0
        refine ⟨hb0, ?_⟩
        rw [rdB_snd _ _ _ _ h0] at hnh
        have := congrArg padL hnh
        rw [show padL ((tailTo gen l l.length).getD j ByteArray.empty) = rawT gen l j from rfl, ← hlR.raw gen hjl] at this
        rw [← this]
        have hlen : (s.T d (f + j)).length = 64 := by
          rw [← hnh] at hsz
          simpa [ByteArray.size] using hsz
        unfold padL
        have h64 : (⟨(s.T d (f + j)).toArray⟩ : ByteArray).size = 64 := by simpa [ByteArray.size] using hlen
        rw [h64]
        simp
      · rw [if_neg hjl]
        have hnb : ¬ ((rdB s d f j).1 ≠ 0 ∨ ownsB gen (rdB s d f j).2.data.toList = true) := fun hc =>
          hni (List.mem_append_left _ ((hb j).2 ⟨by omega, by simpa using hj, by simpa using (Nat.le_of_not_lt hjl), by simpa using hc⟩))
        have h0 : (rdB s d f j).1 = 0 := Decidable.byContradiction fun hc => hnb (.inl hc)
        have hb0 : s.bad d (f + j) = false := by
          rw [hfst j hj] at h0
          cases hbb : s.bad d (f + j) with
          | false => rfl
          | true => rw [hbb] at h0; cases h0
        refine ⟨hb0, ?_⟩
        rcases h.u j hj with a | a | ⟨a, b⟩
        · rw [hb0] at a; cases a
        · exact a
        · refine absurd (.inr ?_) hnb
          rw [rdB_snd _ _ _ _ h0, b]
          exact rawT_owned hR a
    have hhead : (0 : Int) ∈ (beh ++ has.reverse).take k → (beh ++ has.reverse).take k = beh ++ has.reverse := by
      intro h0
      have hmem := List.mem_of_mem_take h0
      have hnb : (0 : Int) ∉ beh := fun hc => by
        have := ((hb 0).1 hc).2.2.1
        simp at this
        omega
      have hhas : (0 : Int) ∈ has := by
        rcases List.mem_append.1 hmem with hc | hc
        · exact absurd hc hnb
        · exact List.mem_reverse.1 hc
      obtain ⟨x, rest, rfl⟩ : ∃ x rest, has = x :: rest := by
        cases has with
        | nil => cases hhas
        | cons x r => exact ⟨x, r, rfl⟩
      rw [List.pairwise_cons] at hpw
      have hx0 : x = 0 := by
        rcases List.mem_cons.1 hhas with hc | hc
        · exact hc.symm
        · have h1 := hpw.1 0 hc
          have h2 := ((hh x).1 (by simp)).1
          omega
      subst hx0
      have hr0 : (0 : Int) ∉ rest := fun hc => by have := hpw.1 0 hc; omega
      rw [List.reverse_cons, ← List.append_assoc] at h0 ⊢
      by_cases hkl : k ≤ (beh ++ rest.reverse).length
      · rw [List.take_append_of_le_length hkl] at h0
        rcases List.mem_append.1 (List.mem_of_mem_take h0) with hc | hc
        · exact absurd hc hnb
        · exact absurd (List.mem_reverse.1 hc) hr0
      · refine List.take_of_length_le ?_
        rw [List.length_append]
        simp only [List.length_singleton]
        omega
    have hfull : (beh ++ has.reverse).take k = beh ++ has.reverse → ∀ j, j < n → r.2.bad d (f + j) = false ∧ (if j < lenT l then r.2.T d (f + j) = rawT gen R j else r.2.T d (f + j) = zero64) := by
      intro hf j hj
      by_cases hji : (j : Int) ∈ (beh ++ has.reverse).take k
      · obtain ⟨a, b⟩ := hon j hji
        refine ⟨a, ?_⟩
        rw [b]
        split <;> rfl
      · obtain ⟨a, b⟩ := hoff j hji
        rw [hf] at hji
        rw [a, b]
        exact hwrong j hj hji
    refine ⟨hwr.n, hwr.m, hwr.cut, fun d' hne => hwr.same d' hne, fun j hj => hwr.off d j ?_, ⟨fun i hi => ?_, fun hr0 i hi => ?_⟩, fun ha => ⟨fun i hi => ?_, fun i hi => ?_⟩, ?_⟩
    · rintro ⟨_, i, hi, hji⟩
      have := (hX i hi).2
      omega
    · by_cases hji : (i : Int) ∈ (beh ++ has.reverse).take k
      · obtain ⟨a, b⟩ := hon i hji
        rw [b]
        split
        · exact .inr (.inr ⟨by omega, rfl⟩)
        · exact .inr (.inl rfl)
      · obtain ⟨a, b⟩ := hoff i hji
        rw [a, b]
        exact h.u i hi
    · by_cases h0 : (0 : Int) ∈ (beh ++ has.reverse).take k
      · obtain ⟨a, b⟩ := hfull (hhead h0) i (by omega)
        rw [if_pos (by omega)] at b
        exact .inr b
      · obtain ⟨a, b⟩ := hoff 0 h0
        have hs0 : Rgt gen R f s d 0 := ⟨by rw [← a]; exact hr0.1, by rw [← b]; exact hr0.2⟩
        by_cases hji : (i : Int) ∈ (beh ++ has.reverse).take k
        · obtain ⟨a, b⟩ := hon i hji
          rw [if_pos (by omega)] at b
          exact .inr b
        · obtain ⟨a, b⟩ := hoff i hji
          rw [a, b]
          exact h.h hs0 i hi
    · by_cases hji : (i : Int) ∈ (beh ++ has.reverse).take k
      · exact (hon i hji).1
      · rw [(hoff i hji).1]; exact ha.b i hi
    · by_cases hji : (i : Int) ∈ (beh ++ has.reverse).take k
      · obtain ⟨a, b⟩ := hon i hji
        rw [if_pos (by omega)] at b
        exact b
      · rw [(hoff i hji).2]; exact ha.r i hi
    · rcases hres with ⟨a, b⟩ | ⟨a, b, c⟩
      · refine .inl ⟨a, ?_⟩
        have hf := hfull (by rw [b]; exact List.take_length)
        have hA : DAll gen l (lenT l) n f r.2 d := ⟨fun i hi => (hf i hi).1, fun i hi => by
          have := (hf i (by omega)).2
          rw [if_pos hi, hlR.raw gen hi] at this
          exact this⟩
        refine ⟨⟨fun i hi => ?_, fun _ i hi => .inr (hA.r i hi)⟩, hA⟩
        have := (hf i hi).2
        split at this
        · rename_i hil
          exact .inr (.inr ⟨hil, hA.r i hil⟩)
        · exact .inr (.inl this)
      · exact .inr ⟨a, c⟩
/-- A drive that is mended has nothing wrong. -/
theorem wAll_none {gen : Nat} {l : List ByteArray} {n f d : Nat} {s : RSt} (hl : RecOk gen l) (hn : lenT l ≤ n) (hd : d < s.n) (hm : f + n ≤ s.m) (h : DOk gen l (lenT l) n f s d) (ha : DAll gen l (lenT l) n f s d) (hdn : s.down = false) :
    wAll (tailTo gen l l.length) gen (rdB s d f) n = (0, []) := by
  have hfst : ∀ i, i < n → (rdB s d f i).1 = 0 := fun i hi => by rw [rdB_fst s d f i hd (by omega) hdn, ha.b i hi]; rfl
  obtain ⟨has, beh, hw, hb, hh, hpw⟩ := wL_is (tailTo gen l l.length) gen (rdB s d f) n (fun i hi => by rw [hfst i hi]; decide)
  rw [lenT_is] at hb hh
  have h1 : beh = [] := by
    refine List.eq_nil_iff_forall_not_mem.2 fun i hi => ?_
    obtain ⟨a, b, c, e⟩ := (hb i).1 hi
    rcases e with e | e
    · exact e (hfst _ b)
    · rw [rdB_snd _ _ _ _ (hfst _ b)] at e
      rcases h.u i.toNat b with x | x | ⟨x, _⟩
      · rw [ha.b _ b] at x; cases x
      · rw [x] at e
        have e' : ownsB gen zero64 = true := e
        unfold ownsB at e'
        rw [lookR_zero] at e'
        cases e'
      · omega
  have h2 : has = [] := by
    refine List.eq_nil_iff_forall_not_mem.2 fun i hi => ?_
    obtain ⟨a, b, c, e⟩ := (hh i).1 hi
    refine e ?_
    rw [rdB_snd _ _ _ _ (hfst _ b), ha.r _ c, rawT_txt hl c]
    rfl
  unfold wAll
  rw [hw, h1, h2]
  rfl
theorem wAll_down {gen : Nat} {must : List ByteArray} {n f d : Nat} {s : RSt} (hn : 1 ≤ n) (hdn : s.down = true) : wAll must gen (rdB s d f) n = (71, []) := by
  have hw : wL must gen (rdB s d f) (List.range n) = .down := by
    refine wL_down _ _ _ 1 ?_ n (by omega)
    show wStep _ _ _ (.go [] []) 0 = .down
    unfold wStep
    simp only
    rw [if_pos]
    show s.readE _ _ = 71
    unfold RSt.readE
    rw [hdn]; rfl
  unfold wAll
  rw [hw]
  rfl
/-- What Append makes of a drive of the tail. -/
theorem appD_is {gen : Nat} {S : List ByteArray} {t : ByteArray} {n f d : Nat} {s : RSt} (hR : RecOk gen (S ++ [t])) (hn : lenT (S ++ [t]) ≤ n) (hd : d < s.n) (hm : f + n ≤ s.m) (h : DOk gen S (lenT S) n f s d) :
    (appD s d f (lenT S) (grpL gen (S.length + 1) t)).2.n = s.n ∧ (appD s d f (lenT S) (grpL gen (S.length + 1) t)).2.m = s.m ∧ (appD s d f (lenT S) (grpL gen (S.length + 1) t)).2.cut = s.cut ∧
    (∀ d', d' ≠ d → SameD d' s (appD s d f (lenT S) (grpL gen (S.length + 1) t)).2) ∧ (∀ j, j < f ∨ f + n ≤ j → (appD s d f (lenT S) (grpL gen (S.length + 1) t)).2.bad d j = s.bad d j ∧ (appD s d f (lenT S) (grpL gen (S.length + 1) t)).2.T d j = s.T d j) ∧
    DOk gen (S ++ [t]) (lenT S) n f (appD s d f (lenT S) (grpL gen (S.length + 1) t)).2 d ∧ (DAll gen S (lenT S) n f s d → DAll gen (S ++ [t]) (lenT S) n f (appD s d f (lenT S) (grpL gen (S.length + 1) t)).2 d) ∧
    ((appD s d f (lenT S) (grpL gen (S.length + 1) t)).1 = 0 ∧ DOk gen (S ++ [t]) (lenT (S ++ [t])) n f (appD s d f (lenT S) (grpL gen (S.length + 1) t)).2 d ∧ (DAll gen S (lenT S) n f s d → DAll gen (S ++ [t]) (lenT (S ++ [t])) n f (appD s d f (lenT S) (grpL gen (S.length + 1) t)).2 d) ∨
      (appD s d f (lenT S) (grpL gen (S.length + 1) t)).1 = 71 ∧ s.cut = true) := by
  have hp : PreK S (S ++ [t]) := .inr ⟨t, rfl⟩
  have hlen := pre_len S t
  have hk : S.length + 1 < (S ++ [t]).length + 1 := by rw [List.length_append]; simp
  have htx : txK (S ++ [t]) (S.length + 1) = t := by
    unfold txK
    rw [← List.cons_append, List.getD_eq_getElem?_getD, List.getElem?_append_right (by simp)]
    simp
  have hof : offK (S ++ [t]) (S.length + 1) = lenT S := pre_off S t _ (Nat.le_refl _)
  have htxt : ∀ i, i < partsN t.size → (grpL gen (S.length + 1) t).getD i ByteArray.empty = secT gen (S ++ [t]) (lenT S + i) := by
    intro i hi
    have := @secT_is gen (S ++ [t]) (S.length + 1) i hk (by rw [htx]; exact hi)
    rw [hof, htx] at this
    rw [this, List.getD_eq_getElem?_getD, grpL_get _ _ _ _ hi]
    rfl
  have hsz : ∀ i : Int, (grpT (lenT S) (grpL gen (S.length + 1) t) i).size ≤ 64 := by
    intro i
    unfold grpT
    by_cases hi : i.toNat - lenT S < partsN t.size
    · rw [htxt _ hi]
      exact Nat.le_of_eq (secT_size hR (by omega))
    · rw [List.getD_eq_getElem?_getD, List.getElem?_eq_none (by rw [grpL_length]; omega)]
      exact Nat.zero_le _
  have hmem : ∀ j : Nat, (j : Int) ∈ fromL (lenT S) (grpL gen (S.length + 1) t).length ↔ lenT S ≤ j ∧ j < lenT (S ++ [t]) := by
    intro j
    unfold fromL
    rw [grpL_length, List.mem_map]
    constructor
    · rintro ⟨i, hi, e⟩
      have := List.mem_range.1 hi
      omega
    · intro hj
      exact ⟨j - lenT S, List.mem_range.2 (by omega), by omega⟩
  have hnat : ∀ i ∈ fromL (lenT S) (grpL gen (S.length + 1) t).length, 0 ≤ i := by
    intro i hi
    unfold fromL at hi
    obtain ⟨j, _, rfl⟩ := List.mem_map.1 hi
    omega
  have hin : ∀ i ∈ fromL (lenT S) (grpL gen (S.length + 1) t).length, 0 ≤ i ∧ i.toNat < n := by
    intro i hi
    have h0 := hnat i hi
    have := (hmem i.toNat).1 (by rw [show (i.toNat : Int) = i by omega]; exact hi)
    exact ⟨h0, by omega⟩
  obtain ⟨k, hkk, hwr, hres⟩ := wrS_is d f (grpT (lenT S) (grpL gen (S.length + 1) t)) hsz (fromL (lenT S) (grpL gen (S.length + 1) t).length) s hd (fun i hi => ⟨(hin i hi).1, by have := (hin i hi).2; omega⟩)
  unfold appD
  generalize wrS s d f (grpT (lenT S) (grpL gen (S.length + 1) t)) (fromL (lenT S) (grpL gen (S.length + 1) t).length) = r at *
  generalize fromL (lenT S) (grpL gen (S.length + 1) t).length = L at *
  have hX : ∀ i ∈ L.take k, 0 ≤ i ∧ i.toNat < n := fun i hi => hin i (List.mem_of_mem_take hi)
  have hon : ∀ j : Nat, (j : Int) ∈ L.take k → lenT S ≤ j ∧ j < lenT (S ++ [t]) ∧ r.2.bad d (f + j) = false ∧ r.2.T d (f + j) = rawT gen (S ++ [t]) j := by
    intro j hj
    obtain ⟨h1, h2⟩ := (hmem j).1 (List.mem_of_mem_take hj)
    obtain ⟨h3, h4⟩ := hwr.on j hj
    refine ⟨h1, h2, by simpa using h3, ?_⟩
    have e : grpT (lenT S) (grpL gen (S.length + 1) t) (j : Int) = secT gen (S ++ [t]) j := by
      unfold grpT
      rw [show ((j : Int)).toNat - lenT S = j - lenT S by omega, htxt _ (by omega), show lenT S + (j - lenT S) = j by omega]
    rw [e] at h4
    have h5 : r.2.T d (f + j) = padL (secT gen (S ++ [t]) j) := by simpa using h4
    exact h5
  have hoff : ∀ j : Nat, (j : Int) ∉ L.take k → r.2.bad d (f + j) = s.bad d (f + j) ∧ r.2.T d (f + j) = s.T d (f + j) := by
    intro j hj
    refine hwr.off d (f + j) ?_
    rintro ⟨_, i, hi, hji⟩
    have := (hX i hi).1
    exact hj (by rw [show (j : Int) = i by omega]; exact hi)
  have h' := h.up hp (Nat.le_refl _)
  have hlow : ∀ j, j < lenT S → (j : Int) ∉ L.take k := fun j hj hc => by have := (hon j hc).1; omega
  have hAll : DAll gen S (lenT S) n f s d → DAll gen (S ++ [t]) (lenT S) n f r.2 d := fun ha => by
    have ha' := ha.up hp (Nat.le_refl _)
    refine ⟨fun i hi => ?_, fun i hi => by rw [(hoff i (hlow i hi)).2]; exact ha'.r i hi⟩
    by_cases hji : (i : Int) ∈ L.take k
    · exact (hon i hji).2.2.1
    · rw [(hoff i hji).1]; exact ha'.b i hi
  have hU : ∀ i, i < n → r.2.bad d (f + i) = true ∨ r.2.T d (f + i) = zero64 ∨ (i < lenT (S ++ [t]) ∧ r.2.T d (f + i) = rawT gen (S ++ [t]) i) := by
    intro i hi
    by_cases hji : (i : Int) ∈ L.take k
    · obtain ⟨_, a, _, b⟩ := hon i hji
      exact .inr (.inr ⟨a, b⟩)
    · obtain ⟨a, b⟩ := hoff i hji
      rw [a, b]
      exact h'.u i hi
  have hH : Rgt gen (S ++ [t]) f r.2 d 0 → ∀ i, i < lenT S → r.2.bad d (f + i) = true ∨ r.2.T d (f + i) = rawT gen (S ++ [t]) i := by
    intro hr0 i hi
    obtain ⟨a, b⟩ := hoff 0 (hlow 0 (by omega))
    obtain ⟨a', b'⟩ := hoff i (hlow i hi)
    rw [a', b']
    exact h'.h ⟨by rw [← a]; exact hr0.1, by rw [← b]; exact hr0.2⟩ i hi
  refine ⟨hwr.n, hwr.m, hwr.cut, fun d' hne => hwr.same d' hne, fun j hj => hwr.off d j ?_, ⟨hU, hH⟩, hAll, ?_⟩
  · rintro ⟨_, i, hi, hji⟩
    have := (hX i hi).2
    omega
  · rcases hres with ⟨a, b⟩ | ⟨a, b, c⟩
    · have hnew : ∀ j, lenT S ≤ j → j < lenT (S ++ [t]) → r.2.T d (f + j) = rawT gen (S ++ [t]) j := fun j h1 h2 => by
        refine (hon j ?_).2.2.2
        rw [b, List.take_length]
        exact (hmem j).2 ⟨h1, h2⟩
      refine .inl ⟨a, ⟨hU, fun hr0 i hi => ?_⟩, fun ha => ⟨(hAll ha).b, fun i hi => ?_⟩⟩
      · by_cases hil : i < lenT S
        · exact hH hr0 i hil
        · exact .inr (hnew i (by omega) hi)
      · by_cases hil : i < lenT S
        · exact (hAll ha).r i hil
        · exact hnew i (by omega) hi
    · exact .inr ⟨a, c⟩
end Go.Proofs.YtmgkkoajjdgmbaaGreatDoor

/- What all the drives of a tail have, whatever becomes of them, plain: what Load, Mend, Append tell and leave. -/
namespace Go.Proofs.YtmgkkoajjdgmbaaGreatDoor
open Go.RowKit Sm Wr _root_.Go.Proofs.YtmgkkoajjdgmbaaGreatDoor.Nm
set_option linter.unusedVariables false
theorem drvL_nodup {g : Geo} {gen : Nat} (h : gOk g gen) : (drvL g gen).Nodup := by
  obtain ⟨g1, g2, g3, g4, g5, g6, g7, g8⟩ := geo_n h
  unfold drvL
  refine List.pairwise_map.2 ((List.nodup_range (n := g.p.toNat + 1)).imp_of_mem ?_)
  intro i j hi hj hne he
  have hi := List.mem_range.1 hi
  have hj := List.mem_range.1 hj
  unfold drvN at he
  have he' : (gen + i) % g.n.toNat = (gen + j) % g.n.toNat := by omega
  rcases Nat.lt_trichotomy i j with hl | hl | hl
  · have := Nat.sub_mod_eq_zero_of_mod_eq he'.symm
    rw [show gen + j - (gen + i) = j - i by omega, Nat.mod_eq_of_lt (by omega)] at this
    omega
  · exact hne hl
  · have := Nat.sub_mod_eq_zero_of_mod_eq he'
    rw [show gen + i - (gen + j) = i - j by omega, Nat.mod_eq_of_lt (by omega)] at this
    omega
/-- What is done drive by drive, each touching but its own sectors of the tail. -/
theorem stepAll_all {act : Int → RSt → Nat × RSt} {A B C : Nat → RSt → Prop} {n m f N : Nat} {ct : Bool}
    (hact : ∀ (d : Int) (s : RSt), 0 ≤ d → d < n → s.n = n → s.m = m → s.cut = ct → A d.toNat s → (act d s).2.n = n ∧ (act d s).2.m = m ∧ (act d s).2.cut = ct ∧ (∀ d', d' ≠ d.toNat → SameD d' s (act d s).2) ∧
      (∀ j, j < f ∨ f + N ≤ j → (act d s).2.bad d.toNat j = s.bad d.toNat j ∧ (act d s).2.T d.toNat j = s.T d.toNat j) ∧ B d.toNat (act d s).2 ∧ ((act d s).1 = 0 ∧ C d.toNat (act d s).2 ∨ (act d s).1 = 71 ∧ ct = true))
    (sA : ∀ d s s', SameD d s s' → A d s → A d s') (sB : ∀ d s s', SameD d s s' → B d s → B d s') (sC : ∀ d s s', SameD d s s' → C d s → C d s') (AB : ∀ d s, A d s → B d s) :
    ∀ (l : List Int) (s : RSt), l.Nodup → (∀ d ∈ l, 0 ≤ d ∧ d < (n : Int) ∧ A d.toNat s) → s.n = n → s.m = m → s.cut = ct →
      (stepAll act l s).2.n = n ∧ (stepAll act l s).2.m = m ∧ (stepAll act l s).2.cut = ct ∧ (∀ d', (∀ d ∈ l, d.toNat ≠ d') → SameD d' s (stepAll act l s).2) ∧
      (∀ d' j, j < f ∨ f + N ≤ j → (stepAll act l s).2.bad d' j = s.bad d' j ∧ (stepAll act l s).2.T d' j = s.T d' j) ∧ (∀ d ∈ l, B d.toNat (stepAll act l s).2) ∧
      ((stepAll act l s).1 = 0 ∧ (∀ d ∈ l, C d.toNat (stepAll act l s).2) ∨ (stepAll act l s).1 = 71 ∧ ct = true)
  | [], s, _, _, h1, h2, h3 => ⟨h1, h2, h3, fun d' _ => SameD.refl _ _, fun _ _ _ => ⟨rfl, rfl⟩, fun d hd => absurd hd (by simp), .inl ⟨rfl, fun d hd => absurd hd (by simp)⟩⟩
  | d :: r, s, hnd, hl, h1, h2, h3 => by
    obtain ⟨hd0, hdn, hA⟩ := hl d (by simp)
    obtain ⟨a1, a2, a3, a4, a5, a6, a7⟩ := hact d s hd0 hdn h1 h2 h3 hA
    rw [List.nodup_cons] at hnd
    have hne : ∀ d2 ∈ r, d2.toNat ≠ d.toNat := fun d2 hd2 e => by
      have := (hl d2 (by simp [hd2])).1
      exact hnd.1 (by rw [show d = d2 by omega]; exact hd2)
    have hreg : ∀ d' j, j < f ∨ f + N ≤ j → (act d s).2.bad d' j = s.bad d' j ∧ (act d s).2.T d' j = s.T d' j := fun d' j hj => by
      by_cases e : d' = d.toNat
      · rw [e]; exact a5 j hj
      · exact a4 d' e j
    by_cases he : (act d s).1 = 0
    · have e : stepAll act (d :: r) s = stepAll act r (act d s).2 := by
        show (if (act d s).1 ≠ 0 then act d s else stepAll act r (act d s).2) = _
        rw [if_neg (by rw [he]; decide)]
      rw [e]
      obtain ⟨b1, b2, b3, b4, b5, b6, b7⟩ := stepAll_all hact sA sB sC AB r (act d s).2 hnd.2 (fun d2 hd2 => ⟨(hl d2 (by simp [hd2])).1, (hl d2 (by simp [hd2])).2.1, sA _ _ _ (a4 d2.toNat (hne d2 hd2)) (hl d2 (by simp [hd2])).2.2⟩) a1 a2 a3
      have hsame := b4 d.toNat hne
      refine ⟨b1, b2, b3, fun d' hd' => (a4 d' (fun e => hd' d (by simp) e.symm)).trans (b4 d' (fun d2 hd2 => hd' d2 (by simp [hd2]))), fun d' j hj => ⟨(b5 d' j hj).1.trans (hreg d' j hj).1, (b5 d' j hj).2.trans (hreg d' j hj).2⟩, fun d2 hd2 => ?_, ?_⟩
      · rcases List.mem_cons.1 hd2 with rfl | hd2
        · exact sB _ _ _ hsame a6
        · exact b6 d2 hd2
      · rcases b7 with ⟨c1, c2⟩ | hc
        · refine .inl ⟨c1, fun d2 hd2 => ?_⟩
          rcases List.mem_cons.1 hd2 with rfl | hd2
          · rcases a7 with ⟨_, x⟩ | ⟨x, _⟩
            · exact sC _ _ _ hsame x
            · rw [he] at x; cases x
          · exact c2 d2 hd2
        · exact .inr hc
    · have e : stepAll act (d :: r) s = act d s := by
        show (if (act d s).1 ≠ 0 then act d s else stepAll act r (act d s).2) = _
        rw [if_pos he]
      rw [e]
      refine ⟨a1, a2, a3, fun d' hd' => a4 d' (fun e => hd' d (by simp) e.symm), hreg, fun d2 hd2 => ?_, ?_⟩
      · rcases List.mem_cons.1 hd2 with rfl | hd2
        · exact a6
        · exact AB _ _ (sA _ _ _ (a4 d2.toNat (hne d2 hd2)) (hl d2 (by simp [hd2])).2.2)
      · rcases a7 with ⟨x, _⟩ | hx
        · exact absurd x he
        · exact .inr hx
/-- The first sector of the tail, and how many. -/
def fN (g : Geo) (gen : Nat) : Nat := (fstS g.t gen).toNat
theorem fN_is {g : Geo} {gen : Nat} (h : gOk g gen) : ((fN g gen : Nat) : Int) = fstS g.t gen ∧ fN g gen = 2 + gen % 2 * g.t.toNat ∧ (g.m = (g.m.toNat : Int)) ∧ fN g gen + g.t.toNat ≤ g.m.toNat := by
  obtain ⟨g1, g2, g3, g4, g5, g6, g7, g8⟩ := geo_n h
  have e : fstS g.t gen = ((2 + gen % 2 * g.t.toNat : Nat) : Int) := by
    unfold fstS
    have : g.t = (g.t.toNat : Int) := by omega
    rw [this]
    have h2 := Nat.mod_lt gen (show 0 < 2 by decide)
    rcases Nat.lt_or_ge (gen % 2) 1 with hx | hx
    · rw [show gen % 2 = 0 by omega]; simp
    · rw [show gen % 2 = 1 by omega]; simp
  have e2 : fN g gen = 2 + gen % 2 * g.t.toNat := by unfold fN; rw [e]; rfl
  have h2 : gen % 2 * g.t.toNat ≤ g.t.toNat := by
    have h2 := Nat.mod_lt gen (show 0 < 2 by decide)
    rcases Nat.lt_or_ge (gen % 2) 1 with hx | hx
    · rw [show gen % 2 = 0 by omega]; omega
    · rw [show gen % 2 = 1 by omega]; omega
  exact ⟨by rw [e2, e], e2, by omega, by omega⟩
/-- The tail of a generation stands on the rack: its records are sure (S), or one more may be (R); hit: drives that something was lost of. -/
structure TInv (g : Geo) (gen : Nat) (S R : List ByteArray) (hit : Nat → Bool) (s : RSt) : Prop where
  gk : gOk g gen
  fit : fitOk g s
  rk : RecOk gen R
  pre : PreK S R
  len : lenT R ≤ g.t.toNat
  ok : ∀ d ∈ drvL g gen, DOk gen R (lenT S) g.t.toNat (fN g gen) s d.toNat
  al : ∀ d ∈ drvL g gen, hit d.toNat = false → DAll gen R (lenT S) g.t.toNat (fN g gen) s d.toNat
section
variable {g : Geo} {gen : Nat} {S R : List ByteArray} {hit : Nat → Bool} {s : RSt}
theorem TInv.lenS (h : TInv g gen S R hit s) : lenT S ≤ g.t.toNat := Nat.le_trans h.pre.len h.len
theorem TInv.dn (h : TInv g gen S R hit s) {d : Int} (hd : d ∈ drvL g gen) : 0 ≤ d ∧ d < (s.n : Int) ∧ d.toNat < s.n ∧ fN g gen + g.t.toNat ≤ s.m ∧ d = (d.toNat : Int) := by
  obtain ⟨a, b⟩ := drvL_in h.gk hd
  obtain ⟨f1, f2⟩ := h.fit
  obtain ⟨_, _, e3, e4⟩ := fN_is h.gk
  refine ⟨a, by omega, by omega, by omega, by omega⟩
theorem TInv.same {s' : RSt} (h : TInv g gen S R hit s) (hn : s'.n = s.n) (hm : s'.m = s.m) (k : ∀ d ∈ drvL g gen, SameR (fN g gen) g.t.toNat d.toNat s s') : TInv g gen S R hit s' :=
  ⟨h.gk, ⟨by rw [hn]; exact h.fit.1, by rw [hm]; exact h.fit.2⟩, h.rk, h.pre, h.len, fun d hd => (h.ok d hd).same (k d hd) h.lenS, fun d hd hh => (h.al d hd hh).same (k d hd) h.lenS⟩
theorem TInv.hits {hit' : Nat → Bool} (h : TInv g gen S R hit s) (k : ∀ d, hit' d = false → hit d = false) : TInv g gen S R hit' s :=
  ⟨h.gk, h.fit, h.rk, h.pre, h.len, h.ok, fun d hd hh => h.al d hd (k _ hh)⟩
theorem TInv.cuts (h : TInv g gen S R hit s) (k : Int) : TInv g gen S R hit (s.cutS k) := h.same (by unfold RSt.cutS RSt.lim; split <;> rfl) (by unfold RSt.cutS RSt.lim; split <;> rfl) fun d _ i _ => by unfold RSt.cutS RSt.lim; split <;> exact ⟨rfl, rfl⟩
theorem TInv.lift (h : TInv g gen S R hit s) : TInv g gen S R hit s.liftS := h.same rfl rfl fun d _ i _ => ⟨rfl, rfl⟩
theorem rdT_eq (h : gOk g gen) (s : RSt) {d : Int} (hd : 0 ≤ d) (i : Nat) : rdT s d (fstS g.t gen) i = rdT s ((d.toNat : Nat) : Int) ((fN g gen : Nat) : Int) i := by
  rw [(fN_is h).1, show ((d.toNat : Nat) : Int) = d by omega]
theorem rdT_fun (h : gOk g gen) (s : RSt) {d : Int} (hd : 0 ≤ d) : rdT s d (fstS g.t gen) = rdT s ((d.toNat : Nat) : Int) ((fN g gen : Nat) : Int) := funext fun i => rdT_eq h s hd i
theorem TInv.rdU (h : TInv g gen S R hit s) {d : Int} (hd : d ∈ drvL g gen) : RdU gen R (rdT s d (fstS g.t gen)) g.t.toNat := by
  intro q hq h0
  obtain ⟨d1, d2, d3, d4, d5⟩ := h.dn hd
  rw [rdT_fun h.gk s d1] at h0 ⊢
  have hT := rdT_snd s d.toNat (fN g gen) q h0
  rw [hT]
  have hb : s.bad d.toNat (fN g gen + q) = false := by
    cases hdn : s.down with
    | true =>
      have : (rdT s ((d.toNat : Nat) : Int) ((fN g gen : Nat) : Int) q).1 = 71 := by
        show s.readE _ _ = 71
        unfold RSt.readE
        rw [hdn]; rfl
      rw [this] at h0; cases h0
    | false =>
      rw [rdT_fst s d.toNat (fN g gen) q d3 (by omega) hdn] at h0
      cases hb : s.bad d.toNat (fN g gen + q) with
      | false => rfl
      | true => rw [hb] at h0; cases h0
  rcases (h.ok d hd).u q hq with x | x | ⟨x, y⟩
  · rw [hb] at x; cases x
  · exact .inl x
  · obtain ⟨k, i, hk, hi, rfl⟩ := off_find R _ q x
    exact .inr ⟨k, i, hk, hi, rfl, by rw [y]; exact secT_pad h.rk hk hi⟩
theorem TInv.fine (h : TInv g gen S R hit s) {d : Int} (hd : d ∈ drvL g gen) : Fine gen (rdT s d (fstS g.t gen)) g.t.toNat := (h.rdU hd).fine h.rk
theorem TInv.sect (h : TInv g gen S R hit s) : SectAll s g gen := by
  intro d hd i hi h0
  have e : (rdB s d (fstS g.t gen) i).2.data.toList = (rdT s d (fstS g.t gen) i).2 := rfl
  rw [e]
  rcases h.rdU hd i hi h0 with hz | ⟨k', i', hk', hi', _, hr⟩
  · exact .inl hz
  · exact .inr ⟨_, h.rk.ok hk' hi', hr⟩
/-- The longest of what the drives tell. -/
noncomputable def mostL (s : RSt) (g : Geo) (gen : Nat) : List ByteArray :=
  (drvL g gen).foldl (fun m d => if m.length < (gAll gen (rdT s d (fstS g.t gen)) g.t.toNat).2.length then (gAll gen (rdT s d (fstS g.t gen)) g.t.toNat).2 else m) []
theorem TInv.not71 (h : TInv g gen S R hit s) (hdn : s.down = false) {d : Int} (hd : d ∈ drvL g gen) : ∀ q, q < g.t.toNat → (rdT s d (fstS g.t gen) q).1 ≠ 71 := by
  intro q hq
  obtain ⟨d1, d2, d3, d4, d5⟩ := h.dn hd
  rw [rdT_fun h.gk s d1, rdT_fst s d.toNat (fN g gen) q d3 (by omega) hdn]
  split <;> decide
theorem TInv.rgt (h : TInv g gen S R hit s) (hdn : s.down = false) {d : Int} (hd : d ∈ drvL g gen) {q : Nat} (hq : q < lenT R) (hb : s.bad d.toNat (fN g gen + q) = false) (hT : s.T d.toNat (fN g gen + q) = rawT gen R q) : RdR gen R (rdT s d (fstS g.t gen)) q := by
  obtain ⟨d1, d2, d3, d4, d5⟩ := h.dn hd
  have hqt := h.len
  have h0 : (rdT s ((d.toNat : Nat) : Int) ((fN g gen : Nat) : Int) q).1 = 0 := by rw [rdT_fst s d.toNat (fN g gen) q d3 (by omega) hdn, hb]; rfl
  rw [rdT_fun h.gk s d1]
  obtain ⟨k, i, hk, hi, rfl⟩ := off_find R _ q hq
  exact ⟨h0, k, i, hk, hi, rfl, by rw [rdT_snd s d.toNat (fN g gen) _ h0, hT]; exact secT_pad h.rk hk hi⟩
theorem preK_take (h : PreK S R) : S.length + 1 ≤ R.length + 1 ∧ R.length ≤ S.length + 1 ∧ (ByteArray.empty :: R).take (S.length + 1) = ByteArray.empty :: S ∧ offK R (S.length + 1) = lenT S := by
  rcases h with rfl | ⟨t, rfl⟩
  · exact ⟨Nat.le_refl _, Nat.le_succ _, List.take_of_length_le (by simp), rfl⟩
  · refine ⟨by simp, by simp, ?_, pre_off S t _ (Nat.le_refl _)⟩
    rw [List.take_succ_cons, List.take_left']
    rfl
/-- What a drive of the tail tells. -/
theorem TInv.tells (h : TInv g gen S R hit s) (hdn : s.down = false) {d : Int} (hd : d ∈ drvL g gen) :
    (gAll gen (rdT s d (fstS g.t gen)) g.t.toNat).1 = 0 ∧ ((gAll gen (rdT s d (fstS g.t gen)) g.t.toNat).2 = [] ∨ (gAll gen (rdT s d (fstS g.t gen)) g.t.toNat).2 = ByteArray.empty :: S ∨ (gAll gen (rdT s d (fstS g.t gen)) g.t.toNat).2 = ByteArray.empty :: R) ∧
      (hit d.toNat = false → (gAll gen (rdT s d (fstS g.t gen)) g.t.toNat).2 ≠ []) := by
  obtain ⟨p1, p2, p3, p4⟩ := preK_take h.pre
  obtain ⟨d1, d2, d3, d4, d5⟩ := h.dn hd
  have hlen := h.len
  have hbt : ∀ j, j < g.t.toNat → (rdT s d (fstS g.t gen) j).1 = 0 → s.bad d.toNat (fN g gen + j) = false ∧ (rdT s d (fstS g.t gen) j).2 = s.T d.toNat (fN g gen + j) := by
    intro j hj h0
    rw [rdT_fun h.gk s d1] at h0 ⊢
    refine ⟨?_, rdT_snd s d.toNat (fN g gen) j h0⟩
    rw [rdT_fst s d.toNat (fN g gen) j d3 (by omega) hdn] at h0
    cases hb : s.bad d.toNat (fN g gen + j) with
    | false => rfl
    | true => rw [hb] at h0; cases h0
  have hr := gAll_is (m := S.length + 1) h.rk (h.rdU hd) (h.not71 hdn hd) h.len (by omega) p1 p2 (by
    rw [p4]
    rintro hr0 j hj h0
    have hjR := Nat.lt_of_lt_of_le hj h.pre.len
    obtain ⟨b1, b2⟩ := hbt j (by omega) h0
    obtain ⟨c1, c2⟩ := hbt 0 (by omega) hr0.1
    have hh : Rgt gen R (fN g gen) s d.toNat 0 := by
      refine ⟨c1, ?_⟩
      obtain ⟨_, k, i, hk, hi, he, hv⟩ := hr0
      rw [← c2, hv]
      show _ = padL (secT gen R 0)
      rw [he, secT_pad h.rk hk hi]
    rcases (h.ok d hd).h hh j hj with x | x
    · rw [b1] at x; cases x
    · exact h.rgt hdn hd hjR b1 x)
  rw [p3, p4] at hr
  refine ⟨hr.1, hr.2.1, fun hh => hr.2.2 ?_ ?_⟩
  · intro j hj
    rw [rdT_fun h.gk s d1, rdT_fst s d.toNat (fN g gen) j d3 (by omega) hdn, (h.al d hd hh).b j hj]
    rfl
  · intro j hj
    have hjR := Nat.lt_of_lt_of_le hj h.pre.len
    exact h.rgt hdn hd hjR ((h.al d hd hh).b j (by omega)) ((h.al d hd hh).r j hj)
theorem most_fold (F : Int → List ByteArray) (a b : List ByteArray) : ∀ (l : List Int) (m : List ByteArray), (∀ d ∈ l, F d = [] ∨ F d = a ∨ F d = b) → (m = [] ∨ m = a ∨ m = b) →
    (l.foldl (fun m d => if m.length < (F d).length then F d else m) m = [] ∨ l.foldl (fun m d => if m.length < (F d).length then F d else m) m = a ∨ l.foldl (fun m d => if m.length < (F d).length then F d else m) m = b) ∧
      ((m ≠ [] ∨ ∃ d ∈ l, F d ≠ []) → l.foldl (fun m d => if m.length < (F d).length then F d else m) m ≠ [])
  | [], m, _, hm => ⟨hm, fun h => by
    rcases h with h | ⟨d, hd, _⟩
    · exact h
    · cases hd⟩
  | d :: l, m, hl, hm => by
    rw [List.foldl_cons]
    have ih := most_fold F a b l (if m.length < (F d).length then F d else m) (fun x hx => hl x (by simp [hx])) (by
      split
      · exact hl d (by simp)
      · exact hm)
    refine ⟨ih.1, fun h => ih.2 ?_⟩
    rcases h with h | ⟨x, hx, hne⟩
    · refine .inl ?_
      split
      · rename_i hlt
        intro e
        rw [e] at hlt
        exact absurd hlt (Nat.not_lt_zero _)
      · exact h
    · rcases List.mem_cons.1 hx with rfl | hx
      · refine .inl ?_
        split
        · exact hne
        · rename_i hlt
          intro e
          rw [e] at hlt
          exact hlt (Nat.pos_of_ne_zero fun h0 => hne (List.eq_nil_of_length_eq_zero h0))
      · exact .inr ⟨x, hx, hne⟩
theorem TInv.most (h : TInv g gen S R hit s) (hdn : s.down = false) : (mostL s g gen = [] ∨ mostL s g gen = ByteArray.empty :: S ∨ mostL s g gen = ByteArray.empty :: R) ∧ ((∃ d ∈ drvL g gen, hit d.toNat = false) → mostL s g gen ≠ []) := by
  have hm := most_fold (fun d => (gAll gen (rdT s d (fstS g.t gen)) g.t.toNat).2) (ByteArray.empty :: S) (ByteArray.empty :: R) (drvL g gen) [] (fun d hd => (h.tells hdn hd).2.1) (.inl rfl)
  refine ⟨hm.1, fun ⟨d, hd, hh⟩ => hm.2 (.inr ⟨d, hd, (h.tells hdn hd).2.2 hh⟩)⟩
/-- Mend. -/
theorem TInv.mend {l : List ByteArray} (h : TInv g gen S R hit s) (hl : l = S ∨ l = R) :
    TInv g gen S R hit (mendAll s g gen (tailTo gen l l.length)).2 ∧ (mendAll s g gen (tailTo gen l l.length)).2.cut = s.cut ∧
      (∀ d' j, (∀ d ∈ drvL g gen, d.toNat ≠ d') ∨ j < fN g gen ∨ fN g gen + g.t.toNat ≤ j → (mendAll s g gen (tailTo gen l l.length)).2.bad d' j = s.bad d' j ∧ (mendAll s g gen (tailTo gen l l.length)).2.T d' j = s.T d' j) ∧
      ((mendAll s g gen (tailTo gen l l.length)).1 = 0 ∧ TInv g gen l l (fun _ => false) (mendAll s g gen (tailTo gen l l.length)).2 ∨ (mendAll s g gen (tailTo gen l l.length)).1 = 71 ∧ s.cut = true) := by
  have hlR : PreK l R := by rcases hl with rfl | rfl; exact h.pre; exact PreK.rfl' _
  have hfn := (fN_is h.gk).1
  have r := stepAll_all (act := fun d s => mendD s d (fstS g.t gen) gen (tailTo gen l l.length) g.t.toNat) (n := s.n) (m := s.m) (f := fN g gen) (N := g.t.toNat) (ct := s.cut)
    (A := fun d s => DOk gen R (lenT S) g.t.toNat (fN g gen) s d ∧ (hit d = false → DAll gen R (lenT S) g.t.toNat (fN g gen) s d))
    (B := fun d s => DOk gen R (lenT S) g.t.toNat (fN g gen) s d ∧ (hit d = false → DAll gen R (lenT S) g.t.toNat (fN g gen) s d))
    (C := fun d s => DOk gen l (lenT l) g.t.toNat (fN g gen) s d ∧ DAll gen l (lenT l) g.t.toNat (fN g gen) s d)
    (by
      intro d x d0 dn xn xm xc hA
      have hq := mendD_is (n := g.t.toNat) (f := fN g gen) (d := d.toNat) (s := x) h.rk h.pre hl h.len (by omega) (by
        obtain ⟨_, _, e3, e4⟩ := fN_is h.gk
        have := h.fit.2
        omega) hA.1
      rw [hfn, show ((d.toNat : Nat) : Int) = d by omega] at hq
      obtain ⟨q1, q2, q3, q4, q5, q6, q7, q8⟩ := hq
      refine ⟨q1.trans xn, q2.trans xm, q3.trans xc, q4, q5, ⟨q6, fun hh => q7 (hA.2 hh)⟩, ?_⟩
      rcases q8 with ⟨a, b, c⟩ | ⟨a, b⟩
      · exact .inl ⟨a, b, c⟩
      · exact .inr ⟨a, by rw [← xc]; exact b⟩)
    (fun d s s' k hA => ⟨hA.1.same (k.reg _ _) h.lenS, fun hh => (hA.2 hh).same (k.reg _ _) h.lenS⟩)
    (fun d s s' k hA => ⟨hA.1.same (k.reg _ _) h.lenS, fun hh => (hA.2 hh).same (k.reg _ _) h.lenS⟩)
    (fun d s s' k hA => ⟨hA.1.same (k.reg _ _) (Nat.le_trans hlR.len h.len), hA.2.same (k.reg _ _) (Nat.le_trans hlR.len h.len)⟩)
    (fun d s hA => hA) (drvL g gen) s (drvL_nodup h.gk) (fun d hd => ⟨(h.dn hd).1, (h.dn hd).2.1, h.ok d hd, h.al d hd⟩) rfl rfl rfl
  unfold mendAll
  obtain ⟨r1, r2, r3, r4, r5, r6, r7⟩ := r
  refine ⟨⟨h.gk, ⟨by rw [r1]; exact h.fit.1, by rw [r2]; exact h.fit.2⟩, h.rk, h.pre, h.len, fun d hd => (r6 d hd).1, fun d hd => (r6 d hd).2⟩, r3, fun d' j hj => ?_, ?_⟩
  · rcases hj with hj | hj
    · exact r4 d' hj j
    · exact r5 d' j hj
  · rcases r7 with ⟨a, b⟩ | ⟨a, b⟩
    · exact .inl ⟨a, h.gk, ⟨by rw [r1]; exact h.fit.1, by rw [r2]; exact h.fit.2⟩, hlR.ok h.rk, PreK.rfl' _, Nat.le_trans hlR.len h.len, fun d hd => (b d hd).1, fun d hd _ => (b d hd).2⟩
    · exact .inr ⟨a, b⟩
/-- Append. -/
theorem TInv.app {t : ByteArray} (h : TInv g gen S S hit s) (hR : RecOk gen (S ++ [t])) (hlen : lenT (S ++ [t]) ≤ g.t.toNat) :
    TInv g gen S (S ++ [t]) hit (appAll s g gen (tailTo gen S S.length) (S.length + 1) t).2 ∧ (appAll s g gen (tailTo gen S S.length) (S.length + 1) t).2.cut = s.cut ∧
      (∀ d' j, (∀ d ∈ drvL g gen, d.toNat ≠ d') ∨ j < fN g gen ∨ fN g gen + g.t.toNat ≤ j → (appAll s g gen (tailTo gen S S.length) (S.length + 1) t).2.bad d' j = s.bad d' j ∧ (appAll s g gen (tailTo gen S S.length) (S.length + 1) t).2.T d' j = s.T d' j) ∧
      ((appAll s g gen (tailTo gen S S.length) (S.length + 1) t).1 = 0 ∧ TInv g gen (S ++ [t]) (S ++ [t]) hit (appAll s g gen (tailTo gen S S.length) (S.length + 1) t).2 ∨ (appAll s g gen (tailTo gen S S.length) (S.length + 1) t).1 = 71 ∧ s.cut = true) := by
  have hp : PreK S (S ++ [t]) := .inr ⟨t, rfl⟩
  have hfn := (fN_is h.gk).1
  have r := stepAll_all (act := fun d s => appD s d (fstS g.t gen) (tailTo gen S S.length).length (grpL gen (S.length + 1) t)) (n := s.n) (m := s.m) (f := fN g gen) (N := g.t.toNat) (ct := s.cut)
    (A := fun d s => DOk gen S (lenT S) g.t.toNat (fN g gen) s d ∧ (hit d = false → DAll gen S (lenT S) g.t.toNat (fN g gen) s d))
    (B := fun d s => DOk gen (S ++ [t]) (lenT S) g.t.toNat (fN g gen) s d ∧ (hit d = false → DAll gen (S ++ [t]) (lenT S) g.t.toNat (fN g gen) s d))
    (C := fun d s => DOk gen (S ++ [t]) (lenT (S ++ [t])) g.t.toNat (fN g gen) s d ∧ (hit d = false → DAll gen (S ++ [t]) (lenT (S ++ [t])) g.t.toNat (fN g gen) s d))
    (by
      intro d x d0 dn xn xm xc hA
      have hq := appD_is (n := g.t.toNat) (f := fN g gen) (d := d.toNat) (s := x) hR hlen (by omega) (by
        obtain ⟨_, _, e3, e4⟩ := fN_is h.gk
        have := h.fit.2
        omega) hA.1
      rw [hfn, show ((d.toNat : Nat) : Int) = d by omega] at hq
      rw [lenT_is]
      obtain ⟨q1, q2, q3, q4, q5, q6, q7, q8⟩ := hq
      refine ⟨q1.trans xn, q2.trans xm, q3.trans xc, q4, q5, ⟨q6, fun hh => q7 (hA.2 hh)⟩, ?_⟩
      rcases q8 with ⟨a, b, c⟩ | ⟨a, b⟩
      · exact .inl ⟨a, b, fun hh => c (hA.2 hh)⟩
      · exact .inr ⟨a, by rw [← xc]; exact b⟩)
    (fun d s s' k hA => ⟨hA.1.same (k.reg _ _) h.lenS, fun hh => (hA.2 hh).same (k.reg _ _) h.lenS⟩)
    (fun d s s' k hA => ⟨hA.1.same (k.reg _ _) h.lenS, fun hh => (hA.2 hh).same (k.reg _ _) h.lenS⟩)
    (fun d s s' k hA => ⟨hA.1.same (k.reg _ _) hlen, fun hh => (hA.2 hh).same (k.reg _ _) hlen⟩)
    (fun d s hA => ⟨hA.1.up hp (Nat.le_refl _), fun hh => (hA.2 hh).up hp (Nat.le_refl _)⟩) (drvL g gen) s (drvL_nodup h.gk) (fun d hd => ⟨(h.dn hd).1, (h.dn hd).2.1, h.ok d hd, h.al d hd⟩) rfl rfl rfl
  unfold appAll
  obtain ⟨r1, r2, r3, r4, r5, r6, r7⟩ := r
  refine ⟨⟨h.gk, ⟨by rw [r1]; exact h.fit.1, by rw [r2]; exact h.fit.2⟩, hR, hp, hlen, fun d hd => (r6 d hd).1, fun d hd => (r6 d hd).2⟩, r3, fun d' j hj => ?_, ?_⟩
  · rcases hj with hj | hj
    · exact r4 d' hj j
    · exact r5 d' j hj
  · rcases r7 with ⟨a, b⟩ | ⟨a, b⟩
    · exact .inl ⟨a, h.gk, ⟨by rw [r1]; exact h.fit.1, by rw [r2]; exact h.fit.2⟩, hR, PreK.rfl' _, hlen, fun d hd => (b d hd).1, fun d hd => (b d hd).2⟩
    · exact .inr ⟨a, b⟩
theorem TInv.wipe (h : TInv g gen S R hit s) (d : Int) {hit' : Nat → Bool} (k : ∀ x, hit' x = false → hit x = false ∧ x ≠ d.toNat) : TInv g gen S R hit' (s.wipeS d) := by
  have hcell : ∀ d' j, (s.wipeS d).bad d' j = s.bad d' j ∧ (s.wipeS d).T d' j = s.T d' j ∨ d' = d.toNat ∧ (s.wipeS d).bad d' j = false ∧ (s.wipeS d).T d' j = zero64 := by
    intro d' j
    unfold RSt.wipeS
    split
    · by_cases e : d' = d.toNat
      · refine .inr ⟨e, ?_, ?_⟩
        · show (if d' = d.toNat then false else _) = false
          rw [if_pos e]
        · show (if d' = d.toNat then zero64 else _) = zero64
          rw [if_pos e]
      · refine .inl ⟨?_, ?_⟩
        · show (if d' = d.toNat then false else _) = _
          rw [if_neg e]
        · show (if d' = d.toNat then zero64 else _) = _
          rw [if_neg e]
    · exact .inl ⟨rfl, rfl⟩
  have hall : ∀ d' , (∀ j, (s.wipeS d).bad d' j = s.bad d' j ∧ (s.wipeS d).T d' j = s.T d' j) ∨ d' = d.toNat ∧ ∀ j, (s.wipeS d).bad d' j = false ∧ (s.wipeS d).T d' j = zero64 := by
    intro d'
    unfold RSt.wipeS
    split
    · by_cases e : d' = d.toNat
      · refine .inr ⟨e, fun j => ⟨?_, ?_⟩⟩
        · show (if d' = d.toNat then false else _) = false
          rw [if_pos e]
        · show (if d' = d.toNat then zero64 else _) = zero64
          rw [if_pos e]
      · refine .inl fun j => ⟨?_, ?_⟩
        · show (if d' = d.toNat then false else _) = _
          rw [if_neg e]
        · show (if d' = d.toNat then zero64 else _) = _
          rw [if_neg e]
    · exact .inl fun j => ⟨rfl, rfl⟩
  refine ⟨h.gk, ⟨?_, ?_⟩, h.rk, h.pre, h.len, fun d' hd => ?_, fun d' hd hh => ?_⟩
  · have : (s.wipeS d).n = s.n := by unfold RSt.wipeS; split <;> rfl
    rw [this]; exact h.fit.1
  · have : (s.wipeS d).m = s.m := by unfold RSt.wipeS; split <;> rfl
    rw [this]; exact h.fit.2
  · rcases hall d'.toNat with x | ⟨_, x⟩
    · exact (h.ok d' hd).same (fun i _ => x _) h.lenS
    · refine ⟨fun i _ => .inr (.inl (x _).2), fun hr => ?_⟩
      have h2 := hr.2
      rw [(x _).2] at h2
      exact absurd h2.symm (rawT_nz h.rk (lenT_pos R))
  · obtain ⟨k1, k2⟩ := k _ hh
    rcases hall d'.toNat with x | ⟨e, _⟩
    · exact (h.al d' hd k1).same (fun i _ => x _) h.lenS
    · exact absurd e k2
theorem TInv.spoil (h : TInv g gen S R hit s) (d i : Int) {hit' : Nat → Bool} (k : ∀ x, hit' x = false → hit x = false ∧ x ≠ d.toNat) : TInv g gen S R hit' (s.spoilS d i) := by
  have hcell : ∀ d' j, (s.spoilS d i).T d' j = s.T d' j ∧ ((s.spoilS d i).bad d' j = s.bad d' j ∨ d' = d.toNat ∧ (s.spoilS d i).bad d' j = true) := by
    intro d' j
    unfold RSt.spoilS
    split
    · by_cases e : d' = d.toNat ∧ j = i.toNat
      · refine ⟨?_, .inr ⟨e.1, ?_⟩⟩
        · show up2 s.T d.toNat i.toNat (s.T d.toNat i.toNat) d' j = _
          unfold up2
          rw [if_pos e, e.1, e.2]
        · show up2 s.bad d.toNat i.toNat true d' j = _
          unfold up2
          rw [if_pos e]
      · refine ⟨?_, .inl ?_⟩
        · show up2 s.T d.toNat i.toNat (s.T d.toNat i.toNat) d' j = _
          unfold up2
          rw [if_neg e]
        · show up2 s.bad d.toNat i.toNat true d' j = _
          unfold up2
          rw [if_neg e]
    · exact ⟨rfl, .inl rfl⟩
  refine ⟨h.gk, ⟨?_, ?_⟩, h.rk, h.pre, h.len, fun d' hd => ⟨fun j hj => ?_, fun hr j hj => ?_⟩, fun d' hd hh => ⟨fun j hj => ?_, fun j hj => ?_⟩⟩
  · have : (s.spoilS d i).n = s.n := by unfold RSt.spoilS; split <;> rfl
    rw [this]; exact h.fit.1
  · have : (s.spoilS d i).m = s.m := by unfold RSt.spoilS; split <;> rfl
    rw [this]; exact h.fit.2
  · obtain ⟨c1, c2⟩ := hcell d'.toNat (fN g gen + j)
    rw [c1]
    rcases c2 with c2 | ⟨_, c2⟩
    · rw [c2]; exact (h.ok d' hd).u j hj
    · exact .inl c2
  · obtain ⟨z1, z2⟩ := hcell d'.toNat (fN g gen + 0)
    have hr0 : Rgt gen R (fN g gen) s d'.toNat 0 := by
      refine ⟨?_, by rw [← z1]; exact hr.2⟩
      rcases z2 with z2 | ⟨_, z2⟩
      · rw [← z2]; exact hr.1
      · have := hr.1
        rw [z2] at this
        cases this
    obtain ⟨c1, c2⟩ := hcell d'.toNat (fN g gen + j)
    rw [c1]
    rcases c2 with c2 | ⟨_, c2⟩
    · rw [c2]; exact (h.ok d' hd).h hr0 j hj
    · exact .inl c2
  · obtain ⟨k1, k2⟩ := k _ hh
    rcases (hcell d'.toNat (fN g gen + j)).2 with c2 | ⟨e, _⟩
    · rw [c2]; exact (h.al d' hd k1).b j hj
    · exact absurd e k2
  · obtain ⟨k1, k2⟩ := k _ hh
    rw [(hcell d'.toNat (fN g gen + j)).1]
    exact (h.al d' hd k1).r j hj
/-- A tail that is to be begun: nothing stands where it will. -/
theorem TInv.fresh (hg : gOk g gen) (hf : fitOk g s) (hz : ∀ d ∈ drvL g gen, ∀ i, i < g.t.toNat → s.bad d.toNat (fN g gen + i) = true ∨ s.T d.toNat (fN g gen + i) = zero64) : TInv g gen [] [] (fun _ => true) s := by
  have hone : lenT [] = 1 := rfl
  have hrec : RecOk gen [] := ⟨hg.2.2, by decide⟩
  obtain ⟨g1, g2, g3, g4, g5, g6, g7, g8⟩ := geo_n hg
  refine ⟨hg, hf, hrec, PreK.rfl' _, by rw [hone]; omega, fun d hd => ⟨fun i hi => ?_, fun hr => ?_⟩, fun d hd hh => absurd hh (by decide)⟩
  · rcases hz d hd i hi with x | x
    · exact .inl x
    · exact .inr (.inl x)
  · rcases hz d hd 0 (by omega) with x | x
    · have := hr.1
      rw [x] at this
      cases this
    · have h2 := hr.2
      rw [x] at h2
      exact absurd h2.symm (rawT_nz hrec (lenT_pos []))
end
end Go.Proofs.YtmgkkoajjdgmbaaGreatDoor

/- The program's: Load. -/
namespace Go.Proofs.YtmgkkoajjdgmbaaGreatDoor
open Go.RowKit Go.Shelf Sm Wr _root_.Go.Proofs.YtmgkkoajjdgmbaaGreatDoor.Nm
set_option linter.unusedVariables false
set_option maxRecDepth 100000 in
set_option maxHeartbeats 1000000 in
theorem load_nil (g : Geo) (gen : Nat) (w : World) :
    Calls Tryz.prog 17 #[.pointer none, .agg #[.int .i64 g.n, .int .i64 g.p, .int .i64 g.m, .int .i64 g.t], .int .u64 (gen : Nat)] w fun e w' => e = .returned (.tuple #[.pointer none, .slice none 0 0, .int .i64 1]) ∧ Kept w w' := by
  have K0 : Hid (Kept w (w.alloc (.cells #[.int .i64 g.n, .int .i64 g.p, .int .i64 g.m, .int .i64 g.t] 28))) := (Kept.refl _).alloc _
  have X0 := Lib.hid (GeoAt.laid w 28 g)
  have HP := Lib.hid (fun W => placeOf_nil g gen W)
  unfold plZ at HP
  go_enter Tryz.func17, Tryz.ntmps17
  go_upto_region 1 with fail
  generalize w.alloc (.cells #[.int .i64 g.n, .int .i64 g.p, .int .i64 g.m, .int .i64 g.t] 28) = w0 at *
  obtain ⟨c0, c1, c2, c3⟩ := X0.out
  go_wp2_with (go_at_call 27; refine (HP.out _).mono ?_; rintro e w1 ⟨rfl, hk⟩; have K1 := Lib.hid (K0.out.trans hk); clear hk)
  go_ret3
  exact ⟨rfl, K1.out.alloc _⟩
set_option maxRecDepth 100000 in
theorem slice_one (q n c : Nat) (h : 1 ≤ n) (hc : n ≤ c) (W : World) : (Instr.slice 38 (.slice (some ⟨q, 0, none⟩) n c) (some (.int .i64 1)) none none).run Tryz.prog W = .ok (.slice (some ⟨q, if c = 1 then 0 else 1, none⟩) (n - 1) (c - 1)) W := by
  have h := run_slice_l (P := Tryz.prog) W 38 (some ⟨q, 0, none⟩) n c Tryz.underlying38 .i64 (1 : Int) (by omega) (by omega)
  rw [show Tryz.prog.elem 38 = 9 by kernel_rfl, Tryz.sizeOf9 W] at h
  rw [h]
  by_cases e : c = 1
  · simp [Result.andThen, sliced, e]
  · simp [Result.andThen, sliced, Addr.add, e]
theorem Gat.cap {B : Nat} {a : Option Addr} {n c : Nat} {ss : List ByteArray} {w : World} (h : Gat B (.slice a n c) ss w) : ss.length ≤ c := by
  obtain ⟨h1, h2⟩ := h
  rcases h2 with ⟨e, h2⟩ | ⟨q, cap, cur, e, h3, h4, h5, h6⟩
  · omega
  · injection e with e1 e2 e3
    omega
/-- What Load tells, by the longest of the lists. -/
def LoadTo (G : Nat) (g : Geo) (gen : Nat) (w w' : World) (most : List ByteArray) (p sl : Value) (er : Nat) : Prop :=
  (most = [] ∧ p = .pointer none ∧ sl = .slice none 0 0 ∧ er = 90) ∨
    (most ≠ [] ∧ er = 0 ∧ ∃ tb v a c B, p = .pointer (some ⟨tb, 0, none⟩) ∧ sl = .slice a most.tail.length c ∧ w.heap.size ≤ B ∧ B ≤ tb ∧ TailAt B tb G g gen v (tailTo gen most.tail most.tail.length) (most.tail.length + 1) false w' ∧ Strs w' a most.tail ∧ ∀ q o, a = some ⟨q, o, none⟩ → w.heap.size ≤ q ∧ q < B)
def LoadPost (G : Nat) (g : Geo) (gen : Nat) (w : World) (most : List ByteArray) (e : Ending) (w' : World) : Prop :=
  ∃ (p sl : Value) (er : Nat), e = .returned (.tuple #[p, sl, .int .i64 (er : Nat)]) ∧ Hid (LoadTo G g gen w w' most p sl er ∧ Kept w w')
def stepM (F : Int → List ByteArray) (m : List ByteArray) (d : Int) : List ByteArray := if m.length < (F d).length then F d else m
theorem fold_take (F : Int → List ByteArray) (l : List Int) (k : Nat) (h : k < l.length) : (l.take (k + 1)).foldl (stepM F) [] = stepM F ((l.take k).foldl (stepM F) []) (l.getD k 0) := by
  rw [List.take_succ_eq_append_getElem h, List.foldl_append, List.getD_eq_getElem?_getD, List.getElem?_eq_getElem h]
  rfl
set_option maxRecDepth 100000 in
set_option maxHeartbeats 2000000 in
theorem load_any (G : Nat) (s : RSt) (g : Geo) (gen : Nat) (w : World) (hR : RackAt G s w) (hg : gOk g gen) (hf : fitOk g s) (hfine : ∀ d ∈ drvL g gen, Fine gen (rdT s d (fstS g.t gen)) g.t.toNat ∧ (gAll gen (rdT s d (fstS g.t gen)) g.t.toNat).1 = 0 ∧ (gAll gen (rdT s d (fstS g.t gen)) g.t.toNat).2.length ≤ 512)
    (hmost : ∀ x ∈ (mostL s g gen).tail, partsN x.size ≤ 512) (hml : (mostL s g gen).length ≤ 512) :
    Calls Tryz.prog 17 #[.pointer (some ⟨G + 1, 0, none⟩), .agg #[.int .i64 g.n, .int .i64 g.p, .int .i64 g.m, .int .i64 g.t], .int .u64 (gen : Nat)] w fun e w' => LoadPost G g gen w (mostL s g gen) e w' := by
  obtain ⟨g1, g2, g3, g4, g5, g6, g7, g8⟩ := geo_n hg
  have K0 : Hid (Kept w (w.alloc (.cells #[.int .i64 g.n, .int .i64 g.p, .int .i64 g.m, .int .i64 g.t] 28))) := (Kept.refl _).alloc _
  have X0 := Lib.hid (GeoAt.laid w 28 g)
  have HP := Lib.hid (fun W (k : Kept w W) => placeOf_any G s g gen W (hR.kept k) hg hf)
  have HDR := Lib.hid (fun W => drives_part g gen W hg)
  obtain ⟨F, hF⟩ : ∃ F : Int → List ByteArray, F = fun d => (gAll gen (rdT s d (fstS g.t gen)) g.t.toNat).2 := ⟨_, rfl⟩
  have HGR : Hid (∀ W d, Kept w W → d ∈ drvL g gen → Calls Tryz.prog 42 #[plV G g gen, .int .i64 d] W fun e w' => ∃ a c, e = .returned (.tuple #[.slice a (F d).length c, .int .i64 0]) ∧ Hid (Kept W w' ∧ Gat w.heap.size (.slice a (F d).length c) (F d) w')) := fun W d k hd => by
    obtain ⟨d1, d2⟩ := drvL_in hg hd
    refine (groups_any G s g gen d g.t.toNat (by omega) (by omega) (by omega) (by omega) W (hR.kept k) (hfine d hd).1).mono ?_
    rintro e w' ⟨⟨v, rfl, hG⟩, hk⟩
    rw [(hfine d hd).2.1]
    have e1 : (gAll gen (rdT s d (fstS g.t gen)) g.t.toNat).2 = F d := by rw [hF]
    rw [e1] at hG
    obtain ⟨a, c, rfl, _⟩ := hG.strs
    exact ⟨a, c, rfl, hk, hG.low k.size⟩
  have HFL : Hid (∀ d ∈ drvL g gen, (F d).length ≤ 512) := fun d hd => by rw [hF]; exact (hfine d hd).2.2
  have HMS : Hid (mostL s g gen = (drvL g gen).foldl (stepM F) []) := by show _ = _; rw [hF]; rfl
  have HPT := Lib.hid (fun W a c (recs : List ByteArray) (hS : Strs W a recs) (h1 : recs.length ≤ 512) (h2 : ∀ x ∈ recs, partsN x.size ≤ 512) => ptail_any G g gen a c recs W hS hg.2.2 h1 h2)
  have HMO := Lib.hid hmost
  have HML := Lib.hid hml
  have hdl12 : (drvL g gen).length ≤ 12 := by rw [drvL_length]; omega
  unfold plV at HP HPT HGR
  clear hR hf hfine hF hmost hml hg g1 g2 g3 g4 g5 g6 g7 g8
  generalize mostL s g gen = mo at *
  generalize hdl : drvL g gen = dl at *
  clear hdl
  go_enter Tryz.func17, Tryz.ntmps17
  go_upto_region 1 with fail
  generalize w.alloc (.cells #[.int .i64 g.n, .int .i64 g.p, .int .i64 g.m, .int .i64 g.t] 28) = w0 at *
  obtain ⟨c0, c1, c2, c3⟩ := X0.out
  go_upto_region 4 with (go_at_call 27; refine (HP.out w0 K0.out).mono ?_; rintro e w1 ⟨rfl, hk⟩; have HK01 := Lib.hid hk; clear hk)
  have X2 := Lib.hid (PlAt.laid w1 79 G g gen)
  have k12 : Kept w1 (w1.alloc (.cells #[.pointer (some ⟨G + 1, 0, none⟩), .int .i64 g.n, .int .i64 g.p, .int .i64 g.m, .int .i64 g.t, .int .u64 (gen : Nat)] 79)) := (Kept.refl _).alloc _
  have X3 := Lib.hid (X0.out.kept (HK01.out.trans k12))
  have K2 := Lib.hid (K0.out.trans (HK01.out.trans k12))
  clear k12
  generalize w1.alloc (.cells #[.pointer (some ⟨G + 1, 0, none⟩), .int .i64 g.n, .int .i64 g.p, .int .i64 g.m, .int .i64 g.t, .int .u64 (gen : Nat)] 79) = w2 at *
  clear c0 c1 c2 c3 X0 HP K0 HK01
  generalize w1.heap.size = pb at *
  have HX : Hid (∀ W, Kept w2 W → W.cell? ⟨pb, 0, none⟩ = some (.pointer (some ⟨G + 1, 0, none⟩)) ∧ W.cell? ⟨pb, 1, none⟩ = some (.int .i64 g.n) ∧ W.cell? ⟨pb, 2, none⟩ = some (.int .i64 g.p) ∧ W.cell? ⟨pb, 3, none⟩ = some (.int .i64 g.m) ∧ W.cell? ⟨pb, 4, none⟩ = some (.int .i64 g.t) ∧ W.cell? ⟨pb, 5, none⟩ = some (.int .u64 (gen : Nat))) := fun W k => by
    have h := X2.out.kept k
    exact ⟨h.c0, h.c1, h.c2, h.c3, h.c4, h.c5⟩
  obtain ⟨c0, c1, c2, c3⟩ := X3.out
  obtain ⟨N, hN⟩ : ∃ N, N = dl.length := ⟨_, rfl⟩
  rw [← hN] at HDR hdl12
  have HN := Lib.hid hN
  clear hN
  go_wp2_with (go_at_call 25; refine (HDR.out w2).mono ?_; rintro e w3 ⟨q, c, rfl, HQ⟩)
  have HQK := Lib.hid HQ.out.2.2.2.2
  have HQC : Hid (∀ W, Kept w3 W → ∀ i, i < N → W.cell? ⟨q, i, none⟩ = some (.int .i64 (dl.getD i 0))) := fun W k i hi => cell_keptT (HQ.out.2.2.2.1 i hi) k
  clear HQ HDR c0 c1 c2 c3 X3 X2
  go_loopw [10, 29] (fun m i wr => ∃ (k : Nat) (a : Option Addr) (c : Nat), k ≤ N ∧ i = .int .i64 k ∧ m = .slice a ((dl.take k).foldl (stepM F) []).length c ∧ Hid (Kept w3 wr ∧ Gat w.heap.size (.slice a ((dl.take k).foldl (stepM F) []).length c) ((dl.take k).foldl (stepM F) []) wr ∧ ((dl.take k).foldl (stepM F) []).length ≤ 512)) (fun m i _ => N - (intOf i).toNat)
  case atStart => exact ⟨0, none, 0, Nat.zero_le _, rfl, rfl, Kept.refl _, Gat.nil _ _, Nat.zero_le _⟩
  case round =>
    obtain ⟨k, a, c, hk, rfl, rfl, HR⟩ := hrel
    have HK3 := Lib.hid HR.out.1
    have HG3 := Lib.hid HR.out.2.1
    have hm5 := HR.out.2.2
    clear HR
    by_cases hlt : k < N
    · have b1 : decide ((k : Int) < (N : Int)) = true := decide_eq_true (by omega)
      have b1N : decide (k < N) = true := decide_eq_true hlt
      have hw1 : IntKind.i64.wrap ((k : Int) + 1) = ((k + 1 : Nat) : Int) := by rw [IntWalk.i64_in _ (by omega)]; omega
      have hc := HQC.out wr HK3.out k hlt
      have hmem := getD_mem dl k (by rw [← HN.out]; exact hlt)
      have HST := Lib.hid (fold_take F dl k (by rw [← HN.out]; exact hlt))
      have HCL := Lib.hid (HGR.out wr (dl.getD k 0) (K2.out.trans (HQK.out.trans HK3.out)) hmem)
      have hfl := HFL.out _ hmem
      obtain ⟨p0, p1, p2, p3, p4, p5⟩ := HX.out wr (HQK.out.trans HK3.out)
      generalize dl.getD k 0 = dk at *
      generalize (dl.take k).foldl (stepM F) [] = mk at *
      generalize hfd : F dk = fd at *
      have HFD := Lib.hid hfd
      clear hfd hmem
      by_cases hgt : mk.length < fd.length
      · have b2 : decide ((mk.length : Int) < (fd.length : Int)) = true := decide_eq_true (by omega)
        have b2N : decide (mk.length < fd.length) = true := decide_eq_true hgt
        go_wp2_with (go_at_call 42; refine HCL.out.mono ?_; rintro e w4 ⟨a4, c4, rfl, H4⟩; clear HCL)
        have HE9 : (dl.take (k + 1)).foldl (stepM F) [] = fd := by rw [HST.out]; unfold stepM; rw [HFD.out, if_pos hgt]
        refine ⟨⟨k + 1, a4, c4, by omega, by go_num, by rw [HE9], by rw [HE9]; exact ⟨HK3.out.trans H4.out.1, H4.out.2, hfl⟩⟩, by simp [intOf]; omega⟩
      · have b2 : decide ((mk.length : Int) < (fd.length : Int)) = false := decide_eq_false (by omega)
        have b2N : decide (mk.length < fd.length) = false := decide_eq_false hgt
        go_wp2_with (go_at_call 42; refine HCL.out.mono ?_; rintro e w4 ⟨a4, c4, rfl, H4⟩; clear HCL)
        have HE9 : (dl.take (k + 1)).foldl (stepM F) [] = mk := by rw [HST.out]; unfold stepM; rw [HFD.out, if_neg hgt]
        refine ⟨⟨k + 1, a, c, by omega, by go_num, by rw [HE9], by rw [HE9]; exact ⟨HK3.out.trans H4.out.1, HG3.out.kept H4.out.1, hm5⟩⟩, by simp [intOf]; omega⟩
    · obtain rfl : k = N := by omega
      have b1 : decide ((k : Int) < (k : Int)) = false := decide_eq_false (by omega)
      have b1N : decide (k < k) = false := decide_eq_false (by omega)
      rw [List.take_of_length_le (show dl.length ≤ k by rw [← HN.out]; exact Nat.le_refl _), ← HMS.out] at HG3 hm5 ⊢
      clear HMS HFL HGR
      obtain ⟨p0, p1, p2, p3, p4, p5⟩ := HX.out wr (HQK.out.trans HK3.out)
      have KW := Lib.hid (K2.out.trans (HQK.out.trans HK3.out))
      clear HX HQK HK3 HQC hdl12 K2
      cases mo with
      | nil =>
        go_wp2_with fail
        go_ret3
        exact ⟨_, _, 90, rfl, .inl ⟨rfl, rfl, rfl, rfl⟩, KW.out⟩
      | cons t0 recs =>
        have hcap : recs.length + 1 ≤ c := Gat.cap HG3.out
        obtain ⟨q0, c0, e0, hq1, hq2, hcell⟩ := Gat.cells HG3.out (by simp)
        have HQ0 : Hid (w.heap.size ≤ q0 ∧ q0 < wr.heap.size) := ⟨hq1, hq2⟩
        clear hq1 hq2
        injection e0 with e0 e1 e2
        subst e0
        have hrl : recs.length ≤ 512 := by have := HML.out; simp at this; omega
        have HP2 : Hid (∀ x ∈ recs, partsN x.size ≤ 512) := HMO.out
        have hz : (((recs.length + 1 : Nat) : Int) == 0) = false := by rw [beq_eq_false_iff_ne]; omega
        have HCE : Hid (∀ i, i < recs.length → wr.cell? ⟨q0, 1 + i, none⟩ = some (.string (recs.getD i ByteArray.empty))) := fun i hi => by
          have := hcell (i + 1) (by simp; omega)
          rw [show 0 + (i + 1) = 1 + i by omega] at this
          rw [this]; rfl
        clear hcell e1 e2 HMO HML hm5 HG3
        by_cases hc1 : c = 1
        · subst hc1
          obtain rfl : recs = [] := List.eq_nil_of_length_eq_zero (by omega)
          have HQ : Hid (Calls Tryz.prog 28 #[.agg #[.pointer (some ⟨G + 1, 0, none⟩), .int .i64 g.n, .int .i64 g.p, .int .i64 g.m, .int .i64 g.t, .int .u64 (gen : Nat)], .slice (some ⟨q0, 0, none⟩) 0 0] wr fun e w' => (∃ b v, e = .returned (.pointer (some ⟨b, 0, none⟩)) ∧ wr.heap.size ≤ b ∧ TailAt wr.heap.size b G g gen v (tailTo gen [] 0) 1 false w') ∧ Kept wr w') := (HPT.out wr (some ⟨q0, 0, none⟩) 0 [] (.inl rfl) (by decide) (fun x hx => absurd hx (by simp)))
          clear HPT HCE
          go_wp2_with (go_at_call 28; refine HQ.out.mono ?_; rintro e w9 ⟨⟨tb, v, rfl, h1, h2⟩, hk⟩)
          go_ret3
          exact ⟨_, _, 0, rfl, .inr ⟨by simp, rfl, tb, v, _, _, wr.heap.size, rfl, rfl, KW.out.size, h1, h2, .inl rfl, fun q o e => by (injection e with e; injection e with e5 e6; subst e5; exact HQ0.out)⟩, KW.out.trans hk⟩
        · have HQ := Lib.hid (HPT.out wr (some ⟨q0, 1, none⟩) (c - 1) recs (.inr ⟨q0, 1, rfl, HCE.out⟩) hrl HP2.out)
          have hS := Lib.hid (show Strs wr (some ⟨q0, 1, none⟩) recs from .inr ⟨q0, 1, rfl, HCE.out⟩)
          clear HPT HCE
          go_wp2_with (go_at_call 28; refine HQ.out.mono ?_; rintro e w9 ⟨⟨tb, v, rfl, h1, h2⟩, hk⟩)
          go_ret3
          exact ⟨_, _, 0, rfl, .inr ⟨by simp, rfl, tb, v, _, _, wr.heap.size, rfl, rfl, KW.out.size, h1, h2, hS.out.kept hk, fun q o e => by (injection e with e; injection e with e5 e6; subst e5; exact HQ0.out)⟩, KW.out.trans hk⟩
end Go.Proofs.YtmgkkoajjdgmbaaGreatDoor

/- The calls on a tail, by what stands on its drives. -/
namespace Go.Proofs.YtmgkkoajjdgmbaaGreatDoor
open Go.RowKit Sm Wr _root_.Go.Proofs.YtmgkkoajjdgmbaaGreatDoor.Nm
set_option linter.unusedVariables false
theorem gAll_gone {gen : Nat} {R : List ByteArray} {rd : Nat → Nat × List UInt8} {n : Nat} (hR : RecOk gen R) (hU : RdU gen R rd n) (hd : ∀ q, q < n → (rd q).1 ≠ 71) (h0 : ¬ RdR gen R rd 0) (hn : 0 < n) : (gAll gen rd n).2 = [] := by
  unfold gAll
  rcases gL_how hR hU hd n (Nat.le_refl _) with ⟨h, _⟩ | ⟨k, i, hp, hj, ⟨h, he⟩ | ⟨h, h1, h2, h3⟩⟩
  · rw [h]; rfl
  · exact absurd (hj 0 (by omega)) h0
  · rw [h]
    have hz : offK R k + i = 0 := Nat.eq_zero_of_not_pos fun hp => h0 (hj 0 hp)
    have hk0 : k = 0 := by have := off_ge R k; omega
    subst hk0
    rfl
theorem tailTo_pre (gen : Nat) (S : List ByteArray) (t : ByteArray) : ∀ k, k ≤ S.length → tailTo gen (S ++ [t]) k = tailTo gen S k
  | 0, _ => rfl
  | k + 1, h => by
    show tailTo gen (S ++ [t]) k ++ grpL gen (k + 1) ((S ++ [t]).getD k ByteArray.empty) = tailTo gen S k ++ grpL gen (k + 1) (S.getD k ByteArray.empty)
    rw [tailTo_pre gen S t k (by omega), List.getD_eq_getElem?_getD, List.getElem?_append_left (by omega), List.getD_eq_getElem?_getD]
theorem tailTo_snoc (gen : Nat) (S : List ByteArray) (t : ByteArray) : tailTo gen (S ++ [t]) (S ++ [t]).length = tailTo gen S S.length ++ grpL gen (S.length + 1) t := by
  rw [List.length_append]
  show tailTo gen (S ++ [t]) S.length ++ grpL gen (S.length + 1) ((S ++ [t]).getD S.length ByteArray.empty) = _
  rw [tailTo_pre gen S t _ (Nat.le_refl _), List.getD_eq_getElem?_getD, List.getElem?_append_right (Nat.le_refl _)]
  simp
section
variable {g : Geo} {gen : Nat} {S R : List ByteArray} {hit : Nat → Bool} {s : RSt}
theorem TInv.gone (h : TInv g gen S R hit s) (hdn : s.down = false) (hz : ∀ d ∈ drvL g gen, ¬ Rgt gen R (fN g gen) s d.toNat 0) : mostL s g gen = [] := by
  obtain ⟨g1, g2, g3, g4, g5, g6, g7, g8⟩ := geo_n h.gk
  have hm := most_fold (fun d => (gAll gen (rdT s d (fstS g.t gen)) g.t.toNat).2) [] [] (drvL g gen) [] (fun d hd => .inl (gAll_gone h.rk (h.rdU hd) (h.not71 hdn hd) (fun hr0 => hz d hd (by
    obtain ⟨d1, d2, d3, d4, d5⟩ := h.dn hd
    have h0 := hr0.1
    rw [rdT_fun h.gk s d1] at h0
    have hb : s.bad d.toNat (fN g gen + 0) = false := by
      rw [rdT_fst s d.toNat (fN g gen) 0 d3 (by omega) hdn] at h0
      cases hb : s.bad d.toNat (fN g gen + 0) with
      | false => rfl
      | true => rw [hb] at h0; cases h0
    refine ⟨hb, ?_⟩
    obtain ⟨_, k, i, hk, hi, he, hv⟩ := hr0
    rw [rdT_fun h.gk s d1, rdT_snd s d.toNat (fN g gen) 0 h0] at hv
    rw [hv]
    show _ = padL (secT gen R 0)
    rw [he, secT_pad h.rk hk hi])) (by omega))) (.inl rfl)
  rcases hm.1 with x | x | x <;> exact x
/-- A drive that was wiped has no head. -/
theorem wiped_no (gen : Nat) (R : List ByteArray) (f : Nat) (s : RSt) (d : Int) (hR : RecOk gen R) (h : s.drive d = true) : ¬ Rgt gen R f (s.wipeS d) d.toNat 0 := by
  intro hr
  have h2 := hr.2
  have e : (s.wipeS d).T d.toNat (f + 0) = zero64 := by
    unfold RSt.wipeS
    rw [if_pos h]
    show (if d.toNat = d.toNat then zero64 else _) = zero64
    rw [if_pos rfl]
  rw [e] at h2
  exact rawT_nz hR (lenT_pos R) h2.symm
theorem wiped_keeps (gen : Nat) (R : List ByteArray) (f : Nat) (s : RSt) (d d' : Int) (h : ¬ Rgt gen R f s d'.toNat 0) (hR : RecOk gen R) : ¬ Rgt gen R f (s.wipeS d) d'.toNat 0 := by
  intro hr
  unfold RSt.wipeS at hr
  split at hr
  · by_cases e : d'.toNat = d.toNat
    · have h2 := hr.2
      have e2 : (s.wipe d.toNat).T d'.toNat (f + 0) = zero64 := by
        show (if d'.toNat = d.toNat then zero64 else _) = zero64
        rw [if_pos e]
      rw [e2] at h2
      exact rawT_nz hR (lenT_pos R) h2.symm
    · refine h ⟨?_, ?_⟩
      · have := hr.1
        have e1 : (s.wipe d.toNat).bad d'.toNat (f + 0) = s.bad d'.toNat (f + 0) := by
          show (if d'.toNat = d.toNat then false else _) = _
          rw [if_neg e]
        rw [← e1]; exact this
      · have := hr.2
        have e1 : (s.wipe d.toNat).T d'.toNat (f + 0) = s.T d'.toNat (f + 0) := by
          show (if d'.toNat = d.toNat then zero64 else _) = _
          rw [if_neg e]
        rw [← e1]; exact this
  · exact h hr
/-- Missing: nothing, of a tail that was mended. -/
theorem TInv.miss (h : TInv g gen S S (fun _ => false) s) : (missAll s g gen (tailTo gen S S.length)).2 = [] ∧ ((missAll s g gen (tailTo gen S S.length)).1 = 0 ∨ (missAll s g gen (tailTo gen S S.length)).1 = 71 ∧ s.down = true) := by
  obtain ⟨g1, g2, g3, g4, g5, g6, g7, g8⟩ := geo_n h.gk
  have hone : ∀ d ∈ drvL g gen, (s.down = false → missD s g gen (tailTo gen S S.length) d [] = (0, [])) ∧ (s.down = true → missD s g gen (tailTo gen S S.length) d [] = (71, [])) := by
    intro d hd
    obtain ⟨d1, d2, d3, d4, d5⟩ := h.dn hd
    have e : rdB s d (fstS g.t gen) = rdB s ((d.toNat : Nat) : Int) ((fN g gen : Nat) : Int) := by rw [(fN_is h.gk).1, ← d5]
    unfold missD
    rw [e]
    constructor <;> intro hdn
    · rw [wAll_none h.rk h.len d3 d4 (h.ok d hd) (h.al d hd rfl) hdn]; rfl
    · rw [wAll_down (by omega) hdn]; rfl
  unfold missAll
  have hgo : ∀ l : List Int, (∀ d ∈ l, d ∈ drvL g gen) → (stepAll (fun d rs => missD s g gen (tailTo gen S S.length) d rs) l []).2 = [] ∧ ((stepAll (fun d rs => missD s g gen (tailTo gen S S.length) d rs) l []).1 = 0 ∨ (stepAll (fun d rs => missD s g gen (tailTo gen S S.length) d rs) l []).1 = 71 ∧ s.down = true) := by
    intro l
    induction l with
    | nil => exact fun _ => ⟨rfl, .inl rfl⟩
    | cons d r ih =>
      intro hl
      obtain ⟨a, b⟩ := hone d (hl d (by simp))
      unfold stepAll
      cases hdn : s.down with
      | false =>
        rw [a hdn, if_neg (by decide)]
        have := ih (fun x hx => hl x (by simp [hx]))
        rw [hdn] at this
        exact this
      | true =>
        rw [b hdn, if_pos (by decide)]
        exact ⟨rfl, .inr ⟨rfl, rfl⟩⟩
  exact hgo _ (fun d hd => hd)
end
end Go.Proofs.YtmgkkoajjdgmbaaGreatDoor

/- The calls on a tail, as the laws take them. -/
namespace Go.Proofs.YtmgkkoajjdgmbaaGreatDoor
open Go.RowKit Sm Wr _root_.Go.Proofs.YtmgkkoajjdgmbaaGreatDoor.Nm
set_option linter.unusedVariables false
/-- Sectors outside the tail of a generation are as they were. -/
def OutR (g : Geo) (gen : Nat) (s s' : RSt) : Prop := ∀ d' j, (∀ d ∈ drvL g gen, d.toNat ≠ d') ∨ j < fN g gen ∨ fN g gen + g.t.toNat ≤ j → s'.bad d' j = s.bad d' j ∧ s'.T d' j = s.T d' j
/-- A tail of these records lies in block tb. -/
abbrev TlAt (B tb G : Nat) (g : Geo) (gen : Nat) (v : Value) (L : List ByteArray) (br : Bool) (w : World) : Prop := TailAt B tb G g gen v (tailTo gen L L.length) (L.length + 1) br w
theorem small_parts {t : ByteArray} {k : Nat} (h : partsN t.size ≤ k) (hk : k ≤ 1000) : t.size ≤ 1000000 := by unfold partsN at h; omega
theorem RecOk.of {g : Geo} {gen : Nat} {L : List ByteArray} (hg : gOk g gen) (h : lenT L ≤ g.t.toNat) : RecOk gen L := by
  obtain ⟨g1, g2, g3, g4, g5, g6, g7, g8⟩ := geo_n hg
  exact ⟨hg.2.2, by show lenT L ≤ 512; omega⟩
theorem len_le (L : List ByteArray) : L.length + 1 ≤ lenT L := off_ge L _
/-- What Append leaves. -/
structure AppTo (tb B G : Nat) (g : Geo) (gen : Nat) (S : List ByteArray) (t : ByteArray) (hit : Nat → Bool) (v : Value) (s s' : RSt) (e : Nat) (w w' : World) : Prop where
  rk : RackAt G s' w'
  n : s'.n = s.n
  cut : s'.cut = s.cut
  ti : TInv g gen S (S ++ [t]) hit s'
  out : OutR g gen s s'
  ok : e = 0 ∧ TInv g gen (S ++ [t]) (S ++ [t]) hit s' ∨ e = 71 ∧ s.cut = true
  tl : ∃ v', TlAt B tb G g gen v' (if e = 0 then S ++ [t] else S) (decide (e ≠ 0)) w' ∧ ∀ k, v'.ownBlock = some k → v.ownBlock = some k ∨ w.heap.size ≤ k
  fr : TO G (G + 2 + s.n) tb v w w'
theorem app_law (tb B G : Nat) (s : RSt) (g : Geo) (gen : Nat) (S : List ByteArray) (hit : Nat → Bool) (v : Value) (t : ByteArray) (w : World) (hT : TlAt B tb G g gen v S false w) (hR : RackAt G s w) (hi : TInv g gen S S hit s)
    (hB : G + 2 + s.n ≤ B) (hBw : B ≤ w.heap.size) (htb : G + 2 + s.n ≤ tb) (hfit : lenT S + partsN t.size ≤ g.t.toNat) :
    Calls Tryz.prog 14 #[.pointer (some ⟨tb, 0, none⟩), .string t] w fun r w' => ∃ (e : Nat) (s' : RSt), r = .returned (.int .i64 (e : Nat)) ∧ AppTo tb B G g gen S t hit v s s' e w w' := by
  obtain ⟨g1, g2, g3, g4, g5, g6, g7, g8⟩ := geo_n hi.gk
  have hlen : lenT (S ++ [t]) ≤ g.t.toNat := by rw [pre_len]; exact hfit
  have hls := len_le S
  refine (top_app tb B G s g gen v (tailTo gen S S.length) (S.length + 1) t w hT hR hi.gk (by rw [lenT_is]; omega) (by omega) (by rw [lenT_is]; exact hfit) hB hBw htb).mono ?_
  rintro r w' ⟨rfl, h1, v', h2, h3, h4⟩
  obtain ⟨q1, q2, q3, q4⟩ := hi.app (RecOk.of hi.gk hlen) hlen
  refine ⟨_, _, rfl, h1, (stepAll_n _ (fun d s => appD_n _ _ _ _ _) _ _).1, q2, q1, q3, q4, ⟨v', ?_, h4⟩, h3⟩
  unfold TlAt
  by_cases he : (appAll s g gen (tailTo gen S S.length) (S.length + 1) t).1 = 0
  · rw [if_pos he] at h2 ⊢
    rw [if_pos he] at h2
    rw [tailTo_snoc, List.length_append]
    exact h2
  · rw [if_neg he] at h2 ⊢
    rw [if_neg he] at h2
    exact h2
theorem app_full (tb B G : Nat) (g : Geo) (gen : Nat) (S : List ByteArray) (v : Value) (t : ByteArray) (w : World) (hT : TlAt B tb G g gen v S false w) (hg : gOk g gen) (hl : lenT S ≤ g.t.toNat) (ht : t.size ≤ 1000000) (hfit : g.t.toNat < lenT S + partsN t.size) :
    Calls Tryz.prog 14 #[.pointer (some ⟨tb, 0, none⟩), .string t] w fun r w' => r = .returned (.int .i64 6) ∧ Kept w w' := by
  obtain ⟨g1, g2, g3, g4, g5, g6, g7, g8⟩ := geo_n hg
  exact top_app_full tb B G g gen v (tailTo gen S S.length) (S.length + 1) t w hT hg (by rw [lenT_is]; omega) ht (by rw [lenT_is]; exact hfit)
theorem room_law (tb B G : Nat) (g : Geo) (gen : Nat) (S : List ByteArray) (v : Value) (br : Bool) (w : World) (hT : TlAt B tb G g gen v S br w) (hg : gOk g gen) (hl : lenT S ≤ g.t.toNat) :
    Calls Tryz.prog 22 #[.pointer (some ⟨tb, 0, none⟩)] w fun r w' => r = .returned (.int .i64 (((g.t.toNat - lenT S) * 34 : Nat) : Int)) ∧ Kept w w' := by
  obtain ⟨g1, g2, g3, g4, g5, g6, g7, g8⟩ := geo_n hg
  refine (room_any B tb G g gen v (tailTo gen S S.length) (S.length + 1) br w hT (by omega) g6 (by rw [lenT_is]; omega)).mono ?_
  rintro r w' ⟨rfl, h⟩
  refine ⟨?_, h⟩
  rw [lenT_is]
  have e : (g.t - ((lenT S : Nat) : Int)) * 34 = (((g.t.toNat - lenT S) * 34 : Nat) : Int) := by omega
  rw [e]
/-- What Mend leaves. -/
structure MendTo (tb B G : Nat) (g : Geo) (gen : Nat) (S R L : List ByteArray) (hit : Nat → Bool) (v : Value) (s s' : RSt) (e : Nat) (w w' : World) : Prop where
  rk : RackAt G s' w'
  n : s'.n = s.n
  cut : s'.cut = s.cut
  ti : TInv g gen S R hit s'
  out : OutR g gen s s'
  ok : e = 0 ∧ TInv g gen L L (fun _ => false) s' ∨ e = 71 ∧ s.cut = true
  tl : TlAt B tb G g gen v L (decide (e ≠ 0)) w'
  fr : TO G (G + 2 + s.n) tb v w w'
theorem must_ok {gen : Nat} {L : List ByteArray} (h : RecOk gen L) : ∀ x ∈ tailTo gen L L.length, x.size ≤ 100000 ∧ Sect (padL x) := by
  intro x hx
  obtain ⟨j, hj, rfl⟩ := List.getElem_of_mem hx
  have hj' : j < lenT L := by rw [← lenT_is gen]; exact hj
  obtain ⟨k, i, hk, hi, rfl⟩ := off_find L _ j hj'
  have e : (tailTo gen L L.length)[offK L k + i] = (ptOf gen k (txK L k) i).txt := by
    have := tailTo_get gen L k i hi L.length (by omega)
    rw [List.getElem?_eq_getElem hj] at this
    exact Option.some.inj this
  rw [e]
  exact ⟨by rw [Pt.txt_size (h.ok hk hi)]; decide, .inr ⟨_, h.ok hk hi, padL_txt (h.ok hk hi)⟩⟩
theorem mend_law (tb B G : Nat) (s : RSt) (g : Geo) (gen : Nat) (S R L : List ByteArray) (hit : Nat → Bool) (v : Value) (w : World) (hT : TlAt B tb G g gen v L false w) (hR : RackAt G s w) (hi : TInv g gen S R hit s) (hL : L = S ∨ L = R)
    (hB : G + 2 + s.n ≤ B) (htb : G + 2 + s.n ≤ tb) :
    Calls Tryz.prog 19 #[.pointer (some ⟨tb, 0, none⟩)] w fun r w' => ∃ (e : Nat) (s' : RSt), r = .returned (.int .i64 (e : Nat)) ∧ MendTo tb B G g gen S R L hit v s s' e w w' := by
  obtain ⟨g1, g2, g3, g4, g5, g6, g7, g8⟩ := geo_n hi.gk
  have hlR : PreK L R := by rcases hL with rfl | rfl; exact hi.pre; exact PreK.rfl' _
  have hll := Nat.le_trans hlR.len hi.len
  refine (top_mend tb B G s g gen v (tailTo gen L L.length) (L.length + 1) w hT hR hi.gk (by rw [lenT_is]; omega) (must_ok (hlR.ok hi.rk)) hB htb hi.sect).mono ?_
  rintro r w' ⟨rfl, h1, h2, h3, h4⟩
  obtain ⟨q1, q2, q3, q4⟩ := hi.mend hL
  exact ⟨_, _, rfl, h1, (stepAll_n _ (fun d s => mendD_n _ _ _ _ _ _) _ _).1, q2, q1, q3, q4, h2, h3⟩
/-- What Begin leaves. -/
structure BegunTo (G : Nat) (g : Geo) (gen : Nat) (s s' : RSt) (tb : Nat) (v : Value) (w w' : World) : Prop where
  rk : RackAt G s' w'
  n : s'.n = s.n
  cut : s'.cut = false
  ti : TInv g gen [] [] (fun _ => false) s'
  out : OutR g gen s s'
  lo : w.heap.size ≤ tb
  tl : TlAt w.heap.size tb G g gen v [] false w'
  on : Only G (G + 2 + s.n) w w'
theorem begin_law (G : Nat) (s : RSt) (g : Geo) (gen : Nat) (w : World) (hR : RackAt G s w) (hi : TInv g gen [] [] (fun _ => true) s) (hc : s.cut = false) :
    Calls Tryz.prog 12 #[.pointer (some ⟨G + 1, 0, none⟩), .agg #[.int .i64 g.n, .int .i64 g.p, .int .i64 g.m, .int .i64 g.t], .int .u64 (gen : Nat)] w fun r w' =>
      ∃ (tb : Nat) (v : Value) (s' : RSt), r = .returned (.tuple #[.pointer (some ⟨tb, 0, none⟩), .int .i64 0]) ∧ BegunTo G g gen s s' tb v w w' := by
  refine (begin_any G s g gen w hR hi.gk hi.fit hi.sect).mono ?_
  rintro r w' ⟨p, rfl, hb, h1, h2⟩
  obtain ⟨q1, q2, q3, q4⟩ := hi.mend (.inl rfl)
  have e0 : (tailTo gen [] ([] : List ByteArray).length) = tailTo gen [] 0 := rfl
  rw [e0] at q1 q2 q3 q4
  rcases q4 with ⟨z, q4⟩ | ⟨_, z⟩
  · rcases hb with ⟨_, tb, v, rfl, b1, b2⟩ | ⟨b0, _⟩
    · rw [z]
      exact ⟨tb, v, _, rfl, h1, (stepAll_n _ (fun d s => mendD_n _ _ _ _ _ _) _ _).1, q2.trans hc, q4, q3, b1, b2, h2⟩
    · exact absurd z b0
  · rw [hc] at z; cases z
/-- What Load leaves: nothing, or a tail of these records. -/
inductive LoadedTo (G : Nat) (g : Geo) (gen : Nat) (S R : List ByteArray) (w w' : World) : Value → Value → Nat → Prop
  | lost : LoadedTo G g gen S R w w' (.pointer none) (.slice none 0 0) 90
  | got (L : List ByteArray) (tb B c : Nat) (v : Value) (a : Option Addr) (hL : L = S ∨ L = R) (h1 : w.heap.size ≤ B) (h2 : B ≤ tb) (hT : TlAt B tb G g gen v L false w') (hS : Strs w' a L) (ha : ∀ q o, a = some ⟨q, o, none⟩ → w.heap.size ≤ q ∧ q < B) :
      LoadedTo G g gen S R w w' (.pointer (some ⟨tb, 0, none⟩)) (.slice a L.length c) 0
theorem load_law (G : Nat) (s : RSt) (g : Geo) (gen : Nat) (S R : List ByteArray) (hit : Nat → Bool) (w : World) (hR : RackAt G s w) (hi : TInv g gen S R hit s) (hdn : s.down = false) :
    Calls Tryz.prog 17 #[.pointer (some ⟨G + 1, 0, none⟩), .agg #[.int .i64 g.n, .int .i64 g.p, .int .i64 g.m, .int .i64 g.t], .int .u64 (gen : Nat)] w fun r w' =>
      ∃ (p sl : Value) (er : Nat), r = .returned (.tuple #[p, sl, .int .i64 (er : Nat)]) ∧ Hid (LoadedTo G g gen S R w w' p sl er ∧ Kept w w' ∧ ((∃ d ∈ drvL g gen, hit d.toNat = false) → er = 0) ∧ ((∀ d ∈ drvL g gen, ¬ Rgt gen R (fN g gen) s d.toNat 0) → er = 90)) := by
  obtain ⟨g1, g2, g3, g4, g5, g6, g7, g8⟩ := geo_n hi.gk
  obtain ⟨m1, m2⟩ := hi.most hdn
  have hR512 : lenT R ≤ 512 := by have := hi.len; omega
  have hS512 : lenT S ≤ 512 := Nat.le_trans hi.pre.len hR512
  have hSok := hi.pre.ok hi.rk
  have hparts : ∀ {L : List ByteArray}, RecOk gen L → ∀ x ∈ L, partsN x.size ≤ 512 := by
    intro L h x hx
    obtain ⟨j, hj, rfl⟩ := List.getElem_of_mem hx
    have := h.parts (k := j + 1) (by omega)
    have e : txK L (j + 1) = L[j] := by
      unfold txK
      rw [List.getD_eq_getElem?_getD, List.getElem?_cons_succ, List.getElem?_eq_getElem hj]
      rfl
    rw [e] at this
    exact this
  have hml : ∀ {L : List ByteArray}, lenT L ≤ 512 → (ByteArray.empty :: L).length ≤ 512 := by
    intro L h
    have := len_le L
    rw [List.length_cons]
    omega
  refine (load_any G s g gen w hR hi.gk hi.fit (fun d hd => ⟨hi.fine hd, (hi.tells hdn hd).1, ?_⟩) ?_ ?_).mono ?_
  · rcases (hi.tells hdn hd).2.1 with e | e | e
    · rw [e]; decide
    · rw [e]; exact hml hS512
    · rw [e]; exact hml hR512
  · rcases m1 with e | e | e
    · rw [e]; exact fun x hx => absurd hx (by simp)
    · rw [e]; exact hparts hSok
    · rw [e]; exact hparts hi.rk
  · rcases m1 with e | e | e
    · rw [e]; decide
    · rw [e]; exact hml hS512
    · rw [e]; exact hml hR512
  · rintro r w' ⟨p, sl, er, rfl, hl, hk⟩
    refine ⟨p, sl, er, rfl, ?_, hk, ?_, ?_⟩
    · rcases hl with ⟨_, rfl, rfl, rfl⟩ | ⟨hne, rfl, tb, v, a, c, B, rfl, rfl, h1, h2, h3, h4, h5⟩
      · exact .lost
      · rcases m1 with e | e | e
        · exact absurd e hne
        · rw [e] at h3 h4 ⊢
          exact .got S tb B c v a (.inl rfl) h1 h2 h3 h4 h5
        · rw [e] at h3 h4 ⊢
          exact .got R tb B c v a (.inr rfl) h1 h2 h3 h4 h5
    · intro hu
      rcases hl with ⟨e, _⟩ | ⟨_, e, _⟩
      · exact absurd e (m2 hu)
      · exact e
    · intro hz
      rcases hl with ⟨_, _, _, e⟩ | ⟨hne, _⟩
      · exact e
      · exact absurd (hi.gone hdn hz) hne
theorem miss_law (tb B G : Nat) (s : RSt) (g : Geo) (gen : Nat) (S : List ByteArray) (v : Value) (br : Bool) (w : World) (hT : TlAt B tb G g gen v S br w) (hR : RackAt G s w) (hi : TInv g gen S S (fun _ => false) s) :
    Calls Tryz.prog 20 #[.pointer (some ⟨tb, 0, none⟩)] w fun r w' => ∃ (a : Option Addr) (c e : Nat), r = .returned (.tuple #[.slice a 0 c, .int .i64 (e : Nat)]) ∧ Hid (Kept w w' ∧ (e = 0 ∨ e = 71 ∧ s.down = true)) := by
  obtain ⟨g1, g2, g3, g4, g5, g6, g7, g8⟩ := geo_n hi.gk
  obtain ⟨m1, m2⟩ := hi.miss
  refine (top_miss tb B G s g gen v (tailTo gen S S.length) (S.length + 1) br w hT hR hi.gk (by rw [lenT_is]; have := hi.len; omega) hi.sect (by rw [m1]; decide)).mono ?_
  rintro r w' ⟨a, c, rfl, h1, h2, h3⟩
  have e : (if (missAll s g gen (tailTo gen S S.length)).1 = 0 then (missAll s g gen (tailTo gen S S.length)).2 else []) = [] := by rw [m1]; split <;> rfl
  rw [e]
  exact ⟨a, c, _, rfl, h1, m2⟩
end Go.Proofs.YtmgkkoajjdgmbaaGreatDoor

