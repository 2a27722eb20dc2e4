/- TailKeeps' walk. -/
import Derived.Test.YtmgkkoajjdgmbaaGreatDoorPart43
import Derived.Test.YtmgkkoajjdgmbaaGreatDoorPart44
import Derived.Test.YtmgkkoajjdgmbaaGreatDoorPart45
import Derived.StillTailTactics
namespace Go.Proofs.YtmgkkoajjdgmbaaGreatDoor
open Go.RowKit Go.Shelf Sm Wr _root_.Go.Proofs.YtmgkkoajjdgmbaaGreatDoor.Nm
set_option linter.unusedVariables false
theorem gK_may (N p : Nat) (h1 : 1 ≤ N) (h2 : N ≤ 6) (h3 : p < N) : (gK N p).may = true := (gK N p).may_iff.2 ⟨by show (1 : Int) ≤ N; omega, by show (N : Int) ≤ 12; omega, by show (0 : Int) ≤ p; omega, by show (p : Int) < N; omega, by show (2 : Int) ≤ 32; decide, by show (32 : Int) ≤ 512; decide, by show (74 : Int) ≤ 4096; decide, by show (10 : Int) + 2 * 32 ≤ 74; decide⟩
/-- What Load leaves where a drive of the tail is unhit. -/
structure LodS (G : Nat) (g : Geo) (gen : Nat) (S R L : List ByteArray) (hit : Nat → Bool) (s : RSt) (tb B : Nat) (v : Value) (a : Option Addr) (w w' : World) : Prop where
  hL : L = S ∨ L = R
  h1 : w.heap.size ≤ B
  h2 : B ≤ tb
  st : Sit tb B G g gen S R L hit s v false w'
  hS : Strs w' a L
  ha : ∀ q o, a = some ⟨q, o, none⟩ → w.heap.size ≤ q ∧ q < B
  kp : Kept w w'
theorem load_unhit (G : Nat) (s : RSt) (g : Geo) (gen : Nat) (S R : List ByteArray) (hit : Nat → Bool) (w : World) (hR : RackAt G s w) (hi : TInv g gen S R hit s) (hdn : s.down = false) (hu : ∃ d ∈ drvL g gen, hit d.toNat = false) :
    Calls Tryz.prog 17 #[.pointer (some ⟨G + 1, 0, none⟩), .agg #[.int .i64 g.n, .int .i64 g.p, .int .i64 g.m, .int .i64 g.t], .int .u64 (gen : Nat)] w fun r w' =>
      ∃ (L : List ByteArray) (tb B c : Nat) (v : Value) (a : Option Addr), r = .returned (.tuple #[.pointer (some ⟨tb, 0, none⟩), .slice a L.length c, .int .i64 0]) ∧ LodS G g gen S R L hit s tb B v a w w' := by
  refine (load_sit G s g gen S R hit w hR hi hdn).mono ?_
  rintro r w' ⟨p, sl, er, rfl, hl, hk, k1, k2⟩
  have e := k1 hu
  cases hl with
  | lost => cases e
  | got L tb B c v a hL h1 h2 st hS ha => exact ⟨L, tb, B, c, v, a, rfl, hL, h1, h2, st, hS, ha, hk⟩
theorem cutS_n (s : RSt) (k : Int) : (s.cutS k).n = s.n := by unfold RSt.cutS; split <;> rfl
theorem strs_only {lo hi : Nat} {w w' : World} {a : Option Addr} {ss : List ByteArray} (k : Only lo hi w w') (h : Strs w a ss) (hb : ∀ q o, a = some ⟨q, o, none⟩ → hi ≤ q) : Strs w' a ss := by
  rcases h with h | ⟨b, o, e, h⟩
  · exact .inl h
  · exact .inr ⟨b, o, e, fun i hi' => by rw [k.cell (p := ⟨b, o + i, none⟩) (block_lt_of_cell (h i hi')) (.inr (hb b o e))]; exact h i hi'⟩
theorem strs_to {lo hi b : Nat} {v : Value} {w w' : World} {a : Option Addr} {ss : List ByteArray} (k : TO lo hi b v w w') (h : Strs w a ss) (hb : ∀ q o, a = some ⟨q, o, none⟩ → hi ≤ q ∧ q ≠ b ∧ v.ownBlock ≠ some q) : Strs w' a ss := by
  rcases h with h | ⟨c, o, e, h⟩
  · exact .inl h
  · obtain ⟨h1, h2, h3⟩ := hb c o e
    exact .inr ⟨c, o, e, fun i hi' => by rw [k.cell (p := ⟨c, o + i, none⟩) (block_lt_of_cell (h i hi')) (.inr h1) h2 h3]; exact h i hi'⟩
set_option maxHeartbeats 8000000 in
set_option maxRecDepth 100000 in
theorem tailKeeps_walk (a0 a1 a2 : Int) (a3 : Option Addr) (len3 cap3 : Nat) (z3 : List TStp) (a4 : Option Addr) (len4 cap4 : Nat) (z4 : List Int) (w : World) (w0 : (Lit.int .u8 a0).wf = true) (w1 : (Lit.int .u8 a1).wf = true) (w2 : (Lit.int .u32 a2).wf = true) (w3 : IsTSteps w a3 len3 cap3 z3) (w4 : IsRow .u8 w a4 len4 cap4 z4) :
    Calls Tryz.prog 3 #[.int .u8 a0, .int .u8 a1, .int .u32 a2, .slice a3 len3 cap3, .slice a4 len4 cap4] w fun e w' => e = .returned (.bool true) ∧ Kept w w' := by
  have hb0 := bounds_u8 w0
  have hb1 := bounds_u8 w1
  have hb2 := bounds_u32 w2
  obtain ⟨hS, hl3, hm3⟩ := w3.stps
  obtain ⟨hZ, hl4, hm4, hz4⟩ := w4.ints
  obtain ⟨dn, rfl⟩ : ∃ m : Nat, a0 = m := ⟨a0.toNat, by omega⟩
  obtain ⟨pn, rfl⟩ : ∃ m : Nat, a1 = m := ⟨a1.toNat, by omega⟩
  obtain ⟨gen, rfl⟩ : ∃ m : Nat, a2 = m := ⟨a2.toNat, by omega⟩
  have hg4 : gen ≤ 4294967295 := by omega
  have HAL := Lib.hid (fun W => alive_any W)
  have HHV := Lib.hid (theavy_any a3 len3 cap3 z3 hl3 hm3 w hS)
  have HS := Lib.hid hS
  have HL3 := Lib.hid hl3
  have HZ := Lib.hid hZ
  have HL4 := Lib.hid hl4
  have HZ4 := Lib.hid hz4
  have hm4' : len4 ≤ 9223372036854775807 := by unfold maxLen at hm4; exact hm4
  clear hS hl3 hm3 hZ hl4 hm4 hz4 w0 w1 w2 w3 w4
  generalize z4.take len4 = zs4 at *
  have r1 : IntKind.i64.wrap (dn : Int) = (dn : Int) := IntWalk.i64_in _ (by omega)
  obtain ⟨N, hN⟩ : ∃ N : Nat, 1 + (dn : Int) % 6 = N := ⟨1 + dn % 6, by omega⟩
  have hN1 : 1 ≤ N := by omega
  have hN6 : N ≤ 6 := by omega
  have r2 : IntKind.i64.wrap (pn : Int) = (pn : Int) := IntWalk.i64_in _ (by omega)
  obtain ⟨p, hp⟩ : ∃ p : Nat, p = pn % N := ⟨_, rfl⟩
  have hpN : p < N := by rw [hp]; exact Nat.mod_lt _ (by omega)
  have r3 : Int.tmod (pn : Int) (N : Int) = (p : Int) := by rw [Int.tmod_eq_emod_of_nonneg (by omega), hp]; exact (Int.natCast_emod pn N).symm
  have r4 : (pn : Int) % (N : Int) = (p : Int) := by rw [hp]; exact (Int.natCast_emod pn N).symm
  have r5 : IntKind.i64.wrap (p : Int) = (p : Int) := IntWalk.i64_in _ (by omega)
  have r6 : ((N : Int) == 0) = false := by rw [beq_eq_false_iff_ne]; omega
  clear hp
  go_enter Tryz.func3, Tryz.ntmps3
  by_cases hhv : theavyB z3 = true
  · rw [hhv] at HHV
    go_wp2_with (first
      | (go_at_call 8; refine HHV.out.mono ?_; rintro e u1 ⟨rfl, ku1⟩)
      | (go_at_call 9; refine (HAL.out _).mono ?_; rintro e u9 ⟨rfl, k9⟩))
    go_ret
    exact ⟨rfl, ku1.trans k9⟩
  have hhv' : theavyB z3 = false := by simpa using hhv
  have HNH := Lib.hid (theavy_not hhv')
  rw [hhv'] at HHV
  clear hhv hhv'
  by_cases hb4 : 30 < len4
  · have d1 : decide ((30 : Int) < (len4 : Int)) = true := decide_eq_true (by omega)
    have f1 : decide (30 < len4) = true := decide_eq_true hb4
    go_wp2_with (first
      | (go_at_call 8; refine HHV.out.mono ?_; rintro e u1 ⟨rfl, ku1⟩)
      | (go_at_call 9; refine (HAL.out _).mono ?_; rintro e u9 ⟨rfl, k9⟩))
    go_ret
    exact ⟨rfl, ku1.trans k9⟩
  have d1 : decide ((30 : Int) < (len4 : Int)) = false := decide_eq_false (by omega)
  have f1 : decide (30 < len4) = false := decide_eq_false hb4
  by_cases hg0 : gen = 0
  · have e1 : ((gen : Int) == 0) = true := by rw [hg0]; rfl
    go_wp2_with (first
      | (go_at_call 8; refine HHV.out.mono ?_; rintro e u1 ⟨rfl, ku1⟩)
      | (go_at_call 9; refine (HAL.out _).mono ?_; rintro e u9 ⟨rfl, k9⟩))
    go_ret
    exact ⟨rfl, ku1.trans k9⟩
  have e1 : ((gen : Int) == 0) = false := by rw [beq_eq_false_iff_ne]; omega
  have hn30 : len4 ≤ 30 := by omega
  have HOK : Hid (gOk (gK N p) gen) := ⟨gK_may N p hN1 hN6 hpN, by omega, by omega⟩
  go_upto_region 5 with (go_at_call 8; refine HHV.out.mono ?_; rintro e u1 ⟨rfl, ku1⟩; have K1 := Lib.hid ku1; clear ku1)
  (try rw [hN])
  have hgc : Hid (GeoAt (u1.alloc (.cells #[.int .i64 (N : Int), .int .i64 (p : Int), .int .i64 74, .int .i64 32] 28)) u1.heap.size (gK N p)) := GeoAt.laid u1 28 (gK N p)
  have K := Lib.hid (K1.out.alloc (.cells #[.int .i64 (N : Int), .int .i64 (p : Int), .int .i64 74, .int .i64 32] 28))
  generalize hwb : u1.alloc (.cells #[.int .i64 (N : Int), .int .i64 (p : Int), .int .i64 74, .int .i64 32] 28) = wb at *
  have HGB : Hid (∀ W, Kept wb W → W.cell? ⟨u1.heap.size, 0, none⟩ = some (.int .i64 (N : Int)) ∧ W.cell? ⟨u1.heap.size, 1, none⟩ = some (.int .i64 (p : Int)) ∧ W.cell? ⟨u1.heap.size, 2, none⟩ = some (.int .i64 74) ∧ W.cell? ⟨u1.heap.size, 3, none⟩ = some (.int .i64 32)) := fun W k => by
    obtain ⟨c0, c1, c2, c3⟩ := hgc.out.kept k
    exact ⟨c0, c1, c2, c3⟩
  generalize u1.heap.size = gb at *
  obtain ⟨c0, c1, c2, c3⟩ := HGB.out wb (Kept.refl _)
  have HMY : Hid (Calls Tryz.prog 10 #[.agg #[.int .i64 (N : Int), .int .i64 (p : Int), .int .i64 74, .int .i64 32]] wb fun e w' => e = .returned (.bool true) ∧ Kept wb w') := by
    have h := gMay_any (gK N p) wb
    rw [HOK.out.1] at h
    exact h
  clear hwb hgc hN r1 r2 r3 r4 r5 r6 d1 f1 e1 HHV K1
  go_upto_region 7 with (go_at_call 10; refine HMY.out.mono ?_; rintro e u2 ⟨rfl, ku2⟩; have K2 := Lib.hid ku2; clear ku2)
  clear HMY c0 c1 c2 c3
  have KU : Hid (Kept w u2) := K.out.trans K2.out
  have HN7 := Lib.hid (pNew_ok N 74 (by omega) (by omega) (by decide) (by decide) u2)
  have HGC : Hid (∀ W, Kept u2 W → W.cell? ⟨gb, 0, none⟩ = some (.int .i64 (N : Int)) ∧ W.cell? ⟨gb, 1, none⟩ = some (.int .i64 (p : Int)) ∧ W.cell? ⟨gb, 2, none⟩ = some (.int .i64 74) ∧ W.cell? ⟨gb, 3, none⟩ = some (.int .i64 32)) := fun W k => HGB.out W (K2.out.trans k)
  have HZK : Hid (∀ W, Kept u2 W → Ints .u8 W a4 zs4) := fun W k => HZ.out.kept (KU.out.trans k)
  have HSK : Hid (∀ W, Kept u2 W → TStps W a3 z3) := fun W k => HS.out.kept (KU.out.trans k)
  generalize hG : u2.heap.size = G at *
  have HG : Hid (u2.heap.size ≤ G) := Nat.le_of_eq hG
  clear hG HZ HS HGB K K2
  have q1 : IntKind.u64.wrap (gen : Int) = (gen : Int) := IntWalk.u64_in _ (by omega)
  go_upto_region 8 with (go_at_call 11; refine HN7.out.mono ?_; rintro e u3 ⟨rfl, hk3, hr3, hs3⟩; have K3 := Lib.hid hk3; have R3 := Lib.hid hr3; clear hk3 hr3 hs3)
  obtain ⟨c0, c1, c2, c3⟩ := HGC.out u3 K3.out
  have HB4 : Hid (Calls Tryz.prog 12 #[.pointer (some ⟨G + 1, 0, none⟩), .agg #[.int .i64 (N : Int), .int .i64 (p : Int), .int .i64 74, .int .i64 32], .int .u64 (gen : Int)] u3 fun r w' => ∃ (tb : Nat) (v : Value) (s' : RSt), r = .returned (.tuple #[.pointer (some ⟨tb, 0, none⟩), .int .i64 0]) ∧ BegS G (gK N p) gen (rack0 N 74) s' tb v u3 w') :=
    begin_sit G (rack0 N 74) (gK N p) gen u3 R3.out (new_zero HOK.out N 74 rfl rfl) rfl
  go_upto_region 9 with (go_at_call 12; refine HB4.out.mono ?_; rintro e u4 ⟨tb, v4, s4, rfl, hb4'⟩; have B4 := Lib.hid hb4'; clear hb4')
  have K4 := Lib.hid (only_low HG.out K3.out B4.out.on)
  have S4 := Lib.hid B4.out.st
  have C4 := Lib.hid B4.out.cut
  have T4 : Hid (u3.heap.size ≤ tb) := B4.out.lo
  clear HB4 HN7 R3 K3 B4 c0 c1 c2 c3
  generalize u3.heap.size = B at *
  go_upto_region 13 with fail
  have HNN : Hid (∀ {S R : List ByteArray} {hit : Nat → Bool} {s : RSt}, TInv (gK N p) gen S R hit s → s.n = N) := fun h => by have := h.fit.1; have e : (gK N p).n = (N : Int) := rfl; omega
  go_loopg [15, 17, 18] len3 (fun gh tv av iv wr => ∃ (k tb B : Nat) (A : List ByteArray) (s : RSt) (v : Value) (al : Option Addr) (cl : Nat), k + gh = len3 ∧ iv = .int .i64 (k : Nat) ∧ tv = .pointer (some ⟨tb, 0, none⟩) ∧ av = .slice al A.length cl ∧ Hid (Kept u2 wr ∧ Sit tb B G (gK N p) gen A A A (fun _ => false) s v false wr ∧ s.cut = false ∧ B ≤ tb ∧ Strs wr al A ∧ ∀ q o, al = some ⟨q, o, none⟩ → G + 2 + N ≤ q ∧ q < B))
  case atStart => exact ⟨0, tb, B, [], s4, v4, none, 0, by omega, rfl, rfl, rfl, K4.out, S4.out, C4.out, T4.out, .inl rfl, fun q o e => by cases e⟩
  case round =>
    clear K4 S4 C4 T4
    obtain ⟨k, tb, B, A, s, v, al, cl, hkn, rfl, rfl, rfl, HR⟩ := hrel
    have KW := Lib.hid HR.out.1
    have SW := Lib.hid HR.out.2.1
    have CW := Lib.hid HR.out.2.2.1
    have BT := Lib.hid HR.out.2.2.2.1
    have AS := Lib.hid HR.out.2.2.2.2.1
    have AB := Lib.hid HR.out.2.2.2.2.2
    clear HR
    have hlt0 := SW.out.ti.len
    have HLT : Hid (lenT A ≤ 32) := hlt0
    have hLL := len_le A
    clear hlt0
    cases gk with
    | zero =>
      obtain rfl : k = len3 := by omega
      have b1 : decide ((k : Int) < (k : Int)) = false := decide_eq_false (by omega)
      have b1N : decide (k < k) = false := decide_eq_false (by omega)
      go_wp2_with (go_at_call 9; refine (HAL.out _).mono ?_; rintro e u9 ⟨rfl, k9⟩)
      go_ret
      exact ⟨rfl, KU.out.trans (KW.out.trans k9)⟩
    | succ gh =>
      have hlt : k < len3 := by omega
      have b1 : decide ((k : Int) < (len3 : Int)) = true := decide_eq_true (by omega)
      have b1N : decide (k < len3) = true := decide_eq_true hlt
      have hkw : IntKind.i64.wrap ((k : Int) + 1) = ((k + 1 : Nat) : Int) := by rw [IntWalk.i64_in _ (by have := HNH.out.1; have := HL3.out; omega)]; omega
      have xi1 : (k : Int) < (len3 : Int) := by omega
      have xi0 : (0 : Int) ≤ (k : Int) := by omega
      have hwi : ((k : Int)).toNat = k := by omega
      rcases HSK.out u2 (Kept.refl _) with h0 | ⟨zb, zo, rfl, hzc⟩
      · have := HL3.out
        rw [h0] at this
        exact absurd hlt (by rw [← this]; simp)
      · have hkz : k < z3.length := by rw [HL3.out]; exact hlt
        have HST := Lib.hid (fun W (kk : Kept u2 W) => (hzc k hkz).kept kk)
        have hxs := HNH.out.2 k hkz
        have HBO := Lib.hid ((hzc k hkz).bo)
        have HBG := Lib.hid ((hzc k hkz).bg)
        generalize z3[k] = st at *
        clear hzc
        obtain ⟨op, sg, x, rx⟩ := st
        have hx4 : x.size ≤ 4096 := hxs
        have hop : op ≤ 255 := HBO.out
        have HCE : Hid (∀ W, Kept u2 W → W.cell? ⟨zb, zo + k * 7, none⟩ = some (.int .u8 (op : Nat)) ∧ W.cell? ⟨zb, zo + k * 7 + 1, none⟩ = some (.int .u64 (sg : Nat)) ∧ W.cell? ⟨zb, zo + k * 7 + 2, none⟩ = some (.string x)) := fun W kk => ⟨(HST.out W kk).c0, (HST.out W kk).c1, (HST.out W kk).c2⟩
        clear hxs HBO HST
        go_upto_region 15 with fail
        go_cut [19] from 78 to 221 (fun mv wx => ∃ (am : Option Addr) (cm : Nat), mv = .slice am (A.length + 1) cm ∧ Hid (Kept wr wx ∧ Gat wr.heap.size (.slice am (A.length + 1) cm) (A ++ [x]) wx))
        case first =>
          have HAL1 : Hid (A.length ≤ 1000000) := by have := HLT.out; show _ ≤ _; omega
          have HE : Hid (Gat wr.heap.size (.slice (some ⟨wr.heap.size, 0, none⟩) 0 0) [] (wr.alloc (.cells #[] 9)).drew ∧ Kept wr (wr.alloc (.cells #[] 9)).drew) := ⟨(Gat.made (Kept.refl wr)).kept (Kept.refl _).drew, ((Kept.refl wr).alloc _).drew⟩
          have HET : Hid (Gat wr.heap.size (.slice (some ⟨wr.heap.size, 0, none⟩) 0 0) [] ((wr.alloc (.cells #[] 9)).alloc (.cells #[.string x] 9)).drew ∧ Kept wr ((wr.alloc (.cells #[] 9)).alloc (.cells #[.string x] 9)).drew ∧ ((wr.alloc (.cells #[] 9)).alloc (.cells #[.string x] 9)).drew.cell? ⟨wr.heap.size + 1, 0, none⟩ = some (.string x)) := by
            refine ⟨((Gat.made (Kept.refl wr)).kept ((Kept.refl _).alloc _)).kept (Kept.refl _).drew, (((Kept.refl wr).alloc _).alloc _).drew, ?_⟩
            have h := newT_cell (wr.alloc (.cells #[] 9)) #[.string x] 9 0 _ _ rfl rfl
            rw [size_alloc] at h
            exact cell_keptT h (Kept.refl _).drew
          have HTE : Hid (Gat wr.heap.size (.slice (some ⟨wr.heap.size + 1, 0, none⟩) 0 0) [] ((wr.alloc (.cells #[.string x] 9)).alloc (.cells #[] 9)).drew ∧ Kept wr ((wr.alloc (.cells #[.string x] 9)).alloc (.cells #[] 9)).drew ∧ ((wr.alloc (.cells #[.string x] 9)).alloc (.cells #[] 9)).drew.cell? ⟨wr.heap.size, 0, none⟩ = some (.string x)) := by
            refine ⟨?_, (((Kept.refl wr).alloc _).alloc _).drew, cell_keptT (newT_cell wr #[.string x] 9 0 _ _ rfl rfl) (((Kept.refl _).alloc _).drew)⟩
            have h := Gat.made ((Kept.refl wr).alloc (.cells #[.string x] 9))
            rw [size_alloc] at h
            exact h.kept (Kept.refl _).drew
          have HET' : Hid (Gat wr.heap.size (.slice (some ⟨wr.heap.size, 0, none⟩) 0 0) [] ((wr.alloc (.cells #[] 9)).alloc (.cells #[.string x] 9)).drew ∧ Kept wr ((wr.alloc (.cells #[] 9)).alloc (.cells #[.string x] 9)).drew) := ⟨HET.out.1, HET.out.2.1⟩
          have HTE' : Hid (Gat wr.heap.size (.slice (some ⟨wr.heap.size + 1, 0, none⟩) 0 0) [] ((wr.alloc (.cells #[.string x] 9)).alloc (.cells #[] 9)).drew ∧ Kept wr ((wr.alloc (.cells #[.string x] 9)).alloc (.cells #[] 9)).drew) := ⟨HTE.out.1, HTE.out.2.1⟩
          have o2 := (HCE.out wr KW.out).2.2
          have oE := (HCE.out (wr.alloc (.cells #[] 9)) (KW.out.trans ((Kept.refl wr).alloc _))).2.2
          go_region_law (first
            | (refine step_copyS (wr.alloc (.cells #[] 9)).drew rfl (.tmp 84) (.tmp 85) rfl wr.heap.size HE.out.2.size wr.heap.size HE.out.1 al cl A (by rfl) (by rfl) (AS.out.kept HE.out.2) HAL1.out ?_; intro v8 w8 H8; have K8 := Lib.hid (keptT_above HE.out.2 H8.out.2 (fun r hr => by have := Option.some.inj hr; omega)); have c8 := (HCE.out w8 (KW.out.trans K8.out)).2.2; have G8 := Lib.hid H8.out.1; clear H8)
            | (refine step_copyS ((wr.alloc (.cells #[] 9)).alloc (.cells #[.string x] 9)).drew rfl (.tmp 84) (.tmp 85) rfl wr.heap.size HET'.out.2.size wr.heap.size HET'.out.1 al cl A (by rfl) (by rfl) (AS.out.kept HET'.out.2) HAL1.out ?_; intro v8 w8 H8; have K8 := Lib.hid (keptT_above HET'.out.2 H8.out.2 (fun r hr => by have := Option.some.inj hr; omega)); have c8 := (HCE.out w8 (KW.out.trans K8.out)).2.2; have G8 := Lib.hid H8.out.1; have cg : w8.cell? ⟨wr.heap.size + 1, 0, none⟩ = some (.string x) := (World.cell?_of_block (w := ((wr.alloc (.cells #[] 9)).alloc (.cells #[.string x] 9)).drew) (a := ⟨wr.heap.size + 1, 0, none⟩) (H8.out.2.block (wr.heap.size + 1) (block_lt_of_cell HET.out.2.2) (fun e => by have := Option.some.inj e; omega))).trans HET.out.2.2; clear H8)
            | (refine step_copyS ((wr.alloc (.cells #[.string x] 9)).alloc (.cells #[] 9)).drew rfl (.tmp 84) (.tmp 85) rfl wr.heap.size HTE'.out.2.size (wr.heap.size + 1) HTE'.out.1 al cl A (by rfl) (by rfl) (AS.out.kept HTE'.out.2) HAL1.out ?_; intro v8 w8 H8; have K8 := Lib.hid (keptT_above HTE'.out.2 H8.out.2 (fun r hr => by have := Option.some.inj hr; omega)); have c8 := (HCE.out w8 (KW.out.trans K8.out)).2.2; have G8 := Lib.hid H8.out.1; have cg' : w8.cell? ⟨wr.heap.size, 0, none⟩ = some (.string x) := (World.cell?_of_block (w := ((wr.alloc (.cells #[.string x] 9)).alloc (.cells #[] 9)).drew) (a := ⟨wr.heap.size, 0, none⟩) (H8.out.2.block wr.heap.size (block_lt_of_cell HTE.out.2.2) (fun e => by have := Option.some.inj e; omega))).trans HTE.out.2.2; clear H8)
            | (refine step_gats rfl (.tmp 86) (.tmp 92) rfl wr.heap.size (K8.out.alloc _).size v8 A (by rfl) (G8.out.kept ((Kept.refl _).alloc _)) x w8.heap.size (by rfl) (by rw [World.cell?_alloc_mark]; rfl) HAL1.out ?_; intro v9 w9 hG9 hg9; have K9 := Lib.hid (keptT_above (K8.out.alloc _) hg9 (fun r hr => (G8.out.lt r hr).1)); have G9 := Lib.hid hG9; clear hG9 hg9)
            | (refine step_gats rfl (.tmp 86) (.tmp 92) rfl wr.heap.size K8.out.size v8 A (by rfl) G8.out x (wr.heap.size + 1) (by rfl) cg HAL1.out ?_; intro v9 w9 hG9 hg9; have K9 := Lib.hid (keptT_above K8.out hg9 (fun r hr => (G8.out.lt r hr).1)); have G9 := Lib.hid hG9; clear hG9 hg9)
            | (refine step_gats rfl (.tmp 86) (.tmp 92) rfl wr.heap.size K8.out.size v8 A (by rfl) G8.out x wr.heap.size (by rfl) cg' HAL1.out ?_; intro v9 w9 hG9 hg9; have K9 := Lib.hid (keptT_above K8.out hg9 (fun r hr => (G8.out.lt r hr).1)); have G9 := Lib.hid hG9; clear hG9 hg9))
          all_goals
            go_wp2_with fail
            go_meet
            case rel =>
              obtain ⟨a9, c9, rfl, _⟩ := G9.out.strs
              have hl9 : (A ++ [x]).length = A.length + 1 := by simp
              have hG := G9.out
              rw [hl9] at hG ⊢
              exact ⟨a9, c9, rfl, K9.out, hG⟩
        case rest =>
          obtain ⟨am, cm, rfl, HM⟩ := hcut
          have KC := Lib.hid (KW.out.trans HM.out.1)
          have SC := Lib.hid (SW.out.kept HM.out.1)
          have AC := Lib.hid (AS.out.kept HM.out.1)
          have MC : Hid (Strs wc am (A ++ [x]) ∧ ∀ q o, am = some ⟨q, o, none⟩ → wr.heap.size ≤ q ∧ q < wc.heap.size) := by
            obtain ⟨a', c', e, hs⟩ := HM.out.2.strs
            have hlt := HM.out.2.lt
            injection e with e1 e2 e3
            subst e1
            exact ⟨hs, fun q o e => hlt q (by rw [e]; rfl)⟩
          have HWR : Hid (G + 2 + N ≤ wr.heap.size) := by have h1 := SW.out.hB; have h2 := SW.out.hBw; have h3 := HNN.out SW.out.ti; show _ ≤ _; omega
          obtain ⟨o0, o1, o2⟩ := HCE.out wc KC.out
          have r1 : IntKind.i64.wrap (op : Int) = (op : Int) := IntWalk.i64_in _ (by omega)
          have HCT := Lib.hid (cut_any G s (op : Int) (by omega) (by omega) wc SC.out.rk)
          have hsn : s.n = N := HNN.out SC.out.ti
          go_upto_region 17 with (go_at_call 13; refine HCT.out.mono ?_; rintro e u5 ⟨rfl, hr5, ho5⟩; have K5 := Lib.hid (only_low HG.out KC.out ho5); have O5 := Lib.hid ho5; have S5 := Lib.hid (SC.out.rack hr5 ho5 (SC.out.ti.cuts _) (cutS_n _ _)); clear hr5 ho5)
          clear o0 o1 o2 HCT r1
          obtain ⟨o0, o1, o2⟩ := HCE.out u5 K5.out
          by_cases hfit : lenT A + partsN x.size ≤ 32
          · have HAP := Lib.hid (S5.out.app x hfit)
            go_upto_region 18 with (go_at_call 14; refine HAP.out.mono ?_; rintro e u6 ⟨e6, s6, v6, rfl, hA6⟩; have A6 := Lib.hid hA6; clear hA6)
            have K6 := Lib.hid (S5.out.low HG.out K5.out A6.out.fr)
            obtain ⟨S1, R1, H1⟩ : ∃ S1 R1 : List ByteArray, Hid (RackAt G s6 u6 ∧ TInv (gK N p) gen S1 R1 (fun _ => false) s6 ∧ (e6 = 0 → S1 = A ++ [x] ∧ R1 = A ++ [x]) ∧ (S1 = A ++ [x] ∨ S1 = A) ∧ R1 = A ++ [x] ∧ (e6 = 0 ∨ e6 = 71)) := by
              rcases A6.out.st with ⟨e, q⟩ | ⟨e, _, q⟩
              · exact ⟨_, _, q.rk, q.ti, fun _ => ⟨rfl, rfl⟩, .inl rfl, rfl, .inl e⟩
              · exact ⟨_, _, q.rk, q.ti, fun h => absurd (e.symm.trans h) (by decide), .inr rfl, rfl, .inr e⟩
            -- the rows of all and more are as they were
            have AM6 : Hid (Strs u6 al A ∧ Strs u6 am (A ++ [x])) := by
              have hb := BT.out
              have hB := S5.out.hB
              have hn5 := HNN.out S5.out.ti
              have hno := S5.out.own
              refine ⟨strs_to A6.out.fr (strs_only O5.out AC.out fun q o e => by have := (AB.out q o e).1; omega) fun q o e => ?_, strs_to A6.out.fr (strs_only O5.out MC.out.1 fun q o e => by have := (MC.out.2 q o e).1; have := HWR.out; omega) fun q o e => ?_⟩
              · have h1 := AB.out q o e
                exact ⟨by omega, by omega, fun e2 => by have := (hno q e2).1; omega⟩
              · have h1 := MC.out.2 q o e
                have h2 := HWR.out
                have h3 := SW.out.hBw
                have h4 : tb < wr.heap.size := SW.out.tl.ty.lt
                exact ⟨by omega, by omega, fun e2 => by have h5 := (SW.out.own q e2).2; omega⟩
            have e6n : ((e6 : Int) == 6) = false := by rcases H1.out.2.2.2.2.2 with h | h <;> rw [h] <;> rfl
            have HLF := Lib.hid (lift_any G s6 u6 H1.out.1)
            go_upto_region 20 with (go_at_call 15; refine HLF.out.mono ?_; rintro e u7 ⟨rfl, hr7, ho7⟩; have K7 := Lib.hid (only_low HG.out K6.out ho7); have R7 := Lib.hid hr7; have O7 := Lib.hid ho7; clear hr7 ho7)
            have sg8 : sg ≤ 18446744073709551615 := by exact HBG.out
            obtain ⟨by1, hby1⟩ : ∃ by1 : Nat, by1 = sg % 256 := ⟨_, rfl⟩
            have r7 : IntKind.u8.wrap (sg : Int) = (by1 : Int) := by rw [IntKind.wrap_u8]; omega
            have hby1' : by1 ≤ 255 := by omega
            clear hby1 sg8 o0 o1 o2
            have k70 := Kept.refl u7
            have k7d : Kept u7 u7.drew := (Kept.refl _).drew
            have HSF : Hid (∀ W, Kept u2 W → W.cell? ⟨gb, 0, none⟩ = some (.int .i64 (N : Int)) ∧ W.cell? ⟨gb, 1, none⟩ = some (.int .i64 (p : Int)) ∧ W.cell? ⟨gb, 2, none⟩ = some (.int .i64 74) ∧ W.cell? ⟨gb, 3, none⟩ = some (.int .i64 32) ∧ W.cell? ⟨zb, zo + k * 7 + 1, none⟩ = some (.int .u64 (sg : Nat))) := fun W kk => ⟨(HGC.out W kk).1, (HGC.out W kk).2.1, (HGC.out W kk).2.2.1, (HGC.out W kk).2.2.2, (HCE.out W kk).2.1⟩
            have HLS := Lib.hid (lose_any G N p gen S1 R1 s6.liftS a4 len4 cap4 by1 zs4 u7.drew (R7.out.kept k7d) H1.out.2.1.lift (fun W o => HZK.out W (only_low HG.out (K7.out.trans k7d) o)) HL4.out HZ4.out hn30 hby1')
            obtain ⟨c0, c1, c2, c3, o1⟩ := HSF.out u7 K7.out
            obtain ⟨x0, x1, x2, x3, x4⟩ := HSF.out u7.drew (K7.out.trans k7d)
            go_still_tail 11, (by kernel_rfl)
            change wpList _ _ _ _ _ u7.drew
            go_wp2_with (first | (go_at_call 16; refine HLS.out.mono ?_; rintro e u8 ⟨rfl, s8, hit8, hl8⟩; have L8 := Lib.hid hl8; have K8 := Lib.hid (only_low HG.out (K7.out.trans k7d) hl8.on); clear hl8))
            have HSZ : Hid (wc.heap.size ≤ u8.heap.size) := Nat.le_trans O5.out.size (Nat.le_trans A6.out.fr.size (Nat.le_trans O7.out.size (Nat.le_trans k7d.size L8.out.on.size)))
            have AM8 : Hid (Strs u8 al A ∧ Strs u8 am (A ++ [x])) := by
              have hn6 := HNN.out H1.out.2.1
              have h2 := HWR.out
              have hs : s6.liftS.n = s6.n := rfl
              refine ⟨strs_only L8.out.on ((strs_only O7.out AM6.out.1 fun q o e => by have := (AB.out q o e).1; omega).kept k7d) fun q o e => by have := (AB.out q o e).1; omega, strs_only L8.out.on ((strs_only O7.out AM6.out.2 fun q o e => by have := (MC.out.2 q o e).1; omega).kept k7d) fun q o e => by have := (MC.out.2 q o e).1; omega⟩
            have AB8 : Hid (∀ q o, al = some ⟨q, o, none⟩ → G + 2 + N ≤ q ∧ q < u8.heap.size) := fun q o e => by
              have h1 := AB.out q o e
              have h3 := SW.out.hBw
              have h4 := HM.out.1.size
              have h5 := HSZ.out
              exact ⟨h1.1, by omega⟩
            have MB8 : Hid (∀ q o, am = some ⟨q, o, none⟩ → G + 2 + N ≤ q ∧ q < u8.heap.size) := fun q o e => by
              have h1 := MC.out.2 q o e
              have h2 := HWR.out
              have h5 := HSZ.out
              exact ⟨by omega, by omega⟩
            have HLG : Hid ((e6 = 0 → S1 = A ++ [x] ∧ R1 = A ++ [x]) ∧ (S1 = A ++ [x] ∨ S1 = A) ∧ R1 = A ++ [x] ∧ (e6 = 0 ∨ e6 = 71)) := H1.out.2.2
            have HE6 : Hid (e6 = 0 ∨ e6 = 71) := HLG.out.2.2.2
            have hAl : A.length ≤ 40 := by have := HLT.out; omega
            have hC8 : s8.cut = false := by rw [L8.out.cut]; rfl
            have HC8 := Lib.hid hC8
            have HML : Hid ((A ++ [x]).length = A.length + 1) := by show _ = _; simp
            clear c0 c1 c2 c3 o1 x0 x1 x2 x3 x4 k70 k7d HSF HLS hC8 AM6 H1 A6 HAP
            go_loopg [17, 19, 21] 2 (fun gh2 av mv rv wr2 => ∃ (r : Nat) (A' M S R : List ByteArray) (hit : Nat → Bool) (s : RSt) (al' : Option Addr) (cl' : Nat) (am' : Option Addr) (cm' : Nat), r + gh2 = 2 ∧ av = .slice al' A'.length cl' ∧ mv = .slice am' M.length cm' ∧ rv = .int .i64 (r : Nat) ∧ A'.length ≤ 41 ∧ M.length ≤ 41 ∧ Hid (Kept u2 wr2 ∧ RackAt G s wr2 ∧ TInv (gK N p) gen S R hit s ∧ s.cut = false ∧ (∃ d ∈ drvL (gK N p) gen, hit d.toNat = false) ∧ Strs wr2 al' A' ∧ Strs wr2 am' M ∧ (∀ q o, al' = some ⟨q, o, none⟩ → G + 2 + N ≤ q ∧ q < wr2.heap.size) ∧ (∀ q o, am' = some ⟨q, o, none⟩ → G + 2 + N ≤ q ∧ q < wr2.heap.size) ∧ (e6 = 0 → S = M ∧ R = M) ∧ (S = M ∨ S = A') ∧ (R = M ∨ R = A') ∧ (0 < r → S = A' ∧ R = A')))
            case atStart => exact ⟨0, A, A ++ [x], S1, R1, hit8, s8, al, cl, am, cm, rfl, rfl, by rw [HML.out], rfl, by omega, by rw [HML.out]; omega, K8.out, L8.out.rk, L8.out.ti, HC8.out, L8.out.un, AM8.out.1, AM8.out.2, AB8.out, MB8.out, HLG.out.1, HLG.out.2.1, .inl HLG.out.2.2.1, fun h => absurd h (Nat.lt_irrefl _)⟩
            case round =>
              clear K8 L8 HC8 AM8 AB8 MB8 HLG HML hAl
              obtain ⟨r, A', M, S, R, hit, s', al', cl', am', cm', hr2, rfl, rfl, rfl, hA40, hM41, HR⟩ := hrel
              have KR := Lib.hid HR.out.1
              have RR := Lib.hid HR.out.2.1
              have IR := Lib.hid HR.out.2.2.1
              have CR := Lib.hid HR.out.2.2.2.1
              have UR := Lib.hid HR.out.2.2.2.2.1
              have AR := Lib.hid HR.out.2.2.2.2.2.1
              have MR := Lib.hid HR.out.2.2.2.2.2.2.1
              have AQ := Lib.hid HR.out.2.2.2.2.2.2.2.1
              have MQ := Lib.hid HR.out.2.2.2.2.2.2.2.2.1
              have LG := Lib.hid HR.out.2.2.2.2.2.2.2.2.2
              clear HR
              have HTX : Hid (∀ W (a b : Option Addr) (ca cb : Nat) (ss ts : List ByteArray), ss.length ≤ 1000 → ts.length ≤ 1000 → Strs W a ss → Strs W b ts → Calls Tryz.prog 18 #[.slice a ss.length ca, .slice b ts.length cb] W fun e w' => e = .returned (.bool (decide (ss = ts))) ∧ Kept W w') := fun W a b ca cb ss ts hm hn h1 h2 => texts_any a b ca cb ss ts W h1 h2 hm hn
              have HLD : Hid (Calls Tryz.prog 17 #[.pointer (some ⟨G + 1, 0, none⟩), .agg #[.int .i64 (N : Int), .int .i64 (p : Int), .int .i64 74, .int .i64 32], .int .u64 (gen : Int)] wr fun r w' => ∃ (L : List ByteArray) (tb B c : Nat) (v : Value) (a : Option Addr), r = .returned (.tuple #[.pointer (some ⟨tb, 0, none⟩), .slice a L.length c, .int .i64 0]) ∧ LodS G (gK N p) gen S R L hit s' tb B v a wr w') := load_unhit G s' (gK N p) gen S R hit wr RR.out IR.out (not_down CR.out) UR.out
              obtain ⟨c0, c1, c2, c3⟩ := HGC.out wr KR.out
              cases gk with
              | zero =>
                obtain rfl : r = 2 := by omega
                obtain ⟨hSA, hRA⟩ := LG.out.2.2.2 (by decide)
                have b2 : decide ((2 : Int) < 2) = false := rfl
                go_upto_region 35 with (go_at_call 17; refine HLD.out.mono ?_; rintro e u9 ⟨L, tu, Bu, cu, vu, au, rfl, h9⟩; have L9 := Lib.hid h9; clear h9)
                have hLA : L = A' := by
                  rcases L9.out.hL with h | h
                  · exact h.trans hSA
                  · exact h.trans hRA
                clear hSA hRA
                have K9 := Lib.hid (KR.out.trans L9.out.kp)
                have HT2 := Lib.hid (fun W (kk : Kept u9 W) => HTX.out W au al' cu cl' L A' (by rw [hLA]; omega) (by omega) (L9.out.hS.kept kk) (AR.out.kept (L9.out.kp.trans kk)))
                rw [decide_eq_true hLA] at HT2
                have HMD := Lib.hid (fun W (kk : Kept u9 W) => (L9.out.st.kept kk).mendn L9.out.hL CR.out)
                have HLA := Lib.hid hLA
                clear c0 c1 c2 c3 HLD hLA
                go_wp2_with (first
                  | (go_at_call 18; (with_reducible refine (HT2.out u9 (Kept.refl _)).mono ?_); rintro e ub ⟨rfl, kub⟩; have KUM := Lib.hid kub; have HMD1 := Lib.hid (HMD.out ub KUM.out); clear kub)
                  | (go_at_call 19; refine HMD1.out.mono ?_; rintro e u10 ⟨rfl, s10, hA10⟩; have A10 := Lib.hid hA10; clear hA10))
                have KB := Lib.hid (L9.out.st.kept KUM.out |>.low HG.out (K9.out.trans KUM.out) A10.out.fr)
                have hq : ∀ q o, al' = some ⟨q, o, none⟩ → G + 2 + N ≤ q ∧ q < Bu := fun q o e => by
                  have h1 := AQ.out q o e
                  have h2 := L9.out.h1
                  exact ⟨h1.1, by omega⟩
                have hstr : Strs u10 al' A' := by
                  have h3 := HNN.out IR.out
                  refine strs_to A10.out.fr (AR.out.kept (L9.out.kp.trans KUM.out)) fun q o e => ?_
                  have h1 := hq q o e
                  have h2 := L9.out.h2
                  exact ⟨by omega, by omega, fun e2 => by have := (L9.out.st.own q e2).1; omega⟩
                have hst := A10.out.st
                rw [HLA.out] at hst
                go_roundg gh
                all_goals first | omega | exact ⟨k + 1, tu, Bu, A', s10, vu, al', cl', by omega, by go_num, rfl, rfl, KB.out, hst, A10.out.cut, L9.out.h2, hstr, hq⟩
              | succ gh2 =>
                have hr1 : r ≤ 1 := by omega
                have b2 : decide ((r : Int) < 2) = true := decide_eq_true (by omega)
                have b2N : decide (r < 2) = true := decide_eq_true (by omega)
                have hrw : IntKind.i64.wrap ((r : Int) + 1) = ((r + 1 : Nat) : Int) := by rw [IntWalk.i64_in _ (by omega)]; omega
                have hru : IntKind.u8.wrap ((r + 1 : Nat) : Int) = ((r + 1 : Nat) : Int) := IntWalk.u8_in _ (by omega)
                have hru2 : IntKind.u8.wrap ((r : Int) + 1) = ((r + 1 : Nat) : Int) := by rw [IntWalk.u8_in _ (by omega)]; omega
                go_upto_region 25 with (go_at_call 17; refine HLD.out.mono ?_; rintro e u9 ⟨L, tu, Bu, cu, vu, au, rfl, h9⟩; have L9 := Lib.hid h9; clear h9)
                have K9 := Lib.hid (KR.out.trans L9.out.kp)
                have hL40 : L.length ≤ 41 := by
                  rcases L9.out.hL with h | h
                  · rcases LG.out.2.1 with h2 | h2 <;> rw [h, h2] <;> omega
                  · rcases LG.out.2.2.1 with h2 | h2 <;> rw [h, h2] <;> omega
                have H3 : (((e6 : Int) == 0) = true ∧ L = M) ∨ (((e6 : Int) == 0) = false ∧ L = M) ∨ (((e6 : Int) == 0) = false ∧ L ≠ M ∧ L = A') := by
                  rcases HE6.out with h | h
                  · refine .inl ⟨by rw [h]; rfl, ?_⟩
                    obtain ⟨x1, x2⟩ := LG.out.1 h
                    rcases L9.out.hL with y | y
                    · rw [y, x1]
                    · rw [y, x2]
                  · have e0 : ((e6 : Int) == 0) = false := by rw [h]; rfl
                    by_cases hLM : L = M
                    · exact .inr (.inl ⟨e0, hLM⟩)
                    · refine .inr (.inr ⟨e0, hLM, ?_⟩)
                      rcases L9.out.hL with y | y
                      · rcases LG.out.2.1 with z | z
                        · exact absurd (y.trans z) hLM
                        · exact y.trans z
                      · rcases LG.out.2.2.1 with z | z
                        · exact absurd (y.trans z) hLM
                        · exact y.trans z
                have HT1 := Lib.hid (fun W (kk : Kept u9 W) => HTX.out W au am' cu cm' L M (by omega) (by omega) (L9.out.hS.kept kk) (MR.out.kept (L9.out.kp.trans kk)))
                have HT2 := Lib.hid (fun W (kk : Kept u9 W) => HTX.out W au al' cu cl' L A' (by omega) (by omega) (L9.out.hS.kept kk) (AR.out.kept (L9.out.kp.trans kk)))
                have HMD := Lib.hid (fun W (kk : Kept u9 W) => (L9.out.st.kept kk).mendn L9.out.hL CR.out)
                clear c0 c1 c2 c3 HLD
                rcases H3 with ⟨e0, hLM⟩ | ⟨e0, hLM⟩ | ⟨e0, hLM, hLA⟩
                · rw [decide_eq_true hLM] at HT1
                  clear hLM
                  go_upto_region 27 with (first
                    | (go_at_call 18; (with_reducible refine (HT1.out u9 (Kept.refl _)).mono ?_); rintro e ua ⟨rfl, kua⟩; have KUa := Lib.hid kua; clear kua)
                    | (go_at_call 18; (with_reducible refine (HT1.out ua KUa.out).mono ?_); rintro e ub ⟨rfl, kub⟩; have KUM := Lib.hid (KUa.out.trans kub); have HMD1 := Lib.hid (HMD.out ub KUM.out); clear kub)
                    | (go_at_call 19; refine HMD1.out.mono ?_; rintro e u10 ⟨rfl, s10, hA10⟩; have A10 := Lib.hid hA10; clear hA10))
                  have KB := Lib.hid (L9.out.st.kept KUM.out |>.low HG.out (K9.out.trans KUM.out) A10.out.fr)
                  have HMI := Lib.hid A10.out.st.miss
                  have hd10 : s10.down = false := not_down A10.out.cut
                  have HD10 := Lib.hid hd10
                  clear hd10 HT1 HT2 HMD HMD1 e0
                  go_upto_region 28 with (go_at_call 20; refine HMI.out.mono ?_; rintro e u11 ⟨am0, cm0, e11, rfl, h11⟩; have K11 := Lib.hid h11.out.1; have HE11 := Lib.hid h11.out.2; clear h11)
                  obtain rfl : e11 = 0 := by
                    rcases HE11.out with h | ⟨_, h⟩
                    · exact h
                    · rw [HD10.out] at h; cases h
                  obtain ⟨c0, c1, c2, c3⟩ := HGC.out u11 (KB.out.trans K11.out)
                  have HLS := Lib.hid (lose_any G N p gen L L s10 a4 len4 cap4 (r + 1) zs4 u11 (A10.out.st.rk.kept K11.out) A10.out.st.ti (fun W o => HZK.out W (only_low HG.out (KB.out.trans K11.out) o)) HL4.out HZ4.out hn30 (by omega))
                  go_wp2_with (go_at_call 16; refine HLS.out.mono ?_; rintro e u12 ⟨rfl, s12, hit12, hl12⟩; have L12 := Lib.hid hl12; clear hl12)
                  have K12 := Lib.hid (only_low HG.out (KB.out.trans K11.out) L12.out.on)
                  have hbnd : ∀ q o, au = some ⟨q, o, none⟩ → G + 2 + N ≤ q ∧ q < u12.heap.size := fun q o e => by
                    have h1 := L9.out.ha q o e
                    have h2 := RR.out.lt
                    have h3 := HNN.out IR.out
                    have h4 := L9.out.st.hBw
                    have h5 := KUM.out.size
                    have h6 := A10.out.fr.size
                    have h7 := K11.out.size
                    have h8 := L12.out.on.size
                    exact ⟨by omega, by omega⟩
                  have hstr : Strs u12 au L := by
                    have h3 := HNN.out IR.out
                    have h9 := HNN.out A10.out.st.ti
                    refine strs_only L12.out.on ((strs_to A10.out.fr (L9.out.hS.kept KUM.out) fun q o e => ?_).kept K11.out) fun q o e => by have := (hbnd q o e).1; omega
                    have h1 := L9.out.ha q o e
                    have h2 := L9.out.h2
                    have h4 := (hbnd q o e).1
                    exact ⟨by omega, by omega, fun e2 => by have := (L9.out.st.own q e2).1; omega⟩
                  go_roundg gh2
                  all_goals first | omega | exact ⟨r + 1, L, L, L, L, hit12, s12, au, cu, au, cu, by omega, rfl, rfl, by go_num, hL40, hL40, K12.out, L12.out.rk, L12.out.ti, L12.out.cut.trans A10.out.cut, L12.out.un, hstr, hstr, hbnd, hbnd, fun _ => ⟨rfl, rfl⟩, .inl rfl, .inl rfl, fun _ => ⟨rfl, rfl⟩⟩
                · rw [decide_eq_true hLM] at HT1
                  clear hLM
                  go_upto_region 27 with (first
                    | (go_at_call 18; (with_reducible refine (HT1.out u9 (Kept.refl _)).mono ?_); rintro e ub ⟨rfl, kub⟩; have KUM := Lib.hid kub; have HMD1 := Lib.hid (HMD.out ub KUM.out); clear kub)
                    | (go_at_call 19; refine HMD1.out.mono ?_; rintro e u10 ⟨rfl, s10, hA10⟩; have A10 := Lib.hid hA10; clear hA10))
                  have KB := Lib.hid (L9.out.st.kept KUM.out |>.low HG.out (K9.out.trans KUM.out) A10.out.fr)
                  have HMI := Lib.hid A10.out.st.miss
                  have hd10 : s10.down = false := not_down A10.out.cut
                  have HD10 := Lib.hid hd10
                  clear hd10 HT1 HT2 HMD HMD1 e0
                  go_upto_region 28 with (go_at_call 20; refine HMI.out.mono ?_; rintro e u11 ⟨am0, cm0, e11, rfl, h11⟩; have K11 := Lib.hid h11.out.1; have HE11 := Lib.hid h11.out.2; clear h11)
                  obtain rfl : e11 = 0 := by
                    rcases HE11.out with h | ⟨_, h⟩
                    · exact h
                    · rw [HD10.out] at h; cases h
                  obtain ⟨c0, c1, c2, c3⟩ := HGC.out u11 (KB.out.trans K11.out)
                  have HLS := Lib.hid (lose_any G N p gen L L s10 a4 len4 cap4 (r + 1) zs4 u11 (A10.out.st.rk.kept K11.out) A10.out.st.ti (fun W o => HZK.out W (only_low HG.out (KB.out.trans K11.out) o)) HL4.out HZ4.out hn30 (by omega))
                  go_wp2_with (go_at_call 16; refine HLS.out.mono ?_; rintro e u12 ⟨rfl, s12, hit12, hl12⟩; have L12 := Lib.hid hl12; clear hl12)
                  have K12 := Lib.hid (only_low HG.out (KB.out.trans K11.out) L12.out.on)
                  have hbnd : ∀ q o, au = some ⟨q, o, none⟩ → G + 2 + N ≤ q ∧ q < u12.heap.size := fun q o e => by
                    have h1 := L9.out.ha q o e
                    have h2 := RR.out.lt
                    have h3 := HNN.out IR.out
                    have h4 := L9.out.st.hBw
                    have h5 := KUM.out.size
                    have h6 := A10.out.fr.size
                    have h7 := K11.out.size
                    have h8 := L12.out.on.size
                    exact ⟨by omega, by omega⟩
                  have hstr : Strs u12 au L := by
                    have h3 := HNN.out IR.out
                    have h9 := HNN.out A10.out.st.ti
                    refine strs_only L12.out.on ((strs_to A10.out.fr (L9.out.hS.kept KUM.out) fun q o e => ?_).kept K11.out) fun q o e => by have := (hbnd q o e).1; omega
                    have h1 := L9.out.ha q o e
                    have h2 := L9.out.h2
                    have h4 := (hbnd q o e).1
                    exact ⟨by omega, by omega, fun e2 => by have := (L9.out.st.own q e2).1; omega⟩
                  go_roundg gh2
                  all_goals first | omega | exact ⟨r + 1, L, L, L, L, hit12, s12, au, cu, au, cu, by omega, rfl, rfl, by go_num, hL40, hL40, K12.out, L12.out.rk, L12.out.ti, L12.out.cut.trans A10.out.cut, L12.out.un, hstr, hstr, hbnd, hbnd, fun _ => ⟨rfl, rfl⟩, .inl rfl, .inl rfl, fun _ => ⟨rfl, rfl⟩⟩
                · rw [decide_eq_false hLM] at HT1
                  rw [decide_eq_true hLA] at HT2
                  clear hLM hLA
                  go_upto_region 27 with (first
                    | (go_at_call 18; (with_reducible refine (HT1.out u9 (Kept.refl _)).mono ?_); rintro e ua ⟨rfl, kua⟩; have KUa := Lib.hid kua; clear kua)
                    | (go_at_call 18; (with_reducible refine (HT2.out ua KUa.out).mono ?_); rintro e ub ⟨rfl, kub⟩; have KUM := Lib.hid (KUa.out.trans kub); have HMD1 := Lib.hid (HMD.out ub KUM.out); clear kub)
                    | (go_at_call 19; refine HMD1.out.mono ?_; rintro e u10 ⟨rfl, s10, hA10⟩; have A10 := Lib.hid hA10; clear hA10))
                  have KB := Lib.hid (L9.out.st.kept KUM.out |>.low HG.out (K9.out.trans KUM.out) A10.out.fr)
                  have HMI := Lib.hid A10.out.st.miss
                  have hd10 : s10.down = false := not_down A10.out.cut
                  have HD10 := Lib.hid hd10
                  clear hd10 HT1 HT2 HMD HMD1 e0
                  go_upto_region 28 with (go_at_call 20; refine HMI.out.mono ?_; rintro e u11 ⟨am0, cm0, e11, rfl, h11⟩; have K11 := Lib.hid h11.out.1; have HE11 := Lib.hid h11.out.2; clear h11)
                  obtain rfl : e11 = 0 := by
                    rcases HE11.out with h | ⟨_, h⟩
                    · exact h
                    · rw [HD10.out] at h; cases h
                  obtain ⟨c0, c1, c2, c3⟩ := HGC.out u11 (KB.out.trans K11.out)
                  have HLS := Lib.hid (lose_any G N p gen L L s10 a4 len4 cap4 (r + 1) zs4 u11 (A10.out.st.rk.kept K11.out) A10.out.st.ti (fun W o => HZK.out W (only_low HG.out (KB.out.trans K11.out) o)) HL4.out HZ4.out hn30 (by omega))
                  go_wp2_with (go_at_call 16; refine HLS.out.mono ?_; rintro e u12 ⟨rfl, s12, hit12, hl12⟩; have L12 := Lib.hid hl12; clear hl12)
                  have K12 := Lib.hid (only_low HG.out (KB.out.trans K11.out) L12.out.on)
                  have hbnd : ∀ q o, au = some ⟨q, o, none⟩ → G + 2 + N ≤ q ∧ q < u12.heap.size := fun q o e => by
                    have h1 := L9.out.ha q o e
                    have h2 := RR.out.lt
                    have h3 := HNN.out IR.out
                    have h4 := L9.out.st.hBw
                    have h5 := KUM.out.size
                    have h6 := A10.out.fr.size
                    have h7 := K11.out.size
                    have h8 := L12.out.on.size
                    exact ⟨by omega, by omega⟩
                  have hstr : Strs u12 au L := by
                    have h3 := HNN.out IR.out
                    have h9 := HNN.out A10.out.st.ti
                    refine strs_only L12.out.on ((strs_to A10.out.fr (L9.out.hS.kept KUM.out) fun q o e => ?_).kept K11.out) fun q o e => by have := (hbnd q o e).1; omega
                    have h1 := L9.out.ha q o e
                    have h2 := L9.out.h2
                    have h4 := (hbnd q o e).1
                    exact ⟨by omega, by omega, fun e2 => by have := (L9.out.st.own q e2).1; omega⟩
                  go_roundg gh2
                  all_goals first | omega | exact ⟨r + 1, L, L, L, L, hit12, s12, au, cu, au, cu, by omega, rfl, rfl, by go_num, hL40, hL40, K12.out, L12.out.rk, L12.out.ti, L12.out.cut.trans A10.out.cut, L12.out.un, hstr, hstr, hbnd, hbnd, fun _ => ⟨rfl, rfl⟩, .inl rfl, .inl rfl, fun _ => ⟨rfl, rfl⟩⟩
          · have HAP := Lib.hid (S5.out.full (.inl rfl) x (by omega) (show 32 < lenT A + partsN x.size by omega))
            go_upto_region 18 with (go_at_call 14; refine HAP.out.mono ?_; rintro e u6 ⟨rfl, ku6⟩; have KU6 := Lib.hid ku6; clear ku6)
            have K6 := Lib.hid (K5.out.trans KU6.out)
            have S6 := Lib.hid (S5.out.kept KU6.out)
            have HLF := Lib.hid (lift_any G (s.cutS (op : Int)) u6 S6.out.rk)
            go_wp2_with (go_at_call 15; refine HLF.out.mono ?_; rintro e u7 ⟨rfl, hr7, ho7⟩; have K7 := Lib.hid (only_low HG.out K6.out ho7); have O7 := Lib.hid ho7; have S7 := Lib.hid (S6.out.rack hr7 ho7 S6.out.ti.lift rfl); clear hr7 ho7)
            go_roundg gh
            all_goals first | omega | exact ⟨k + 1, tb, B, A, _, v, al, cl, by omega, by go_num, rfl, rfl, K7.out, S7.out, rfl, BT.out, strs_only O7.out ((strs_only O5.out AC.out fun q o e => by have := (AB.out q o e).1; omega).kept KU6.out) (fun q o e => by have := (AB.out q o e).1; have := HNN.out S6.out.ti; omega), AB.out⟩
end Go.Proofs.YtmgkkoajjdgmbaaGreatDoor
