/- TailTurns' walk. -/
import Derived.Test.YtmgkkoajjdgmbaaGreatDoorPart41
import Derived.Deep.LoopGhost
namespace Go.Proofs.YtmgkkoajjdgmbaaGreatDoor
open Go.RowKit Go.Shelf Sm Wr _root_.Go.Proofs.YtmgkkoajjdgmbaaGreatDoor.Nm
set_option linter.unusedVariables false
/-- One of three slices of strings that came in. -/
structure In3 (w : World) (a : Option Addr) (n c : Nat) (zs : List ByteArray) : Prop where
  s : Strs w a zs
  l : zs.length = n
  x : n ≤ 20
set_option maxHeartbeats 8000000 in
set_option maxRecDepth 100000 in
theorem tailTurns_walk (a0 : Int) (a1 : Option Addr) (len1 cap1 : Nat) (z1 : List ByteArray) (a2 : Option Addr) (len2 cap2 : Nat) (z2 : List ByteArray) (a3 : Option Addr) (len3 cap3 : Nat) (z3 : List ByteArray) (w : World) (w0 : (Lit.int .u32 a0).wf = true) (w1 : IsStrs w a1 len1 cap1 z1) (w2 : IsStrs w a2 len2 cap2 z2) (w3 : IsStrs w a3 len3 cap3 z3) :
    Calls Tryz.prog 4 #[.int .u32 a0, .slice a1 len1 cap1, .slice a2 len2 cap2, .slice a3 len3 cap3] w fun e w' => e = .returned (.bool true) ∧ Kept w w' := by
  have hb0 := bounds_u32 w0
  obtain ⟨hS1, hl1, _⟩ := w1.strs
  obtain ⟨hS2, hl2, _⟩ := w2.strs
  obtain ⟨hS3, hl3, _⟩ := w3.strs
  obtain ⟨gen, rfl⟩ : ∃ gen : Nat, a0 = gen := ⟨a0.toNat, by omega⟩
  have hg4 : gen ≤ 4294967295 := by omega
  have HAL := Lib.hid (fun W => alive_any W)
  have HS1 := Lib.hid hS1
  have HS2 := Lib.hid hS2
  have HS3 := Lib.hid hS3
  have HL1 := Lib.hid hl1
  have HL2 := Lib.hid hl2
  have HL3 := Lib.hid hl3
  clear hS1 hS2 hS3 hl1 hl2 hl3 w1 w2 w3 w0 hb0
  generalize z1.take len1 = zs1 at *
  generalize z2.take len2 = zs2 at *
  generalize z3.take len3 = zs3 at *
  have K := Lib.hid ((Kept.refl w).alloc (.cells #[.int .i64 4, .int .i64 1, .int .i64 74, .int .i64 32] 28))
  have GG : Hid (GeoAt (w.alloc (.cells #[.int .i64 4, .int .i64 1, .int .i64 74, .int .i64 32] 28)) w.heap.size gT) := GeoAt.laid w 28 gT
  have HNEW := Lib.hid (fun W => pNew_ok 4 74 (by decide) (by decide) (by decide) (by decide) W)
  go_enter Tryz.func4, Tryz.ntmps4
  go_upto_region 2 with fail
  generalize w.alloc (.cells #[.int .i64 4, .int .i64 1, .int .i64 74, .int .i64 32] 28) = wb at *
  have HN2 := Lib.hid (HNEW.out wb)
  have HGB : Hid (∀ W, Kept wb W → W.cell? ⟨w.heap.size, 0, none⟩ = some (.int .i64 4) ∧ W.cell? ⟨w.heap.size, 1, none⟩ = some (.int .i64 1) ∧ W.cell? ⟨w.heap.size, 2, none⟩ = some (.int .i64 74) ∧ W.cell? ⟨w.heap.size, 3, none⟩ = some (.int .i64 32)) := fun W k => by
    obtain ⟨c0, c1, c2, c3⟩ := GG.out.kept k
    exact ⟨c0, c1, c2, c3⟩
  generalize hG : wb.heap.size = G at *
  have HG : Hid (wb.heap.size ≤ G) := Nat.le_of_eq hG
  clear hG GG
  go_upto_region 3 with (go_at_call 11; refine HN2.out.mono ?_; rintro e u2 ⟨rfl, hk2, hr2, hs2⟩; have K2 := Lib.hid hk2; have R2 := Lib.hid hr2; clear hk2 hr2 hs2)
  clear HN2 HNEW
  have HEND : Hid (Kept w u2) := K.out.trans K2.out
  by_cases hg0 : gen = 0
  · have e1 : ((gen : Int) == 0) = true := by rw [hg0]; rfl
    go_wp2_with (go_at_call 9; refine (HAL.out _).mono ?_; rintro e u9 ⟨rfl, k9⟩)
    go_ret
    exact ⟨rfl, HEND.out.trans k9⟩
  have e1 : ((gen : Int) == 0) = false := by rw [beq_eq_false_iff_ne]; omega
  by_cases hb1 : 20 < len1
  · have d1 : decide ((20 : Int) < (len1 : Int)) = true := decide_eq_true (by omega)
    have f1 : decide (20 < len1) = true := decide_eq_true hb1
    go_wp2_with (go_at_call 9; refine (HAL.out _).mono ?_; rintro e u9 ⟨rfl, k9⟩)
    go_ret
    exact ⟨rfl, HEND.out.trans k9⟩
  have d1 : decide ((20 : Int) < (len1 : Int)) = false := decide_eq_false (by omega)
  have f1 : decide (20 < len1) = false := decide_eq_false hb1
  by_cases hb2 : 20 < len2
  · have d2 : decide ((20 : Int) < (len2 : Int)) = true := decide_eq_true (by omega)
    have f2 : decide (20 < len2) = true := decide_eq_true hb2
    go_wp2_with (go_at_call 9; refine (HAL.out _).mono ?_; rintro e u9 ⟨rfl, k9⟩)
    go_ret
    exact ⟨rfl, HEND.out.trans k9⟩
  have d2 : decide ((20 : Int) < (len2 : Int)) = false := decide_eq_false (by omega)
  have f2 : decide (20 < len2) = false := decide_eq_false hb2
  by_cases hb3 : 20 < len3
  · have d3 : decide ((20 : Int) < (len3 : Int)) = true := decide_eq_true (by omega)
    have f3 : decide (20 < len3) = true := decide_eq_true hb3
    go_wp2_with (go_at_call 9; refine (HAL.out _).mono ?_; rintro e u9 ⟨rfl, k9⟩)
    go_ret
    exact ⟨rfl, HEND.out.trans k9⟩
  have d3 : decide ((20 : Int) < (len3 : Int)) = false := decide_eq_false (by omega)
  have f3 : decide (20 < len3) = false := decide_eq_false hb3
  · have hgen : 1 ≤ gen := by omega
    have HI1 : Hid (In3 w a1 len1 cap1 zs1) := ⟨HS1.out, HL1.out, by omega⟩
    have HI2 : Hid (In3 w a2 len2 cap2 zs2) := ⟨HS2.out, HL2.out, by omega⟩
    have HI3 : Hid (In3 w a3 len3 cap3 zs3) := ⟨HS3.out, HL3.out, by omega⟩
    clear HS1 HS2 HS3 HL1 HL2 HL3
    go_upto_region 5 with fail
    clear hb1 hb2 hb3 hg0 e1 d1 d2 d3 f1 f2 f3
    go_wp2_with fail
    go_loopg [12, 13] 3 (fun gh lv i wr => ∃ (j : Nat) (s : RSt) (last : List ByteArray) (al : Option Addr) (cl : Nat), j + gh = 3 ∧ i = .int .i64 (j : Nat) ∧ lv = .slice al last.length cl ∧ last.length ≤ 40 ∧ Hid (Kept wb wr ∧ RackAt G s wr ∧ s.n = 4 ∧ s.m = 74 ∧ s.cut = false ∧ HeadT gen j last s ∧ Gat (G + 6) (.slice al last.length cl) last wr))
    case atStart => exact ⟨0, rack0 4 74, [], none, 0, rfl, rfl, rfl, Nat.zero_le _, K2.out, R2.out, rfl, rfl, rfl, ⟨fun h => absurd h (Nat.lt_irrefl _), fun k _ _ d hd i hi => .inr rfl⟩, Gat.nil _ _⟩
    case round =>
      clear K2 R2 HEND
      obtain ⟨j, s, last, al, cl, hj, rfl, rfl, hll, HR⟩ := hrel
      have KW := Lib.hid HR.out.1
      have RW := Lib.hid HR.out.2.1
      have SN := Lib.hid HR.out.2.2.1
      have SM := Lib.hid HR.out.2.2.2.1
      have CW := Lib.hid HR.out.2.2.2.2.1
      have HH := Lib.hid HR.out.2.2.2.2.2.1
      have GL := Lib.hid HR.out.2.2.2.2.2.2
      clear HR
      cases gk with
      | succ gh =>
        have hlt : j < 3 := by omega
        have b1 : decide ((j : Int) < 3) = true := decide_eq_true (by omega)
        have b1N : decide (j < 3) = true := decide_eq_true hlt
        go_upto_region 9 with fail
        go_cut [14] from 57 to 174 (fun lv wx => ∃ (a : Option Addr) (n c : Nat) (zs : List ByteArray), lv = .slice a n c ∧ n ≤ 20 ∧ Hid (Kept wr wx ∧ In3 w a n c zs))
        case first =>
          obtain rfl | rfl | rfl : j = 0 ∨ j = 1 ∨ j = 2 := by omega
          · go_wp2_with fail
            go_meet
            case rel => exact ⟨a1, len1, cap1, zs1, rfl, HI1.out.x, (Kept.refl _).alloc _, HI1.out⟩
          · go_wp2_with fail
            go_meet
            case rel => exact ⟨a2, len2, cap2, zs2, rfl, HI2.out.x, (Kept.refl _).alloc _, HI2.out⟩
          · go_wp2_with fail
            go_meet
            case rel => exact ⟨a3, len3, cap3, zs3, rfl, HI3.out.x, (Kept.refl _).alloc _, HI3.out⟩
        case rest =>
          obtain ⟨al1, n, cn, zs, rfl, hn20, HC⟩ := hcut
          have hj2 : j ≤ 2 := by omega
          have HIN := Lib.hid HC.out.2
          have KC := Lib.hid HC.out.1
          have q1 : IntKind.u64.wrap (gen : Int) = (gen : Int) := IntWalk.u64_in _ (by omega)
          have q2 : IntKind.u64.wrap (j : Int) = (j : Int) := IntWalk.u64_in _ (by omega)
          have q3 : IntKind.u64.wrap ((gen : Int) + (j : Int)) = ((gen + j : Nat) : Int) := by rw [IntWalk.u64_in _ (by omega)]; omega
          obtain ⟨c0, c1, c2, c3⟩ := HGB.out wc (KW.out.trans KC.out)
          have HOK := Lib.hid (gT_ok (gen + j) (by omega) (by omega))
          have HB2 : Hid (Calls Tryz.prog 12 #[.pointer (some ⟨G + 1, 0, none⟩), .agg #[.int .i64 4, .int .i64 1, .int .i64 74, .int .i64 32], .int .u64 ((gen + j : Nat) : Int)] wc fun r w' => ∃ (tb : Nat) (v : Value) (s' : RSt), r = .returned (.tuple #[.pointer (some ⟨tb, 0, none⟩), .int .i64 0]) ∧ BegS G gT (gen + j) s s' tb v wc w') :=
            begin_sit G s gT (gen + j) wc (RW.out.kept KC.out) (TInv.fresh HOK.out ⟨by rw [SN.out]; rfl, by rw [SM.out]; rfl⟩ (HH.out.z j (Nat.le_refl _) hj2)) CW.out
          have HLB : Hid (∀ q, (Value.slice al last.length cl).ownBlock = some q → G + 6 ≤ q ∧ q < wc.heap.size) := fun q hq => ⟨(GL.out.lt q hq).1, Nat.lt_of_lt_of_le (GL.out.lt q hq).2 KC.out.size⟩
          have hjw : IntKind.i64.wrap ((j : Int) + 1) = ((j + 1 : Nat) : Int) := by rw [IntWalk.i64_in _ (by omega)]; omega
          go_upto_region 11 with (go_at_call 12; refine HB2.out.mono ?_; rintro e u3 ⟨tb, v3, s3, rfl, hb3⟩; have B3 := Lib.hid hb3; clear hb3)
          have K3 := Lib.hid (only_low HG.out (KW.out.trans KC.out) B3.out.on)
          have S3 := Lib.hid B3.out.st
          have C3 := Lib.hid B3.out.cut
          have N3 : Hid (s3.n = 4 ∧ s3.m = 74) := ⟨B3.out.n.trans SN.out, by have := B3.out.st.ti.fit.2; show s3.m = 74; have e : gT.m = 74 := rfl; omega⟩
          have BS3 := Lib.hid (HH.out.beside.other hj2 B3.out.out B3.out.n (N3.out.2.trans SM.out.symm))
          have GL3 : Hid (Gat (G + 6) (.slice al last.length cl) last u3) := (GL.out.kept KC.out).only B3.out.on (by rw [SN.out]; exact Nat.le_refl _)
          have HBT : Hid (wc.heap.size ≤ tb) := B3.out.lo
          have HGW : Hid (wb.heap.size ≤ wc.heap.size) := (KW.out.trans KC.out).size
          clear HB2 HH GL RW CW SN SM B3
          generalize wc.heap.size = B at *
          go_upto_region 13 with fail
          clear c0 c1 c2 c3
          obtain ⟨c0, c1, c2, c3⟩ := HGB.out u3 K3.out
          have HLD : Hid (∀ (b : Nat) (L' : List ByteArray) (s' : RSt) W, RackAt G s' W → TInv gT b L' L' (fun _ => false) s' → s'.cut = false → Calls Tryz.prog 17 #[.pointer (some ⟨G + 1, 0, none⟩), .agg #[.int .i64 4, .int .i64 1, .int .i64 74, .int .i64 32], .int .u64 ((b : Nat) : Int)] W fun r w' => ∃ (tb c : Nat) (a : Option Addr), r = .returned (.tuple #[.pointer (some ⟨tb, 0, none⟩), .slice a L'.length c, .int .i64 0]) ∧ Hid (Kept W w' ∧ Strs w' a L')) := fun b L' s' W hr hi hc => by
            obtain ⟨d, hd⟩ : ∃ d, d ∈ drvL gT b := ⟨_, List.getElem_mem (n := 0) (by rw [drvL_length]; omega)⟩
            refine (load_got G s' gT b L' _ W hr hi (not_down hc) ⟨d, hd, rfl⟩).mono ?_
            rintro r w' ⟨tb, B, c, v, a, rfl, h⟩
            exact ⟨tb, c, a, rfl, h.kp, h.hS⟩
          have HL3 := Lib.hid (HLD.out (gen + j) [] s3 u3 S3.out.rk S3.out.ti C3.out)
          go_upto_region 14 with (go_at_call 17; refine HL3.out.mono ?_; rintro e u4 ⟨t4, x4, a4, rfl, h4⟩; have K34 := Lib.hid h4.out.1; clear h4)
          have K4 := Lib.hid (K3.out.trans K34.out)
          have S4 := Lib.hid (S3.out.kept K34.out)
          have GL4 := Lib.hid (GL3.out.kept K34.out)
          clear HL3 K3 S3 GL3 K34 c0 c1 c2 c3
          go_upto_region 18 with fail
          go_loopw [20, 21] (fun nv i wr2 => ∃ (k : Nat) (L : List ByteArray) (s' : RSt) (v' : Value) (an : Option Addr) (cn : Nat), k ≤ n ∧ i = .int .i64 (k : Nat) ∧ nv = .slice an L.length cn ∧ L.length ≤ k ∧ Hid (Kept wb wr2 ∧ Sit tb B G gT (gen + j) L L L (fun _ => false) s' v' false wr2 ∧ s'.cut = false ∧ (s'.n = 4 ∧ s'.m = 74) ∧ Beside gen j last s' ∧ Gat (G + 6) (.slice al last.length cl) last wr2 ∧ Gat B (.slice an L.length cn) L wr2 ∧ ∀ q, (Value.slice an L.length cn).ownBlock = some q → v'.ownBlock ≠ some q)) (fun nv i _ => n - (intOf i).toNat)
          case atStart => exact ⟨0, [], s3, v3, none, 0, Nat.zero_le _, rfl, rfl, Nat.le_refl _, K4.out, S4.out, C3.out, N3.out, BS3.out, GL4.out, Gat.nil _ _, fun q hq => by cases hq⟩
          case round =>
            clear K4 S4 C3 N3 BS3 GL4
            obtain ⟨k, L, s, v, an, cn2, hk, rfl, rfl, hLk, HR⟩ := hrel
            have KW := Lib.hid HR.out.1
            have SW := Lib.hid HR.out.2.1
            have CW := Lib.hid HR.out.2.2.1
            have NW := Lib.hid HR.out.2.2.2.1
            have BW := Lib.hid HR.out.2.2.2.2.1
            have GL := Lib.hid HR.out.2.2.2.2.2.1
            have GN := Lib.hid HR.out.2.2.2.2.2.2.1
            have SP := Lib.hid HR.out.2.2.2.2.2.2.2
            clear HR
            have hlt0 := SW.out.ti.len
            have HLT : Hid (lenT L ≤ 32) := hlt0
            have hLL := len_le L
            clear hlt0
            by_cases hltk : k < n
            · have b2 : decide ((k : Int) < (n : Int)) = true := decide_eq_true (by omega)
              have b2N : decide (k < n) = true := decide_eq_true hltk
              have hkw : IntKind.i64.wrap ((k : Int) + 1) = ((k + 1 : Nat) : Int) := by rw [IntWalk.i64_in _ (by omega)]; omega
              have xi1 : (k : Int) < (n : Int) := by omega
              have xi0 : (0 : Int) ≤ (k : Int) := by omega
              have hwi : ((k : Int)).toNat = k := by omega
              rcases HIN.out.s with h | ⟨q, o, rfl, hc⟩
              · have := HIN.out.l
                rw [h] at this
                exact absurd hltk (by rw [← this]; simp)
              · have HCE := Lib.hid (fun W (kk : Kept wb W) => cell_keptT (hc k (by rw [HIN.out.l]; exact hltk)) (K.out.trans kk))
                have hcell := HCE.out wr KW.out
                generalize zs.getD k ByteArray.empty = x at *
                clear hc
                by_cases hx : 1024 < x.size
                · have b3 : decide ((1024 : Int) < (x.size : Int)) = true := decide_eq_true (by omega)
                  have KF := Lib.hid (K.out.trans KW.out)
                  go_wp2_with (go_at_call 9; refine (HAL.out _).mono ?_; rintro e u9 ⟨rfl, k9⟩)
                  go_ret
                  exact ⟨rfl, KF.out.trans k9⟩
                · have b3 : decide ((1024 : Int) < (x.size : Int)) = false := decide_eq_false (by omega)
                  by_cases hfit : lenT L + partsN x.size ≤ 32
                  · have HAP := Lib.hid (SW.out.appn CW.out x hfit)
                    go_upto_region 23 with (go_at_call 14; refine HAP.out.mono ?_; rintro e u5 ⟨rfl, s5, v5, hA5⟩; have A5 := Lib.hid hA5; clear hA5)
                    have K5 := Lib.hid (SW.out.low HG.out KW.out A5.out.fr)
                    have N5 : Hid (s5.n = 4 ∧ s5.m = 74) := ⟨A5.out.n.trans NW.out.1, by have := A5.out.st.ti.fit.2; show s5.m = 74; have e : gT.m = 74 := rfl; omega⟩
                    have BW5 := Lib.hid (BW.out.other hj2 A5.out.out A5.out.n (N5.out.2.trans NW.out.2.symm))
                    have hn4 : s.n = 4 := NW.out.1
                    have GL5 := Lib.hid (GL.out.to A5.out.fr (by rw [hn4]; exact Nat.le_refl _) (fun q hq => ⟨by have := (HLB.out q hq).2; have := HBT.out; omega, fun e => by have := (SW.out.own q e).1; have := (HLB.out q hq).2; omega⟩))
                    have GN5 := Lib.hid (GN.out.to A5.out.fr SW.out.hB (fun q hq => ⟨fun e => own_ne GN.out SW.out.tl.ty (by decide) (by rw [hq, e]), SP.out q hq⟩))
                    have SP5 : Hid (∀ q, (Value.slice an L.length cn2).ownBlock = some q → v5.ownBlock ≠ some q) := fun q hq e => by
                      rcases A5.out.own q e with e2 | e2
                      · exact SP.out q hq e2
                      · have := (GN.out.lt q hq).2; omega
                    have hcell5 := HCE.out u5 K5.out
                    have hB5 : B ≤ (u5.alloc (.cells #[.string x] 9)).heap.size := Nat.le_trans A5.out.st.hBw ((Kept.refl u5).alloc (.cells #[.string x] 9)).size
                    have HB5 := Lib.hid hB5
                    have hLm : L.length ≤ 1000000 := by omega
                    have hLw : Hid ((L ++ [x]).length = L.length + 1) := by show _ = _; simp
                    clear hB5 HAP hcell
                    go_wp2_with (first | (at_builtin; go_must (refine wpList_gatsO _ rfl (.tmp 124) (.tmp 129) rfl B HB5.out _ L (by rfl) (GN5.out.kept ((Kept.refl _).alloc _)) x u5.heap.size (by rfl) (by rw [World.cell?_alloc_mark]; rfl) hLm ?_); intro v9 w9 H9; have H9G := Lib.hid H9.out.1; have H9W := Lib.hid H9.out.2.1; have H9O := Lib.hid H9.out.2.2; clear H9))
                    obtain ⟨a9, c9, rfl, hs9⟩ := H9G.out.strs
                    clear hs9
                    have KA : Hid (Kept u5 (u5.alloc (.cells #[.string x] 9))) := (Kept.refl _).alloc _
                    have hown : ∀ q, (Value.slice an L.length cn2).ownBlock = some q → B ≤ q ∧ q < u5.heap.size := fun q hq => GN5.out.lt q hq
                    refine ⟨⟨k + 1, L ++ [x], s5, v5, a9, c9, by omega, by go_num, rfl, by rw [hLw.out]; omega, keptT_above (K5.out.trans KA.out) H9W.out (fun q hq => Nat.le_trans HGW.out (hown q hq).1), (A5.out.st.kept KA.out).grown H9W.out (fun q hq => ⟨Nat.le_trans A5.out.st.hB (hown q hq).1, fun e => own_ne GN5.out A5.out.st.tl.ty (by decide) (by rw [hq, e]), SP5.out q hq⟩), A5.out.cut, N5.out, BW5.out, (GL5.out.kept KA.out).grown H9W.out (fun q hq e => by have h1 := (HLB.out q hq).2; have h2 := (hown q e.symm).1; omega), H9G.out, fun q hq e => ?_⟩, by simp [intOf]; omega⟩
                    rcases H9O.out q hq with e2 | e2
                    · exact SP5.out q e2 e
                    · have := (A5.out.st.own q e).2; have := KA.out.size; omega
                  · have HAP := Lib.hid (SW.out.full (.inl rfl) x (by omega) (show 32 < lenT L + partsN x.size by omega))
                    go_wp2_with (go_at_call 14; refine HAP.out.mono ?_; rintro e u5 ⟨rfl, ku5⟩; have KU5 := Lib.hid ku5; clear ku5)
                    refine ⟨⟨k + 1, L, s, v, an, cn2, by omega, by go_num, rfl, by omega, KW.out.trans KU5.out, SW.out.kept KU5.out, CW.out, NW.out, BW.out, GL.out.kept KU5.out, GN.out.kept KU5.out, SP.out⟩, by simp [intOf]; omega⟩
            · obtain rfl : k = n := by omega
              have b2 : decide ((k : Int) < (k : Int)) = false := decide_eq_false (by omega)
              have b2N : decide (k < k) = false := decide_eq_false (by omega)
              go_upto_region 24 with fail
              have HTX : Hid (∀ W (a b : Option Addr) (ca cb : Nat) (ss : List ByteArray), ss.length ≤ 1000 → Strs W a ss → Strs W b ss → Calls Tryz.prog 18 #[.slice a ss.length ca, .slice b ss.length cb] W fun e w' => e = .returned (.bool true) ∧ Kept W w') := fun W a b ca cb ss hm h1 h2 => by
                have h := texts_any a b ca cb ss ss W h1 h2 hm hm
                rw [decide_eq_true (rfl : ss = ss)] at h
                exact h
              have HLstrs : Hid (∀ W, Gat (G + 6) (.slice al last.length cl) last W → Strs W al last) := fun W h => by
                obtain ⟨a', c', e, hs⟩ := h.strs
                injection e with e1 e2 e3
                rw [e1]; exact hs
              have HNstrs : Hid (∀ W, Gat B (.slice an L.length cn2) L W → Strs W an L) := fun W h => by
                obtain ⟨a', c', e, hs⟩ := h.strs
                injection e with e1 e2 e3
                rw [e1]; exact hs
              have hLm : L.length ≤ 1000 := by omega
              have hlm : last.length ≤ 1000 := by omega
              by_cases hj0 : j = 0
              · have b4 : decide ((0 : Int) < (j : Int)) = false := decide_eq_false (by omega)
                have b4N : decide (0 < j) = false := decide_eq_false (by omega)
                have HJ0 := Lib.hid hj0
                obtain ⟨c0, c1, c2, c3⟩ := HGB.out wr KW.out
                have HLX := Lib.hid (HLD.out (gen + j) L s wr SW.out.rk SW.out.ti CW.out)
                clear hj0
                go_wp2_with (first
                  | (go_at_call 17; refine HLX.out.mono ?_; rintro e u6 ⟨t6, x6, a6, rfl, h6⟩; have K6 := Lib.hid h6.out.1; have HT6 := Lib.hid (HTX.out u6 a6 an x6 cn2 L hLm h6.out.2 (HNstrs.out u6 (GN.out.kept h6.out.1))); clear h6)
                  | (go_at_call 18; refine HT6.out.mono ?_; rintro e u7 ⟨rfl, ku7⟩; have K7 := Lib.hid (K6.out.trans ku7); clear ku7))
                have KX := Lib.hid (KW.out.trans K7.out)
                have SX := Lib.hid (SW.out.kept K7.out)
                have GNX := Lib.hid (GN.out.kept K7.out)
                go_roundg gh
                all_goals first | omega | exact ⟨j + 1, s, L, an, cn2, by omega, by go_num, rfl, by omega, KX.out, SX.out.rk, NW.out.1, NW.out.2, CW.out, BW.out.next SX.out.ti, (GNX.out).low (by have h := SX.out.hB; have e := NW.out.1; omega)⟩
              · have b4 : decide ((0 : Int) < (j : Int)) = true := decide_eq_true (by omega)
                have b4N : decide (0 < j) = true := decide_eq_true (by omega)
                have q4 : IntKind.u64.wrap (((gen + j : Nat) : Int) - 1) = ((gen + j - 1 : Nat) : Int) := by rw [IntWalk.u64_in _ (by omega)]; omega
                have q5 : IntKind.u64.wrap ((gen : Int) + (j : Int) - 1) = ((gen + j - 1 : Nat) : Int) := by rw [IntWalk.u64_in _ (by omega)]; omega
                obtain ⟨c0, c1, c2, c3⟩ := HGB.out wr KW.out
                have HLY := Lib.hid (HLD.out (gen + j - 1) last s wr SW.out.rk (BW.out.l (by omega)) CW.out)
                go_upto_region 28 with (first
                  | (go_at_call 17; refine HLY.out.mono ?_; rintro e u4' ⟨t4', x4', a4', rfl, h4⟩; have K4 := Lib.hid h4.out.1; have HT4 := Lib.hid (HTX.out u4' a4' al x4' cl last hlm h4.out.2 (HLstrs.out u4' (GL.out.kept h4.out.1))); clear h4)
                  | (go_at_call 18; refine HT4.out.mono ?_; rintro e u5' ⟨rfl, ku5⟩; have K5 := Lib.hid (K4.out.trans ku5); clear ku5))
                clear c0 c1 c2 c3 HLY
                obtain ⟨c0, c1, c2, c3⟩ := HGB.out u5' (KW.out.trans K5.out)
                have HLX := Lib.hid (HLD.out (gen + j) L s u5' (SW.out.rk.kept K5.out) SW.out.ti CW.out)
                go_wp2_with (first
                  | (go_at_call 17; refine HLX.out.mono ?_; rintro e u6 ⟨t6, x6, a6, rfl, h6⟩; have K6 := Lib.hid (K5.out.trans h6.out.1); have HT6 := Lib.hid (HTX.out u6 a6 an x6 cn2 L hLm h6.out.2 (HNstrs.out u6 (GN.out.kept (K5.out.trans h6.out.1)))); clear h6)
                  | (go_at_call 18; refine HT6.out.mono ?_; rintro e u7 ⟨rfl, ku7⟩; have K7 := Lib.hid (K6.out.trans ku7); clear ku7))
                have KX := Lib.hid (KW.out.trans K7.out)
                have SX := Lib.hid (SW.out.kept K7.out)
                have GNX := Lib.hid (GN.out.kept K7.out)
                go_roundg gh
                all_goals first | omega | exact ⟨j + 1, s, L, an, cn2, by omega, by go_num, rfl, by omega, KX.out, SX.out.rk, NW.out.1, NW.out.2, CW.out, BW.out.next SX.out.ti, (GNX.out).low (by have h := SX.out.hB; have e := NW.out.1; omega)⟩
      | zero =>
        obtain rfl : j = 3 := by omega
        have b1 : decide ((3 : Int) < 3) = false := rfl
        go_wp2_with (go_at_call 9; refine (HAL.out _).mono ?_; rintro e u9 ⟨rfl, k9⟩)
        go_ret
        exact ⟨rfl, K.out.trans (KW.out.trans k9)⟩
end Go.Proofs.YtmgkkoajjdgmbaaGreatDoor
