/- SlotTurns' walk. -/
import Derived.Test.YtoekaabngjjefaaPart25
import Derived.Test.YtoekaabngjjefaaPart27
import Derived.Test.YtoekaabngjjefaaPart24
import Derived.Deep.QuietTactic
import Derived.BigQuiet
import Derived.Deep.LoopGhost
namespace Go.Proofs.Ytoekaabngjjefaa
open Go.RowKit Go.ChangeShapes Go.WideShapes Sm Wr _root_.Go.Proofs.Ytoekaabngjjefaa.Nm
set_option linter.unusedVariables false
set_option linter.unusedSimpArgs false
set_option maxHeartbeats 8000000 in
set_option maxRecDepth 100000 in
theorem slotTurns_walk (a0 a1 : Int) (a2 : Option Addr) (len2 cap2 : Nat) (z2 : List Int) (w : World) (w0 : (Lit.int .u8 a0).wf = true) (w1 : (Lit.int .u32 a1).wf = true) (w2 : IsRow .u32 w a2 len2 cap2 z2) :
    Calls Try.prog 7 #[.int .u8 a0, .int .u32 a1, .slice a2 len2 cap2] w fun e w' => e = .returned (.bool true) ∧ Kept w w' := by
  have hb0 := bounds_u8 w0
  have hb1 := bounds_u32 w1
  obtain ⟨hI, hzl, hml, hzw⟩ := w2.ints
  have hml2 : len2 ≤ 9223372036854775807 := by unfold maxLen at hml; exact hml
  obtain ⟨m, rfl⟩ : ∃ m : Nat, a0 = m := ⟨a0.toNat, by omega⟩
  obtain ⟨G, rfl⟩ : ∃ G : Nat, a1 = G := ⟨a1.toNat, by omega⟩
  have hwr : IntKind.i64.wrap (m : Int) = (m : Int) := IntWalk.i64_in _ (by omega)
  obtain ⟨N, hN⟩ : ∃ N : Nat, 1 + (m : Int) % 7 = N := ⟨1 + m % 7, by omega⟩
  have hN1 : 1 ≤ N := by omega
  have hN7 : N ≤ 7 := by omega
  have HAL := Lib.hid (fun W => alive_any W)
  have HI := Lib.hid hI
  have HZL := Lib.hid hzl
  have HZW := Lib.hid hzw
  clear hI hzl hzw w2 w0 w1 hml
  generalize z2.take len2 = zs at *
  have K := Lib.hid ((Kept.refl w).alloc (.cells #[.int .i64 (N : Int), .int .i64 0, .int .i64 24, .int .i64 2] 41))
  have GG : Hid (GeoAt (w.alloc (.cells #[.int .i64 (N : Int), .int .i64 0, .int .i64 24, .int .i64 2] 41)) w.heap.size ⟨N, 0, 24, 2⟩) := GeoAt.laid w 41 ⟨N, 0, 24, 2⟩
  go_enter Try.func7, Try.ntmps7
  go_upto_region 3 with fail
  (try rw [hN])
  generalize w.alloc (.cells #[.int .i64 (N : Int), .int .i64 0, .int .i64 24, .int .i64 2] 41) = u0 at *
  have HNN := Lib.hid hN
  clear hN hwr
  by_cases hG : G = 0
  · have e1 : ((G : Int) == 0) = true := by rw [hG]; rfl
    go_wp2_with fail
    refine (HAL.out _).mono ?_
    rintro e u9 ⟨rfl, hk⟩
    replace K := Lib.hid (K.out.trans hk)
    clear hk
    go_wp2_with fail
    go_ret
    exact ⟨rfl, K.out⟩
  · have e1 : ((G : Int) == 0) = false := by rw [beq_eq_false_iff_ne]; omega
    by_cases hlong : 40 < len2
    · have b1 : decide ((40 : Int) < (len2 : Int)) = true := decide_eq_true (by omega)
      have b0 : decide (40 < len2) = true := decide_eq_true hlong
      go_wp2_with fail
      refine (HAL.out _).mono ?_
      rintro e u9 ⟨rfl, hk⟩
      replace K := Lib.hid (K.out.trans hk)
      clear hk
      go_wp2_with fail
      go_ret
      exact ⟨rfl, K.out⟩
    · have b1 : decide ((40 : Int) < (len2 : Int)) = false := decide_eq_false (by omega)
      have b0 : decide (40 < len2) = false := decide_eq_false hlong
      have HNEW : Hid (∀ W, Calls Try.prog 13 #[.int .i64 (N : Int), .int .i64 24] W fun r w' => r = .returned (.tuple #[.pointer (some ⟨W.heap.size + 1, 0, none⟩), .int .i64 0]) ∧ Kept W w' ∧ RackAt W.heap.size (rack0 N 24) w' ∧ w'.heap.size = W.heap.size + 2 + N) := fun W => pNew_ok N 24 hN1 (by omega) (by decide) (by decide) W
      go_wp2_with fail
      refine (HNEW.out _).mono ?_
      rintro e u1 ⟨rfl, hk, hR, hsz⟩
      have hBg : w.heap.size < u0.heap.size := GG.out.lt
      replace K := Lib.hid (K.out.trans hk)
      replace GG := Lib.hid (GG.out.kept hk)
      have RR := Lib.hid hR
      generalize u0.heap.size = g at *
      obtain ⟨BB, hBB⟩ : ∃ BB, BB = u1.heap.size := ⟨_, rfl⟩
      have hgB : g + 2 + N = BB := by omega
      have HBU : Hid (BB ≤ u1.heap.size) := by show _ ≤ _; omega
      clear hk hR hsz HNEW hBB e1 b1 b0
      go_upto_region 10 with fail
      go_loopg [11, 12] len2 (fun gh v i wr => ∃ (xs : List Rt) (s : RSt), xs.length + gh = len2 ∧ i = .int .i64 (xs.length : Nat) ∧ Hid (Kept w wr ∧ GeoAt wr w.heap.size ⟨N, 0, 24, 2⟩ ∧ RackAt g s wr ∧ Turned s N G xs ∧ GatR BB v xs wr ∧ BB ≤ wr.heap.size))
      case atStart => exact ⟨[], _, by show 0 + len2 = len2; omega, rfl, K.out, GG.out, RR.out, Turned.start N G, GatR.nil _ _, HBU.out⟩
      case round =>
        obtain ⟨xs, s, hxl, rfl, HR⟩ := hrel
        replace K := Lib.hid HR.out.1
        replace GG := Lib.hid HR.out.2.1
        replace RR := Lib.hid HR.out.2.2.1
        have HT := Lib.hid HR.out.2.2.2.1
        have HV := Lib.hid HR.out.2.2.2.2.1
        replace HBU := Lib.hid HR.out.2.2.2.2.2
        clear HR
        obtain ⟨i, hi⟩ : ∃ i, i = xs.length := ⟨_, rfl⟩
        rw [← hi] at hxl
        rw [← hi]
        have HIL := Lib.hid hi
        clear hi
        cases gk with
        | zero =>
          have b2 : decide ((i : Int) < (len2 : Int)) = false := decide_eq_false (by omega)
          have b3 : decide (i < len2) = false := decide_eq_false (by omega)
          go_wp2_with fail
          refine (HAL.out _).mono ?_
          rintro e u9 ⟨rfl, hk⟩
          replace K := Lib.hid (K.out.trans hk)
          clear hk
          go_wp2_with fail
          go_ret
          exact ⟨rfl, K.out⟩
        | succ gh =>
          have b2 : decide ((i : Int) < (len2 : Int)) = true := decide_eq_true (by omega)
          have b3 : decide (i < len2) = true := decide_eq_true (by omega)
          have hil : (i : Int) < (len2 : Int) := by omega
          have hil2 : i < len2 := by omega
          have hi40 : i < 40 := by omega
          have hz := (HI.out.kept K.out)
          obtain ⟨b, o, hat⟩ := ints_at hz
          obtain ⟨rfl, hcell⟩ := hat (by rw [HZL.out]; omega)
          have hc := hcell i (by rw [HZL.out]; omega)
          have hbz := bounds_u32 (HZW.out (zs[i]'(by rw [HZL.out]; omega)) (List.getElem_mem _))
          rw [nthI_get] at hbz
          obtain ⟨Z, hZ⟩ : ∃ Z : Nat, nthI zs i = Z := ⟨(nthI zs i).toNat, by omega⟩
          rw [hZ] at hc hbz
          clear hz hat hcell hZ
          by_cases hZ0 : Z = 0
          · have e2 : ((Z : Int) == 0) = true := by rw [hZ0]; rfl
            go_wp2_with fail
            refine (HAL.out _).mono ?_
            rintro e u9 ⟨rfl, hk⟩
            replace K := Lib.hid (K.out.trans hk)
            clear hk
            go_wp2_with fail
            go_ret
            exact ⟨rfl, K.out⟩
          · have e2 : ((Z : Int) == 0) = false := by rw [beq_eq_false_iff_ne]; omega
            have hw1 : IntKind.u64.wrap (G : Int) = (G : Int) := IntWalk.u64_in _ (by omega)
            have hw2 : IntKind.u64.wrap (i : Int) = (i : Int) := IntWalk.u64_in _ (by omega)
            have hw3 : IntKind.u64.wrap ((G : Int) + (i : Int)) = (G : Int) + (i : Int) := IntWalk.u64_in _ (by omega)
            have hw4 : IntKind.u64.wrap (Z : Int) = (Z : Int) := IntWalk.u64_in _ (by omega)
            obtain ⟨x, hx⟩ : ∃ x : Rt, x = ⟨G + i, Z, 0, 0, 0⟩ := ⟨_, rfl⟩
            have hxm : x.may = true := by
              rw [hx, Rt.may_bool]
              dsimp only
              omega
            have hxg : x.gen = G + i := by rw [hx]
            have HTN := Lib.hid (HT.out.next x hxm (by rw [hxg, ← HIL.out]) (by omega) (by rw [← HIL.out]; omega))
            have HXC : Hid (∀ W : World, W.alloc (.cells #[.int .u64 ((G : Int) + (i : Int)), .int .u64 (Z : Int), .int .i64 0, .int .u64 0, .int .i64 0] 26) = W.alloc (.cells #[.int .u64 (x.gen : Nat), .int .u64 (x.nxt : Nat), .int .i64 x.row, .int .u64 (x.st : Nat), .int .i64 x.len] 26)) := fun W => by rw [hx]; rfl
            have HFT : Geo.fits ⟨N, 0, 24, 2⟩ s = true := geo_fits N 0 s hN1 (by omega) (by omega) HT.out.hn HT.out.hm
            have HWC := Lib.hid (fun W h => pWriteR_any g s ⟨N, 0, 24, 2⟩ x W h)
            rw [docW_is HFT hxm, HTN.out.1, HT.out.hn] at HWC
            have HT2 := Lib.hid HTN.out.2
            have HXM := Lib.hid hxm
            have HXG := Lib.hid hxg
            unfold Geo.val Rt.val at HWC
            clear hx hxm hxg HTN HT HFT
            go_upto_region 15 with fail
            rw [HXC.out]
            clear hw1 hw2 hw3 hw4 e2 hc HXC
            have hk : Kept wr (wr.alloc (.cells #[.int .u64 (x.gen : Nat), .int .u64 (x.nxt : Nat), .int .i64 x.row, .int .u64 (x.st : Nat), .int .i64 x.len] 26)) := (Kept.refl _).alloc _
            have X1 := Lib.hid (RtAt.laid wr 26 x)
            have HXB : Hid (BB ≤ wr.heap.size) := HBU.out
            have HOWN : Hid (∀ k, Value.ownBlock u11 = some k → BB ≤ k ∧ k < wr.heap.size) := HV.out.lt
            replace K := Lib.hid (K.out.trans hk)
            replace GG := Lib.hid (GG.out.kept hk)
            replace RR := Lib.hid (RR.out.kept hk)
            replace HV := Lib.hid (HV.out.kept hk)
            replace HBU : Hid (BB ≤ (wr.alloc (.cells #[.int .u64 (x.gen : Nat), .int .u64 (x.nxt : Nat), .int .i64 x.row, .int .u64 (x.st : Nat), .int .i64 x.len] 26)).heap.size) := Nat.le_trans HBU.out hk.size
            clear hk
            generalize wr.alloc (.cells #[.int .u64 (x.gen : Nat), .int .u64 (x.nxt : Nat), .int .i64 x.row, .int .u64 (x.st : Nat), .int .i64 x.len] 26) = v1 at *
            generalize wr.heap.size = BX at *
            have g0 := GG.out.c0
            have g1 := GG.out.c1
            have g2 := GG.out.c2
            have g3 := GG.out.c3
            dsimp only at g0 g1 g2 g3
            have x0 := X1.out.c0
            have x1 := X1.out.c1
            have x2 := X1.out.c2
            have x3 := X1.out.c3
            have x4 := X1.out.c4
            go_wp2_with fail
            refine (HWC.out _ RR.out).mono ?_
            rintro e v2 ⟨rfl, hR, hO⟩
            replace K := Lib.hid (Only.kept K.out (by omega) hO)
            replace GG := Lib.hid (GG.out.onlyLo hO hBg)
            replace RR := Lib.hid hR
            replace HV := Lib.hid (HV.out.only hO (by omega))
            replace X1 := Lib.hid (X1.out.only hO (by have := HXB.out; omega))
            replace HBU : Hid (BB ≤ v2.heap.size) := Nat.le_trans HBU.out hO.size
            clear hR hO HWC g0 g1 g2 g3 x0 x1 x2 x3 x4
            generalize wrK s x N = s2 at *
            have x0 := X1.out.c0
            have x1 := X1.out.c1
            have x2 := X1.out.c2
            have x3 := X1.out.c3
            have x4 := X1.out.c4
            have KA : Hid (Kept w (v2.alloc (.cells #[.int .u64 (x.gen : Nat), .int .u64 (x.nxt : Nat), .int .i64 x.row, .int .u64 (x.st : Nat), .int .i64 x.len] 26))) := K.out.alloc _
            have HVA := Lib.hid (HV.out.kept ((Kept.refl v2).alloc (.cells #[.int .u64 (x.gen : Nat), .int .u64 (x.nxt : Nat), .int .i64 x.row, .int .u64 (x.st : Nat), .int .i64 x.len] 26)))
            have HSZA : Hid (v2.heap.size ≤ (v2.alloc (.cells #[.int .u64 (x.gen : Nat), .int .u64 (x.nxt : Nat), .int .i64 x.row, .int .u64 (x.st : Nat), .int .i64 x.len] 26)).heap.size) := ((Kept.refl v2).alloc (.cells #[.int .u64 (x.gen : Nat), .int .u64 (x.nxt : Nat), .int .i64 x.row, .int .u64 (x.st : Nat), .int .i64 x.len] 26)).size
            have HLX : Hid (xs.length ≤ 1000000000) := by show _ ≤ _; rw [← HIL.out]; omega
            have HCX := Lib.hid (new_cells v2 x 26)
            have HWB : Hid (w.heap.size ≤ BB) := by show _ ≤ _; omega
            go_wp2_with (refine wpList_gatR2 _ rfl (.tmp 76) (.tmp 78) 58 rfl Try.underlying58 w BB HWB.out (Nat.le_trans HBU.out HSZA.out) _ xs (by rfl) HVA.out KA.out x v2.heap.size (by rfl) HCX.out HLX.out ?_; intro v9 v3 hG9 hK9 hs9 hb9)
            have HXL := Lib.hid hxl
            have hlen : (xs ++ [x]).length = i + 1 := by rw [List.length_append, ← HIL.out]; rfl
            have HBL : Hid (∀ b, b < v2.heap.size → Value.ownBlock u11 ≠ some b → v3.heap[b]? = v2.heap[b]?) := fun b hb hn => by
              rw [hb9 b (Nat.lt_of_lt_of_le hb HSZA.out) hn]
              exact ((Kept.refl v2).alloc (.cells #[.int .u64 (x.gen : Nat), .int .u64 (x.nxt : Nat), .int .i64 x.row, .int .u64 (x.st : Nat), .int .i64 x.len] 26)).block b hb
            have HLO : Hid (∀ b, b < BB → b < v2.heap.size → v3.heap[b]? = v2.heap[b]?) := fun b hb hb2 => HBL.out b hb2 (fun e => by have := (HOWN.out b e).1; omega)
            replace GG := Lib.hid (GG.out.frame (HLO.out _ (by omega) GG.out.lt))
            have hrr := RR.out.lt
            rw [HT2.out.hn] at hrr
            replace RR := Lib.hid (RR.out.frame (w' := v3) (fun k h1 h2 => HLO.out k (by rw [HT2.out.hn] at h2; omega) (by rw [HT2.out.hn] at h2; omega)))
            replace X1 := Lib.hid (X1.out.frame (HBL.out BX X1.out.lt (fun e => by have := (HOWN.out BX e).2; omega)))
            have HBU3 : Hid (BB ≤ v3.heap.size) := Nat.le_trans (Nat.le_trans HBU.out HSZA.out) hs9
            have HG9 := Lib.hid hG9
            have K3 := Lib.hid hK9
            obtain ⟨qL, capL, hvL, hqB, hcells⟩ := hG9.at (by rw [hlen]; omega)
            rw [hlen] at hvL
            have HCE := Lib.hid hcells
            have HQB := Lib.hid hqB
            clear hb9 hs9 hG9 hK9 hrr HBL HLO KA HVA HSZA HLX HCX HWB HV HBU K x0 x1 x2 x3 x4 hcells hqB hxl
            have HRD := Lib.hid (fun (d k : Nat) (hd : d < N) (hk : k < (xs ++ [x]).length) (h2 : (xs ++ [x]).length ≤ k + 2) W (h : RackAt g s2 W) => by
              have e := read_any g s2 d ((xs ++ [x])[k].me : Nat) (by omega) (by omega) (by omega) (by have := (xs ++ [x])[k].me_lt; omega) W h
              rw [(HT2.out.read d hd k hk h2).1, (HT2.out.read d hd k hk h2).2] at e
              exact e)
            have HDC := Lib.hid (fun (k : Nat) (hk : k < (xs ++ [x]).length) W => by
              have e := pDecode_any (xs ++ [x])[k].txt W (by rw [Rt.txt_size (HT2.out.may k hk)]; decide)
              rw [Rt.txt_list, decR_raw (HT2.out.may k hk)] at e
              exact e)
            have HVT := Lib.hid (fun W (h : RackAt g s2 W) => pVote_any g s2 ⟨N, 0, 24, 2⟩ W h)
            rw [voteR_all s2 ⟨N, 0, 24, 2⟩ x (geo_fits N 0 s2 hN1 (by omega) (by omega) HT2.out.hn HT2.out.hm) (Int.le_refl _) HXM.out (by rw [HT2.out.hn]; exact hN1) (by rw [HT2.out.hm]; decide) (by unfold RSt.down; rw [HT2.out.cut]; rfl) HT2.out.top] at HVT
            rw [HT2.out.hn] at HVT
            have HWT := Lib.hid (fun (d : Nat) (hd : d < N) W (h : RackAt g s2 W) => by
              have e := writes_any g s2 d (by omega) (by omega) W h
              rw [HT2.out.writes d hd, hlen] at e
              exact e)
            have HV9 := Lib.hid hvL
            subst hvL
            go_upto_region 19 with fail
            go_loopg [14] N (fun g2 t wy => ∃ d : Nat, d + g2 = N ∧ t = .int .i64 d ∧ Hid (Kept v3 wy))
            case atStart => exact ⟨0, by omega, rfl, Kept.refl _⟩
            case round =>
              obtain ⟨d, hd, rfl, KL⟩ := hrel
              cases gk with
              | succ g2 =>
                have b4 : decide ((d : Int) < (N : Int)) = true := decide_eq_true (by omega)
                have b5 : decide (d < N) = true := decide_eq_true (by omega)
                have hdN : d < N := by omega
                obtain ⟨K0, hK0⟩ : ∃ K0 : Nat, K0 = i - 1 := ⟨_, rfl⟩
                have hmx : max 0 ((i : Int) - 1) = (K0 : Int) := by omega
                have hK1 : K0 ≤ i := by omega
                have hK2 : i ≤ K0 + 1 := by omega
                clear hK0
                go_upto_region 22 with fail
                clear hmx
                go_loopg [15] (i + 1 - K0) (fun g3 t wy => ∃ k : Nat, k + g3 = i + 1 ∧ K0 ≤ k ∧ t = .int .i64 k ∧ Hid (Kept v3 wy))
                case atStart => exact ⟨K0, by omega, Nat.le_refl _, rfl, KL.out⟩
                case round =>
                  obtain ⟨k, hk, hKk, rfl, KM⟩ := hrel
                  cases gk with
                  | succ g3 =>
                    have b6 : decide ((k : Int) ≤ (i : Int)) = true := decide_eq_true (by omega)
                    have b7 : decide (k ≤ i) = true := decide_eq_true (by omega)
                    have hkl : k < (xs ++ [x]).length := by rw [hlen]; omega
                    have hki : (k : Int) < (i : Int) + 1 := by omega
                    have hki2 : k < i + 1 := by omega
                    have HR1 := Lib.hid (HRD.out d k hdN hkl (by rw [hlen]; omega))
                    have HD1 := Lib.hid (HDC.out k hkl)
                    have HC1 := Lib.hid (HCE.out k hkl)
                    generalize (xs ++ [x])[k] = y at *
                    obtain ⟨c0, c1, c2, c3, c4⟩ := HC1.out.kept KM.out
                    have hm1 : (y.gen : Int) % 2 = (y.me : Nat) := by unfold Rt.me; omega
                    have hm2 : (y.gen : Int).tmod 2 = (y.me : Nat) := by unfold Rt.me; rw [Int.tmod_eq_emod_of_nonneg (by omega)]; omega
                    have hm3 : IntKind.u64.wrap (y.me : Int) = (y.me : Int) := IntWalk.u64_in _ (by have := y.me_lt; omega)
                    have hm4 : IntKind.i64.wrap (y.me : Int) = (y.me : Int) := IntWalk.i64_in _ (by have := y.me_lt; omega)
                    clear hkl
                    go_wp2_with fail
                    refine (HR1.out _ (RR.out.kept KM.out)).mono ?_
                    rintro e y1 ⟨rfl, hk1⟩
                    have KM1 : Hid (Kept v3 y1) := KM.out.trans hk1
                    clear hk1 HR1 KM hm1 hm2 hm3 hm4 c0 c1 c2 c3 c4
                    go_wp2_with fail
                    refine (HD1.out _).mono ?_
                    rintro e y2 ⟨rfl, hk1⟩
                    have KM2 : Hid (Kept v3 y2) := KM1.out.trans hk1
                    clear hk1 HD1 KM1
                    unfold decV Rt.val
                    dsimp only
                    go_upto_region 26 with fail
                    have Y1 := Lib.hid (RtAt.laid y2 26 y)
                    have KM3 : Hid (Kept v3 (y2.alloc (.cells #[.int .u64 (y.gen : Nat), .int .u64 (y.nxt : Nat), .int .i64 y.row, .int .u64 (y.st : Nat), .int .i64 y.len] 26))) := KM2.out.alloc _
                    clear KM2
                    generalize y2.alloc (.cells #[.int .u64 (y.gen : Nat), .int .u64 (y.nxt : Nat), .int .i64 y.row, .int .u64 (y.st : Nat), .int .i64 y.len] 26) = y3 at *
                    generalize y2.heap.size = BY at *
                    obtain ⟨c0, c1, c2, c3, c4⟩ := HC1.out.kept KM3.out
                    have d0 := Y1.out.c0
                    have d1 := Y1.out.c1
                    have d2 := Y1.out.c2
                    have d3 := Y1.out.c3
                    have d4 := Y1.out.c4
                    clear Y1 HC1
                    go_quiet (fail)
                    go_wp2_with fail
                    go_roundg g3
                    case measure => omega
                    case rel => exact ⟨k + 1, by omega, by omega, by go_num, KM3.out.drewN _⟩
                  | zero =>
                    have b6 : decide ((k : Int) ≤ (i : Int)) = false := decide_eq_false (by omega)
                    have b7 : decide (k ≤ i) = false := decide_eq_false (by omega)
                    have HW1 := Lib.hid (HWT.out d hdN)
                    have hw7 : IntKind.u64.wrap ((i : Int) + 1) = (i : Int) + 1 := IntWalk.u64_in _ (by omega)
                    go_wp2_with fail
                    refine (HW1.out _ (RR.out.kept KM.out)).mono ?_
                    rintro e y1 ⟨rfl, hk1⟩
                    have KM1 : Hid (Kept v3 y1) := KM.out.trans hk1
                    clear hk1 HW1 KM
                    go_wp2_with fail
                    go_roundg g2
                    case measure => omega
                    case rel => exact ⟨d + 1, by omega, by go_num, KM1.out⟩
              | zero =>
                have b4 : decide ((d : Int) < (N : Int)) = false := decide_eq_false (by omega)
                have b5 : decide (d < N) = false := decide_eq_false (by omega)
                have g0 := (GG.out.kept KL.out).c0
                have g1 := (GG.out.kept KL.out).c1
                have g2 := (GG.out.kept KL.out).c2
                have g3 := (GG.out.kept KL.out).c3
                dsimp only at g0 g1 g2 g3
                unfold Geo.val Rt.val at HVT
                go_wp2_with fail
                refine (HVT.out _ (RR.out.kept KL.out)).mono ?_
                rintro e y1 ⟨⟨hv, rfl, hGB⟩, hk1⟩
                have KM1 : Hid (Kept v3 y1) := KL.out.trans hk1
                obtain ⟨ha, hc, rfl, _⟩ := hGB.bls
                rw [List.length_replicate]
                clear hk1 hGB HVT KL g0 g1 g2 g3
                go_upto_region 31 with fail
                have Y1 := Lib.hid (RtAt.laid y1 26 x)
                have KM2 : Hid (Kept v3 (y1.alloc (.cells #[.int .u64 (x.gen : Nat), .int .u64 (x.nxt : Nat), .int .i64 x.row, .int .u64 (x.st : Nat), .int .i64 x.len] 26))) := KM1.out.alloc _
                clear KM1
                generalize y1.alloc (.cells #[.int .u64 (x.gen : Nat), .int .u64 (x.nxt : Nat), .int .i64 x.row, .int .u64 (x.st : Nat), .int .i64 x.len] 26) = y2 at *
                generalize y1.heap.size = BY at *
                obtain ⟨x0, x1, x2, x3, x4, _, _, _, _, _⟩ := X1.out.kept KM2.out
                have d0 := Y1.out.c0
                have d1 := Y1.out.c1
                have d2 := Y1.out.c2
                have d3 := Y1.out.c3
                have d4 := Y1.out.c4
                clear Y1
                have hcs : ((i : Int) + 1) = ((xs ++ [x]).length : Nat) := by rw [hlen]; rfl
                have HCS := Lib.hid hcs
                clear hcs
                go_wp2_with fail
                go_roundg gh
                case measure => omega
                case rel => exact ⟨xs ++ [x], s2, by rw [hlen]; have := HXL.out; omega, by rw [← HCS.out], K3.out.trans KM2.out, GG.out.kept KM2.out, RR.out.kept KM2.out, HT2.out, HG9.out.kept KM2.out, Nat.le_trans HBU3.out KM2.out.size⟩
end Go.Proofs.Ytoekaabngjjefaa
