/- What two texts are together is spread as their parts are together. -/
import Derived.Test.YthifdfbdekkmgaaSCodeLinP
import Derived.Test.YthifdfbdekkmgaaSFactsSix
import Derived.Deep.RegionHeldLaw
namespace Go.Proofs.Ythifdfbdekkmgaa
open Go.RowKit Gf
set_option linter.unusedVariables false
/-- The first j bytes are together. -/
def zf (s t : ByteArray) (j x : Nat) : UInt8 := if x < j then bt s x ^^^ bt t x else 0
theorem zf_next (s t : ByteArray) (j x : Nat) : zf s t (j + 1) x = upd (zf s t j) j (bt s j ^^^ bt t j) x := by
  unfold zf upd
  by_cases e : x = j
  · rw [if_pos e, if_pos (by omega), e]
  · rw [if_neg e]
    show _ = if x < j then _ else _
    by_cases h : x < j
    · rw [if_pos h, if_pos (by omega)]
    · rw [if_neg h, if_neg (by omega)]
theorem zf_all (s t : ByteArray) (n : Nat) : strOf n (zf s t n) = tog s t n := strOf_congr _ _ _ fun j hj => if_pos hj
set_option maxHeartbeats 4000000 in
set_option maxRecDepth 100000 in
theorem codeLinear_walk (s t : ByteArray) (p m : Int) (w : World) (hs : s.size ≤ maxLen) (ht : t.size ≤ maxLen) (hp0 : (Lit.int .u8 p).wf = true) (hm0 : (Lit.int .u8 m).wf = true) :
    Calls Seq.prog 6 #[.string s, .string t, .int .u8 p, .int .u8 m] w fun e w' => e = .returned (.bool true) ∧ Kept w w' := by
  have hp : 0 ≤ p ∧ p ≤ 255 := by simpa [Lit.wf, IntKind.min, IntKind.max, IntKind.signed, IntKind.bits] using hp0
  have hm : 0 ≤ m ∧ m ≤ 255 := by simpa [Lit.wf, IntKind.min, IntKind.max, IntKind.signed, IntKind.bits] using hm0
  clear hp0 hm0
  obtain ⟨p, rfl⟩ : ∃ q : Nat, p = q := ⟨p.toNat, by omega⟩
  obtain ⟨m, rfl⟩ : ∃ q : Nat, m = q := ⟨m.toNat, by omega⟩
  have HAL := Lib.hid alive_any
  by_cases hl : 512 < s.size
  · have hb : decide ((512 : Int) < (s.size : Int)) = true := decide_eq_true (by omega)
    clear hp hm hs ht
    go_enter Seq.func6, Seq.ntmps6
    go_wp2_with fail
    refine (HAL.out _).mono ?_
    rintro e w1 ⟨rfl, hk1⟩
    go_wp2_with fail
    go_ret
    exact ⟨rfl, hk1⟩
  have hb : decide ((512 : Int) < (s.size : Int)) = false := decide_eq_false (by omega)
  by_cases hl2 : 512 < t.size
  · have hb2 : decide ((512 : Int) < (t.size : Int)) = true := decide_eq_true (by omega)
    clear hp hm hs ht
    go_enter Seq.func6, Seq.ntmps6
    go_wp2_with fail
    refine (HAL.out _).mono ?_
    rintro e w1 ⟨rfl, hk1⟩
    go_wp2_with fail
    go_ret
    exact ⟨rfl, hk1⟩
  have hb2 : decide ((512 : Int) < (t.size : Int)) = false := decide_eq_false (by omega)
  obtain ⟨n, hn⟩ : ∃ n, min s.size t.size = n := ⟨_, rfl⟩
  have hmin : min (s.size : Int) (t.size : Int) = (n : Int) := by omega
  have hmk := fun W => run_make_row' (P := Seq.prog) 41 5 (.int .u8 0) 1 Seq.underlying41 info_byte rfl .i64 .i64 n (by omega) (by omega) W
  rw [made_zero] at hmk
  have HN := Lib.hid hn
  obtain ⟨k, hk⟩ : ∃ k, 1 + p % 9 = k := ⟨_, rfl⟩
  obtain ⟨r, hr⟩ : ∃ r, m % 5 = r := ⟨_, rfl⟩
  have hk1 : 1 ≤ k := by omega
  have hk9 : k ≤ 9 := by omega
  have hr4 : r ≤ 4 := by omega
  have hki : wrap64 (1 + (wrap64 (p : Int)).tmod 9) = (k : Int) := by
    rw [IntWalk.wrap64_in (p : Int) ⟨by omega, by omega⟩, show ((9 : Int)) = ((9 : Nat) : Int) from rfl, ← Int.ofNat_tmod p 9, IntWalk.wrap64_in _ ⟨by omega, by omega⟩]
    omega
  have hri : (wrap64 (m : Int)).tmod 5 = (r : Int) := by
    rw [IntWalk.wrap64_in (m : Int) ⟨by omega, by omega⟩, show ((5 : Int)) = ((5 : Nat) : Int) from rfl, ← Int.ofNat_tmod m 5]
    omega
  have HKI := Lib.hid hki
  have HRI := Lib.hid hri
  clear hki hri
  have HZB : Hid (∀ u : ByteArray, u.size = n → ∀ W, Calls Seq.prog 10 #[.int .i64 k, .int .i64 r, .string u] W fun e w' => GotM (spreadL k r u) 0 W e w') := fun u hu W => pSpread_ok k r u W hk1 (by omega) (by omega)
  have HLN : Hid (∀ u, (spreadL k r u).length = k + r) := fun u => spread_length k r u hk1 (by omega)
  have HP : Hid (∀ i, i < k + r → _) := fun i hi => lin_parts k r n s t hk1 (by omega) (by omega) (by omega) i hi
  have hsn : sizeI (k : Int) (n : Nat) = sizeN k n := if_pos ⟨decide_eq_true (by omega), by omega⟩
  have HSZ := Lib.hid (fun W => pSize_any (k : Int) (n : Nat) W (by omega) (by omega) (by omega) (by omega))
  rw [hsn] at HSZ
  have HSN := Lib.hid (sizeN_le k n hk1)
  have hcs := cut_size s n (by omega)
  have hct := cut_size t n (by omega)
  have hcb : (tog s t n).size = n := strOf_size _ _
  have hcz : (strOf n fun _ => (0 : UInt8)).size = n := strOf_size _ _
  have HS1 := Lib.hid (HZB.out _ hcs)
  have HS2 := Lib.hid (HZB.out _ hct)
  have HS3 := Lib.hid (HZB.out _ hcb)
  have HS4 := Lib.hid (HZB.out _ hcz)
  have HLN1 := Lib.hid (HLN.out (s.extract 0 n))
  have HLN2 := Lib.hid (HLN.out (t.extract 0 n))
  have HLN3 := Lib.hid (HLN.out (tog s t n))
  have HLN4 := Lib.hid (HLN.out (strOf n fun _ => 0))
  clear hk hr hsn hcs hct hcb hcz HZB HLN hp hm
  generalize spreadL k r (s.extract 0 n) = X at *
  generalize spreadL k r (t.extract 0 n) = Y at *
  generalize spreadL k r (tog s t n) = Z at *
  generalize spreadL k r (strOf n fun _ => 0) = O at *
  have HL1 := Lib.hid hl
  have HL2 := Lib.hid hl2
  clear hn hl hl2 hs ht
  have HB := Lib.hid (Byt.made w n)
  have HK0 : Hid (Kept w (w.alloc (.cells (row n fun _ => .int .u8 0) 5))) := (Kept.refl _).alloc _
  obtain ⟨g, hg⟩ : ∃ g, w.heap.size = g := ⟨_, rfl⟩
  have HG := Lib.hid hg
  have HMK := Lib.hid hmk
  have HG1 : Hid (g < (w.alloc (.cells (row n fun _ => .int .u8 0) 5)).heap.size) := by
    show g < (w.heap.push _).size
    rw [Array.size_push]
    omega
  have hmk1 := hmk w
  rw [hg] at hmk1 HB
  clear hg hmk
  generalize w.alloc (.cells (row n fun _ => .int .u8 0) 5) = w1 at *
  go_enter Seq.func6, Seq.ntmps6
  go_wp2_with fail
  clear hmk1
  go_loopw [11] (fun i wr => ∃ j : Nat, j ≤ n ∧ i = .int .i64 j ∧ Hid (Kept w wr ∧ Byt g n (zf s t j) wr ∧ g < wr.heap.size)) (fun i _ => n - (intOf i).toNat)
  case atStart => exact ⟨0, Nat.zero_le _, rfl, HK0.out, HB.out.congr (fun j _ => by unfold zf; rw [if_neg (Nat.not_lt_zero _)]), HG1.out⟩
  case round =>
    obtain ⟨j, hj, rfl, HI⟩ := hrel
    by_cases hlt : j < n
    · have hjb : j < 512 := by have := HL1.out; have := HN.out; omega
      have hcq := HI.out.2.1.cell j hlt
      have hfq := HI.out.2.1.free j hlt
      have h1 : j < s.size := by have := HN.out; omega
      have h2 : j < t.size := by have := HN.out; omega
      have hg1 := bt_get s j h1
      have hg2 := bt_get t j h2
      obtain ⟨v, hv⟩ : ∃ v : UInt8, s[j] ^^^ t[j] = v := ⟨_, rfl⟩
      have HXX : Hid (bits .xor .u8 ((s[j].toNat : Nat) : Int) ((t[j].toNat : Nat) : Int) = ((v.toNat : Nat) : Int)) := by
        show _ = _
        rw [u8_xor_nat _ _ s[j].toNat_lt t[j].toNat_lt, ← UInt8.toNat_xor, hv]
      have HB2 : Hid (Byt g n (zf s t (j + 1)) ((wr.setCell ⟨g, j, none⟩ (.int .u8 (v.toNat : Nat))).drew)) :=
        ((HI.out.2.1.set j hlt v).congr (fun x _ => by rw [← hv, hg1, hg2]; exact zf_next s t j x)).drewN 1
      have HF : Hid (Kept w ((wr.setCell ⟨g, j, none⟩ (.int .u8 (v.toNat : Nat))).drew) ∧ Byt g n (zf s t (j + 1)) ((wr.setCell ⟨g, j, none⟩ (.int .u8 (v.toNat : Nat))).drew) ∧ g < ((wr.setCell ⟨g, j, none⟩ (.int .u8 (v.toNat : Nat))).drew).heap.size) :=
        ⟨(HI.out.1.setCell (by rw [HG.out]; exact Nat.le_refl _) _).drew, HB2.out, block_lt_of_cell (HB2.out.cell j hlt)⟩
      clear hv
      clear hg1 hg2
      go_wp2_with fail
      go_region
      rw [HXX.out]
      go_wp2_with fail
      exact ⟨⟨j + 1, by omega, by go_num, HF⟩, by simp [intOf]; omega⟩
    · obtain rfl : j = n := by omega
      have hcv := byt_string g j j _ _ HI.out.2.1
      rw [zf_all] at hcv
      have HK2 := Lib.hid HI.out.1
      have HBY := Lib.hid HI.out.2.1
      have HGL := Lib.hid HI.out.2.2
      clear HI
      go_wp2_with fail
      rw [HKI.out, HRI.out]
      refine (HS1.out _).mono ?_
      rintro e w2 ⟨a2, c2, rfl, hs2, hk2⟩
      rw [HLN1.out]
      have HX := Lib.hid hs2
      have HC2 : Hid (Byt g j (zf s t j) w2) := HBY.out.kept hk2 HGL.out
      have HGL2 : Hid (g < w2.heap.size) := Nat.lt_of_lt_of_le HGL.out hk2.size
      have HK3 : Hid (Kept w w2) := HK2.out.trans hk2
      clear hs2 hk2
      go_wp2_with fail
      refine (HS2.out _).mono ?_
      rintro e w3 ⟨a3, c3, rfl, hs3, hk3⟩
      rw [HLN2.out]
      have HY := Lib.hid hs3
      have HX3 := Lib.hid (HX.out.kept hk3)
      have hcv3 := byt_string g j j _ _ (HC2.out.kept hk3 HGL2.out)
      rw [zf_all] at hcv3
      have HK4 : Hid (Kept w w3) := HK3.out.trans hk3
      clear hs3 hk3 HC2 HX HGL2 HGL HBY hcv HS1 HS2
      go_wp2_with fail
      refine (HS3.out _).mono ?_
      rintro e w4 ⟨a4, c4, rfl, hs4, hk4⟩
      rw [HLN3.out]
      have HZ := Lib.hid hs4
      have HX4 := Lib.hid (HX3.out.kept hk4)
      have HY4 := Lib.hid (HY.out.kept hk4)
      have HK5 : Hid (Kept w w4) := HK4.out.trans hk4
      clear hs4 hk4 hcv3 HX3 HY HS3
      have hmk4 := HMK.out w4
      have HB4 := Lib.hid (Byt.made w4 j)
      have HA4 : Hid (Kept w4 (w4.alloc (.cells (row j fun _ => .int .u8 0) 5))) := (Kept.refl _).alloc _
      generalize w4.alloc (.cells (row j fun _ => .int .u8 0) 5) = w5 at *
      have hcv4 := byt_string w4.heap.size j j _ _ HB4.out
      go_wp2_with fail
      refine (HS4.out _).mono ?_
      rintro e w6 ⟨a6, c6, rfl, hs6, hk6⟩
      rw [HLN4.out]
      have HO := Lib.hid hs6
      have HK45 : Hid (Kept w4 w6) := HA4.out.trans hk6
      have HX6 := Lib.hid (HX4.out.kept HK45.out)
      have HY6 := Lib.hid (HY4.out.kept HK45.out)
      have HZ6 := Lib.hid (HZ.out.kept HK45.out)
      have HK6 : Hid (Kept w w6) := HK5.out.trans HK45.out
      clear hs6 hk6 hcv4 hmk4 HB4 HA4 HX4 HY4 HZ HS4 HK45 HK5 HK4 HK3 HK2 HB HK0
      obtain ⟨b2, o2, hc2⟩ := strs_at HX6.out
      rw [HLN1.out] at hc2
      obtain ⟨ha2, hd2⟩ := hc2 (by omega)
      subst ha2
      have HCX : Hid (∀ W, Kept w6 W → ∀ i, i < k + r → W.cell? ⟨b2, o2 + i, none⟩ = some (.string (nth X i))) := fun W hW i hi => cellk (hd2 i hi) hW
      clear hc2 hd2
      obtain ⟨b3, o3, hc3⟩ := strs_at HY6.out
      rw [HLN2.out] at hc3
      obtain ⟨ha3, hd3⟩ := hc3 (by omega)
      subst ha3
      have HCY : Hid (∀ W, Kept w6 W → ∀ i, i < k + r → W.cell? ⟨b3, o3 + i, none⟩ = some (.string (nth Y i))) := fun W hW i hi => cellk (hd3 i hi) hW
      clear hc3 hd3
      obtain ⟨b4, o4, hc4⟩ := strs_at HZ6.out
      rw [HLN3.out] at hc4
      obtain ⟨ha4, hd4⟩ := hc4 (by omega)
      subst ha4
      have HCZ : Hid (∀ W, Kept w6 W → ∀ i, i < k + r → W.cell? ⟨b4, o4 + i, none⟩ = some (.string (nth Z i))) := fun W hW i hi => cellk (hd4 i hi) hW
      clear hc4 hd4
      obtain ⟨b6, o6, hc6⟩ := strs_at HO.out
      rw [HLN4.out] at hc6
      obtain ⟨ha6, hd6⟩ := hc6 (by omega)
      subst ha6
      have HCO : Hid (∀ W, Kept w6 W → ∀ i, i < k + r → W.cell? ⟨b6, o6 + i, none⟩ = some (.string (nth O i))) := fun W hW i hi => cellk (hd6 i hi) hW
      clear hc6 hd6
      have hw : wrap64 ((k : Int) + (r : Int)) = ((k + r : Nat) : Int) := IntWalk.wrap64_in _ ⟨by omega, by omega⟩
      clear HX6 HY6 HZ6 HO HLN1 HLN2 HLN3 HLN4
      go_wp2_with fail
      go_loopw [22, 23] (fun i v23 wr2 => ∃ q : Nat, q ≤ k + r ∧ i = .int .i64 q ∧ Hid (Kept w6 wr2)) (fun i _ _ => k + r - (intOf i).toNat)
      case atStart => exact ⟨0, Nat.zero_le _, rfl, Kept.refl _⟩
      case round =>
        obtain ⟨q, hq, rfl, HJ⟩ := hrel
        by_cases hlq : q < k + r
        · obtain ⟨z1, z2, z3, z4, z5⟩ := HP.out q hlq
          have hcx := HCX.out wr HJ.out q hlq
          have hcy := HCY.out wr HJ.out q hlq
          have hcz := HCZ.out wr HJ.out q hlq
          have hco := HCO.out wr HJ.out q hlq
          rw [z4] at hco
          have HCELL : Hid (∀ W, Kept wr W → W.cell? ⟨b2, o2 + q, none⟩ = some (.string (nth X q)) ∧ W.cell? ⟨b3, o3 + q, none⟩ = some (.string (nth Y q)) ∧ W.cell? ⟨b4, o4 + q, none⟩ = some (.string (nth Z q)) ∧ W.cell? ⟨b6, o6 + q, none⟩ = some (.string (strOf (sizeN k j) fun _ => 0))) := fun W hW =>
            ⟨HCX.out W (HJ.out.trans hW) q hlq, HCY.out W (HJ.out.trans hW) q hlq, HCZ.out W (HJ.out.trans hW) q hlq, by rw [← z4]; exact HCO.out W (HJ.out.trans hW) q hlq⟩
          have hsnb : sizeN k j ≤ 1000 := by have := HSN.out; have := HN.out; have := HL1.out; omega
          have HZ5 := Lib.hid z5
          obtain ⟨sn, hsn⟩ : ∃ sn, sizeN k j = sn := ⟨_, rfl⟩
          have HSZ2 : Hid (∀ W, Calls Seq.prog 12 #[.int .i64 k, .int .i64 (j : Nat)] W fun e w' => e = .returned (.int .i64 (sn : Nat)) ∧ Kept W w') := by
            rw [← hsn]
            exact HSZ.out
          rw [hsn] at z1 z2 z3 hco HCELL HZ5 hsnb
          clear z4 z5 hsn
          have hmkS := fun W => run_make_row' (P := Seq.prog) 41 5 (.int .u8 0) 1 Seq.underlying41 info_byte rfl .i64 .i64 sn (by omega) (by omega) W
          rw [made_zero] at hmkS
          have hcvS := fun (W : World) => byt_string W.heap.size sn sn _ _ (Byt.made W sn)
          have hcvD := fun (W : World) (d : Nat) => byt_string W.heap.size sn sn _ _ ((Byt.made W sn).drewN d)
          generalize (strOf sn fun _ => (0 : UInt8)) = zt at *
          generalize nth X q = x at *
          generalize nth Y q = y at *
          generalize nth Z q = z at *
          go_upto_region 19 with fail
          go_cut [198] (fun v wx => v = .bool false ∧ Hid (Kept wr wx))
          case first =>
            go_region_held_law (fun W => W.cell? ⟨b2, o2 + q, none⟩ = some (.string x) ∧ W.cell? ⟨b3, o3 + q, none⟩ = some (.string y) ∧ W.cell? ⟨b4, o4 + q, none⟩ = some (.string z) ∧ W.cell? ⟨b6, o6 + q, none⟩ = some (.string zt))
              (first | exact ⟨hcx, hcy, hcz, hco⟩ | exact HCELL.out _ ((Kept.refl _).drewN _) | exact HCELL.out _ (((Kept.refl _).drewN _).trans hg) | exact HCELL.out _ ((((Kept.refl _).drewN _).trans hg).drewN _) | exact HCELL.out _ ((((Kept.refl _).drewN _).trans hg).alloc _) | exact HCELL.out _ (((((Kept.refl _).drewN _).trans hg).drewN _).alloc _) | exact HCELL.out _ (((((Kept.refl _).drewN _).trans hg).alloc _).drewN _))
              (first | (go_at_call 12; refine (HSZ2.out _).mono ?_; rintro e w' ⟨rfl, hg⟩))
            all_goals go_wp2_with fail
            all_goals go_meet
            all_goals exact ⟨rfl, ((((Kept.refl _).drewN _).trans hg).alloc _)⟩
          case rest =>
            obtain ⟨rfl, HK7⟩ := hcut
            obtain ⟨w7, h7⟩ : ∃ X : World, wc = X := ⟨_, rfl⟩
            rw [h7] at HK7 ⊢
            clear h7 hmkS hcvS hcvD hcx hcy hcz hco
            go_wp2_with fail
            go_loopw [23] (fun i ws => ∃ j2 : Nat, j2 ≤ sn ∧ i = .int .i64 j2 ∧ Hid (Kept wr ws)) (fun i _ => sn - (intOf i).toNat)
            case atStart => exact ⟨0, Nat.zero_le _, rfl, HK7.out⟩
            case round =>
              obtain ⟨j2, hj2, rfl, HM⟩ := hrel
              obtain ⟨qx, qy, qz, -⟩ := HCELL.out _ HM.out
              by_cases hl2 : j2 < sn
              · have e1 : j2 < x.size := by omega
                have e2 : j2 < y.size := by omega
                have e3 : j2 < z.size := by omega
                have hxx : bits .xor .u8 ((x[j2].toNat : Nat) : Int) ((y[j2].toNat : Nat) : Int) = ((z[j2].toNat : Nat) : Int) := by
                  rw [u8_xor_nat _ _ x[j2].toNat_lt y[j2].toNat_lt, ← UInt8.toNat_xor, bt_get x j2 e1, bt_get y j2 e2, bt_get z j2 e3, HZ5.out j2 hl2]
                go_wp2_with fail
                go_quiet (fail)
                go_wp2_with fail
                exact ⟨⟨j2 + 1, by omega, by go_num, HM.out.trans ((Kept.refl _).drewN _)⟩, by simp [intOf]; omega⟩
              · obtain rfl : j2 = sn := by omega
                have HM2 : Hid (Kept w6 wr) := (HJ.out).trans HM.out
                go_wp2_with fail
                exact ⟨⟨q + 1, by omega, by go_num, HM2.out⟩, by simp [intOf]; omega⟩
        · obtain rfl : q = k + r := by omega
          have HKF : Hid (Kept w wr) := HK6.out.trans HJ.out
          go_wp2_with fail
          refine (HAL.out _).mono ?_
          rintro e w9 ⟨rfl, hk9'⟩
          have HKG : Hid (Kept w w9) := HKF.out.trans hk9'
          clear hk9'
          go_wp2_with fail
          go_ret
          exact ⟨rfl, HKG.out⟩
end Go.Proofs.Ythifdfbdekkmgaa
