/- What the document's own answers on matrices come to: Undo. -/
import Derived.Test.YtlmoeaphikdjnaaMatRef5
import Derived.Test.YtlmoeaphikdjnaaElim2
import Derived.Deep.RegionLaw
namespace Go.Proofs.Ytlmoeaphikdjnaa
open Go.RowKit Gf
set_option linter.unusedVariables false
theorem unit_row (N k : Nat) (h1 : 1 ≤ N) (h2 : N ≤ 64) (hk : k < N) (w : World) :
    Calls Try.prog 18 #[.int .i64 (N : Nat)] w fun e w' => ∃ b o cap, e = .returned (.slice (some ⟨b, o, none⟩) N cap) ∧ w'.cell? ⟨b, o + k, none⟩ = some (.string (strOf N (un k))) ∧ b < w'.heap.size ∧ Kept w w' := by
  refine (refUnit_any (N : Int) w (by omega) (by omega)).mono ?_
  rintro e w' ⟨a, cap, rfl, hS, hK⟩
  have hu : unitL (N : Int) = matL N N un := by unfold unitL; rw [if_pos (by omega)]; rfl
  rw [hu] at hS
  rw [hu, matL_length]
  obtain ⟨b, o, hc⟩ := strs_at hS
  rw [matL_length] at hc
  obtain ⟨ha, hc2⟩ := hc (by omega)
  subst ha
  have hck := hc2 k hk
  rw [nth_matL _ _ _ _ hk] at hck
  exact ⟨b, o, cap, rfl, hck, block_lt_of_cell hck, hK⟩
/-- The world behind '[]byte(s)'. -/
def convW (W : World) (s : ByteArray) : World := W.drew.alloc (.cells (bytesRow s (grownCap W s.size 0 5)) 5 ((bytesRow s (grownCap W s.size 0 5)).size, (bytesRow s (grownCap W s.size 0 5)).size + 1))
structure ConvAt (W : World) (s : ByteArray) (n : Nat) (w3 : World) : Prop where
  byt : Byt W.heap.size n (bt s) w3
  spare : Spare W.heap.size n (grownCap W n 0 5) w3
  lt : W.heap.size < w3.heap.size
  kept : Kept W w3
theorem conv_at {W w3 : World} {s : ByteArray} {n : Nat} (hn : s.size = n) (k : Kept (convW W s) w3) : ConvAt W s n w3 := by
  subst hn
  have hlt : W.heap.size < (convW W s).heap.size := by show W.heap.size < (W.heap.push _).size; simp
  have hge : s.size ≤ grownCap W s.size 0 5 := grownCap_ge W s.size 0 5
  have hsp := Spare.conv W s (grownCap W s.size 0 5) 5
  have hsp2 : Spare W.heap.size s.size (grownCap W s.size 0 5) (convW W s) := by rw [bytesRow_size s _ hge] at hsp; unfold convW; rw [bytesRow_size s _ hge]; exact hsp
  refine ⟨(Byt.conv W s _ 5).kept k hlt, ⟨fun j h1 h2 => ?_, fun j h1 h2 => ?_⟩, Nat.lt_of_lt_of_le hlt k.size, Kept.trans (((Kept.refl W).drew).alloc _) k⟩
  · rw [Below.cell k hlt]; exact hsp2.there j h1 h2
  · rw [(k.but (convW W s).heap.size).frozen (p := ⟨W.heap.size, j, none⟩) hlt (Nat.ne_of_lt hlt)]; exact hsp2.free j h1 h2
theorem conv_run (W : World) (s : ByteArray) (n : Nat) (hn : s.size = n) : (convert 9 43 (.string s)).run Try.prog W = .ok (.slice (some ⟨W.heap.size, 0, none⟩) n (grownCap W n 0 5)) (convW W s) := by
  subst hn
  exact run_bytes_of_string (P := Try.prog) W 9 43 5 s Try.underlying9 Try.underlying43 Try.underlying5
/-- What the row that is added leaves. -/
theorem row_new {wr W w4 : World} {g g4 m : Nat} {X : Nat → UInt8} (hk : Kept wr W) (hg : wr.heap.size ≤ g) (hb : But g W w4) (ho : g4 = g ∨ g4 = W.heap.size) (hB : Byt g4 m X w4) (hl : g4 < w4.heap.size) : Kept wr w4 ∧ Byt g4 m X w4 ∧ wr.heap.size ≤ g4 ∧ g4 < w4.heap.size :=
  ⟨But.kept hk hg hb, hB, by have := hk.size; omega, hl⟩
/-- The rows at the beginning: the matrix, and the unit at its right. -/
def aug (ss : List ByteArray) (n i : Nat) : Nat → UInt8 := cat2 n (bt (nth ss i)) (strOf n (un i))
theorem cell_row (w : World) (v : Value) (t : TypeId) : ∀ j u, [v][j]? = some u → (w.alloc (.cells #[v] t)).cell? ((⟨w.heap.size, 0, none⟩ : Addr).add j) = some u := by
  intro j u hj
  match j, hj with
  | 0, hj =>
    simp at hj
    subst hj
    rw [add_at, World.cell?_alloc_mark]
    rfl
theorem one_row (g m c : Nat) : ∀ u ∈ [Value.slice (some ⟨g, 0, none⟩) m c], u.oneCell' = true := by
  intro u hu
  simp at hu
  subst hu
  rfl
set_option maxHeartbeats 2000000 in
set_option maxRecDepth 100000 in
theorem refUndo_any (a : Option Addr) (ca : Nat) (ss : List ByteArray) (w : World) (hS : Strs w a ss) (hm : ss.length ≤ maxLen) (hz1 : ∀ s ∈ ss, s.size ≤ maxLen) :
    Calls Try.prog 13 #[.slice a ss.length ca] w fun e w' => GotM (undoL ss) (undoE ss) w e w' := by
  obtain ⟨b1, o1, hc1⟩ := strs_at hS
  have HS := Lib.hid hS
  have HM1 := Lib.hid hm
  have HZ1 := Lib.hid hz1
  have H1 := Lib.hid hc1
  clear hS hm hz1 hc1
  go_enter Try.func13, Try.ntmps13
  go_wp2_with fail
  refine (refMay_any a ca ss _ HS.out HM1.out HZ1.out).mono ?_
  rintro e w1 ⟨rfl, k1⟩
  cases hma : mayB ss
  · have HE : Hid (undoE ss = 8 ∧ undoL ss = []) := undo_form ss (by rw [hma]; simp)
    clear hma
    go_wp2_with fail
    go_ret2
    rw [HE.out.1, HE.out.2]
    exact GotM.nil 8 k1
  · obtain ⟨a1, a2, a3, a4, _⟩ := may_yes ss hma
    obtain ⟨ha, hc1⟩ := H1.out (by omega)
    have HC1 : Hid (∀ W, Kept w W → ∀ i, i < ss.length → W.cell? ⟨b1, o1 + i, none⟩ = some (.string (nth ss i))) := fun W hW i hi => by rw [Below.cell hW (block_lt_of_cell (hc1 i hi)), hc1 i hi]
    have HBL : Hid (b1 < w.heap.size) := block_lt_of_cell (hc1 0 (by omega))
    have HMA := Lib.hid (may_size ss hma)
    have hc0 := HC1.out w1 k1 0 (by omega)
    rw [Nat.add_zero] at hc0
    rw [ha]
    clear hc1 ha H1 HM1 HZ1 HS
    by_cases hs : (nth ss 0).size = ss.length
    · have hsb : (((nth ss 0).size : Int) == (ss.length : Int)) = true := by simp [hs]
      have HU := Lib.hid (undo_is ss hma hs)
      have HUN := Lib.hid (undo_not ss hma hs)
      rw [hs] at HMA
      clear hma
      generalize nth ss 0 = p0 at *
      generalize hn : ss.length = n at *
      have HNN := Lib.hid hn
      clear hn
      go_wp2_with fail
      clear hc0 hsb hs a3 a4
      go_loopw [5, 6] (fun v i wr => ∃ k : Nat, k ≤ n ∧ i = .int .i64 k ∧ Hid (∃ ρ κ, Grd w.heap.size (n + n) k (aug ss n) ρ κ v wr ∧ Kept w wr)) (fun _ i _ => n - (intOf i).toNat)
      case atStart => exact ⟨0, Nat.zero_le _, rfl, _, _, Grd.nil _ _ _ _, k1⟩
      case round =>
        obtain ⟨k, hk, rfl, HI⟩ := hrel
        obtain ⟨ρ, κ, hG, hKw⟩ := HI.out
        have HG := Lib.hid hG
        have HKw := Lib.hid hKw
        clear hG hKw HI
        by_cases hlt : k < n
        · have hck := HC1.out wr HKw.out k hlt
          have hps := HMA.out k hlt
          have HAUG : Hid (aug ss n k = cat2 n (bt (nth ss k)) (strOf n (un k))) := rfl
          have HBR : Hid (b1 < wr.heap.size) := Nat.lt_of_lt_of_le HBL.out HKw.out.size
          have HSU : Hid ((strOf n (un k)).size = n) := strOf_size _ _
          have HUR := Lib.hid (unit_row n k a1 a2 hlt)
          generalize strOf n (un k) = q at *
          generalize nth ss k = p at *
          obtain ⟨i0, hi, hzz⟩ := Option.map_eq_some_iff.1 info_bytes
          simp only [Prod.mk.injEq] at hzz
          have hcv := fun W => conv_run W p n hps
          have HPS := Lib.hid hps
          clear hps
          go_wp2_with fail
          go_region_law (first
            | (refine step_append_lies _ rfl (.tmp 32) (.tmp 44) 50 rfl w.heap.size 43 i0 (.slice none 0 0) 1 24 Try.underlying50 hi hzz.1 hzz.2.1 hzz.2.2 rfl (by decide) _ k ((List.range k).map (rowV (n + n) ρ κ)) (by rfl) (HG.out.kept (HW4.out.1.alloc _)).own ⟨w4.heap.size, 0, none⟩ 1 1 [.slice (some ⟨g4, 0, none⟩) (n + n) cap4] (by rfl) rfl (cell_row _ _ _) (one_row _ _ _) (by decide) (by unfold maxLen; omega) (by omega) (Kept.trans HKw.out (HW4.out.1.alloc _)).size _ rfl ?_; intro G5 capG w5 hown5 hgr5 hor5 hlt5)
            | (first | (have hCA := conv_at HPS.out k3; refine step_app rfl (.tmp 37) (.tmp 42) rfl _ n _ (n + n) (bt p) q (by rfl) (by rfl) hCA.byt hCA.spare hCA.lt (by rw [HSU.out]) (by omega) ?_; intro g4 cap4 w4 hB4 hbut4 hor4 hlt4 hcp4; have HCP4 := Lib.hid hcp4; clear hcp4; have HW4 := Lib.hid (row_new (wr := wr) ((Kept.refl _).drew.trans hCA.kept) (Nat.le_refl _) hbut4 hor4 hB4 hlt4)) | (have hCA := conv_at HPS.out (Kept.refl (convW w3 p)); refine step_app rfl (.tmp 37) (.tmp 42) rfl _ n _ (n + n) (bt p) q (by rfl) (by rfl) hCA.byt hCA.spare hCA.lt (by rw [HSU.out]) (by omega) ?_; intro g4 cap4 w4 hB4 hbut4 hor4 hlt4 hcp4; have HCP4 := Lib.hid hcp4; clear hcp4; have HW4 := Lib.hid (row_new (wr := wr) (((Kept.refl _).drew.trans k3).trans hCA.kept) ((Kept.refl _).drew.trans k3).size hbut4 hor4 hB4 hlt4)))
            | (go_simp; go_at_call 18; refine (HUR.out _).mono ?_; rintro e w3 ⟨b3, o3, cap3, rfl, hcu, hb3, k3⟩; have hcu2 : (convW w3 p).cell? ⟨b3, o3 + k, none⟩ = some (.string q) := (Below.cell (conv_at HPS.out (Kept.refl (convW w3 p))).kept hb3).trans hcu; (try have hck3 : w3.cell? ⟨b1, o1 + k, none⟩ = some (.string p) := (Below.cell k3 HBR.out).trans hck)))
          all_goals
            have HF : Hid (∃ ρ κ, Grd w.heap.size (n + n) (k + 1) (aug ss n) ρ κ (.slice (some ⟨G5, 0, none⟩) (k + 1) capG) w5 ∧ Kept w w5) := by
              refine ⟨_, _, Grd.snoc HG.out (HW4.out.1.alloc _) HKw.out.size g4 cap4 ?_ HW4.out.2.2.1 ?_ HCP4.out G5 capG hown5 hgr5 hor5, ?_⟩
              · rw [HAUG.out]
                exact HW4.out.2.1.kept ((Kept.refl _).alloc _) HW4.out.2.2.2
              · exact Nat.lt_of_lt_of_le HW4.out.2.2.2 ((Kept.refl w4).alloc _).size
              · exact Below.grown (HKw.out.trans (HW4.out.1.alloc _)) hgr5 (HKw.out.trans (HW4.out.1.alloc _)).size (fun q hq => (HG.out.own.lt q hq).1)
            clear hown5 hgr5 hor5 hlt5 hB4 hbut4 hor4 hlt4 hCA hcu hcu2 hb3 k3 hcv hck
            go_wp2_with fail
            exact ⟨⟨k + 1, by omega, by go_num, HF⟩, by simp [intOf]; omega⟩
        · obtain rfl : n = k := by omega
          obtain ⟨G, capG, hv, hR⟩ := HG.out.rws a1
          subst hv
          have HR0 : Hid (∃ ρ κ X, Rws w.heap.size G n (n + n) X ρ κ wr ∧ Elim n (mt ss) 0 X ∧ Kept w wr) :=
            ⟨ρ, κ, aug ss n, hR, elim_start n (mt ss) _ (fun i j hi hj => by unfold aug cat2; rw [if_pos hj]; rfl) (fun i j hi hj => by unfold aug cat2; rw [if_neg (by omega), Nat.add_sub_cancel_left, strOf_bt _ _ _ hj]), HKw.out⟩
          clear HG HKw hR hlt hk k1
          generalize hm2 : n + n = m2 at *
          have HM2 := Lib.hid hm2
          have h2n : (2 : Int) * (n : Int) = (m2 : Int) := by omega
          have hm128 : m2 ≤ 128 := by omega
          have hnm : n ≤ m2 := by omega
          clear hm2
          go_wp2_with fail
          go_loopw [7, 8, 9, 10, 11, 12, 13] (fun i _ _ _ _ _ _ wr => ∃ c : Nat, c ≤ n ∧ i = .int .i64 c ∧ Hid (∃ ρ κ X, Rws w.heap.size G n m2 X ρ κ wr ∧ Elim n (mt ss) c X ∧ Kept w wr)) (fun i _ _ _ _ _ _ _ => n - (intOf i).toNat)
          case atStart => exact ⟨0, Nat.zero_le _, rfl, HR0⟩
          case round =>
            obtain ⟨c, hc, rfl, HI⟩ := hrel
            obtain ⟨ρ, κ, X, hR, hE, hK⟩ := HI.out
            have HR := Lib.hid hR
            have HE := Lib.hid hE
            have HK := Lib.hid hK
            clear hR hE hK HI HR0
            by_cases hlt : c < n
            · go_wp2_with fail
              go_loop [8] (fun i => ∃ p : Nat, c ≤ p ∧ p ≤ n ∧ i = .int .i64 p ∧ Hid (∀ q, c ≤ q → q < p → X q c = 0)) (fun i => n - (intOf i).toNat)
              case atStart => exact ⟨c, Nat.le_refl _, hc, rfl, fun q h1 h2 => by omega⟩
              case round =>
                obtain ⟨p, hcp, hpn, rfl, HZ⟩ := hrel
                by_cases hp : p < n
                · have hrp := HR.out.row p hp
                  have hbp := (HR.out.byt p hp).cell c (by omega)
                  unfold rowV at hrp
                  by_cases hx0 : X p c = 0
                  · have HZ2 : Hid (∀ q, c ≤ q → q < p + 1 → X q c = 0) := fun q h1 h2 => by
                      by_cases e : q = p
                      · subst e; exact hx0
                      · exact HZ.out q h1 (by omega)
                    rw [hx0] at hbp
                    rw [show ((UInt8.toNat 0 : Nat) : Int) = 0 from rfl] at hbp
                    clear hx0
                    go_wp2_with fail
                    exact ⟨⟨p + 1, by omega, by omega, by go_num, HZ2⟩, by simp [intOf]; omega⟩
                  · have hxne : (((X p c).toNat : Nat) : Int) ≠ 0 := fun e => hx0 (UInt8.toNat_inj.1 (by simpa using e))
                    have hxb : ((((X p c).toNat : Nat) : Int) == 0) = false := beq_eq_false_iff_ne.2 hxne
                    have HX0 := Lib.hid hx0
                    clear hx0
                    have hrc := HR.out.row c hlt
                    have hfp := HR.out.free p hp
                    have hfc := HR.out.free c hlt
                    have hsw := HR.out.swap p c hp hlt (swp p c) (fun i => rfl)
                    have hcs := cellG wr G p c (rowV m2 ρ κ c) (rowV m2 ρ κ c) hrc
                    rw [show (if c = p then rowV m2 ρ κ c else rowV m2 ρ κ c) = rowV m2 ρ κ c from by split <;> rfl] at hcs
                    unfold rowV at hrc hcs hsw
                    have HSW := Lib.hid hsw
                    have HK2 : Hid (Kept w ((wr.setCell ⟨G, p, none⟩ (.slice (some ⟨ρ c, 0, none⟩) m2 (κ c))).setCell ⟨G, c, none⟩ (.slice (some ⟨ρ p, 0, none⟩) m2 (κ p)))) := (HK.out.setCell HR.out.G0 _).setCell HR.out.G0 _
                    clear hsw
                    go_upto_region 22 with fail
                    generalize (wr.setCell ⟨G, p, none⟩ (.slice (some ⟨ρ c, 0, none⟩) m2 (κ c))).setCell ⟨G, c, none⟩ (.slice (some ⟨ρ p, 0, none⟩) m2 (κ p)) = w2 at *
                    clear hcs hrc hfp hfc hrp hbp hxb hxne
                    obtain ⟨X1, hX1⟩ : ∃ X1, (fun i => X (swp p c i)) = X1 := ⟨_, rfl⟩
                    obtain ⟨ρ1, hρ1⟩ : ∃ ρ1, (fun i => ρ (swp p c i)) = ρ1 := ⟨_, rfl⟩
                    obtain ⟨κ1, hκ1⟩ : ∃ κ1, (fun i => κ (swp p c i)) = κ1 := ⟨_, rfl⟩
                    rw [hX1, hρ1, hκ1] at HSW
                    have HX1 : Hid (∀ i, X1 i = X (swp p c i)) := fun i => by rw [← hX1]
                    clear hX1 hρ1 hκ1
                    have hscc : swp p c c = p := by unfold swp; by_cases h : c = p <;> simp [h]
                    have HY : Hid (X1 c c = X p c) := by show _ = _; rw [HX1.out, hscc]
                    have hrc2 := HSW.out.row c hlt
                    have hbc2 := (HSW.out.byt c hlt).cell c (by omega)
                    unfold rowV at hrc2
                    clear hscc
                    obtain ⟨y, hy⟩ : ∃ y, X1 c c = y := ⟨_, rfl⟩
                    rw [hy] at hbc2 HY
                    have hy0 : y.toNat ≠ 0 := fun e => HX0.out (by rw [← HY.out]; exact UInt8.toNat_inj.1 e)
                    have HQ : Hid (quo 1 y.toNat = (gi y).toNat) := by show _ = _; rw [quo_one _ y.toNat_lt hy0, gi_nat]
                    clear hy hy0
                    go_wp2_with fail
                    refine (refInv_any y.toNat y.toNat_lt _).mono ?_
                    rintro e w9 ⟨rfl, rfl⟩
                    rw [HQ.out]
                    obtain ⟨s, hs⟩ : ∃ s, gi y = s := ⟨_, rfl⟩
                    rw [hs]
                    have HS := Lib.hid hs
                    clear hs HQ
                    generalize quoE y.toNat = g7 at *
                    have hmk := fun W => run_make_row' (P := Try.prog) 43 5 (.int .u8 0) 1 Try.underlying43 info_byte rfl .i64 .i64 m2 (by omega) (by omega) W
                    rw [made_zero] at hmk
                    have HB := Lib.hid (Byt.made w9 m2)
                    have HK0 : Hid (Kept w9 (w9.alloc (.cells (row m2 fun _ => .int .u8 0) 5))) := (Kept.refl _).alloc _
                    have HLT : Hid (w9.heap.size < (w9.alloc (.cells (row m2 fun _ => .int .u8 0) 5)).heap.size) := by show _ < (w9.heap.push _).size; simp
                    generalize (row m2 fun _ => Value.int .u8 0) = R at *
                    go_upto_region 24 with fail
                    have HR3 := Lib.hid (HSW.out.kept HK0.out)
                    have HK3 := Lib.hid (HK2.out.trans HK0.out)
                    obtain ⟨g, hg⟩ : ∃ g, w9.heap.size = g := ⟨_, rfl⟩
                    rw [hg] at HB HLT ⊢
                    have HGG : Hid ((∀ i, i < n → ρ1 i ≠ g) ∧ g ≠ G ∧ w.heap.size ≤ g) := ⟨fun i hi e => by have := HSW.out.lt i hi; omega, fun e => by have := HSW.out.G1; omega, by have := HK2.out.size; omega⟩
                    generalize w9.alloc (.cells R 5) = w3 at *
                    clear hg hmk hrc2 hbc2 HSW HK2 HK0
                    have hrc3 := HR3.out.row c hlt
                    unfold rowV at hrc3
                    go_wp2_with fail
                    refine (scaled_any g (ρ1 c) m2 m2 (κ1 c) (fun _ => 0) (X1 c) s (by omega) _ HB.out (HR3.out.byt c hlt) (Ne.symm (HGG.out.1 c hlt)) HLT.out).mono ?_
                    rintro e w4 ⟨rfl, hb4, hy4⟩
                    have hR4 := HR3.out.keptBut hb4 HGG.out.1 (Ne.symm HGG.out.2.1)
                    have hrc4 := hR4.row c hlt
                    have hfc4 := hR4.free c hlt
                    unfold rowV at hrc4
                    have HK5 : Hid (Kept w (w4.setCell ⟨G, c, none⟩ (.slice (some ⟨g, 0, none⟩) m2 m2))) := (But.kept HK3.out HGG.out.2.2 hb4).setCell hR4.G0 _
                    have HR5 := Lib.hid (hR4.put c g m2 _ hlt hy4 HGG.out.2.2 (Nat.lt_of_lt_of_le HLT.out hb4.size) HGG.out.2.1 HGG.out.1 (Nat.le_refl _))
                    clear hR4 hb4 hy4 hrc3
                    go_upto_region 26 with fail
                    generalize w4.setCell ⟨G, c, none⟩ (.slice (some ⟨g, 0, none⟩) m2 m2) = w5 at *
                    clear hrc4 hfc4
                    obtain ⟨X2, hX2⟩ : ∃ X2, (fun i => if i = c then (fun j => 0 ^^^ gm s (X1 c j)) else X1 i) = X2 := ⟨_, rfl⟩
                    obtain ⟨ρ2, hρ2⟩ : ∃ ρ2, (fun i => if i = c then g else ρ1 i) = ρ2 := ⟨_, rfl⟩
                    obtain ⟨κ2, hκ2⟩ : ∃ κ2, (fun i => if i = c then m2 else κ1 i) = κ2 := ⟨_, rfl⟩
                    rw [hX2, hρ2, hκ2] at HR5
                    have HX2 : Hid (∀ r j, X2 r j = if r = c then gm (gi (X p c)) (X p j) else X (swp p c r) j) := fun r j => by
                      have hscc : swp p c c = p := by unfold swp; by_cases h : c = p <;> simp [h]
                      rw [← hX2]
                      by_cases e : r = c
                      · simp only [if_pos e]
                        rw [zero_add, HX1.out, hscc, ← HS.out, HY.out]
                      · simp only [if_neg e]
                        rw [HX1.out]
                    have HGC : Hid (ρ2 c = g) := by show _ = _; rw [← hρ2]; simp
                    clear hX2 hρ2 hκ2 HR3 HK3 HGG HLT HB HX1 HR HK
                    have HR6 : Hid (∃ X3, Rws w.heap.size G n m2 X3 ρ2 κ2 w5 ∧ Kept w w5 ∧ ∀ r j, X3 r j = if r < 0 ∧ r ≠ c then X2 r j ^^^ gm (X2 r c) (X2 c j) else X2 r j) := ⟨X2, HR5.out, HK5.out, fun r j => by rw [if_neg (by omega)]⟩
                    clear HR5 HK5
                    go_wp2_with fail
                    go_loopw [13] (fun i wr => ∃ i2 : Nat, i2 ≤ n ∧ i = .int .i64 i2 ∧ Hid (∃ X3, Rws w.heap.size G n m2 X3 ρ2 κ2 wr ∧ Kept w wr ∧ ∀ r j, X3 r j = if r < i2 ∧ r ≠ c then X2 r j ^^^ gm (X2 r c) (X2 c j) else X2 r j)) (fun i _ => n - (intOf i).toNat)
                    case atStart => exact ⟨0, Nat.zero_le _, rfl, HR6⟩
                    case round =>
                      obtain ⟨i, hi, rfl, HL⟩ := hrel
                      obtain ⟨X3, hR, hK, hX⟩ := HL.out
                      have HR := Lib.hid hR
                      have HK := Lib.hid hK
                      have HX := Lib.hid hX
                      clear hR hK hX HL HR6
                      by_cases hin : i < n
                      · by_cases hic : i = c
                        · have hicb : ((i : Int) == (c : Int)) = true := by simp [hic]
                          have HF : Hid (∃ X3, Rws w.heap.size G n m2 X3 ρ2 κ2 wr ∧ Kept w wr ∧ ∀ r j, X3 r j = if r < i + 1 ∧ r ≠ c then X2 r j ^^^ gm (X2 r c) (X2 c j) else X2 r j) := ⟨X3, HR.out, HK.out, fun r j => by
                            rw [HX.out]
                            by_cases h : r < i ∧ r ≠ c
                            · rw [if_pos h, if_pos ⟨by omega, h.2⟩]
                            · rw [if_neg h, if_neg (by omega)]⟩
                          clear hic
                          go_wp2_with fail
                          exact ⟨⟨i + 1, by omega, by go_num, HF⟩, by simp [intOf]; omega⟩
                        · have hicb : ((i : Int) == (c : Int)) = false := by simp; omega
                          obtain ⟨wd, hwd⟩ : ∃ wd, wr.drew = wd := ⟨_, rfl⟩
                          have HKD : Hid (Kept wr wd) := by rw [← hwd]; exact (Kept.refl _).drew
                          have HRD := Lib.hid (HR.out.kept HKD.out)
                          have hri := HRD.out.row i hin
                          have hbi := (HRD.out.byt i hin).cell c (by omega)
                          unfold rowV at hri
                          have HXI : Hid (∀ j, X3 i j = X2 i j) := fun j => by rw [HX.out, if_neg (by omega)]
                          have HXC : Hid (∀ j, X3 c j = X2 c j) := fun j => by rw [HX.out, if_neg (by omega)]
                          have HBC : Hid (Byt g m2 (X2 c) wd) := by
                            have e := HRD.out.byt c hlt
                            rw [HGC.out] at e
                            exact e.congr (fun j _ => (HXC.out j).symm)
                          have HNE : Hid (ρ2 i ≠ g) := fun e => hic (HRD.out.inj i c hin hlt (by rw [e, HGC.out]))
                          obtain ⟨x, hx⟩ : ∃ x, X3 i c = x := ⟨_, rfl⟩
                          rw [hx] at hbi
                          have HXX := Lib.hid hx
                          have HIC := Lib.hid hic
                          clear hx hic
                          go_wp2_with fail
                          have hcm : c < m2 := by omega
                          refine wp_region_still_tail 12 (by kernel_rfl) (by kernel_rfl) ?_
                          simp only [List.take_succ_cons, List.take_zero, List.drop_succ_cons, List.drop_zero]
                          change wpStill _ _ wr.drew (fun a' => wpList _ _ _ _ a' wr.drew) _ _
                          rw [hwd]
                          clear hwd
                          repeat still_step
                          refine wpStill_nil ?_
                          go_wp2_with fail
                          refine (scaled_any (ρ2 i) g m2 (κ2 i) m2 (X3 i) (X2 c) x (by omega) _ (HRD.out.byt i hin) HBC.out HNE.out (HRD.out.lt i hin)).mono ?_
                          rintro e w7 ⟨rfl, hb7, hy7⟩
                          have HF : Hid (∃ X3, Rws w.heap.size G n m2 X3 ρ2 κ2 w7 ∧ Kept w w7 ∧ ∀ r j, X3 r j = if r < i + 1 ∧ r ≠ c then X2 r j ^^^ gm (X2 r c) (X2 c j) else X2 r j) := by
                            refine ⟨_, HRD.out.write i hin hb7 _ hy7, But.kept (HK.out.trans HKD.out) (HRD.out.low i hin) hb7, fun r j => ?_⟩
                            by_cases h : r = i
                            · subst h
                              simp only [if_pos]
                              rw [if_pos ⟨by omega, HIC.out⟩, HXI.out, ← HXX.out, HXI.out]
                            · simp only [if_neg h]
                              rw [HX.out]
                              by_cases h2 : r < i ∧ r ≠ c
                              · rw [if_pos h2, if_pos ⟨by omega, h2.2⟩]
                              · rw [if_neg h2, if_neg (by omega)]
                          clear hb7 hy7 hri hbi
                          go_wp2_with fail
                          exact ⟨⟨i + 1, by omega, by go_num, HF⟩, by simp [intOf]; omega⟩
                      · obtain rfl : i = n := by omega
                        have HEL := Lib.hid (elim_step (Y := X3) HE.out hcp hp HX0.out (fun r j hr hj => by
                          rw [HX.out, HX2.out, HX2.out, HX2.out]
                          by_cases h : r = c
                          · rw [if_neg (fun e => e.2 h), if_pos h, if_pos h]
                          · rw [if_pos ⟨hr, h⟩, if_neg h, if_neg h, if_neg h, if_pos rfl]))
                        have HF : Hid (∃ ρ κ X, Rws w.heap.size G i m2 X ρ κ wr ∧ Elim i (mt ss) (c + 1) X ∧ Kept w wr) := ⟨ρ2, κ2, X3, HR.out, HEL.out, HK.out⟩
                        clear HR HK HX HX2
                        go_wp2_with fail
                        exact ⟨⟨c + 1, by omega, by go_num, HF⟩, by simp [intOf]; omega⟩
                · obtain rfl : n = p := by omega
                  have HN := Lib.hid (HUN.out (by unfold CanUndo; rw [HNN.out]; exact elim_none HE.out hlt (fun q h1 h2 => HZ.out q h1 h2)))
                  clear HR HE
                  go_wp2_with fail
                  go_ret2
                  rw [HN.out.1, HN.out.2]
                  exact GotM.nil 51 HK.out
            · obtain rfl : n = c := by omega
              have HUU := Lib.hid (HU.out _ (elim_end HE.out))
              obtain ⟨U, hU⟩ : ∃ U, (fun i j => X i (n + j)) = U := ⟨_, rfl⟩
              rw [hU] at HUU
              have HUX : Hid (∀ i j, U i j = X i (n + j)) := fun i j => by rw [← hU]
              clear hU HE
              generalize hwr : wr = w6 at *
              clear hwr
              go_wp2_with fail
              go_loopw [14, 15] (fun v i wr => ∃ k : Nat, k ≤ n ∧ i = .int .i64 k ∧ Hid (Gat w6.heap.size v (matL k n U) wr ∧ Kept w6 wr)) (fun _ i _ => n - (intOf i).toNat)
              case atStart => exact ⟨0, Nat.zero_le _, rfl, Gat.nil _ _, Kept.refl _⟩
              case round =>
                obtain ⟨k, hk, rfl, HI⟩ := hrel
                by_cases hkn : k < n
                · have HRW := Lib.hid (HR.out.kept HI.out.2)
                  have hri := HRW.out.row k hkn
                  unfold rowV at hri
                  have hkap : n < κ k := by have := HRW.out.cap k hkn; have := HM2.out; omega
                  have hmn : m2 - n = n := by have := HM2.out; omega
                  have hmni : (m2 : Int) - (n : Int) = (n : Int) := by omega
                  have hcv : ∀ cap, (convert 43 9 (.slice (some ⟨ρ k, n, none⟩) n cap)).run Try.prog wr = .ok (.string (strOf n (U k))) wr := fun cap => by
                    have hr := run_convert_bytes_back (P := Try.prog) wr 43 9 5 ⟨ρ k, n, none⟩ cap ((List.range n).map (U k)) Try.underlying43 Try.underlying5 Try.underlying9 (fun j hj => by
                      have hj' : j < n := by simpa using hj
                      have e := (HRW.out.byt k hkn).cell (n + j) (by have := HM2.out; omega)
                      rw [Go.WideShapes.add_plain, e]
                      simp [HUX.out])
                    rw [show ((List.range n).map (U k)).length = n from by simp] at hr
                    exact hr
                  have HSN := Lib.hid (matL_snoc k n U)
                  have HLN : Hid ((matL k n U).length ≤ 1000000000) := by show _ ≤ _; rw [matL_length]; omega
                  go_wp2_with (first | (at_builtin; go_must (refine wpList_gat _ rfl (.tmp 136) (.tmp 144) 23 rfl Try.underlying23 w6 _ (matL k n U) (by rfl) (HI.out.1.kept ((Kept.refl _).alloc _)) (HI.out.2.alloc _) (strOf n (U k)) wr.heap.size rfl (by rw [World.cell?_alloc_mark]; rfl) HLN.out ?_); intro v9 w9 hG9 hK9))
                  exact ⟨⟨k + 1, by omega, by go_num, by rw [HSN.out]; exact ⟨hG9, hK9⟩⟩, by simp [intOf]; omega⟩
                · obtain rfl : k = n := by omega
                  rw [← HUU.out.2] at HI
                  have HRR := Lib.hid HI.out.1
                  have HKK := Lib.hid (HK.out.trans HI.out.2)
                  clear HI
                  go_wp2_with fail
                  go_ret2
                  rw [HUU.out.1]
                  exact HRR.out.gotM HKK.out 0
    · have HE : Hid (undoE ss = 50 ∧ undoL ss = []) := undo_side ss hma hs
      have hsb : (((nth ss 0).size : Int) == (ss.length : Int)) = false := by simp; omega
      clear hma
      generalize nth ss 0 = p0 at *
      go_wp2_with fail
      go_ret2
      rw [HE.out.1, HE.out.2]
      exact GotM.nil 50 k1
end Go.Proofs.Ytlmoeaphikdjnaa
