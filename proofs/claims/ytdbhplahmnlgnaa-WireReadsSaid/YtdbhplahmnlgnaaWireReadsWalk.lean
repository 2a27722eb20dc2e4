/- The walk of WireReads. -/
import Derived.Test.YtdbhplahmnlgnaaWireAlive
import Derived.Test.YtdbhplahmnlgnaaAsks
import Derived.OpenShut
import Derived.Lib.Strings
import Derived.Deep.RegionWith
import Derived.Deep.RegionHeld3
import Derived.Deep.CutBlock
import Derived.Deep.DeepCutAuto
import Derived.Deep.DrawnRows
namespace Go.Proofs.Ytdbhplahmnlgnaa
open Go.RowKit _root_.Go.Proofs.Ytdbhplahmnlgnaa.Nm Wr
set_option linter.unusedVariables false
theorem cell_after {w wr w3 : World} {b : Nat} {p : Addr} {v : Value} (hK : Kept w wr) (hp : p.block < w.heap.size) (hb : w.heap.size ≤ b) (n : Nat) (hB : But b (wr.drewN n) w3) (hc : wr.cell? p = some v) : w3.cell? p = some v := by
  have h1 := hK.size
  have hk : Kept wr (wr.drewN n) := (Kept.refl _).drewN n
  have h2 := hk.size
  rw [hB.cell (by omega) (by omega), Below.cell hk (by omega)]
  exact hc
theorem cell_after2 {w wr w3 w4 : World} {b c : Nat} {p : Addr} {v : Value} (hK : Kept w wr) (hp : p.block < w.heap.size) (hb : w.heap.size ≤ b) (hc : w.heap.size ≤ c) (n : Nat) (hB : But b (wr.drewN n) w3) (hB4 : But c w3 w4) (h : wr.cell? p = some v) : w4.cell? p = some v := by
  have h1 := hK.size
  have hk : Kept wr (wr.drewN n) := (Kept.refl _).drewN n
  have h2 := hk.size
  have h3 := hB.size
  rw [hB4.cell (by omega) (by omega)]
  exact cell_after hK hp hb n hB h
theorem err_after {wr w3 : World} {b c : Nat} {s : St} (hR : RdAt wr c s) (hbc : b ≠ c) (n : Nat) (hB : But b (wr.drewN n) w3) : w3.cell? ⟨c, 1, none⟩ = some (.int .i64 (s.e : Nat)) :=
  ((hR.kept ((Kept.refl _).drewN n)).but hB (Ne.symm hbc)).err
set_option maxHeartbeats 2000000 in
set_option maxRecDepth 100000 in
theorem wireReads_walk (a0 : ByteArray) (a1 : Option Addr) (len1 cap1 : Nat) (z1 : List Asked) (w : World) (w0 : a0.size ≤ maxLen) (w1 : IsAsks w a1 len1 cap1 z1) :
    Calls Try.prog 4 #[.string a0, .slice a1 len1 cap1] w fun e w' => e = .returned (.bool true) ∧ Kept w w' := by
  rcases Nat.lt_or_ge 4096 a0.size with h | h
  · clear w0 w1
    go_enter Try.func4, Try.ntmps4
    go_wp2_with fail
    refine (wireAlive_any _).mono ?_
    rintro e w7 ⟨rfl, g7⟩
    go_wp2_with fail
    go_ret
    exact ⟨rfl, g7⟩
  rcases Nat.lt_or_ge 200 len1 with h2 | h2
  · clear w0 w1
    go_enter Try.func4, Try.ntmps4
    go_wp2_with fail
    refine (wireAlive_any _).mono ?_
    rintro e w7 ⟨rfl, g7⟩
    go_wp2_with fail
    go_ret
    exact ⟨rfl, g7⟩
  have HW1 := Lib.hid w1
  have H0 := Lib.hid w0
  clear w0 w1
  go_enter Try.func4, Try.ntmps4
  go_wp2_with fail
  refine (new_any a0 _ (by omega)).mono ?_
  rintro e w1 ⟨b, rfl, hb, hW, hk1⟩
  go_wp2_with fail
  have hR : RdAt (w1.alloc (Obj.cells #[Value.string a0, Value.int IntKind.i64 0] 38)) w1.heap.size ⟨a0.data.toList, 0⟩ := by
    refine ⟨⟨a0, by rw [World.cell?_alloc_mark]; rfl, rfl, H0.out⟩, by rw [World.cell?_alloc_mark]; rfl, by rw [World.frozen?_alloc_mark]; rfl, by rw [World.frozen?_alloc_mark]; rfl⟩
  have HW : Hid (WrAt (w1.alloc (Obj.cells #[Value.string a0, Value.int IntKind.i64 0] 38)) b ⟨a0.data.toList, 0⟩) := hW.kept ((Kept.refl _).alloc _)
  have HK : Hid (Kept w (w1.alloc (Obj.cells #[Value.string a0, Value.int IntKind.i64 0] 38))) := hk1.alloc _
  have hbc : b ≠ w1.heap.size := by have := hW.lt; omega
  have hc : w.heap.size ≤ w1.heap.size := hk1.size
  have HR := Lib.hid hR
  clear hR hW hk1
  generalize w1.heap.size = c at *
  go_loopw [7] (fun i wr => ∃ (k : Nat) (s : St), k ≤ len1 ∧ i = .int .i64 k ∧ Hid (WrAt wr b s ∧ RdAt wr c s ∧ Kept w wr)) (fun i _ => len1 - (intOf i).toNat)
  case atStart => exact ⟨0, _, Nat.zero_le _, rfl, HW.out, HR.out, HK.out⟩
  case round =>
    obtain ⟨k, s, hk, rfl, HI⟩ := hrel
    obtain ⟨hW2, hR2, hK2⟩ := HI.out
    have HW2 := Lib.hid hW2
    have HR2 := Lib.hid hR2
    have HK2 := Lib.hid hK2
    clear HW HR HK HI hW2 hR2 hK2
    by_cases hlt : k < len1
    · rcases HW1.out with ⟨_, h0, _, _⟩ | ⟨⟨bl, o, spot⟩, ha, hl1, hl2, hl3, hcs⟩
      · omega
      obtain ⟨hspot, hcd, hcm, hcn, ⟨hd0, hd1⟩, ⟨hm0, hm1⟩, hn0, hn1⟩ := hcs k (by omega)
      dsimp only at hspot hcd hcm hcn
      subst hspot
      generalize z1[k] = z at *
      obtain ⟨d, m, n⟩ := z
      dsimp only at hcd hcm hcn hd0 hd1 hm0 hm1 hn0 hn1
      have hlt1 : bl < w.heap.size := block_lt_of_cell hcd
      rw [← Below.cell HK2.out (p := ⟨bl, o + k * 3, none⟩) hlt1] at hcd
      rw [← Below.cell HK2.out (p := ⟨bl, o + k * 3 + 1, none⟩) hlt1] at hcm
      rw [← Below.cell HK2.out (p := ⟨bl, o + k * 3 + 2, none⟩) hlt1] at hcn
      rw [ha]
      clear hcs ha
      go_upto_block 2 with fail
      go_cut [8] from 23 to 117 (fun x wx => x = .bool true ∧ ∃ s : St, Hid (WrAt wx b s ∧ RdAt wx c s ∧ Kept w wx))
      case first =>
        obtain ⟨q, hq⟩ : ∃ q, d % 6 = q := ⟨_, rfl⟩
        have hq6 : q = 0 ∨ q = 1 ∨ q = 2 ∨ q = 3 ∨ q = 4 ∨ q = 5 := by omega
        rcases hq6 with rfl | rfl | rfl | rfl | rfl | rfl
        · go_wp2_with fail
          go_region_held3 (fun w' => w'.cell? ⟨bl, o + k * 3 + 1, none⟩ = some (.int .u64 m)) (first | assumption | exact cell_after HK2.out hlt1 hb _ hB3 hcm | exact cell_after2 HK2.out hlt1 hb hc _ hB3 hB4 hcm)
            (first
              | (go_at_call 16; refine (num_any b s m _ (HW2.out.kept ((Kept.refl _).drewN _)) hm0 hm1).mono ?_; rintro e w3 ⟨rfl, hW3, hB3⟩)
              | (go_at_call 17; refine (refnum_any c s m _ ((HR2.out.kept ((Kept.refl _).drewN _)).but hB3 (Ne.symm hbc)) hm0 hm1).mono ?_; rintro e w4 ⟨rfl, hR4, hB4⟩))
          go_wp2_with fail
          go_meet
          exact ⟨by simp, _, hW3.but hB4 hbc, hR4, But.kept (But.kept (HK2.out.drewN _) hb hB3) hc hB4⟩
        · go_wp2_with fail
          go_region_held3 (fun w' => w'.cell? ⟨bl, o + k * 3 + 2, none⟩ = some (.int .i64 n)) (first | assumption | exact cell_after HK2.out hlt1 hb _ hB3 hcn | exact cell_after2 HK2.out hlt1 hb hc _ hB3 hB4 hcn)
            (first
              | (go_at_call 18; refine (text_any b s n _ (HW2.out.kept ((Kept.refl _).drewN _)) hn0 hn1).mono ?_; rintro e w3 ⟨rfl, hW3, hB3⟩)
              | (go_at_call 19; refine (reftext_any c s n _ ((HR2.out.kept ((Kept.refl _).drewN _)).but hB3 (Ne.symm hbc)) hn0 hn1).mono ?_; rintro e w4 ⟨rfl, hR4, hB4⟩))
          go_wp2_with fail
          go_meet
          exact ⟨by simp, _, hW3.but hB4 hbc, hR4, But.kept (But.kept (HK2.out.drewN _) hb hB3) hc hB4⟩
        · go_wp2_with fail
          refine (bool_any b s _ HW2.out).mono ?_
          rintro e w3 ⟨rfl, hW3, hB3⟩
          have HR3 := Lib.hid (HR2.out.but hB3 (Ne.symm hbc))
          go_wp2_with fail
          refine (refbool_any c s _ HR3.out).mono ?_
          rintro e w4 ⟨rfl, hR4, hB4⟩
          have HK4 : Kept w w4 := But.kept (But.kept HK2.out hb hB3) hc hB4
          go_wp2_with fail
          go_meet
          exact ⟨rfl, _, hW3.but hB4 hbc, hR4, HK4⟩
        · go_wp2_with fail
          go_region_held3 (fun w' => w'.cell? ⟨bl, o + k * 3 + 2, none⟩ = some (.int .i64 n)) (first | assumption | exact cell_after HK2.out hlt1 hb _ hB3 hcn | exact cell_after2 HK2.out hlt1 hb hc _ hB3 hB4 hcn)
            (first
              | (go_at_call 22; refine (count_any b s n _ (HW2.out.kept ((Kept.refl _).drewN _)) hn0 hn1).mono ?_; rintro e w3 ⟨rfl, hW3, hB3⟩)
              | (go_at_call 23; refine (refcount_any c s n _ ((HR2.out.kept ((Kept.refl _).drewN _)).but hB3 (Ne.symm hbc)) hn0 hn1).mono ?_; rintro e w4 ⟨rfl, hR4, hB4⟩))
          go_wp2_with fail
          go_meet
          exact ⟨by simp, _, hW3.but hB4 hbc, hR4, But.kept (But.kept (HK2.out.drewN _) hb hB3) hc hB4⟩
        · go_wp2_with fail
          refine (rest_any b s _ HW2.out).mono ?_
          rintro e w3 ⟨rfl, hW3, hB3⟩
          have HR3 := Lib.hid (HR2.out.but hB3 (Ne.symm hbc))
          go_wp2_with fail
          refine (refrest_any c s _ HR3.out).mono ?_
          rintro e w4 ⟨rfl, hR4, hB4⟩
          have HK4 : Kept w w4 := But.kept (But.kept HK2.out hb hB3) hc hB4
          go_wp2_with fail
          go_meet
          exact ⟨rfl, _, hW3.but hB4 hbc, hR4, HK4⟩
        · go_wp2_with fail
          refine (end_any b s _ HW2.out).mono ?_
          rintro e w3 ⟨rfl, hW3, hB3⟩
          have HR3 := Lib.hid (HR2.out.but hB3 (Ne.symm hbc))
          go_wp2_with fail
          refine (refend_any c s _ HR3.out).mono ?_
          rintro e w4 ⟨rfl, hR4, hB4⟩
          have HK4 : Kept w w4 := But.kept (But.kept HK2.out hb hB3) hc hB4
          go_wp2_with fail
          go_meet
          exact ⟨rfl, _, hW3.but hB4 hbc, hR4, HK4⟩
      case rest =>
        obtain ⟨rfl, s, HI⟩ := hcut
        go_upto_region 22 with fail
        go_cut [117] from 23 to 117 (fun x wx => x = .bool false ∧ Hid (WrAt wx b s ∧ RdAt wx c s ∧ Kept w wx))
        case first =>
          have he := HI.out.2.1.err
          go_region_held3 (fun w' => w'.cell? ⟨c, 1, none⟩ = some (.int .i64 (s.e : Nat))) (first | assumption | exact err_after (HI.out.2.1) hbc _ hB5)
            (first
              | (go_at_call 28; refine (err_any b s _ (HI.out.1.kept ((Kept.refl _).drewN _))).mono ?_; rintro e w5 ⟨rfl, hB5, hW5⟩))
          go_wp2_with fail
          go_meet
          exact ⟨by simp, hW5, (HI.out.2.1.kept ((Kept.refl _).drewN _)).but hB5 (Ne.symm hbc), But.kept (HI.out.2.2.drewN _) hb hB5⟩
        case rest =>
          obtain ⟨rfl, HI⟩ := hcut
          go_wp2_with fail
          exact ⟨⟨k + 1, s, by omega, by go_num, HI.out⟩, by simp [intOf]; omega⟩
    · obtain rfl : k = len1 := by omega
      clear hlt
      go_wp2_with fail
      refine (rest_any b s _ HW2.out).mono ?_
      rintro e w3 ⟨rfl, hW3, hB3⟩
      have HR3 := Lib.hid (HR2.out.but hB3 (Ne.symm hbc))
      have HK3 : Hid (Kept w w3) := But.kept HK2.out hb hB3
      clear hW3 hB3
      go_wp2_with fail
      refine (refrest_any c s _ HR3.out).mono ?_
      rintro e w4 ⟨rfl, hR4, hB4⟩
      have HK4 : Hid (Kept w w4) := But.kept HK3.out hc hB4
      clear hR4 hB4
      go_wp2_with fail
      refine (wireAlive_any _).mono ?_
      rintro e w7 ⟨rfl, g7⟩
      go_wp2_with fail
      go_ret
      exact ⟨rfl, HK4.out.trans g7⟩
end Go.Proofs.Ytdbhplahmnlgnaa
