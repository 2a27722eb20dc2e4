/- The document's own map: Load. -/
import Derived.Test.YtleohicgbpebnaaAllocRef3
namespace Go.Proofs.Ytleohicgbpebnaa
open Go.RowKit
set_option linter.unusedVariables false
/-- Load's answer: a map, or none. -/
def GotRef (m : Int) (us ds : List Int) (w : World) (e : Ending) (w' : World) : Prop :=
  Kept w w' ∧ ((mayLoad m us ds = false ∧ e = .returned (.pointer none)) ∨
    (mayLoad m us ds = true ∧ ∃ (r c : Nat) (a : Option Addr) (cap : Nat), e = .returned (.pointer (some ⟨r, 0, none⟩)) ∧ RefAt r c m.toNat a cap (loadF us ds) w' ∧ w.heap.size ≤ r ∧ w.heap.size ≤ c ∧ c < w'.heap.size))
theorem rowC_snoc (n : Nat) (f : Nat → Nat) : rowC (n + 1) f = rowC n f ++ [Value.int .u8 (f n : Nat)] := by
  unfold rowC
  rw [List.range_succ, List.map_append]
  rfl
theorem cell_u8 (W : World) (g : Nat) (r : Int) (h : W.cell? ⟨g, 0, none⟩ = some (.int .u8 r)) : ∀ j u, [Value.int .u8 r][j]? = some u → W.cell? ((⟨g, 0, none⟩ : Addr).add j) = some u := by
  intro j u hj
  match j, hj with
  | 0, hj =>
    simp at hj
    subst hj
    rw [add_at]
    exact h
theorem own_shape {w : World} {B e size n : Nat} {v : Value} {xs : List Value} (h : w.ownsRow B e size v n xs) : ∃ a cap, v = .slice a n cap := by
  rcases h.2 with ⟨rfl, rfl⟩ | ⟨g, cap, cur, rfl, _⟩
  · exact ⟨_, _, rfl⟩
  · exact ⟨_, _, rfl⟩
/-- The rows that are made one by one. -/
structure Fill (r k : Nat) (v : Value) (w0 w : World) : Prop where
  hd : w.cell? ⟨r, 0, none⟩ = some v
  fh : w.frozen? ⟨r, 0, none⟩ = false
  own : w.ownsRow (r + 1) 5 1 v k (rowC k fun _ => 1)
  kept : Kept w0 w
theorem Fill.next {r k : Nat} {v v' : Value} {w0 w w' : World} (h : Fill r k v w0 w) (hr : w0.heap.size ≤ r) (t : TypeId) (hg : (w.alloc (.cells #[.int .u8 1] t)).grownBy w' v.ownBlock) (ho : w'.ownsRow (r + 1) 5 1 v' (k + 1) (rowC k (fun _ => 1) ++ [.int .u8 1])) :
    w'.cell? ⟨r, 0, none⟩ = some v ∧ w'.frozen? ⟨r, 0, none⟩ = false ∧ Fill r (k + 1) v' w0 (w'.setCell ⟨r, 0, none⟩ v') := by
  have hk : Kept w (w.alloc (.cells #[.int .u8 1] t)) := (Kept.refl _).alloc _
  have hrl : r < w.heap.size := block_lt_of_cell h.hd
  have e : w'.heap[r]? = w.heap[r]? := by
    rw [hg.block r (Nat.lt_of_lt_of_le hrl hk.size) (fun e => by have := (World.ownsRow.lt h.own r e.symm).1; omega)]
    exact hk.block r hrl
  have hc : w'.cell? ⟨r, 0, none⟩ = some v := by rw [World.cell?_of_block (w := w) (a := ⟨r, 0, none⟩) e]; exact h.hd
  have hf : w'.frozen? ⟨r, 0, none⟩ = false := by rw [World.frozen?_of_block (w := w) (a := ⟨r, 0, none⟩) e]; exact h.fh
  refine ⟨hc, hf, ⟨by rw [World.cell?_setCell_same _ _ _ hc], by rw [World.frozen?_setCell]; exact hf, ?_, ?_⟩⟩
  · rw [rowC_snoc]
    obtain ⟨h1, h2⟩ := ho
    refine ⟨h1, ?_⟩
    rcases h2 with h2 | ⟨g, cap, cur, h2, h3, h4, h5⟩
    · exact .inl h2
    · exact .inr ⟨g, cap, cur, h2, h3, by rw [Below.heap_setCell _ _ _ _ (by show g ≠ r; omega)]; exact h4, h5⟩
  · refine Kept.setCell ?_ hr _
    exact Below.grown (h.kept.alloc _) hg (h.kept.alloc _).size (fun q hq => by have := (World.ownsRow.lt h.own q hq).1; omega)
theorem Fill.ref {r n : Nat} {v : Value} {w0 w : World} (h : Fill r n v w0 w) (hn : n ≤ 4096) : ∃ c a cap, v = .slice a n cap ∧ RefAt r c n a cap (fun _ => 1) w ∧ r ≤ c ∧ (n = 0 → c = r) := by
  by_cases h0 : n = 0
  · subst h0
    obtain ⟨a, cap, hv⟩ := own_shape h.own
    exact ⟨r, a, cap, hv, ⟨by rw [h.hd, hv], h.fh, fun h => by omega, ⟨fun j hj => by omega, fun j hj => by omega⟩, hn, fun h => by omega⟩, Nat.le_refl _, fun _ => rfl⟩
  · rcases rows_owned h.own with ⟨hv, h1⟩ | ⟨c, cap, hv, h5, h6, h7, h8, h9⟩
    · exact absurd h1 h0
    · exact ⟨c, some ⟨c, 0, none⟩, cap, hv, ⟨by rw [h.hd, hv], h.fh, fun _ => ⟨rfl, by omega⟩, h9, hn, fun _ => h6⟩, by omega, fun h => absurd h h0⟩
set_option maxHeartbeats 8000000 in
set_option maxRecDepth 100000 in
theorem refLoad_any (m : Int) (hm : -9223372036854775808 ≤ m ∧ m ≤ 9223372036854775807) (p1 p2 : Option Addr) (q1 q2 : Nat) (us ds : List Int) (hlu : us.length ≤ 1000000) (hld : ds.length ≤ 1000000) (hru : ∀ r ∈ us, -9223372036854775808 ≤ r ∧ r ≤ 9223372036854775807) (hrd : ∀ r ∈ ds, -9223372036854775808 ≤ r ∧ r ≤ 9223372036854775807)
    (w : World) (hU : Ints .i64 w p1 us) (hD : Ints .i64 w p2 ds) :
    Calls Try.prog 10 #[.int .i64 m, .slice p1 us.length q1, .slice p2 ds.length q2] w fun e w' => GotRef m us ds w e w' := by
  cases hmr : mayRows m
  · have HF : Hid (mayLoad m us ds = false) := by show _ = _; unfold mayLoad; rw [hmr]; rfl
    have hno : ¬ (0 ≤ m ∧ m ≤ 4096) := of_decide_eq_false hmr
    clear hU hD hru hrd hmr
    generalize us.length = nu at *
    generalize ds.length = nd at *
    by_cases hneg : m < 0
    · have hb : decide (m < 0) = true := decide_eq_true hneg
      clear hno hneg
      go_enter Try.func10, Try.ntmps10
      go_wp2_with fail
      go_ret
      exact ⟨Kept.refl _, .inl ⟨HF.out, rfl⟩⟩
    · have hb : decide (m < 0) = false := decide_eq_false hneg
      have hb2 : decide (4096 < m) = true := decide_eq_true (by omega)
      clear hno hneg
      go_enter Try.func10, Try.ntmps10
      go_wp2_with fail
      go_ret
      exact ⟨Kept.refl _, .inl ⟨HF.out, rfl⟩⟩
  · have hmm := of_decide_eq_true hmr
    obtain ⟨n, rfl⟩ : ∃ n : Nat, m = n := ⟨m.toNat, by omega⟩
    have hn : n ≤ 4096 := by omega
    have hb : decide ((n : Int) < 0) = false := decide_eq_false (by omega)
    have hb2 : decide (4096 < (n : Int)) = false := decide_eq_false (by omega)
    obtain ⟨b1, o1, hc1⟩ := ints_at hU
    obtain ⟨b2, o2, hc2⟩ := ints_at hD
    have HU := Lib.hid hc1
    have HD := Lib.hid hc2
    have HRU : Hid (∀ i, i < us.length → -9223372036854775808 ≤ nthI us i ∧ nthI us i ≤ 9223372036854775807) := fun i hi => hru _ (by rw [← nthI_get us i hi]; exact List.getElem_mem hi)
    have HRD : Hid (∀ i, i < ds.length → -9223372036854775808 ≤ nthI ds i ∧ nthI ds i ≤ 9223372036854775807) := fun i hi => hrd _ (by rw [← nthI_get ds i hi]; exact List.getElem_mem hi)
    have HNOU : Hid (∀ i, i < us.length → isRow n (nthI us i) = false → mayLoad (n : Nat) us ds = false) := fun i hi h => by
      have := outB_yes i hi h
      unfold mayLoad; rw [Int.toNat_natCast, this]; simp
    have HNOD : Hid (∀ i, i < ds.length → isRow n (nthI ds i) = false → mayLoad (n : Nat) us ds = false) := fun i hi h => by
      have := outB_yes i hi h
      unfold mayLoad; rw [Int.toNat_natCast, this]; simp
    have HYES : Hid ((∀ i, i < us.length → isRow n (nthI us i) = true) → (∀ i, i < ds.length → isRow n (nthI ds i) = true) → mayLoad (n : Nat) us ds = true) := fun h1 h2 => by
      unfold mayLoad; rw [Int.toNat_natCast, outB_none h1, outB_none h2, hmr]; rfl
    have HLD : Hid (letF (letF (fun _ => 1) 3 (ds.take ds.length)) 2 (us.take us.length) = loadF us ds) := by show _ = _; rw [List.take_of_length_le (Nat.le_refl _), List.take_of_length_le (Nat.le_refl _)]; rfl
    have HND : Hid (∀ k r, k < ds.length → nthI ds k = (r : Nat) → ∀ j, letF (fun _ => 1) 3 (ds.take (k + 1)) j = if j = r then 3 else letF (fun _ => 1) 3 (ds.take k) j) := fun k r h1 h2 j => letF_next _ 3 ds k r h1 h2 j
    have HNU : Hid (∀ f k r, k < us.length → nthI us k = (r : Nat) → ∀ j, letF f 2 (us.take (k + 1)) j = if j = r then 2 else letF f 2 (us.take k) j) := fun f k r h1 h2 j => letF_next f 2 us k r h1 h2 j
    have HF0 : Hid (Fill w.heap.size 0 (.slice none 0 0) w (w.alloc (.cells #[.slice none 0 0] 45))) :=
      ⟨by rw [World.cell?_alloc_mark]; rfl, by rw [World.frozen?_alloc_mark]; simp, World.ownsRow_nil _ _ _ _, (Kept.refl _).alloc _⟩
    clear hU hD hru hrd hc1 hc2 hmm hm hmr
    generalize hnu : us.length = nu at *
    generalize hnd : ds.length = nd at *
    clear hnu hnd
    obtain ⟨r, hr⟩ : ∃ r, w.heap.size = r := ⟨_, rfl⟩
    rw [hr] at HF0
    have HRW : Hid (w.heap.size ≤ r) := by show _ ≤ _; omega
    go_enter Try.func10, Try.ntmps10
    go_wp2_with fail
    clear hr
    generalize w.alloc (.cells #[.slice none 0 0] 45) = w1 at *
    go_loopw [8] (fun i wr => ∃ k : Nat, k ≤ n ∧ i = .int .i64 k ∧ Hid (∃ v, Fill r k v w wr)) (fun i _ => n - (intOf i).toNat)
    case atStart => exact ⟨0, Nat.zero_le _, rfl, _, HF0.out⟩
    case round =>
      obtain ⟨k, hk, rfl, HI⟩ := hrel
      by_cases hlt : k < n
      · obtain ⟨v, hF⟩ := HI.out
        have HF := Lib.hid hF
        have hd := hF.hd
        obtain ⟨i0, hi, hzz⟩ := Option.map_eq_some_iff.1 info_u8
        simp only [Prod.mk.injEq] at hzz
        have HI0 := Lib.hid hi
        have HZ := Lib.hid hzz
        have HOW : Hid ((wr.alloc (.cells #[.int .u8 1] 5)).ownsRow (r + 1) 5 1 v k (rowC k fun _ => 1)) := World.ownsRow.alloc hF.own _
        have HSZ : Hid (r + 1 ≤ (wr.alloc (.cells #[.int .u8 1] 5)).heap.size) := by
          show _ ≤ _
          have := block_lt_of_cell hF.hd
          rw [size_up]; simp at this; omega
        clear hF HI hi hzz
        go_wp2_with (at_builtin; refine wpList_append_own _ rfl (.tmp 28) (.tmp 29) 43 rfl (r + 1) 5 i0 (.int .u8 0) 1 1 Try.underlying43 HI0.out HZ.out.1 HZ.out.2.1 HZ.out.2.2 rfl (by decide) v k (rowC k fun _ => 1) (by rfl) HOW.out ⟨wr.heap.size, 0, none⟩ 1 1 [.int .u8 1] (by rfl) rfl (cell_u8 _ _ _ (by rw [World.cell?_alloc_mark]; rfl)) (fun u hu => by simp at hu; subst hu; rfl) (by unfold maxLen; omega) (by omega) HSZ.out ?_; intro v9 w9 h2 h3 _; obtain ⟨hc9, hf9, hF9⟩ := HF.out.next HRW.out _ h3 h2; have HF9 := Lib.hid hF9; obtain ⟨a9, c9, hv9⟩ := own_shape h2; subst hv9; clear h2 h3 hF9)
        go_roundw
        case rel => exact ⟨k + 1, by omega, by go_num, _, HF9.out⟩
        case measure => simp [intOf]; omega
      · obtain rfl : k = n := by omega
        obtain ⟨v, hF⟩ := HI.out
        obtain ⟨c, a, cap, _, hR, hrc, hcr0⟩ := hF.ref hn
        have HCR := Lib.hid hcr0
        have HR := Lib.hid hR
        have HKF := Lib.hid hF.kept
        have HCC : Hid (w.heap.size ≤ c) := Nat.le_trans HRW.out hrc
        clear hF HI hR hrc hcr0 hk hlt
        go_wp2_with fail
        go_loopw [9] (fun i wr => ∃ q : Nat, q ≤ nd ∧ i = .int .i64 q ∧ Hid (RefAt r c k a cap (letF (fun _ => 1) 3 (ds.take q)) wr ∧ Kept w wr ∧ ∀ j, j < q → isRow k (nthI ds j) = true)) (fun i _ => nd - (intOf i).toNat)
        case atStart => exact ⟨0, Nat.zero_le _, rfl, by rw [List.take_zero, letF_nil]; exact HR.out, HKF.out, fun j hj => by omega⟩
        case round =>
          obtain ⟨q, hq, rfl, HI⟩ := hrel
          by_cases hlt : q < nd
          · obtain ⟨hp, hc⟩ := HD.out (by omega)
            have hcq := cell_kept' HI.out.2.1 (hc q hlt)
            have hrq := HRD.out q hlt
            have HIS := Lib.hid (is_any r c k cap a (letF (fun _ => 1) 3 (ds.take q)) (nthI ds q) hrq wr HI.out.1)
            have hd := HI.out.1.hd
            subst hp
            cases hrow : isRow k (nthI ds q)
            · have HE := Lib.hid (HNOD.out q hlt hrow)
              rw [hrow] at HIS
              have HKW := Lib.hid HI.out.2.1
              generalize nthI ds q = v at *
              clear hc HD HI hrow
              go_wp2_with fail
              refine HIS.out.mono ?_
              rintro e wz ⟨rfl, hw1⟩
              replace hw1 := hw1.symm
              subst hw1
              go_wp2_with fail
              go_ret
              exact ⟨HKW.out, .inl ⟨HE.out, rfl⟩⟩
            · rw [hrow] at HIS
              obtain ⟨t, ht, htn⟩ := isRow_nat hrow
              obtain ⟨ha, _⟩ := HI.out.1.at' (by omega)
              have hcell := HI.out.1.rows.cell t htn
              have hfree := HI.out.1.rows.free t htn
              have HALL : Hid (∀ j, j < q + 1 → isRow k (nthI ds j) = true) := fun j hj => by
                by_cases e : j = q
                · subst e; exact hrow
                · exact HI.out.2.2 j (by omega)
              have HS : Hid (RefAt r c k a cap (letF (fun _ => 1) 3 (ds.take (q + 1))) (wr.drew.setCell ⟨c, t, none⟩ (.int .u8 3)) ∧ Kept w (wr.drew.setCell ⟨c, t, none⟩ (.int .u8 3))) :=
                ⟨(HI.out.1.but t htn 3).congr (fun i _ => HND.out q t hlt ht i), HI.out.2.1.drew.setCell HCC.out _⟩
              rw [ht] at hcq HIS
              subst ha
              generalize letF (fun _ => 1) 3 (ds.take q) t = y at *
              clear hc HD HI hrow ht
              go_wp2_with fail
              refine HIS.out.mono ?_
              rintro e wz ⟨rfl, hw1⟩
              replace hw1 := hw1.symm
              subst hw1
              go_wp2_with fail
              go_region
              all_goals
                go_wp2_with fail
                go_roundw
                case rel => exact ⟨q + 1, by omega, by go_num, HS.out.1, HS.out.2, HALL.out⟩
                case measure => simp [intOf]; omega
          · obtain rfl : nd = q := by omega
            have HAD := Lib.hid HI.out.2.2
            have HR2 := Lib.hid HI.out.1
            have HKF2 := Lib.hid HI.out.2.1
            clear HI HR HKF
            have HR := HR2
            have HKF := HKF2
            clear HR2 HKF2
            go_wp2_with fail
            go_loopw [10] (fun i wr => ∃ q : Nat, q ≤ nu ∧ i = .int .i64 q ∧ Hid (RefAt r c k a cap (letF (letF (fun _ => 1) 3 (ds.take nd)) 2 (us.take q)) wr ∧ Kept w wr ∧ ∀ j, j < q → isRow k (nthI us j) = true)) (fun i _ => nu - (intOf i).toNat)
            case atStart => exact ⟨0, Nat.zero_le _, rfl, by rw [List.take_zero, letF_nil]; exact HR.out, HKF.out, fun j hj => by omega⟩
            case round =>
              obtain ⟨q, hq, rfl, HI⟩ := hrel
              by_cases hlt : q < nu
              · obtain ⟨hp, hc⟩ := HU.out (by omega)
                have hcq := cell_kept' HI.out.2.1 (hc q hlt)
                have hrq := HRU.out q hlt
                have HIS := Lib.hid (is_any r c k cap a (letF (letF (fun _ => 1) 3 (ds.take nd)) 2 (us.take q)) (nthI us q) hrq wr HI.out.1)
                have hd := HI.out.1.hd
                subst hp
                cases hrow : isRow k (nthI us q)
                · have HE := Lib.hid (HNOU.out q hlt hrow)
                  rw [hrow] at HIS
                  have HKW := Lib.hid HI.out.2.1
                  generalize nthI us q = v at *
                  clear hc HU HI hrow
                  go_wp2_with fail
                  refine HIS.out.mono ?_
                  rintro e wz ⟨rfl, hw1⟩
                  replace hw1 := hw1.symm
                  subst hw1
                  go_wp2_with fail
                  go_ret
                  exact ⟨HKW.out, .inl ⟨HE.out, rfl⟩⟩
                · rw [hrow] at HIS
                  obtain ⟨t, ht, htn⟩ := isRow_nat hrow
                  obtain ⟨ha, _⟩ := HI.out.1.at' (by omega)
                  have hcell := HI.out.1.rows.cell t htn
                  have hfree := HI.out.1.rows.free t htn
                  have HALL : Hid (∀ j, j < q + 1 → isRow k (nthI us j) = true) := fun j hj => by
                    by_cases e : j = q
                    · subst e; exact hrow
                    · exact HI.out.2.2 j (by omega)
                  have HS : Hid (RefAt r c k a cap (letF (letF (fun _ => 1) 3 (ds.take nd)) 2 (us.take (q + 1))) (wr.drew.setCell ⟨c, t, none⟩ (.int .u8 2)) ∧ Kept w (wr.drew.setCell ⟨c, t, none⟩ (.int .u8 2))) :=
                    ⟨(HI.out.1.but t htn 2).congr (fun i _ => HNU.out _ q t hlt ht i), HI.out.2.1.drew.setCell HCC.out _⟩
                  rw [ht] at hcq HIS
                  subst ha
                  generalize letF (letF (fun _ => 1) 3 (ds.take nd)) 2 (us.take q) t = y at *
                  clear hc HU HI hrow ht
                  go_wp2_with fail
                  refine HIS.out.mono ?_
                  rintro e wz ⟨rfl, hw1⟩
                  replace hw1 := hw1.symm
                  subst hw1
                  go_wp2_with fail
                  go_region
                  all_goals
                    go_wp2_with fail
                    go_roundw
                    case rel => exact ⟨q + 1, by omega, by go_num, HS.out.1, HS.out.2, HALL.out⟩
                    case measure => simp [intOf]; omega
              · obtain rfl : q = nu := by omega
                have HEND9 := Lib.hid HI.out
                have HYS := Lib.hid (HYES.out HI.out.2.2 HAD.out)
                rw [HLD.out] at HEND9
                clear HI
                go_wp2_with fail
                go_ret
                exact ⟨HEND9.out.2.1, .inr ⟨HYS.out, r, c, a, cap, rfl, HEND9.out.1, HRW.out, HCC.out, by
                  have h1 := HEND9.out.1.rlt
                  have h2 := HEND9.out.1.lt
                  have h3 := HCR.out
                  rcases Nat.eq_zero_or_pos k with h0 | h0
                  · rw [h3 h0]; exact h1
                  · exact h2 h0⟩⟩
end Go.Proofs.Ytleohicgbpebnaa
