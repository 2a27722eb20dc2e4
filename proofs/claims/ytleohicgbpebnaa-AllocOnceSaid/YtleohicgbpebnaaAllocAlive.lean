/- Are two lists the same; the document's example. -/
import Derived.Test.YtleohicgbpebnaaAllocLoad
import Derived.BigRegion
namespace Go.Proofs.Ytleohicgbpebnaa
open Go.RowKit
set_option linter.unusedVariables false
def sameB (l k : List Int) : Bool := decide (l = k)
theorem sameB_no {l k : List Int} (i : Nat) (hl : l.length = k.length) (hi : i < l.length) (h : nthI l i ≠ nthI k i) : sameB l k = false :=
  decide_eq_false fun e => h (by rw [e])
theorem sameB_yes {l k : List Int} (hl : l.length = k.length) (h : ∀ i, i < l.length → nthI l i = nthI k i) : sameB l k = true := by
  refine decide_eq_true (List.ext_getElem hl fun i h1 h2 => ?_)
  rw [nthI_get l i h1, nthI_get k i h2]
  exact h i h1
set_option maxHeartbeats 1000000 in
set_option maxRecDepth 100000 in
theorem same_any (a b : Option Addr) (ca cb : Nat) (l k : List Int) (hl : l.length ≤ maxLen) (hk : k.length ≤ maxLen) (w : World) (hA : Ints .i64 w a l) (hB : Ints .i64 w b k) :
    Calls Try.prog 14 #[.slice a l.length ca, .slice b k.length cb] w fun e w' => e = .returned (.bool (sameB l k)) ∧ Kept w w' := by
  unfold maxLen at hl hk
  by_cases hlen : l.length = k.length
  · obtain ⟨b1, o1, hc1⟩ := ints_at hA
    obtain ⟨b2, o2, hc2⟩ := ints_at hB
    have HC1 := Lib.hid hc1
    have HC2 := Lib.hid hc2
    have HNO : Hid (∀ i, i < l.length → nthI l i ≠ nthI k i → sameB l k = false) := fun i hi h => sameB_no i hlen hi h
    have HYES : Hid ((∀ i, i < l.length → nthI l i = nthI k i) → sameB l k = true) := fun h => sameB_yes hlen h
    rw [← hlen] at HC2 ⊢
    clear hA hB hc1 hc2 hlen hk
    generalize l.length = m at *
    go_enter Try.func14, Try.ntmps14
    go_wp2_with fail
    go_loopw [5] (fun i wr => ∃ j : Nat, j ≤ m ∧ i = .int .i64 j ∧ Hid (Kept w wr ∧ ∀ q, q < j → nthI l q = nthI k q)) (fun i _ => m - (intOf i).toNat)
    case atStart => exact ⟨0, Nat.zero_le _, rfl, Kept.refl _, fun q hq => by omega⟩
    case round =>
      obtain ⟨j, hj, rfl, HI⟩ := hrel
      by_cases hlt : j < m
      · obtain ⟨rfl, h1⟩ := HC1.out (by omega)
        obtain ⟨rfl, h2⟩ := HC2.out (by omega)
        have hx : wr.cell? ⟨b1, o1 + j, none⟩ = some (.int .i64 (nthI l j)) := by rw [Below.cell (p := ⟨b1, o1 + j, none⟩) HI.out.1 (block_lt_of_cell (h1 j hlt))]; exact h1 j hlt
        have hy : wr.cell? ⟨b2, o2 + j, none⟩ = some (.int .i64 (nthI k j)) := by rw [Below.cell (p := ⟨b2, o2 + j, none⟩) HI.out.1 (block_lt_of_cell (h2 j hlt))]; exact h2 j hlt
        have HS : Hid (nthI l j = nthI k j → ∀ q, q < j + 1 → nthI l q = nthI k q) := fun h q hq => by
          by_cases e : q = j
          · subst e; exact h
          · exact HI.out.2 q (by omega)
        have HNK := Lib.hid (HNO.out j hlt)
        have HK := Lib.hid HI.out.1
        clear h1 h2 HC1 HC2 HI
        generalize nthI l j = x at *
        generalize nthI k j = y at *
        by_cases hxy : x = y
        · have HS2 := Lib.hid (HS.out hxy)
          subst hxy
          clear HS HNK HNO HYES
          have hb : (x != x) = false := by simp
          go_wp2_with fail
          go_region
          all_goals
            go_wp2_with fail
            go_roundw
            case rel => exact ⟨j + 1, by omega, by go_num, (HK.out.drewN _), HS2.out⟩
            case measure => simp [intOf]; omega
        · have hb : (x != y) = true := by simp [bne, hxy]
          have HR := Lib.hid (HNK.out hxy)
          clear HS HNK HNO HYES hxy
          go_wp2_with fail
          go_region
          all_goals
            go_wp2_with fail
            go_ret
            rw [HR.out]
            exact ⟨rfl, (HK.out.drewN _)⟩
      · obtain rfl : j = m := by omega
        have HR := Lib.hid (HYES.out HI.out.2)
        go_wp2_with fail
        go_ret
        rw [HR.out]
        exact ⟨rfl, HI.out.1⟩
  · have HR : Hid (sameB l k = false) := decide_eq_false fun e => hlen (by rw [e])
    have hb : ((l.length : Int) != (k.length : Int)) = true := by simp [bne]; omega
    clear hA hB
    generalize l.length = m at *
    generalize k.length = n at *
    go_enter Try.func14, Try.ntmps14
    go_wp2_with fail
    go_ret
    rw [HR.out]
    exact ⟨rfl, Kept.refl _⟩
theorem bad_one {f : Nat → Nat} {x r : Nat} (h : f r = x) : ¬ Bad f x [(r : Int)] := by
  rintro ⟨i, hi, hb⟩
  obtain rfl : i = 0 := by simpa using hi
  rcases hb with hb | hb
  · exact hb h
  · simp at hb
/-- What the rows are behind each call of the example. -/
def ex0 (_ : Nat) : Nat := 1
def ex1 : Nat → Nat := takeF 4 ex0 2
def ex2 : Nat → Nat := letF ex1 3 [1]
def ex3 : Nat → Nat := takeF 4 ex2 1
def ex4 : Nat → Nat := letF ex3 1 [1]
def ex5 : Nat → Nat := takeF 4 ex4 2
theorem exT0 : takeE 4 ex0 2 = 0 ∧ takeL 4 ex0 2 = [0, 1] := by decide +kernel
theorem exT2 : takeE 4 ex2 1 = 0 ∧ takeL 4 ex2 1 = [2] := by decide +kernel
theorem exT4 : takeE 4 ex4 2 = 0 ∧ takeL 4 ex4 2 = [1, 3] := by decide +kernel
theorem exC5 : (rowsL 4 ex5 1).length = 0 ∧ (rowsL 4 ex5 2).length = 4 ∧ (rowsL 4 ex5 3).length = 0 := by decide +kernel
theorem exD1 : turnE 4 ex1 2 [1] = 0 ∧ turnF 4 ex1 2 3 [1] = ex2 := by
  have h : turnE 4 ex1 2 [((1 : Nat) : Int)] = 0 := turnE_ok (by decide) (bad_one (by decide +kernel))
  exact ⟨h, turnF_ok h⟩
theorem exD3 : turnE 4 ex3 3 [1] = 0 ∧ turnF 4 ex3 3 1 [1] = ex4 := by
  have h : turnE 4 ex3 3 [((1 : Nat) : Int)] = 0 := turnE_ok (by decide) (bad_one (by decide +kernel))
  exact ⟨h, turnF_ok h⟩
theorem cells_ints (w : World) (l : List Int) (t : TypeId) : Ints .i64 (w.alloc (.cells (l.map (Value.int .i64)).toArray t)) (some ⟨w.heap.size, 0, none⟩) l := by
  refine .inr ⟨_, _, rfl, fun i hi => ?_⟩
  rw [Nat.zero_add, World.cell?_alloc_mark, ← nthI_get l i hi]
  simp [hi]
/-- Numbers that lie in neither of the map's blocks. -/
def Off (g c : Nat) (w : World) (a : Option Addr) (l : List Int) : Prop := Ints .i64 w a l ∧ ∀ x, a = some x → x.block ≠ g ∧ x.block ≠ c ∧ x.block < w.heap.size
theorem Off.upd {g c c' : Nat} {w w' : World} {a : Option Addr} {l : List Int} (h : Off g c w a l) (k : Upd g c w w') (hc : c' = c ∨ w.heap.size ≤ c') : Off g c' w' a l := by
  refine ⟨?_, fun x hx => ?_⟩
  · rcases h.1 with h1 | ⟨b, o, ha, h1⟩
    · exact .inl h1
    · refine .inr ⟨b, o, ha, fun i hi => ?_⟩
      have hb := h.2 _ ha
      rw [k.cell (p := ⟨b, o + i, none⟩) hb.2.2 hb.1 hb.2.1]
      exact h1 i hi
  · have hb := h.2 x hx
    have := k.size
    refine ⟨hb.1, ?_, by omega⟩
    rcases hc with rfl | hc
    · exact hb.2.1
    · omega
theorem Off.kept {g c : Nat} {w w' : World} {a : Option Addr} {l : List Int} (h : Off g c w a l) (k : Kept w w') : Off g c w' a l := h.upd (k.upd g c) (.inl rfl)
/-- Take's answer does not lie in the map's blocks. -/
theorem take_off (g c n cap : Nat) (f : Nat → Nat) (m : Int) (hm : -9223372036854775808 ≤ m ∧ m ≤ 9223372036854775807) (w : World) (h : MapAt g c n cap f w) :
    Calls Try.prog 12 #[.pointer (some ⟨g, 0, none⟩), .int .i64 m] w fun e w' => ∃ a ca, e = .returned (.tuple #[.slice a (takeL n f m).length ca, .int .i64 (takeE n f m : Nat)]) ∧ Off g c w' a (takeL n f m) ∧ MapAt g c n cap (takeF n f m) w' ∧ But c w w' :=
  (take_any g c n cap f m hm w h).mono fun e w' ⟨a, ca, he, hG, hM, hB⟩ => by
    refine ⟨a, ca, he, ⟨?_, fun x hx => ?_⟩, hM, hB⟩
    · obtain ⟨a', ca', hv, hI⟩ := hG.ints
      injection hv with h1 h2 h3
      subst h1
      exact hI
    · subst hx
      have h1 := hG.lt x.block rfl
      have h2 := h.glt
      have h3 := h.lt
      omega
set_option maxHeartbeats 2000000 in
set_option maxRecDepth 100000 in
theorem works_any (w : World) : Calls Try.prog 8 #[] w fun e w' => e = .returned (.bool true) ∧ Kept w w' := by
  have HN := Lib.hid (new_ok 4 (by decide) w)
  have HT0 : Hid (∀ g c cap W, MapAt g c 4 cap ex0 W → Calls Try.prog 12 #[.pointer (some ⟨g, 0, none⟩), .int .i64 2] W fun e w' => ∃ a ca, e = .returned (.tuple #[.slice a 2 ca, .int .i64 0]) ∧ Off g c w' a [0, 1] ∧ MapAt g c 4 cap ex1 w' ∧ But c W w') := fun g c cap W h => by
    have h := take_off g c 4 cap ex0 2 (by decide) W h
    rwa [exT0.1, exT0.2] at h
  have HT2 : Hid (∀ g c cap W, MapAt g c 4 cap ex2 W → Calls Try.prog 12 #[.pointer (some ⟨g, 0, none⟩), .int .i64 1] W fun e w' => ∃ a ca, e = .returned (.tuple #[.slice a 1 ca, .int .i64 0]) ∧ Off g c w' a [2] ∧ MapAt g c 4 cap ex3 w' ∧ But c W w') := fun g c cap W h => by
    have h := take_off g c 4 cap ex2 1 (by decide) W h
    rwa [exT2.1, exT2.2] at h
  have HT4 : Hid (∀ g c cap W, MapAt g c 4 cap ex4 W → Calls Try.prog 12 #[.pointer (some ⟨g, 0, none⟩), .int .i64 2] W fun e w' => ∃ a ca, e = .returned (.tuple #[.slice a 2 ca, .int .i64 0]) ∧ Off g c w' a [1, 3] ∧ MapAt g c 4 cap ex5 w' ∧ But c W w') := fun g c cap W h => by
    have h := take_off g c 4 cap ex4 2 (by decide) W h
    rwa [exT4.1, exT4.2] at h
  have HD1 : Hid (∀ g c cap W a, MapAt g c 4 cap ex1 W → Ints .i64 W a [1] → Calls Try.prog 15 #[.pointer (some ⟨g, 0, none⟩), .slice a 1 1] W fun e w' => e = .returned (.int .i64 0) ∧ Left g c 4 ex2 W w') := fun g c cap W a h hI => by
    have h := drop_any g c 4 cap ex1 a 1 [1] (by decide) (by decide) W h hI
    rwa [exD1.1, exD1.2] at h
  have HD3 : Hid (∀ g c cap W a, MapAt g c 4 cap ex3 W → Ints .i64 W a [1] → Calls Try.prog 17 #[.pointer (some ⟨g, 0, none⟩), .slice a 1 1] W fun e w' => e = .returned (.int .i64 0) ∧ Left g c 4 ex4 W w') := fun g c cap W a h hI => by
    have h := clear_any g c 4 cap ex3 a 1 [1] (by decide) (by decide) W h hI
    rwa [exD3.1, exD3.2] at h
  have HC5 : Hid (∀ g c cap W, MapAt g c 4 cap ex5 W → Calls Try.prog 18 #[.pointer (some ⟨g, 0, none⟩)] W fun e w' => e = .returned (.tuple #[.int .i64 0, .int .i64 4, .int .i64 0]) ∧ Kept W w') := fun g c cap W h => by
    have h := count_any g c 4 cap ex5 W h
    rwa [exC5.1, exC5.2.1, exC5.2.2] at h
  have HSM : Hid (∀ (l : List Int) a ca b cb W, l.length ≤ maxLen → Ints .i64 W a l → Ints .i64 W b l → Calls Try.prog 14 #[.slice a l.length ca, .slice b l.length cb] W fun e w' => e = .returned (.bool true) ∧ Kept W w') := fun l a ca b cb W hl hA hB => by
    have h := same_any a b ca cb l l hl hl W hA hB
    rwa [show sameB l l = true from decide_eq_true rfl] at h
  go_enter Try.func8, Try.ntmps8
  go_wp2_with fail
  refine HN.out.mono ?_
  rintro e w1 ⟨g, c, cap, rfl, hM, hg, hc, hk⟩
  have HG : Hid (w.heap.size ≤ g ∧ w.heap.size ≤ c) := ⟨hg, hc⟩
  have HK1 := Lib.hid hk
  have HM1 : Hid (MapAt g c 4 cap ex0 w1) := hM
  clear hM hg hc hk HN
  go_wp2_with fail
  refine (HT0.out g c cap _ HM1.out).mono ?_
  rintro e w2 ⟨a1, ca1, rfl, hI, hM, hB⟩
  have HK2 : Hid (Kept w w2) := But.kept HK1.out HG.out.2 hB
  have HM2 := Lib.hid hM
  have HA2 := Lib.hid hI
  clear hM hB hI HT0
  have HKA : Hid (Kept w2 (w2.alloc (.cells #[.int .i64 1] 3))) := (Kept.refl _).alloc _
  have HIA : Hid (Ints .i64 (w2.alloc (.cells #[.int .i64 1] 3)) (some ⟨w2.heap.size, 0, none⟩) [1]) := cells_ints w2 [1] _
  go_wp2_with fail
  refine (HD1.out g c cap _ _ (HM2.out.kept HKA.out) HIA.out).mono ?_
  rintro e w3 ⟨rfl, c3, cap3, hc3, hM, hU⟩
  have HK3 : Hid (Kept w w3) := Upd.kept (HK2.out.trans HKA.out) HG.out.1 HG.out.2 hU
  have HA3 := Lib.hid ((HA2.out.kept HKA.out).upd hU hc3)
  have HM3 := Lib.hid hM
  have HG3 : Hid (w.heap.size ≤ g ∧ w.heap.size ≤ c3) := ⟨HG.out.1, by have := HG.out.2; have := (HK2.out.trans HKA.out).size; rcases hc3 with rfl | h <;> omega⟩
  clear hM hU hc3 HD1 HKA HIA
  go_wp2_with fail
  refine (HT2.out g c3 cap3 _ HM3.out).mono ?_
  rintro e w4 ⟨a2, ca2, rfl, hI, hM, hB⟩
  have HK4 : Hid (Kept w w4) := But.kept HK3.out HG3.out.2 hB
  have HM4 := Lib.hid hM
  have HA4 := Lib.hid (HA3.out.upd (hB.upd2 g) (.inl rfl))
  have HB4 := Lib.hid hI
  clear hM hB hI HT2
  have HKA : Hid (Kept w4 (w4.alloc (.cells #[.int .i64 1] 3))) := (Kept.refl _).alloc _
  have HIA : Hid (Ints .i64 (w4.alloc (.cells #[.int .i64 1] 3)) (some ⟨w4.heap.size, 0, none⟩) [1]) := cells_ints w4 [1] _
  go_wp2_with fail
  refine (HD3.out g c3 cap3 _ _ (HM4.out.kept HKA.out) HIA.out).mono ?_
  rintro e w5 ⟨rfl, c5, cap5, hc5, hM, hU⟩
  have HK5 : Hid (Kept w w5) := Upd.kept (HK4.out.trans HKA.out) HG3.out.1 HG3.out.2 hU
  have HA5 := Lib.hid ((HA4.out.kept HKA.out).upd hU hc5)
  have HB5 := Lib.hid ((HB4.out.kept HKA.out).upd hU hc5)
  have HM5 := Lib.hid hM
  have HG5 : Hid (w.heap.size ≤ g ∧ w.heap.size ≤ c5) := ⟨HG3.out.1, by have := HG3.out.2; have := (HK4.out.trans HKA.out).size; rcases hc5 with rfl | h <;> omega⟩
  clear hM hU hc5 HD3 HKA HIA
  go_wp2_with fail
  refine (HT4.out g c5 cap5 _ HM5.out).mono ?_
  rintro e w6 ⟨a3, ca3, rfl, hI, hM, hB⟩
  have HK6 : Hid (Kept w w6) := But.kept HK5.out HG5.out.2 hB
  have HM6 := Lib.hid hM
  have HA6 := Lib.hid (HA5.out.upd (hB.upd2 g) (.inl rfl))
  have HB6 := Lib.hid (HB5.out.upd (hB.upd2 g) (.inl rfl))
  have HC6 := Lib.hid hI
  clear hM hB hI HT4
  go_wp2_with fail
  refine (HC5.out g c5 cap5 _ HM6.out).mono ?_
  rintro e w7 ⟨rfl, hk7⟩
  have HK7 : Hid (Kept w w7) := HK6.out.trans hk7
  have HA7 := Lib.hid (HA6.out.kept hk7).1
  have HB7 := Lib.hid (HB6.out.kept hk7).1
  have HC7 := Lib.hid (HC6.out.kept hk7).1
  clear hk7 HC5 HA6 HB6 HC6 HA5 HB5 HA4 HB4 HA3 HA2 HM1 HM2 HM3 HM4 HM5 HM6
  have HSA : Hid (∀ W b cb, Kept w7 W → Ints .i64 W b [0, 1] → Calls Try.prog 14 #[.slice a1 2 ca1, .slice b 2 cb] W fun e w' => e = .returned (.bool true) ∧ Kept W w') := fun W b cb hW hB => HSM.out [0, 1] a1 ca1 b cb W (by decide) (HA7.out.kept hW) hB
  have HSB : Hid (∀ W b cb, Kept w7 W → Ints .i64 W b [2] → Calls Try.prog 14 #[.slice a2 1 ca2, .slice b 1 cb] W fun e w' => e = .returned (.bool true) ∧ Kept W w') := fun W b cb hW hB => HSM.out [2] a2 ca2 b cb W (by decide) (HB7.out.kept hW) hB
  have HSC : Hid (∀ W b cb, Kept w7 W → Ints .i64 W b [1, 3] → Calls Try.prog 14 #[.slice a3 2 ca3, .slice b 2 cb] W fun e w' => e = .returned (.bool true) ∧ Kept W w') := fun W b cb hW hB => HSM.out [1, 3] a3 ca3 b cb W (by decide) (HC7.out.kept hW) hB
  clear HSM HA7 HB7 HC7
  have HKA : Hid (Kept w7 (w7.alloc (.cells #[.int .i64 0, .int .i64 1] 3))) := (Kept.refl _).alloc _
  have HIA : Hid (Ints .i64 (w7.alloc (.cells #[.int .i64 0, .int .i64 1] 3)) (some ⟨w7.heap.size, 0, none⟩) [0, 1]) := cells_ints w7 [0, 1] _
  go_wp2_with fail
  refine (HSA.out _ _ _ HKA.out HIA.out).mono ?_
  rintro e w8 ⟨rfl, hk8⟩
  have HK8 : Hid (Kept w7 w8) := HKA.out.trans hk8
  clear hk8 HSA HKA HIA
  have HKA : Hid (Kept w7 (w8.alloc (.cells #[.int .i64 2] 3))) := HK8.out.alloc _
  have HIA : Hid (Ints .i64 (w8.alloc (.cells #[.int .i64 2] 3)) (some ⟨w8.heap.size, 0, none⟩) [2]) := cells_ints w8 [2] _
  go_wp2_with fail
  refine (HSB.out _ _ _ HKA.out HIA.out).mono ?_
  rintro e w9 ⟨rfl, hk9⟩
  have HK9 : Hid (Kept w7 w9) := HKA.out.trans hk9
  clear hk9 HSB HKA HIA
  have HKA : Hid (Kept w7 (w9.alloc (.cells #[.int .i64 1, .int .i64 3] 3))) := HK9.out.alloc _
  have HIA : Hid (Ints .i64 (w9.alloc (.cells #[.int .i64 1, .int .i64 3] 3)) (some ⟨w9.heap.size, 0, none⟩) [1, 3]) := cells_ints w9 [1, 3] _
  go_wp2_with fail
  refine (HSC.out _ _ _ HKA.out HIA.out).mono ?_
  rintro e w10 ⟨rfl, hk10⟩
  have HK10 : Hid (Kept w w10) := HK7.out.trans (HKA.out.trans hk10)
  clear hk10 HSC HKA HIA
  go_wp2_with fail
  go_ret
  exact ⟨rfl, HK10.out⟩
end Go.Proofs.Ytleohicgbpebnaa
