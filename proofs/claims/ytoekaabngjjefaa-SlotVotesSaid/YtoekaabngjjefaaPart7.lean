/- SumRef, SumRef2. -/
import Derived.Test.YtoekaabngjjefaaKept
import Derived.Test.YtoekaabngjjefaaPart6
import Derived.WalkLawsBesides
import Derived.Outline
import Derived.Deep.DeepMust
import Derived.WalkSpells
import Derived.Laws.IdiomStrings
/- What the document's own answers for sums come to. -/
namespace Go.Proofs.Ytoekaabngjjefaa
open Go.RowKit Sm
set_option linter.unusedVariables false

/-- A row of n bits as cells. -/
def bl (f : Nat → Bool) (n : Nat) : List Value := (List.range n).map fun j => Value.bool (f j)
theorem bl_length (f : Nat → Bool) (n : Nat) : (bl f n).length = n := by simp [bl]
theorem bl_get (f : Nat → Bool) (n j : Nat) (h : j < n) : (bl f n)[j]? = some (.bool (f j)) := by simp [bl, h]
theorem bl_snoc (f : Nat → Bool) (n : Nat) : bl f n ++ [.bool (f n)] = bl f (n + 1) := by simp [bl, List.range_succ]
theorem bl_congr (f g : Nat → Bool) (n : Nat) (h : ∀ j, j < n → f j = g j) : bl f n = bl g n := by
  unfold bl
  apply List.map_congr_left
  intro j hj
  rw [h j (List.mem_range.1 hj)]
theorem bl_set (f g : Nat → Bool) (n k : Nat) (b : Bool) (hk : k < n) (h : ∀ j, g j = if j = k then b else f j) : (bl f n).set k (.bool b) = bl g n := by
  apply List.ext_getElem?
  intro j
  rw [List.getElem?_set]
  by_cases hj : j < n
  · rw [bl_get g n j hj, h j]
    by_cases e : k = j
    · subst e; rw [if_pos rfl, if_pos (by rw [bl_length]; exact hj), if_pos rfl]
    · rw [if_neg e, bl_get f n j hj, if_neg (by omega)]
  · rw [if_neg (by omega), List.getElem?_eq_none (by rw [bl_length]; omega), List.getElem?_eq_none (by rw [bl_length]; omega)]

theorem info_bool : (Try.prog.info? 4).map (fun i => (i.zero, i.size, i.bytes)) = some (some (.bool false), 1, 1) := by kernel_rfl

/-- The first 32 from place o on turned. -/
def tw (f : Nat → Bool) (o k j : Nat) : Bool := if o ≤ j ∧ j < o + k then !f j else f j
theorem tw_zero (f : Nat → Bool) (o : Nat) : tw f o 0 = f := by funext j; unfold tw; rw [if_neg (by omega)]
theorem tw_step (f : Nat → Bool) (o k j : Nat) : tw f o (k + 1) j = if j = o + k then !tw f o k (o + k) else tw f o k j := by
  unfold tw
  by_cases h : j = o + k
  · subst h; rw [if_pos rfl, if_pos (by omega), if_neg (by omega)]
  · rw [if_neg h]
    by_cases h2 : o ≤ j ∧ j < o + k
    · rw [if_pos h2, if_pos (by omega)]
    · rw [if_neg h2, if_neg (by omega)]

theorem g_trans {a b c : World} {r : Option Nat} (h : a.grownBy b r) (k : b.grownBy c r) : a.grownBy c r :=
  ⟨k.os.trans h.os, k.tape.trans h.tape, k.output.trans h.output, Nat.le_trans h.size k.size, fun i hi hr => (k.block i (Nat.lt_of_lt_of_le hi h.size) hr).trans (h.block i hi hr)⟩
set_option maxRecDepth 100000 in
theorem sturn_any (f : Nat → Bool) (base g n cap o m c : Nat) (w : World) (hown : w.ownsRow base 4 1 (.slice (some ⟨g, 0, none⟩) n cap) n (bl f n)) (ho : o + 32 ≤ n) (hm : 32 ≤ m) (hm2 : m ≤ 100000000) :
    Calls Try.prog 86 #[.slice (some ⟨g, o, none⟩) m c] w fun e w' => e = .returned (.tuple #[]) ∧ w'.ownsRow base 4 1 (.slice (some ⟨g, 0, none⟩) n cap) n (bl (tw f o 32) n) ∧ w.grownBy w' (some g) := by
  have HO := Lib.hid hown
  clear hown
  go_enter Try.func86, Try.ntmps86
  go_wp2_with fail
  go_loopw [2] (fun i wr => ∃ k : Nat, k ≤ 32 ∧ i = .int .i64 k ∧ Hid (wr.ownsRow base 4 1 (.slice (some ⟨g, 0, none⟩) n cap) n (bl (tw f o k) n)) ∧ w.grownBy wr (some g)) (fun i _ => 32 - (intOf i).toNat)
  case atStart => exact ⟨0, Nat.zero_le _, rfl, by rw [tw_zero]; exact HO, World.grownBy.refl _ _⟩
  case round =>
    obtain ⟨k, hk, rfl, hown, hg⟩ := hrel
    by_cases hlt : k < 32
    · have hc := hown.out.cellAt (o + k) (by omega)
      rw [bl_get _ _ _ (by omega)] at hc
      have hf := hown.out.frozenAt (o + k)
      go_wp2_with fail
      have hs := hown.out.stored (o + k) (.bool !tw f o k (o + k))
      refine ⟨⟨k + 1, by omega, by go_num, ?_, g_trans hg hs.2⟩, by simp [intOf]; omega⟩
      have e := bl_set (tw f o k) (tw f o (k + 1)) n (o + k) (!tw f o k (o + k)) (by omega) (tw_step f o k)
      rw [e] at hs
      exact hs.1
    · obtain rfl : k = 32 := by omega
      go_wp2_with fail
      go_end0
      exact ⟨rfl, hown.out, hg⟩

theorem grown_alloc (w : World) (o : Obj) : w.grownBy (w.alloc o) none := ⟨rfl, rfl, rfl, by simp, fun k hk _ => Below.heap_alloc _ _ _ hk⟩
set_option maxRecDepth 100000 in
theorem powers_any (w : World) :
    Calls Try.prog 93 #[] w fun e w' => e = .returned (.slice (some ⟨w.heap.size, 0, none⟩) 14 14) ∧ w' = w.alloc (.cells #[.int .i64 26, .int .i64 23, .int .i64 22, .int .i64 16, .int .i64 12, .int .i64 11, .int .i64 10, .int .i64 8, .int .i64 7, .int .i64 5, .int .i64 4, .int .i64 2, .int .i64 1, .int .i64 0] 3) := by
  go_enter Try.func93, Try.ntmps93
  go_wp2_with fail
  go_ret
  exact ⟨rfl, rfl⟩

/-- The powers' list lies in block p. -/
def Pows (w : World) (p : Nat) : Prop := ∀ k, k < 14 → w.cell? ⟨p, k, none⟩ = some (.int .i64 ((pw[k]! : Nat) : Int))
theorem pows_made (w : World) : Pows (w.alloc (.cells #[.int .i64 26, .int .i64 23, .int .i64 22, .int .i64 16, .int .i64 12, .int .i64 11, .int .i64 10, .int .i64 8, .int .i64 7, .int .i64 5, .int .i64 4, .int .i64 2, .int .i64 1, .int .i64 0] 3)) w.heap.size := by
  intro k hk
  rw [World.cell?_alloc_mark]
  have h : ∀ k : Fin 14, (#[Value.int .i64 26, .int .i64 23, .int .i64 22, .int .i64 16, .int .i64 12, .int .i64 11, .int .i64 10, .int .i64 8, .int .i64 7, .int .i64 5, .int .i64 4, .int .i64 2, .int .i64 1, .int .i64 0])[k.val]? = some (.int .i64 ((pw[k.val]! : Nat) : Int)) := by
    intro k
    match k with
    | ⟨0, _⟩ => rfl
    | ⟨1, _⟩ => rfl
    | ⟨2, _⟩ => rfl
    | ⟨3, _⟩ => rfl
    | ⟨4, _⟩ => rfl
    | ⟨5, _⟩ => rfl
    | ⟨6, _⟩ => rfl
    | ⟨7, _⟩ => rfl
    | ⟨8, _⟩ => rfl
    | ⟨9, _⟩ => rfl
    | ⟨10, _⟩ => rfl
    | ⟨11, _⟩ => rfl
    | ⟨12, _⟩ => rfl
    | ⟨13, _⟩ => rfl
    | ⟨n + 14, h⟩ => omega
  exact h ⟨k, hk⟩
theorem Pows.set {w : World} {p g : Nat} (h : Pows w p) (hne : g ≠ p) (o : Nat) (v : Value) : Pows (w.setCell ⟨g, o, none⟩ v) p := fun k hk => by
  rw [World.cell?_setCell_other _ _ _ _ (fun e => hne (by injection e)), h k hk]
theorem pw_le (k : Nat) (h : k < 14) : pw[k]! ≤ 26 := by
  have hd : ∀ k : Fin 14, pw[k.val]! ≤ 26 := by decide +kernel
  exact hd ⟨k, h⟩

theorem flip_step {l : List UInt8} (G : Nat → Bool) (i q d : Nat) (hq : q < 14) (hd : pw[q]! = d) (hd2 : d ≤ 26) (h : ∀ j, i ≤ j → G j = (win l i j ^^ fl i q j)) (j : Nat) (hj : i ≤ j) :
    (if j = i + 32 - d then !G (i + 32 - d) else G j) = (win l i j ^^ fl i (q + 1) j) := by
  rw [fl_step i q j hq, hd]
  by_cases e : j = i + 32 - d
  · subst e
    rw [if_pos rfl, h _ (by omega)]
    simp
  · have e2 : ((j == i + 32 - d) : Bool) = false := beq_eq_false_iff_ne.2 e
    rw [if_neg e, h j hj, e2]
    simp
set_option maxRecDepth 100000 in
theorem left_any (l : List UInt8) (F0 : Nat → Bool) (base g cap : Nat) (w : World) (hl : l.length ≤ 1000000) (hown : w.ownsRow base 4 1 (.slice (some ⟨g, 0, none⟩) (8 * l.length + 32) cap) (8 * l.length + 32) (bl F0 (8 * l.length + 32))) (hF0 : ∀ j, F0 j = win l 0 j) (hgw : g < w.heap.size) (hcap : 8 * l.length + 32 ≤ cap) :
    Calls Try.prog 87 #[.slice (some ⟨g, 0, none⟩) (8 * l.length + 32) cap] w fun e w' => e = .returned (.int .u32 (crc l : Nat)) ∧ w.grownBy w' (some g) := by
  obtain ⟨N, hN⟩ : ∃ N, 8 * l.length = N := ⟨_, rfl⟩
  rw [hN] at hown hcap ⊢
  have HO := Lib.hid hown
  have HN := Lib.hid hN
  have HF := Lib.hid hF0
  have hN2 : N ≤ 8000000 := by omega
  clear hown hN hF0 hl
  go_enter Try.func87, Try.ntmps87
  go_wp2_with fail
  refine (powers_any _).mono ?_
  rintro e w1 ⟨rfl, hw1⟩
  have HP : Pows w1 w.heap.size := by rw [hw1]; exact pows_made w
  have HG : w.grownBy w1 (some g) := by rw [hw1]; exact World.grownBy_alloc _ _ _
  have HO1 := HO.out.alloc (.cells #[.int .i64 26, .int .i64 23, .int .i64 22, .int .i64 16, .int .i64 12, .int .i64 11, .int .i64 10, .int .i64 8, .int .i64 7, .int .i64 5, .int .i64 4, .int .i64 2, .int .i64 1, .int .i64 0] 3)
  rw [← hw1] at HO1
  have HO2 := Lib.hid HO1
  have HP2 := Lib.hid HP
  clear hw1 HO1 HP HO
  obtain ⟨p, hp⟩ : ∃ p, w.heap.size = p := ⟨_, rfl⟩
  rw [hp] at hgw HP2
  rw [hp]
  clear hp
  go_wp2_with fail
  go_loopw [4] (fun i wr => ∃ (k : Nat) (F : Nat → Bool), k ≤ N ∧ i = .int .i64 k ∧ Hid (∀ j, k ≤ j → F j = win l k j) ∧ Hid (wr.ownsRow base 4 1 (.slice (some ⟨g, 0, none⟩) (N + 32) cap) (N + 32) (bl F (N + 32))) ∧ Hid (Pows wr p) ∧ w.grownBy wr (some g)) (fun i _ => N - (intOf i).toNat)
  case atStart => exact ⟨0, F0, Nat.zero_le _, rfl, fun j _ => HF.out j, HO2, HP2, HG⟩
  case round =>
    obtain ⟨i, F, hi, rfl, HFi, HOi, HPi, hg⟩ := hrel
    by_cases hlt : i < N
    · have hc := HOi.out.cellAt i (by omega)
      rw [bl_get _ _ _ (by omega)] at hc
      have hFw : F i = win l i i := HFi.out i (Nat.le_refl _)
      rw [hFw] at hc
      clear hFw
      cases hb : win l i i with
      | false =>
        rw [hb] at hc
        have HB := Lib.hid hb
        clear hb
        go_wp2_with fail
        exact ⟨⟨i + 1, F, by omega, by go_num, fun j hj => by rw [HFi.out j (by omega), win_on l i j hj, HB.out]; simp, HOi, HPi, hg⟩, by simp [intOf]; omega⟩
      | true =>
        rw [hb] at hc
        have HB := Lib.hid hb
        clear hb
        go_wp2_with fail
        clear hc
        go_loopw [5, 6] (fun k _ ws => ∃ (q : Nat) (G : Nat → Bool), q ≤ 14 ∧ k = .int .i64 q ∧ Hid (∀ j, i ≤ j → G j = (win l i j ^^ fl i q j)) ∧ Hid (ws.ownsRow base 4 1 (.slice (some ⟨g, 0, none⟩) (N + 32) cap) (N + 32) (bl G (N + 32))) ∧ Hid (Pows ws p) ∧ w.grownBy ws (some g)) (fun k _ _ => 14 - (intOf k).toNat)
        case atStart => exact ⟨0, F, Nat.zero_le _, rfl, fun j hj => by rw [HFi.out j hj, fl_zero]; simp, HOi, HPi, hg⟩
        case round =>
          obtain ⟨q, G, hq, rfl, HGi, HOq, HPq, hg2⟩ := hrel
          by_cases hlq : q < 14
          · have hcq := HPq.out q hlq
            have hp26 := pw_le q hlq
            obtain ⟨d, hd⟩ : ∃ d, pw[q]! = d := ⟨_, rfl⟩
            rw [hd] at hcq hp26
            have HD := Lib.hid hd
            clear hd
            have hca := HOq.out.cellAt (i + 32 - d) (by omega)
            rw [bl_get _ _ _ (by omega)] at hca
            have hfa := HOq.out.frozenAt (i + 32 - d)
            go_wp2_with fail
            have hs := HOq.out.stored (i + 32 - d) (.bool !G (i + 32 - d))
            rw [bl_set G (fun j => if j = i + 32 - d then !G (i + 32 - d) else G j) (N + 32) (i + 32 - d) (!G (i + 32 - d)) (by omega) (fun j => rfl)] at hs
            refine ⟨⟨q + 1, (fun j => if j = i + 32 - d then !G (i + 32 - d) else G j), by omega, by go_num, flip_step G i q d hlq HD.out hp26 HGi.out, hs.1, HPq.out.set (by omega) _ _, g_trans hg2 hs.2⟩, by simp [intOf]; omega⟩
          · obtain rfl : q = 14 := by omega
            go_wp2_with fail
            exact ⟨⟨i + 1, G, by omega, by go_num, fun j hj => by rw [HGi.out j (by omega), win_on l i j hj, HB.out]; simp, HOq, HPq, hg2⟩, by simp [intOf]; omega⟩
    · obtain rfl : i = N := by omega
      clear HP2 HO2 HG HPi
      go_wp2_with fail
      refine (sturn_any F base g (i + 32) cap i 32 (cap - i) _ HOi.out (by omega) (by omega) (by omega)).mono ?_
      rintro e w2 ⟨rfl, HO2, hg2⟩
      have HO3 := Lib.hid HO2
      clear HO2
      go_wp2_with fail
      obtain ⟨v, hv⟩ : ∃ v, crc l = v := ⟨_, rfl⟩
      have hv32 : v < 4294967296 := hv ▸ crc_lt l
      have HV : Hid (∀ j, j < 32 → tw F i 32 (i + j) = v.testBit j) := fun j hj => by
        unfold tw
        rw [if_pos (by omega), HFi.out _ (by omega), ← hv, ← win_end l j hj, HN.out]
      have HW := Lib.hid hv
      clear hv
      go_loop [8, 9] (fun x k => ∃ q : Nat, q ≤ 32 ∧ k = .int .i64 ((q : Int) - 1) ∧ x = .int .u32 ((v / 2 ^ q : Nat) : Int)) (fun _ k => (intOf k + 1).toNat)
      case atStart => exact ⟨32, Nat.le_refl _, rfl, by rw [Nat.div_eq_of_lt (by omega)]; rfl⟩
      case round =>
        obtain ⟨q, hq, rfl, rfl⟩ := hrel
        by_cases hq0 : 0 < q
        · obtain ⟨r, rfl⟩ : ∃ r, q = r + 1 := ⟨q - 1, by omega⟩
          have hm := made v r
          have hx : v / 2 ^ (r + 1) ≤ 2147483647 := by
            have := Nat.div_le_self (v / 2) (2 ^ r)
            rw [Nat.pow_succ', ← Nat.div_div_eq_div_mul]
            omega
          obtain ⟨x, hxx⟩ : ∃ x, v / 2 ^ (r + 1) = x := ⟨_, rfl⟩
          obtain ⟨y, hyy⟩ : ∃ y, v / 2 ^ r = y := ⟨_, rfl⟩
          rw [hxx] at hm hx
          rw [hyy] at hm
          rw [hxx]
          have HY := Lib.hid hyy
          clear hxx hyy
          have hc := HO3.out.cellAt (i + r) (by omega)
          rw [bl_get _ _ _ (by omega), HV.out r (by omega)] at hc
          have hr1 : ((r + 1 : Nat) : Int) - 1 = (r : Int) := by omega
          rw [hr1]
          clear hr1
          cases hb : v.testBit r with
          | true =>
            rw [hb] at hc hm
            have HM := Lib.hid hm
            clear hm hb
            go_wp2_with fail
            refine ⟨⟨r, by omega, rfl, ?_⟩, by simp [intOf]⟩
            rw [HY.out, HM.out]
            rfl
          | false =>
            rw [hb] at hc hm
            have HM := Lib.hid hm
            clear hm hb
            go_wp2_with fail
            refine ⟨⟨r, by omega, rfl, ?_⟩, by simp [intOf]⟩
            rw [HY.out, HM.out]
            rfl
        · obtain rfl : q = 0 := by omega
          go_wp2_with fail
          go_ret
          exact ⟨by rw [HW.out]; rfl, g_trans hg hg2⟩

theorem and_bit (b k : Nat) (hb : b < 256) : decide (bits .and .u8 ((b / 2 ^ k : Nat) : Int) 1 = 1) = b.testBit k := by
  have hlt : b / 2 ^ k < 256 := Nat.lt_of_le_of_lt (Nat.div_le_self _ _) hb
  have e := u8_and_nat (b / 2 ^ k) 1 hlt (by omega)
  rw [show ((1 : Nat) : Int) = 1 from rfl] at e
  rw [e, Nat.and_one_is_mod, Nat.testBit_eq_decide_div_mod_eq]
  rw [Bool.eq_iff_iff, decide_eq_true_iff, decide_eq_true_iff]
  omega
theorem one_bool (b : Bool) : ∀ u ∈ [Value.bool b], u.oneCell' = true := by
  intro u hu
  simp at hu
  subst hu
  rfl
theorem bit_at (s : ByteArray) (k r : Nat) (hk : k < s.size) (hr : r < 8) : (bits BinOp.and IntKind.u8 ((s[k].toNat : Int) / 2 ^ r) 1 == 1) = mbit s.data.toList (8 * k + r) := by
  have hl : s.data.toList.length = s.size := by simp
  have e1 : (8 * k + r) / 8 = k := by omega
  have e2 : (8 * k + r) % 8 = r := by omega
  have e3 : s.data.toList[k]! = s[k] := by
    rw [getElem!_pos s.data.toList k (by omega)]
    rfl
  unfold mbit
  rw [if_pos (by omega), e1, e2, e3, ← and_bit _ r s[k].toNat_lt]
  have e4 : (s[k].toNat : Int) / 2 ^ r = ((s[k].toNat / 2 ^ r : Nat) : Int) := by simp
  rw [e4, Bool.eq_iff_iff, beq_iff_eq, decide_eq_true_iff]
set_option maxRecDepth 100000 in
theorem bits_any (s : ByteArray) (w : World) (hs : s.size ≤ 1000000) :
    Calls Try.prog 85 #[.string s] w fun e w' => e = .returned (.slice (some ⟨w.heap.size, 0, none⟩) (8 * s.size + 32) (8 * s.size + 32)) ∧ w'.ownsRow w.heap.size 4 1 (.slice (some ⟨w.heap.size, 0, none⟩) (8 * s.size + 32) (8 * s.size + 32)) (8 * s.size + 32) (bl (mbit s.data.toList) (8 * s.size + 32)) ∧ Kept w w' ∧ w.heap.size < w'.heap.size := by
  obtain ⟨i0, hi, hz0, hz1, hz2⟩ := info_parts info_bool
  obtain ⟨L, hL⟩ : ∃ L, 8 * s.size + 32 = L := ⟨_, rfl⟩
  rw [hL]
  have HL := Lib.hid hL
  have hb2 : i0.bytes * L ≤ 281474976710656 := by rw [hz2]; omega
  have hL8 : L ≤ 8000032 := by omega
  have hmx : L ≤ maxLen := by unfold maxLen; omega
  have HC : Hid (8 * (s.size : Int) + 32 = (L : Int)) := by show _ = _; omega
  have HB2 := Lib.hid hb2
  have HZ0 := Lib.hid hz0
  have HZ1 := Lib.hid hz1
  have HI := Lib.hid hi
  clear hL hb2 hz0 hz1 hz2 hi
  go_enter Try.func85, Try.ntmps85
  go_wp2_with (first | (at_make; refine wpList_make_own _ rfl _ _ 46 rfl w.heap.size 4 i0 (.bool false) 1 Try.underlying46 HI.out HZ0.out HZ1.out .i64 .i64 _ L rfl rfl HC.out HB2.out hmx (Nat.le_refl _) ?_; intro w1 hown1 hg1))
  have HO1 := Lib.hid hown1
  have hk1 : Kept w w1 := (Kept.refl w).trans (Below.grown (Below.refl _ _) hg1 (Nat.le_refl _) (fun k hk => by cases hk))
  have hlt1 : w.heap.size < w1.heap.size := (hown1.lt _ rfl).2
  clear hown1 hg1
  obtain ⟨g, hg⟩ : ∃ g, w.heap.size = g := ⟨_, rfl⟩
  rw [hg] at HO1 hlt1
  rw [hg]
  have HG := Lib.hid hg
  clear hg
  go_loopw [3, 4] (fun v i wr => ∃ k : Nat, k ≤ s.size ∧ i = .int .i64 k ∧ v = .slice (some ⟨g, 0, none⟩) (8 * k) L ∧ Hid (wr.ownsRow g 4 1 (.slice (some ⟨g, 0, none⟩) (8 * k) L) (8 * k) (bl (mbit s.data.toList) (8 * k))) ∧ Kept w wr ∧ g < wr.heap.size) (fun _ i _ => s.size - (intOf i).toNat)
  case atStart => exact ⟨0, Nat.zero_le _, rfl, rfl, HO1, hk1, hlt1⟩
  case round =>
    obtain ⟨k, hk, rfl, rfl, HO, hkw, hgw⟩ := hrel
    by_cases hlt : k < s.size
    · go_wp2_with fail
      go_loopw [3, 5] (fun v q ws => ∃ r : Nat, r ≤ 8 ∧ q = .int .i64 r ∧ v = .slice (some ⟨g, 0, none⟩) (8 * k + r) L ∧ Hid (ws.ownsRow g 4 1 (.slice (some ⟨g, 0, none⟩) (8 * k + r) L) (8 * k + r) (bl (mbit s.data.toList) (8 * k + r))) ∧ Kept w ws ∧ g < ws.heap.size) (fun _ q _ => 8 - (intOf q).toNat)
      case atStart => exact ⟨0, Nat.zero_le _, rfl, rfl, HO, hkw, hgw⟩
      case round =>
        obtain ⟨r, hr, rfl, rfl, HOr, hkr, hgr⟩ := hrel
        by_cases hlr : r < 8
        · have hrm : 8 * k + r + 1 ≤ L := by have := HL.out; omega
          go_wp2_with (first | (at_builtin; go_must (refine wpList_append_fits _ rfl (.tmp 22) (.tmp 31) 46 rfl g 4 i0 1 Try.underlying46 HI.out HZ1.out g (8 * k + r) L _ rfl (HOr.out.alloc _) ⟨wr.heap.size, 0, none⟩ 1 1 [.bool (bits BinOp.and IntKind.u8 ((s[k].toNat : Int) / 2 ^ r) 1 == 1)] rfl rfl (cell_one_new _ _ _) (one_bool _) hrm ?_); intro w2 hown2 hg2))
          have hgg : w.heap.size ≤ g := by have := HG.out; omega
          exact ⟨⟨r + 1, by omega, by go_num, rfl, by rw [bit_at s k r hlt hlr, bl_snoc] at hown2; exact hown2, (hkr.alloc _).grown hg2 hgg, by have := hg2.size; simp at this; omega⟩, by simp [intOf]; omega⟩
        · obtain rfl : r = 8 := by omega
          go_wp2_with fail
          exact ⟨⟨k + 1, by omega, by go_num, rfl, HOr, hkr, hgr⟩, by simp [intOf]; omega⟩
    · obtain rfl : k = s.size := by omega
      go_wp2_with fail
      go_loopw [3, 6] (fun v q ws => ∃ r : Nat, r ≤ 32 ∧ q = .int .i64 r ∧ v = .slice (some ⟨g, 0, none⟩) (8 * s.size + r) L ∧ Hid (ws.ownsRow g 4 1 (.slice (some ⟨g, 0, none⟩) (8 * s.size + r) L) (8 * s.size + r) (bl (mbit s.data.toList) (8 * s.size + r))) ∧ Kept w ws ∧ g < ws.heap.size) (fun _ q _ => 32 - (intOf q).toNat)
      case atStart => exact ⟨0, Nat.zero_le _, rfl, rfl, HO, hkw, hgw⟩
      case round =>
        obtain ⟨r, hr, rfl, rfl, HOr, hkr, hgr⟩ := hrel
        by_cases hlr : r < 32
        · have hrm : 8 * s.size + r + 1 ≤ L := by have := HL.out; omega
          go_wp2_with (first | (at_builtin; go_must (refine wpList_append_fits _ rfl (.tmp 37) (.tmp 38) 46 rfl g 4 i0 1 Try.underlying46 HI.out HZ1.out g (8 * s.size + r) L _ rfl (HOr.out.alloc _) ⟨wr.heap.size, 0, none⟩ 1 1 [.bool false] rfl rfl (cell_one_new _ _ _) (one_bool _) hrm ?_); intro w2 hown2 hg2))
          have hgg : w.heap.size ≤ g := by have := HG.out; omega
          have em : mbit s.data.toList (8 * s.size + r) = false := by
            unfold mbit
            have hl : s.data.toList.length = s.size := by simp
            rw [if_neg (by omega)]
          exact ⟨⟨r + 1, by omega, by go_num, rfl, by rw [← em, bl_snoc] at hown2; exact hown2, (hkr.alloc _).grown hg2 hgg, by have := hg2.size; simp at this; omega⟩, by simp [intOf]; omega⟩
        · obtain rfl : r = 32 := by omega
          have hLL := HL.out
          go_wp2_with fail
          go_ret
          rw [hLL] at HOr ⊢
          rw [HG.out]
          exact ⟨rfl, HOr.out, hkr, hgr⟩

set_option maxRecDepth 100000 in
theorem refof_any (s : ByteArray) (w : World) (hs : s.size ≤ 1000000) :
    Calls Try.prog 75 #[.string s] w fun e w' => e = .returned (.int .u32 (crc s.data.toList : Nat)) ∧ Kept w w' := by
  have hl : s.data.toList.length = s.size := by simp
  have HL := Lib.hid hl
  clear hl
  go_enter Try.func75, Try.ntmps75
  go_wp2_with fail
  refine (bits_any s _ hs).mono ?_
  rintro e w1 ⟨rfl, HO, hk1, hlt1⟩
  have HO1 := Lib.hid HO
  clear HO
  go_wp2_with fail
  refine (sturn_any (mbit s.data.toList) _ w.heap.size _ _ 0 _ _ _ HO1.out (by omega) (by omega) (by omega)).mono ?_
  rintro e w2 ⟨rfl, HO, hg2⟩
  have HO2 := Lib.hid HO
  clear HO
  have hk2 : Kept w w2 := hk1.grown hg2 (Nat.le_refl _)
  have hlt2 : w.heap.size < w2.heap.size := by have := hg2.size; omega
  go_wp2_with fail
  refine (left_any s.data.toList (tw (mbit s.data.toList) 0 32) w.heap.size w.heap.size (8 * s.size + 32) _ (by rw [HL.out]; exact hs) (by rw [HL.out]; exact HO2.out) (fun j => by rw [win_start]; unfold tw; by_cases h : j < 32 <;> simp [h]) hlt2 (by rw [HL.out]; omega)).mono ?_
  rintro e w3 ⟨rfl, hg3⟩
  go_wp2_with fail
  go_ret
  exact ⟨rfl, hk2.grown hg3 (Nat.le_refl _)⟩

/-- Four bytes of a number, the highest first. -/
def b4 (x : Nat) : List UInt8 := [UInt8.ofNat (x / 16777216), UInt8.ofNat (x / 65536), UInt8.ofNat (x / 256), UInt8.ofNat x]
theorem b4_conv (w : World) (x : Nat) (hx : x ≤ 4294967295) :
    (convert 38 9 (.slice (some ⟨w.heap.size, 0, none⟩) 4 4)).run Try.prog (w.alloc (.cells #[.int .u8 ((x : Int) / 16777216), .int .u8 ((x : Int) / 65536 % 256), .int .u8 ((x : Int) / 256 % 256), .int .u8 ((x : Int) % 256)] 5)) = .ok (.string ⟨(b4 x).toArray⟩) (w.alloc (.cells #[.int .u8 ((x : Int) / 16777216), .int .u8 ((x : Int) / 65536 % 256), .int .u8 ((x : Int) / 256 % 256), .int .u8 ((x : Int) % 256)] 5)) := by
  refine run_convert_bytes_back (P := Try.prog) _ 38 9 5 ⟨w.heap.size, 0, none⟩ 4 (b4 x) Try.underlying38 Try.underlying5 Try.underlying9 (fun j hj => ?_)
  have hj4 : j < 4 := hj
  have ea : (⟨w.heap.size, 0, none⟩ : Addr).add j = ⟨w.heap.size, j, none⟩ := by
    unfold Addr.add
    split
    · rename_i h0; subst h0; rfl
    · simp
  rw [ea, World.cell?_alloc_mark]
  match j, hj4 with
  | 0, _ => simp [b4]; omega
  | 1, _ => simp [b4]
  | 2, _ => simp [b4]
  | 3, _ => simp [b4]
set_option maxRecDepth 100000 in
theorem refbytes_any (x : Int) (w : World) (h0 : 0 ≤ x) (h1 : x ≤ 4294967295) :
    Calls Try.prog 74 #[.int .u32 x] w fun e w' => e = .returned (.string ⟨(b4 x.toNat).toArray⟩) ∧ Kept w w' := by
  obtain ⟨n, rfl⟩ := Int.eq_ofNat_of_zero_le h0
  have hc := b4_conv w n (by omega)
  go_enter Try.func74, Try.ntmps74
  go_wp2_with fail
  go_ret
  exact ⟨by rw [Int.toNat_natCast]; rfl, (Kept.refl _).alloc _⟩
end Go.Proofs.Ytoekaabngjjefaa

/- What the document's own Seal and Open come to. -/
namespace Go.Proofs.Ytoekaabngjjefaa
open Go.RowKit Sm
set_option linter.unusedVariables false

theorem mk_len (l : List UInt8) : (⟨l.toArray⟩ : ByteArray).size = l.length := by simp [ByteArray.size]
theorem str_ext {a b : ByteArray} (h : a.data.toList = b.data.toList) : a = b := by
  apply ByteArray.ext
  apply Array.toList_inj.1
  exact h
/-- A text, sealed. -/
def sealL (l : List UInt8) : List UInt8 := l ++ b4 (crc l)
theorem b4_len (x : Nat) : (b4 x).length = 4 := rfl
theorem seal_len (l : List UInt8) : (sealL l).length = l.length + 4 := by simp [sealL, b4_len]
/-- Is it a sealed text? -/
def isSealed (l : List UInt8) : Bool := decide (4 ≤ l.length) && sealL (l.take (l.length - 4)) == l

set_option maxRecDepth 100000 in
theorem refseal_any (s : ByteArray) (w : World) (hs : s.size ≤ 1000000) :
    Calls Try.prog 52 #[.string s] w fun e w' => (∃ r : ByteArray, e = .returned (.string r) ∧ Hid (r.data.toList = sealL s.data.toList) ∧ r.size = s.size + 4) ∧ Kept w w' := by
  have hc := crc_lt s.data.toList
  obtain ⟨x, hx⟩ : ∃ x, crc s.data.toList = x := ⟨_, rfl⟩
  have HX := Lib.hid hx
  have hx32 : (x : Int) ≤ 4294967295 := by omega
  clear hc hx
  go_enter Try.func52, Try.ntmps52
  go_wp2_with fail
  refine (refof_any s _ hs).mono ?_
  rintro e w1 ⟨rfl, hk1⟩
  rw [HX.out]
  go_wp2_with fail
  refine (refbytes_any x _ (by omega) hx32).mono ?_
  rintro e w2 ⟨rfl, hk2⟩
  have hz : (⟨(b4 (x : Int).toNat).toArray⟩ : ByteArray).size = 4 := by rw [mk_len]; rfl
  obtain ⟨r4, hr4⟩ : ∃ r4 : ByteArray, (⟨(b4 (x : Int).toNat).toArray⟩ : ByteArray) = r4 := ⟨_, rfl⟩
  have HR : Hid (r4.data.toList = b4 x) := by show _ = _; rw [← hr4]; simp
  rw [hr4] at hz
  rw [hr4]
  clear hr4
  go_wp2_with fail
  go_ret
  refine ⟨⟨_, rfl, ?_, ?_⟩, hk1.trans hk2⟩
  · show (s ++ r4).data.toList = _
    unfold sealL
    rw [HX.out, ← HR.out]
    simp
  · rw [ByteArray.size_append, hz]

theorem sealed_str (s r : ByteArray) (h4 : 4 ≤ s.size) (hr : r.data.toList = sealL (s.extract 0 (s.size - 4)).data.toList) : (r.toList == s.toList) = isSealed s.data.toList := by
  have hl : s.data.toList.length = s.size := by simp
  have hx : (s.extract 0 (s.size - 4)).data.toList = s.data.toList.take (s.size - 4) := by simp
  unfold isSealed
  rw [ByteArray.toList_eq, ByteArray.toList_eq, hr, hx, hl]
  simp [h4]
/-- What a text is opened as. -/
def opened (s : ByteArray) : ByteArray := if isSealed s.data.toList = true then s.extract 0 (s.size - 4) else ⟨#[]⟩
theorem opened_yes (s : ByteArray) (h : isSealed s.data.toList = true) : opened s = s.extract 0 (s.size - 4) := if_pos h
theorem opened_no (s : ByteArray) (h : isSealed s.data.toList = false) : opened s = ⟨#[]⟩ := if_neg (by rw [h]; simp)
set_option maxRecDepth 100000 in
theorem refopen_any (s : ByteArray) (w : World) (hs : s.size ≤ 1000000) :
    Calls Try.prog 29 #[.string s] w fun e w' => e = .returned (.tuple #[.string (opened s), .bool (isSealed s.data.toList)]) ∧ Kept w w' := by
  have hl : s.data.toList.length = s.size := by simp
  have HL := Lib.hid hl
  clear hl
  rcases Nat.lt_or_ge s.size 4 with h4 | h4
  · have hb : isSealed s.data.toList = false := by
      unfold isSealed
      rw [HL.out]
      simp
      omega
    rw [opened_no s hb, hb]
    clear hb
    go_enter Try.func29, Try.ntmps29
    go_wp2_with fail
    go_ret2
    exact ⟨rfl, Kept.refl _⟩
  · go_enter Try.func29, Try.ntmps29
    go_wp2_with fail
    refine (refseal_any (s.extract 0 (s.size - 4)) _ (by simp; omega)).mono ?_
    rintro e w1 ⟨⟨r, rfl, hr, hz⟩, hk1⟩
    have hb := sealed_str s r h4 hr.out
    clear hz
    cases hB : isSealed s.data.toList with
    | true =>
      rw [hB] at hb
      have HB := Lib.hid hB
      clear hB
      go_wp2_with fail
      go_ret2
      exact ⟨by rw [opened_yes s HB.out, HB.out]; rfl, hk1⟩
    | false =>
      rw [hB] at hb
      have HB := Lib.hid hB
      clear hB
      go_wp2_with fail
      go_ret2
      exact ⟨by rw [opened_no s HB.out, HB.out]; rfl, hk1⟩
end Go.Proofs.Ytoekaabngjjefaa

