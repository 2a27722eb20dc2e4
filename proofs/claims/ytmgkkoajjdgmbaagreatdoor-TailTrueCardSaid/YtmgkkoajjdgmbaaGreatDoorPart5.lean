/- Size, Write, Ref. -/
import Derived.Test.YtmgkkoajjdgmbaaGreatDoorPart0
import Derived.Test.YtmgkkoajjdgmbaaGreatDoorPart4
import Derived.WalkKit
import Derived.Lib.Hide
import Derived.WalkLawsBesides
import Derived.Lib.BitFns
import Derived.Outline
import Derived.Laws.IdiomStrings
set_option linter.unusedVariables false
set_option linter.unusedSimpArgs false
set_option linter.unusedSectionVars false
set_option linter.unnecessarySimpa false
set_option linter.deprecated false
/- What bits.Len64 and num.Size answer. -/
namespace Go.Proofs.YtmgkkoajjdgmbaaGreatDoor
open Go.RowKit Nm
set_option linter.unusedVariables false

theorem bitLen_blen : ∀ n : Fin 256, Lib.bitLen n.val = blen n.val := by decide +kernel
/-- The table's byte, behind 'int(..)'. -/
theorem tab_blen (y : Int) (h0 : 0 ≤ y) (h1 : y < 256) (h : y.toNat < Lib.len8tab.size) : ((Lib.len8tab[y.toNat].toNat : Nat) : Int) = (blen y.toNat : Nat) ∧ blen y.toNat ≤ 8 := by
  have e := Lib.len8_of y h0 (by omega)
  have e2 := bitLen_blen ⟨y.toNat, by omega⟩
  simp only at e2
  have e3 : Lib.len8 y = ((Lib.len8tab[y.toNat].toNat : Nat) : Int) := by
    unfold Lib.len8
    rw [getElem?_pos Lib.len8tab y.toNat h]
    rfl
  rw [← e3, e, e2]
  exact ⟨rfl, (blen_le _ _).2 (by omega)⟩
/-- What a way comes to: c bits were shifted away. -/
theorem way (x y : Int) (c : Nat) (h0 : 0 ≤ x) (hy0 : 0 ≤ y) (hy1 : y < 256) (hc : c ≤ 56) (h : y.toNat < Lib.len8tab.size) (hx : 2 ^ c ≤ x.toNat ∨ c = 0) (hd : y.toNat = x.toNat / 2 ^ c) :
    wrap64 ((c : Int) + wrap64 ((Lib.len8tab[y.toNat].toNat : Nat) : Int)) = (blen x.toNat : Nat) := by
  obtain ⟨e, hb⟩ := tab_blen y hy0 hy1 h
  rw [e]
  have e1 : blen x.toNat = c + blen y.toNat := by
    rcases hx with hx | hx
    · rw [blen_shift x.toNat c hx, hd]
    · subst hx; rw [hd]; simp
  rw [e1, IntWalk.wrap64_in ((blen y.toNat : Nat) : Int) ⟨by omega, by omega⟩, IntWalk.wrap64_in _ ⟨by omega, by omega⟩]
  omega
set_option maxHeartbeats 4000000 in
set_option maxRecDepth 100000 in
theorem len64_any (x : Int) (w : World) (h0 : 0 ≤ x) (h1 : x ≤ 18446744073709551615) :
    Calls Tryz.prog 90 #[.int .u64 x] w fun e w' => e = .returned (.int .i64 (blen x.toNat : Nat)) ∧ w = w' := by
  have hs := Lib.len8tab_size
  go_enter Tryz.func90, Tryz.ntmps90
  go_wp2
  all_goals (go_ret; refine ⟨congrArg Ending.returned (congrArg (Value.int IntKind.i64) ?_), rfl⟩)
  · exact way x _ 56 h0 (by omega) (by omega) (by omega) _ (Or.inl (by omega)) (by omega)
  · exact way x _ 48 h0 (by omega) (by omega) (by omega) _ (Or.inl (by omega)) (by omega)
  · exact way x _ 40 h0 (by omega) (by omega) (by omega) _ (Or.inl (by omega)) (by omega)
  · exact way x _ 32 h0 (by omega) (by omega) (by omega) _ (Or.inl (by omega)) (by omega)
  · exact way x _ 24 h0 (by omega) (by omega) (by omega) _ (Or.inl (by omega)) (by omega)
  · exact way x _ 16 h0 (by omega) (by omega) (by omega) _ (Or.inl (by omega)) (by omega)
  · exact way x _ 8 h0 (by omega) (by omega) (by omega) _ (Or.inl (by omega)) (by omega)
  · have e := way x x 0 h0 h0 (by omega) (by omega) (by omega) (Or.inr rfl) (by simp)
    rw [← e]
    simp

set_option maxRecDepth 100000 in
theorem size_any (x : Int) (w : World) (h0 : 0 ≤ x) (h1 : x ≤ 18446744073709551615) :
    Calls Tryz.prog 130 #[.int .u64 x] w fun e w' => e = .returned (.int .i64 ((nb x.toNat + 1 : Nat) : Int)) ∧ w = w' := by
  have hb : blen x.toNat ≤ 64 := (blen_le _ _).2 (by omega)
  go_enter Tryz.func130, Tryz.ntmps130
  go_wp2_with (go_at_call 90; refine (len64_any x _ h0 h1).mono ?_; rintro e w' ⟨rfl, rfl⟩)
  go_ret
  exact ⟨congrArg Ending.returned (congrArg (Value.int IntKind.i64) (by unfold nb; omega)), rfl⟩
end Go.Proofs.YtmgkkoajjdgmbaaGreatDoor

/- What num.write answers: Up and Down. -/
namespace Go.Proofs.YtmgkkoajjdgmbaaGreatDoor
open Go.RowKit Nm
set_option linter.unusedVariables false

/-- The cells of an array of nine bytes. -/
def arr (f : Nat → UInt8) : Array Value := Array.ofFn (n := 9) fun j => Value.int .u8 ((f j.val).toNat : Nat)
theorem arr_get (f : Nat → UInt8) (j : Nat) (h : j < 9) : (arr f)[j]? = some (.int .u8 ((f j).toNat : Nat)) := by
  unfold arr
  rw [Array.getElem?_ofFn, dif_pos h]
theorem arr_size (f : Nat → UInt8) : (arr f).size = 9 := by simp [arr]
theorem arr_set (f g : Nat → UInt8) (k : Nat) (b : UInt8) (hk : k < 9) (h : (fun j => if j = k then b else f j) = g) : (arr f).setIfInBounds k (.int .u8 (b.toNat : Nat)) = arr g := by
  subst h
  apply Array.ext_getElem?
  intro i
  rw [Array.getElem?_setIfInBounds]
  by_cases hi : i < 9
  · by_cases e : i = k
    · subst e
      rw [if_pos rfl, arr_get _ i hi, if_pos (by rw [arr_size]; omega)]
      simp
    · rw [if_neg (by omega), arr_get _ i hi, arr_get _ i hi, if_neg e]
  · rw [if_neg (by omega), Array.getElem?_eq_none (by rw [arr_size]; omega), Array.getElem?_eq_none (by rw [arr_size]; omega)]

theorem cell_arr (w : World) (f : Nat → UInt8) (T : TypeId) (j : Nat) (h : j < 9) : (w.alloc (.cells (arr f) T)).cell? ((⟨w.heap.size, 0, none⟩ : Addr).add j) = some (.int .u8 ((f j).toNat : Nat)) := by
  have e : (⟨w.heap.size, 0, none⟩ : Addr).add j = ⟨w.heap.size, j, none⟩ := by
    unfold Addr.add
    split
    · rename_i h0; subst h0; rfl
    · simp
  rw [e, World.cell?_alloc_mark, arr_get f j h]
theorem len_arr : Tryz.prog.arrayLen 193 = 9 := by kernel_rfl
theorem is_arr : Tryz.prog.underlying 193 = some (.array (Tryz.prog.arrayLen 193) (Tryz.prog.elem 193)) := by kernel_rfl
theorem size_elem (w : World) : ((sizeOf (Tryz.prog.elem 193)).run Tryz.prog w) = .ok 1 w := by kernel_rfl
theorem slice_at (w : World) (a : Addr) (n : Nat) (hn : n ≤ 8) : (Instr.sliceAt 193 (.pointer (some a)) none (some (.int .i64 ((n : Int) + 1))) none).run Tryz.prog w = .ok (.slice (some a) (n + 1) 9) w := by
  rw [run_sliceAt_array_h w _ a is_arr .i64 ((n : Int) + 1) (by omega) (by rw [len_arr]; omega), size_elem, len_arr]
  have e : ((n : Int) + 1).toNat = n + 1 := by omega
  rw [e]
  simp [Result.andThen, slicedAt, Addr.add]
theorem xor_u8 (a b : UInt8) : bits .xor .u8 ((a.toNat : Nat) : Int) ((b.toNat : Nat) : Int) = (((a ^^^ b).toNat : Nat) : Int) := by
  rw [u8_xor_nat _ _ a.toNat_lt b.toNat_lt, UInt8.toNat_xor]

theorem size_n (x : Int) (n : Nat) (hn : nb x.toNat = n) (w : World) (h0 : 0 ≤ x) (h1 : x ≤ 18446744073709551615) :
    Calls Tryz.prog 130 #[.int .u64 x] w fun e w' => e = .returned (.int .i64 ((n : Int) + 1)) ∧ w = w' := by
  subst hn
  exact (size_any x w h0 h1).mono fun e w' h => by simpa using h

theorem quot (x n k : Nat) (y : Int) (hk : k ≤ n) (h0 : 0 < k) (h : y = ((x / 256 ^ (n - k) : Nat) : Int)) : y / 256 = ((x / 256 ^ (n - (k - 1)) : Nat) : Int) := by
  subst h
  rw [show n - (k - 1) = n - k + 1 from by omega, Nat.pow_succ, ← Nat.div_div_eq_div_mul]
  omega
set_option maxRecDepth 100000 in
theorem write_core (x : Int) (n : Nat) (hn : n ≤ 8) (HN : Hid (nb x.toNat = n)) (t : UInt8) (w : World) (h0 : 0 ≤ x) (h1 : x ≤ 18446744073709551615) :
    Calls Tryz.prog 113 #[.int .u64 x, .int .u8 (t.toNat : Nat)] w fun e w' => e = .returned (.string ⟨(turn t (UInt8.ofNat n :: be n x.toNat)).toArray⟩) ∧ Kept w w' := by
  have ha : #[Value.int .u8 (n : Int), .int .u8 0, .int .u8 0, .int .u8 0, .int .u8 0, .int .u8 0, .int .u8 0, .int .u8 0, .int .u8 0] = arr (f1 n x.toNat n) := by
    apply Array.ext_getElem?
    intro i
    by_cases hi : i < 9
    · rw [arr_get _ i hi, f1_start]
      have h8 : (UInt8.ofNat n).toNat = n := by rw [UInt8.toNat_ofNat']; omega
      rcases i with _ | _ | _ | _ | _ | _ | _ | _ | _ | i
      · simp [h8]
      all_goals first | rfl | omega
    · rw [Array.getElem?_eq_none (by simp; omega), Array.getElem?_eq_none (by rw [arr_size]; omega)]
  have HA := Lib.hid ha
  clear ha
  go_enter Tryz.func113, Tryz.ntmps113
  go_wp2_with (go_at_call 130; refine (size_n x n HN.out _ h0 h1).mono ?_; rintro e w' ⟨rfl, rfl⟩)
  go_loopw [0, 7] (fun v i wr => ∃ (k : Nat) (y : Int), k ≤ n ∧ i = .int .i64 k ∧ v = .int .u64 y ∧ 0 ≤ y ∧ y ≤ 18446744073709551615 ∧ Hid (y = ((x.toNat / 256 ^ (n - k) : Nat) : Int)) ∧ wr = w.alloc (.cells (arr (f1 n x.toNat k)) 193)) (fun _ i _ => (intOf i).toNat)
  case atStart =>
    exact ⟨n, x, Nat.le_refl _, rfl, rfl, h0, h1, by show x = _; rw [Nat.sub_self, Nat.pow_zero, Nat.div_one]; omega, by rw [← HA.out]⟩
  case round =>
    obtain ⟨k, y, hk, rfl, rfl, hy0, hy1, HY, rfl⟩ := hrel
    by_cases hk0 : 0 < k
    · have hget := arr_get (f1 n x.toNat k) k (by omega)
      have hset : (arr (f1 n x.toNat k)).setIfInBounds k (.int .u8 (y % 256)) = arr (f1 n x.toNat (k - 1)) := by
        have e : y % 256 = ((UInt8.ofNat (x.toNat / 256 ^ (n - k))).toNat : Nat) := by rw [UInt8.toNat_ofNat', HY.out]; omega
        rw [e]
        exact arr_set _ _ k _ (by omega) (f1_step n x.toNat k hk hk0)
      go_wp2_with fail
      exact ⟨⟨k - 1, y / 256, by omega, by go_num, rfl, by omega, by omega, quot x.toNat n k y hk hk0 HY.out, rfl⟩, by simp [intOf]; omega⟩
    · obtain rfl : k = 0 := by omega
      clear hk0 HY HA
      go_wp2_with fail
      go_loopw [8, 28] (fun _ i wr => ∃ k : Nat, k ≤ n + 1 ∧ i = .int .i64 k ∧ wr = w.alloc (.cells (arr (f2 n x.toNat t k)) 193)) (fun _ i _ => n + 1 - (intOf i).toNat)
      case atStart => exact ⟨0, Nat.zero_le _, rfl, by rw [← f2_start]⟩
      case round =>
        obtain ⟨k, hk, rfl, rfl⟩ := hrel
        by_cases hlt : k < n + 1
        · have hget := arr_get (f2 n x.toNat t k) k (by omega)
          go_wp2_with fail
          exact ⟨⟨k + 1, by omega, by go_num, by rw [xor_u8, arr_set (f2 n x.toNat t k) (f2 n x.toNat t (k + 1)) k (f2 n x.toNat t k k ^^^ t) (by omega) (f2_step n x.toNat t k)]⟩, by simp [intOf]; omega⟩
        · obtain rfl : k = n + 1 := by omega
          have hsl := slice_at (w.alloc (.cells (arr (f2 n x.toNat t (n + 1))) 193)) ⟨w.heap.size, 0, none⟩ n hn
          have hconv : (convert 24 9 (.slice (some ⟨w.heap.size, 0, none⟩) (n + 1) 9)).run Tryz.prog (w.alloc (.cells (arr (f2 n x.toNat t (n + 1))) 193)) = .ok (.string ⟨(turn t (UInt8.ofNat n :: be n x.toNat)).toArray⟩) (w.alloc (.cells (arr (f2 n x.toNat t (n + 1))) 193)) := by
            have hl : (turn t (UInt8.ofNat n :: be n x.toNat)).length = n + 1 := by simp [turn_length, be_length]
            have hr := run_convert_bytes_back (P := Tryz.prog) (w.alloc (.cells (arr (f2 n x.toNat t (n + 1))) 193)) 24 9 5 ⟨w.heap.size, 0, none⟩ 9 (turn t (UInt8.ofNat n :: be n x.toNat)) Tryz.underlying24 Tryz.underlying5 Tryz.underlying9 (fun j hj => by
              have hj' : j < n + 1 := by omega
              have e := f2_all n x.toNat t j hj'
              rw [List.getElem?_eq_getElem hj] at e
              rw [Option.some.inj e]
              exact cell_arr w _ _ _ (by omega))
            rw [hl] at hr
            exact hr
          go_wp2_with fail
          go_ret
          exact ⟨rfl, (Kept.refl _).alloc _⟩
theorem nwrite_any (x : Int) (t : UInt8) (w : World) (h0 : 0 ≤ x) (h1 : x ≤ 18446744073709551615) :
    Calls Tryz.prog 113 #[.int .u64 x, .int .u8 (t.toNat : Nat)] w fun e w' => e = .returned (.string ⟨(turn t (up x.toNat)).toArray⟩) ∧ Kept w w' :=
  write_core x (nb x.toNat) (nb_le8 (by omega)) rfl t w h0 h1
end Go.Proofs.YtmgkkoajjdgmbaaGreatDoor

/- What the document's own answers for numbers' bytes come to: digits, Up, Turn, Down. -/
namespace Go.Proofs.YtmgkkoajjdgmbaaGreatDoor
open Go.RowKit Nm
set_option linter.unusedVariables false

theorem up_any (x : Int) (w : World) (h0 : 0 ≤ x) (h1 : x ≤ 18446744073709551615) :
    Calls Tryz.prog 93 #[.int .u64 x] w fun e w' => e = .returned (.string ⟨(up x.toNat).toArray⟩) ∧ Kept w w' := by
  go_enter Tryz.func93, Tryz.ntmps93
  go_wp2_with fail
  refine (nwrite_any x 0 _ h0 h1).mono ?_
  rintro e w' ⟨rfl, hg⟩
  go_wp2_with fail
  go_ret
  exact ⟨by rw [turn_zero]; rfl, hg⟩
theorem add_zero_addr (b j : Nat) : (⟨b, 0, none⟩ : Addr).add j = ⟨b, j, none⟩ := by
  unfold Addr.add
  split
  · rename_i h0; subst h0; rfl
  · simp
/-- A slice of one byte as a string. -/
theorem one_byte (w : World) (y : Int) (b : UInt8) (h : y = (b.toNat : Nat)) : (convert 24 9 (.slice (some ⟨w.heap.size, 0, none⟩) 1 1)).run Tryz.prog (w.alloc (.cells #[.int .u8 y] 5)) = .ok (.string ⟨#[b]⟩) (w.alloc (.cells #[.int .u8 y] 5)) := by
  subst h
  exact run_convert_bytes_back (P := Tryz.prog) (w.alloc (.cells #[.int .u8 (b.toNat : Nat)] 5)) 24 9 5 ⟨w.heap.size, 0, none⟩ 1 [b] Tryz.underlying24 Tryz.underlying5 Tryz.underlying9 (fun j hj => by
    obtain rfl : j = 0 := by simpa using hj
    show (w.alloc _).cell? ⟨w.heap.size, 0, none⟩ = _
    rw [World.cell?_alloc_mark]
    rfl)
theorem add_cons (b : UInt8) (l : List UInt8) (h : l.length ≤ 100) (w : World) : (Op.stringOp .add ⟨#[b]⟩ ⟨l.toArray⟩).run Tryz.prog w = .ok (.string ⟨(b :: l).toArray⟩) w := by
  rw [run_string_add_sum w _ _ (by simp [ByteArray.size]; omega)]
  congr 2
theorem step_be (x k : Nat) (y : Int) (h0 : 0 < y) (h : y = ((x / 256 ^ k : Nat) : Int)) : k < nb x ∧ y % 256 = ((UInt8.ofNat (x / 256 ^ k)).toNat : Nat) ∧ y / 256 = ((x / 256 ^ (k + 1) : Nat) : Int) := by
  subst h
  refine ⟨?_, ?_, ?_⟩
  · rcases Nat.lt_or_ge k (nb x) with h1 | h1
    · exact h1
    · have := (nb_le x k).1 h1
      rw [Nat.div_eq_of_lt this] at h0
      simp at h0
  · rw [UInt8.toNat_ofNat']; omega
  · rw [Nat.pow_succ, ← Nat.div_div_eq_div_mul]; omega
theorem last_be (x k : Nat) (y : Int) (h0 : ¬ 0 < y) (hk : k ≤ nb x) (h : y = ((x / 256 ^ k : Nat) : Int)) : k = nb x := by
  subst h
  refine Nat.le_antisymm hk ((nb_le x k).2 ?_)
  rcases Nat.lt_or_ge x (256 ^ k) with h1 | h1
  · exact h1
  · have := Nat.div_pos h1 (Nat.pow_pos (by omega))
    omega
/-- What '[]byte(s)' lays, its first k bytes turned: byte j. -/
def tb (l : List UInt8) (k j : Nat) : UInt8 := if j < k then 255 - l[j]! else l[j]!
theorem sub_u8 (b : UInt8) : (255 : Int) - (b.toNat : Nat) = ((255 - b).toNat : Nat) := by
  have := b.toNat_lt
  rw [UInt8.toNat_sub_of_le _ _ (by rw [UInt8.le_iff_toNat_le]; show b.toNat ≤ 255; omega)]
  show (255 : Int) - _ = ((255 - b.toNat : Nat) : Int)
  omega
theorem tb_turn (l : List UInt8) (j : Nat) (h : j < l.length) : (turn 255 l)[j]? = some (tb l l.length j) := by
  unfold turn tb
  rw [if_pos h, List.getElem?_map, List.getElem?_eq_getElem h, getElem!_pos l j h]
  simp [xor255]

theorem tb_step (l : List UInt8) (k j : Nat) : tb l (k + 1) j = if j = k then 255 - l[k]! else tb l k j := by
  unfold tb
  by_cases h : j = k
  · subst h; rw [if_pos (by omega), if_pos rfl]
  · rw [if_neg h]
    by_cases h1 : j < k
    · rw [if_pos h1, if_pos (by omega)]
    · rw [if_neg h1, if_neg (by omega)]
theorem tb_self (l : List UInt8) (k : Nat) : tb l k k = l[k]! := by unfold tb; rw [if_neg (by omega)]
/-- One byte turned in its place. -/
theorem tb_round (wr : World) (b n k : Nat) (l : List UInt8) (hk : k < n)
    (hc : ∀ j, j < n → wr.cell? ⟨b, j, none⟩ = some (.int .u8 ((tb l k j).toNat : Nat))) (j : Nat) (hj : j < n) :
    (wr.setCell ⟨b, k, none⟩ (.int .u8 ((255 - ((tb l k k).toNat : Nat)) % 256))).cell? ⟨b, j, none⟩ = some (.int .u8 ((tb l (k + 1) j).toNat : Nat)) := by
  rw [tb_step]
  by_cases h : j = k
  · subst h
    rw [if_pos rfl, World.cell?_setCell_same _ _ _ (hc j hj), tb_self, sub_u8]
    have := (255 - l[j]!).toNat_lt
    congr 2
    omega
  · rw [if_neg h, World.cell?_setCell_other _ _ _ _ (fun e => h (by injection e with _ e2; exact e2.symm)), hc j hj]
end Go.Proofs.YtmgkkoajjdgmbaaGreatDoor

