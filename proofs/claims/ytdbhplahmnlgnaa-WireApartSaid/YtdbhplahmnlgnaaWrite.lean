/- What num.write answers: Up and Down. -/
import Derived.Test.YtdbhplahmnlgnaaSize
import Derived.Outline
import Derived.Laws.IdiomStrings
namespace Go.Proofs.Ytdbhplahmnlgnaa
open Go.RowKit Nm
set_option linter.unusedVariables false

/-- The cells of an array of nine bytes. -/
def arr (f : Nat → UInt8) : Array Value := Array.ofFn (n := 9) fun j => Value.int .u8 ((f j.val).toNat : Nat)
theorem arr_get (f : Nat → UInt8) (j : Nat) (h : j < 9) : (arr f)[j]? = some (.int .u8 ((f j).toNat : Nat)) := by
  unfold arr
  rw [Array.getElem?_ofFn, dif_pos h]
theorem arr_size (f : Nat → UInt8) : (arr f).size = 9 := by simp [arr]
theorem arr_set (f g : Nat → UInt8) (k : Nat) (b : UInt8) (hk : k < 9) (h : (fun j => if j = k then b else f j) = g) : (arr f).setIfInBounds k (.int .u8 (b.toNat : Nat)) = arr g := by
  subst h
  apply Array.ext_getElem?
  intro i
  rw [Array.getElem?_setIfInBounds]
  by_cases hi : i < 9
  · by_cases e : i = k
    · subst e
      rw [if_pos rfl, arr_get _ i hi, if_pos (by rw [arr_size]; omega)]
      simp
    · rw [if_neg (by omega), arr_get _ i hi, arr_get _ i hi, if_neg e]
  · rw [if_neg (by omega), Array.getElem?_eq_none (by rw [arr_size]; omega), Array.getElem?_eq_none (by rw [arr_size]; omega)]

theorem cell_arr (w : World) (f : Nat → UInt8) (T : TypeId) (j : Nat) (h : j < 9) : (w.alloc (.cells (arr f) T)).cell? ((⟨w.heap.size, 0, none⟩ : Addr).add j) = some (.int .u8 ((f j).toNat : Nat)) := by
  have e : (⟨w.heap.size, 0, none⟩ : Addr).add j = ⟨w.heap.size, j, none⟩ := by
    unfold Addr.add
    split
    · rename_i h0; subst h0; rfl
    · simp
  rw [e, World.cell?_alloc_mark, arr_get f j h]
theorem len_arr : Try.prog.arrayLen 83 = 9 := by kernel_rfl
theorem is_arr : Try.prog.underlying 83 = some (.array (Try.prog.arrayLen 83) (Try.prog.elem 83)) := by kernel_rfl
theorem size_elem (w : World) : ((sizeOf (Try.prog.elem 83)).run Try.prog w) = .ok 1 w := by kernel_rfl
theorem slice_at (w : World) (a : Addr) (n : Nat) (hn : n ≤ 8) : (Instr.sliceAt 83 (.pointer (some a)) none (some (.int .i64 ((n : Int) + 1))) none).run Try.prog w = .ok (.slice (some a) (n + 1) 9) w := by
  rw [run_sliceAt_array_h w _ a is_arr .i64 ((n : Int) + 1) (by omega) (by rw [len_arr]; omega), size_elem, len_arr]
  have e : ((n : Int) + 1).toNat = n + 1 := by omega
  rw [e]
  simp [Result.andThen, slicedAt, Addr.add]
theorem xor_u8 (a b : UInt8) : bits .xor .u8 ((a.toNat : Nat) : Int) ((b.toNat : Nat) : Int) = (((a ^^^ b).toNat : Nat) : Int) := by
  rw [u8_xor_nat _ _ a.toNat_lt b.toNat_lt, UInt8.toNat_xor]

theorem size_n (x : Int) (n : Nat) (hn : nb x.toNat = n) (w : World) (h0 : 0 ≤ x) (h1 : x ≤ 18446744073709551615) :
    Calls Try.prog 54 #[.int .u64 x] w fun e w' => e = .returned (.int .i64 ((n : Int) + 1)) ∧ w = w' := by
  subst hn
  exact (size_any x w h0 h1).mono fun e w' h => by simpa using h

theorem quot (x n k : Nat) (y : Int) (hk : k ≤ n) (h0 : 0 < k) (h : y = ((x / 256 ^ (n - k) : Nat) : Int)) : y / 256 = ((x / 256 ^ (n - (k - 1)) : Nat) : Int) := by
  subst h
  rw [show n - (k - 1) = n - k + 1 from by omega, Nat.pow_succ, ← Nat.div_div_eq_div_mul]
  omega
set_option maxRecDepth 100000 in
theorem write_core (x : Int) (n : Nat) (hn : n ≤ 8) (HN : Hid (nb x.toNat = n)) (t : UInt8) (w : World) (h0 : 0 ≤ x) (h1 : x ≤ 18446744073709551615) :
    Calls Try.prog 49 #[.int .u64 x, .int .u8 (t.toNat : Nat)] w fun e w' => e = .returned (.string ⟨(turn t (UInt8.ofNat n :: be n x.toNat)).toArray⟩) ∧ Kept w w' := by
  have ha : #[Value.int .u8 (n : Int), .int .u8 0, .int .u8 0, .int .u8 0, .int .u8 0, .int .u8 0, .int .u8 0, .int .u8 0, .int .u8 0] = arr (f1 n x.toNat n) := by
    apply Array.ext_getElem?
    intro i
    by_cases hi : i < 9
    · rw [arr_get _ i hi, f1_start]
      have h8 : (UInt8.ofNat n).toNat = n := by rw [UInt8.toNat_ofNat']; omega
      rcases i with _ | _ | _ | _ | _ | _ | _ | _ | _ | i
      · simp [h8]
      all_goals first | rfl | omega
    · rw [Array.getElem?_eq_none (by simp; omega), Array.getElem?_eq_none (by rw [arr_size]; omega)]
  have HA := Lib.hid ha
  clear ha
  go_enter Try.func49, Try.ntmps49
  go_wp2_with (go_at_call 54; refine (size_n x n HN.out _ h0 h1).mono ?_; rintro e w' ⟨rfl, rfl⟩)
  go_loopw [0, 7] (fun v i wr => ∃ (k : Nat) (y : Int), k ≤ n ∧ i = .int .i64 k ∧ v = .int .u64 y ∧ 0 ≤ y ∧ y ≤ 18446744073709551615 ∧ Hid (y = ((x.toNat / 256 ^ (n - k) : Nat) : Int)) ∧ wr = w.alloc (.cells (arr (f1 n x.toNat k)) 83)) (fun _ i _ => (intOf i).toNat)
  case atStart =>
    exact ⟨n, x, Nat.le_refl _, rfl, rfl, h0, h1, by show x = _; rw [Nat.sub_self, Nat.pow_zero, Nat.div_one]; omega, by rw [← HA.out]⟩
  case round =>
    obtain ⟨k, y, hk, rfl, rfl, hy0, hy1, HY, rfl⟩ := hrel
    by_cases hk0 : 0 < k
    · have hget := arr_get (f1 n x.toNat k) k (by omega)
      have hset : (arr (f1 n x.toNat k)).setIfInBounds k (.int .u8 (y % 256)) = arr (f1 n x.toNat (k - 1)) := by
        have e : y % 256 = ((UInt8.ofNat (x.toNat / 256 ^ (n - k))).toNat : Nat) := by rw [UInt8.toNat_ofNat', HY.out]; omega
        rw [e]
        exact arr_set _ _ k _ (by omega) (f1_step n x.toNat k hk hk0)
      go_wp2_with fail
      exact ⟨⟨k - 1, y / 256, by omega, by go_num, rfl, by omega, by omega, quot x.toNat n k y hk hk0 HY.out, rfl⟩, by simp [intOf]; omega⟩
    · obtain rfl : k = 0 := by omega
      clear hk0 HY HA
      go_wp2_with fail
      go_loopw [8, 28] (fun _ i wr => ∃ k : Nat, k ≤ n + 1 ∧ i = .int .i64 k ∧ wr = w.alloc (.cells (arr (f2 n x.toNat t k)) 83)) (fun _ i _ => n + 1 - (intOf i).toNat)
      case atStart => exact ⟨0, Nat.zero_le _, rfl, by rw [← f2_start]⟩
      case round =>
        obtain ⟨k, hk, rfl, rfl⟩ := hrel
        by_cases hlt : k < n + 1
        · have hget := arr_get (f2 n x.toNat t k) k (by omega)
          go_wp2_with fail
          exact ⟨⟨k + 1, by omega, by go_num, by rw [xor_u8, arr_set (f2 n x.toNat t k) (f2 n x.toNat t (k + 1)) k (f2 n x.toNat t k k ^^^ t) (by omega) (f2_step n x.toNat t k)]⟩, by simp [intOf]; omega⟩
        · obtain rfl : k = n + 1 := by omega
          have hsl := slice_at (w.alloc (.cells (arr (f2 n x.toNat t (n + 1))) 83)) ⟨w.heap.size, 0, none⟩ n hn
          have hconv : (convert 54 9 (.slice (some ⟨w.heap.size, 0, none⟩) (n + 1) 9)).run Try.prog (w.alloc (.cells (arr (f2 n x.toNat t (n + 1))) 83)) = .ok (.string ⟨(turn t (UInt8.ofNat n :: be n x.toNat)).toArray⟩) (w.alloc (.cells (arr (f2 n x.toNat t (n + 1))) 83)) := by
            have hl : (turn t (UInt8.ofNat n :: be n x.toNat)).length = n + 1 := by simp [turn_length, be_length]
            have hr := run_convert_bytes_back (P := Try.prog) (w.alloc (.cells (arr (f2 n x.toNat t (n + 1))) 83)) 54 9 5 ⟨w.heap.size, 0, none⟩ 9 (turn t (UInt8.ofNat n :: be n x.toNat)) Try.underlying54 Try.underlying5 Try.underlying9 (fun j hj => by
              have hj' : j < n + 1 := by omega
              have e := f2_all n x.toNat t j hj'
              rw [List.getElem?_eq_getElem hj] at e
              rw [Option.some.inj e]
              exact cell_arr w _ _ _ (by omega))
            rw [hl] at hr
            exact hr
          go_wp2_with fail
          go_ret
          exact ⟨rfl, (Kept.refl _).alloc _⟩
theorem write_any (x : Int) (t : UInt8) (w : World) (h0 : 0 ≤ x) (h1 : x ≤ 18446744073709551615) :
    Calls Try.prog 49 #[.int .u64 x, .int .u8 (t.toNat : Nat)] w fun e w' => e = .returned (.string ⟨(turn t (up x.toNat)).toArray⟩) ∧ Kept w w' :=
  write_core x (nb x.toNat) (nb_le8 (by omega)) rfl t w h0 h1
end Go.Proofs.Ytdbhplahmnlgnaa
