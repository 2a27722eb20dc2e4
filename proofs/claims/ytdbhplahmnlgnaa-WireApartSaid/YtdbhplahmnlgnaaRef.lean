/- What the document's own answers for numbers' bytes come to: digits, Up, Turn, Down. -/
import Derived.Test.YtdbhplahmnlgnaaWrite
namespace Go.Proofs.Ytdbhplahmnlgnaa
open Go.RowKit Nm
set_option linter.unusedVariables false

theorem up_any (x : Int) (w : World) (h0 : 0 ≤ x) (h1 : x ≤ 18446744073709551615) :
    Calls Try.prog 31 #[.int .u64 x] w fun e w' => e = .returned (.string ⟨(up x.toNat).toArray⟩) ∧ Kept w w' := by
  go_enter Try.func31, Try.ntmps31
  go_wp2_with fail
  refine (write_any x 0 _ h0 h1).mono ?_
  rintro e w' ⟨rfl, hg⟩
  go_wp2_with fail
  go_ret
  exact ⟨by rw [turn_zero]; rfl, hg⟩
theorem add_zero_addr (b j : Nat) : (⟨b, 0, none⟩ : Addr).add j = ⟨b, j, none⟩ := by
  unfold Addr.add
  split
  · rename_i h0; subst h0; rfl
  · simp
/-- A slice of one byte as a string. -/
theorem one_byte (w : World) (y : Int) (b : UInt8) (h : y = (b.toNat : Nat)) : (convert 54 9 (.slice (some ⟨w.heap.size, 0, none⟩) 1 1)).run Try.prog (w.alloc (.cells #[.int .u8 y] 5)) = .ok (.string ⟨#[b]⟩) (w.alloc (.cells #[.int .u8 y] 5)) := by
  subst h
  exact run_convert_bytes_back (P := Try.prog) (w.alloc (.cells #[.int .u8 (b.toNat : Nat)] 5)) 54 9 5 ⟨w.heap.size, 0, none⟩ 1 [b] Try.underlying54 Try.underlying5 Try.underlying9 (fun j hj => by
    obtain rfl : j = 0 := by simpa using hj
    show (w.alloc _).cell? ⟨w.heap.size, 0, none⟩ = _
    rw [World.cell?_alloc_mark]
    rfl)
theorem add_cons (b : UInt8) (l : List UInt8) (h : l.length ≤ 100) (w : World) : (Op.stringOp .add ⟨#[b]⟩ ⟨l.toArray⟩).run Try.prog w = .ok (.string ⟨(b :: l).toArray⟩) w := by
  rw [run_string_add_sum w _ _ (by simp [ByteArray.size]; omega)]
  congr 2
theorem step_be (x k : Nat) (y : Int) (h0 : 0 < y) (h : y = ((x / 256 ^ k : Nat) : Int)) : k < nb x ∧ y % 256 = ((UInt8.ofNat (x / 256 ^ k)).toNat : Nat) ∧ y / 256 = ((x / 256 ^ (k + 1) : Nat) : Int) := by
  subst h
  refine ⟨?_, ?_, ?_⟩
  · rcases Nat.lt_or_ge k (nb x) with h1 | h1
    · exact h1
    · have := (nb_le x k).1 h1
      rw [Nat.div_eq_of_lt this] at h0
      simp at h0
  · rw [UInt8.toNat_ofNat']; omega
  · rw [Nat.pow_succ, ← Nat.div_div_eq_div_mul]; omega
theorem last_be (x k : Nat) (y : Int) (h0 : ¬ 0 < y) (hk : k ≤ nb x) (h : y = ((x / 256 ^ k : Nat) : Int)) : k = nb x := by
  subst h
  refine Nat.le_antisymm hk ((nb_le x k).2 ?_)
  rcases Nat.lt_or_ge x (256 ^ k) with h1 | h1
  · exact h1
  · have := Nat.div_pos h1 (Nat.pow_pos (by omega))
    omega
set_option maxRecDepth 100000 in
theorem digits_any (x : Int) (w : World) (h0 : 0 ≤ x) (h1 : x ≤ 18446744073709551615) :
    Calls Try.prog 47 #[.int .u64 x] w fun e w' => e = .returned (.string ⟨(be (nb x.toNat) x.toNat).toArray⟩) ∧ Kept w w' := by
  have hn8 : nb x.toNat ≤ 8 := nb_le8 (by omega)
  go_enter Try.func47, Try.ntmps47
  go_wp2_with fail
  go_loopw [0, 3] (fun v s wr => ∃ (k : Nat) (y : Int), k ≤ nb x.toNat ∧ v = .int .u64 y ∧ 0 ≤ y ∧ y ≤ 18446744073709551615 ∧ Hid (y = ((x.toNat / 256 ^ k : Nat) : Int)) ∧ s = .string ⟨(be k x.toNat).toArray⟩ ∧ Kept w wr) (fun v _ _ => (intOf v).toNat)
  case atStart =>
    exact ⟨0, x, Nat.zero_le _, rfl, h0, h1, by show x = _; rw [Nat.pow_zero, Nat.div_one]; omega, rfl, Kept.refl _⟩
  case round =>
    obtain ⟨k, y, hk, rfl, hy0, hy1, HY, rfl, hg⟩ := hrel
    by_cases hlt : 0 < y
    · obtain ⟨hk1, hb, hq⟩ := step_be x.toNat k y hlt HY.out
      have hone := one_byte wr (y % 256) _ hb
      have hadd := add_cons (UInt8.ofNat (x.toNat / 256 ^ k)) (be k x.toNat) (by rw [be_length]; omega)
      have HQ := Lib.hid hq
      clear hb hq
      go_wp2_with fail
      exact ⟨⟨k + 1, y / 256, by omega, rfl, by omega, by omega, HQ, rfl, hg.alloc _⟩, by simp [intOf]; omega⟩
    · have hfin := last_be x.toNat k y hlt hk HY.out
      have HF := Lib.hid hfin
      clear hfin
      go_wp2_with fail
      go_ret
      exact ⟨by rw [← HF.out]; rfl, hg⟩

set_option maxRecDepth 100000 in
theorem refup_any (x : Int) (w : World) (h0 : 0 ≤ x) (h1 : x ≤ 18446744073709551615) :
    Calls Try.prog 29 #[.int .u64 x] w fun e w' => e = .returned (.string ⟨(up x.toNat).toArray⟩) ∧ Kept w w' := by
  have hn8 : nb x.toNat ≤ 8 := nb_le8 (by omega)
  have hl := be_length (nb x.toNat) x.toNat
  go_enter Try.func29, Try.ntmps29
  go_wp2_with fail
  refine (digits_any x _ h0 h1).mono ?_
  rintro e w1 ⟨rfl, hg⟩
  have hone := one_byte w1 (nb x.toNat) (UInt8.ofNat (nb x.toNat)) (by rw [UInt8.toNat_ofNat']; omega)
  have hadd := add_cons (UInt8.ofNat (nb x.toNat)) (be (nb x.toNat) x.toNat) (by omega)
  go_wp2_with fail
  go_ret
  exact ⟨rfl, hg.alloc _⟩

/-- What '[]byte(s)' lays, its first k bytes turned: byte j. -/
def tb (l : List UInt8) (k j : Nat) : UInt8 := if j < k then 255 - l[j]! else l[j]!
theorem sub_u8 (b : UInt8) : (255 : Int) - (b.toNat : Nat) = ((255 - b).toNat : Nat) := by
  have := b.toNat_lt
  rw [UInt8.toNat_sub_of_le _ _ (by rw [UInt8.le_iff_toNat_le]; show b.toNat ≤ 255; omega)]
  show (255 : Int) - _ = ((255 - b.toNat : Nat) : Int)
  omega
theorem tb_turn (l : List UInt8) (j : Nat) (h : j < l.length) : (turn 255 l)[j]? = some (tb l l.length j) := by
  unfold turn tb
  rw [if_pos h, List.getElem?_map, List.getElem?_eq_getElem h, getElem!_pos l j h]
  simp [xor255]

theorem tb_step (l : List UInt8) (k j : Nat) : tb l (k + 1) j = if j = k then 255 - l[k]! else tb l k j := by
  unfold tb
  by_cases h : j = k
  · subst h; rw [if_pos (by omega), if_pos rfl]
  · rw [if_neg h]
    by_cases h1 : j < k
    · rw [if_pos h1, if_pos (by omega)]
    · rw [if_neg h1, if_neg (by omega)]
theorem tb_self (l : List UInt8) (k : Nat) : tb l k k = l[k]! := by unfold tb; rw [if_neg (by omega)]
/-- One byte turned in its place. -/
theorem tb_round (wr : World) (b n k : Nat) (l : List UInt8) (hk : k < n)
    (hc : ∀ j, j < n → wr.cell? ⟨b, j, none⟩ = some (.int .u8 ((tb l k j).toNat : Nat))) (j : Nat) (hj : j < n) :
    (wr.setCell ⟨b, k, none⟩ (.int .u8 ((255 - ((tb l k k).toNat : Nat)) % 256))).cell? ⟨b, j, none⟩ = some (.int .u8 ((tb l (k + 1) j).toNat : Nat)) := by
  rw [tb_step]
  by_cases h : j = k
  · subst h
    rw [if_pos rfl, World.cell?_setCell_same _ _ _ (hc j hj), tb_self, sub_u8]
    have := (255 - l[j]!).toNat_lt
    congr 2
    omega
  · rw [if_neg h, World.cell?_setCell_other _ _ _ _ (fun e => h (by injection e with _ e2; exact e2.symm)), hc j hj]
end Go.Proofs.Ytdbhplahmnlgnaa
