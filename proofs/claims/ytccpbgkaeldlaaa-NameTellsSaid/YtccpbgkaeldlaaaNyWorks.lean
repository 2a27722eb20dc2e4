/- What the laws ask first: long, works. -/
import Derived.Test.YtccpbgkaeldlaaaNyDec
import Derived.Test.YtccpbgkaeldlaaaNyBeh
import Derived.Test.YtccpbgkaeldlaaaNyRPre
namespace Go.Proofs.Ytccpbgkaeldlaaa
open Go.RowKit _root_.Go.Proofs.Ytccpbgkaeldlaaa.Nm Ny
set_option linter.unusedVariables false
set_option linter.unusedSimpArgs false
/-- Are texts more than a law looks at? -/
def longB : List ByteArray → Nat → Bool
  | [], n => decide (4096 < n)
  | s :: r, n => if 2048 < s.size then true else longB r (n + s.size)
theorem longB_all {l : List ByteArray} {n : Nat} (h : longB l n = false) : ∀ s ∈ l, s.size ≤ 2048 := by
  induction l generalizing n with
  | nil => intro s hs; cases hs
  | cons a l ih =>
    rw [longB] at h
    split at h
    · cases h
    · intro s hs
      rcases List.mem_cons.1 hs with rfl | hs
      · omega
      · exact ih h s hs
set_option maxHeartbeats 1000000 in
set_option maxRecDepth 100000 in
theorem long_any (l : List ByteArray) (c g : Nat) (w : World) (hl : l.length ≤ 100) (hs : ∀ s ∈ l, s.size ≤ maxLen) (hc : ∀ (i : Nat) (h : i < l.length), w.cell? ⟨g, i, none⟩ = some (.string l[i])) :
    Calls Try.prog 7 #[.slice (some ⟨g, 0, none⟩) l.length c] w fun e w' => e = .returned (.bool (longB l 0)) ∧ w' = w := by
  unfold maxLen at hs
  obtain ⟨r, hr⟩ : ∃ r, longB l 0 = r := ⟨_, rfl⟩
  have HR := Lib.hid hr
  rw [hr]
  clear hr
  have HC := Lib.hid hc
  have HS := Lib.hid hs
  clear hc hs
  obtain ⟨N, hN⟩ : ∃ N, l.length = N := ⟨_, rfl⟩
  have HN := Lib.hid hN
  rw [hN] at hl ⊢
  clear hN
  go_enter Try.func7, Try.ntmps7
  go_wp2_with fail
  go_loopw [3, 4] (fun n i wr => ∃ (k m : Nat), k ≤ N ∧ i = .int .i64 k ∧ n = .int .i64 m ∧ m ≤ 2048 * k ∧ Hid (longB (l.drop k) m = r) ∧ wr = w) (fun _ i _ => N - (intOf i).toNat)
  case atStart => exact ⟨0, 0, Nat.zero_le _, rfl, rfl, Nat.le_refl _, HR.out, rfl⟩
  case round =>
    obtain ⟨k, m, hk, rfl, rfl, hm, HI, rfl⟩ := hrel
    by_cases hlt : k < N
    · have hkl : k < l.length := by rw [HN.out]; exact hlt
      have hck := HC.out k hkl
      have hsk := HS.out _ (List.getElem_mem hkl)
      have HD : Hid (l.drop k = l[k] :: l.drop (k + 1)) := List.drop_eq_getElem_cons hkl
      rw [HD.out, longB] at HI
      generalize l[k] = s at *
      clear hkl
      by_cases h2 : 2048 < s.size
      · have b1 : decide ((2048 : Int) < s.size) = true := decide_eq_true (by omega)
        have HF : Hid (r = true) := by show _ = _; rw [← HI.out, if_pos h2]
        clear HI h2
        go_wp2_with fail
        go_ret
        exact ⟨by rw [HF.out]; rfl, rfl⟩
      · have b1 : decide ((2048 : Int) < s.size) = false := decide_eq_false (by omega)
        have HI2 : Hid (longB (l.drop (k + 1)) (m + s.size) = r) := by show _ = _; rw [← HI.out, if_neg h2]
        have hs2 : s.size ≤ 2048 := by omega
        clear HI h2
        go_wp2_with fail
        exact ⟨⟨k + 1, m + s.size, by omega, by go_num, by go_num, by omega, HI2.out, by first | rfl | trivial⟩, by simp [intOf]; omega⟩
    · obtain rfl : k = N := by omega
      have HF : Hid (r = decide (4096 < m)) := by show _ = _; rw [← HI.out, ← HN.out, List.drop_length]; rfl
      have e : decide ((4096 : Int) < m) = decide (4096 < m) := by rw [Bool.eq_iff_iff, decide_eq_true_eq, decide_eq_true_eq]; omega
      clear HI
      go_wp2_with fail
      go_ret
      refine ⟨?_, rfl⟩
      rw [HF.out, ← e]
      rfl
end Go.Proofs.Ytccpbgkaeldlaaa
