/- Plain facts: what was written is read as itself; what is cut off is short; bytes that are read are the number's own. -/
import Derived.Test.YtdbhplahmnlgnaaRead
namespace Go.Proofs.Ytdbhplahmnlgnaa
open Nm

theorem byte_nb (x : Nat) (h : nb x ≤ 8) : (UInt8.ofNat (nb x)).toNat = nb x := by rw [UInt8.toNat_ofNat']; omega
theorem first_not (x : Nat) (h : 0 < nb x) : UInt8.ofNat (x / 256 ^ (nb x - 1)) ≠ 0 := by
  intro e
  have h1 := nb_low (x := x) (k := nb x - 1) (by omega)
  have hp : 0 < 256 ^ (nb x - 1) := Nat.pow_pos (by omega)
  have h2 := Nat.div_pos h1 hp
  have h3 : x / 256 ^ (nb x - 1) < 256 := by
    rw [Nat.div_lt_iff_lt_mul hp, ← Nat.pow_succ']
    have := lt_nb x
    rwa [show (nb x - 1).succ = nb x from by omega]
  have h4 := congrArg UInt8.toNat e
  rw [UInt8.toNat_ofNat'] at h4
  have h5 : UInt8.toNat 0 = 0 := rfl
  omega
theorem read_up (x : Nat) (s : List UInt8) (h8 : nb x ≤ 8) : cd (up x ++ s) = 0 ∧ rx (up x ++ s) = x ∧ rn (up x ++ s) = nb x + 1 := by
  have e0 : ((up x ++ s)[0]!).toNat = nb x := by
    rw [← byte_nb x h8]
    rfl
  have hc : cd (up x ++ s) = 0 := by
    refine cd_ok _ (nb x) e0 (by rw [List.length_append, up_length]; omega) h8 ?_
    rcases Nat.eq_zero_or_pos (nb x) with h | h
    · exact Or.inl h
    · right
      have e1 : (up x ++ s)[1]? = some (UInt8.ofNat (x / 256 ^ (nb x - 1))) := by
        unfold up
        rw [List.cons_append, List.getElem?_cons_succ, List.getElem?_append_left (by rw [be_length]; exact h), be_getElem _ _ 0 h]
      rw [List.getElem!_eq_getElem?_getD, e1]
      exact first_not x h
  refine ⟨hc, ?_, ?_⟩
  · unfold rx
    rw [if_pos hc, e0]
    have e2 : ((up x ++ s).drop 1).take (nb x) = be (nb x) x := by
      unfold up
      rw [List.cons_append, List.drop_succ_cons, List.drop_zero, List.take_append_of_le_length (by rw [be_length]; omega), List.take_of_length_le (by rw [be_length]; omega)]
    rw [e2, val_nb]
  · unfold rn
    rw [if_pos hc, e0]
theorem read_cut (x i : Nat) (h8 : nb x ≤ 8) (hi : i < nb x + 1) : cd ((up x).take i) = 10 ∧ rn ((up x).take i) = 0 := by
  have hl : ((up x).take i).length = i := by rw [List.length_take, up_length]; omega
  have hc : cd ((up x).take i) = 10 := by
    rcases Nat.eq_zero_or_pos i with h | h
    · subst h
      rfl
    · refine cd_short _ (nb x) ?_ (Or.inr ⟨h8, by omega⟩)
      rw [getElem!_pos _ 0 (by omega), List.getElem_take]
      exact byte_nb x h8
  refine ⟨hc, ?_⟩
  unfold rn
  rw [hc]
  rfl
theorem up_read_own (l : List UInt8) (h : cd l = 0) : up (rx l) = l.take (rn l) ∧ rn l ≤ l.length ∧ rx l < 2 ^ 64 := by
  obtain ⟨h1, h8⟩ := cd_len l h
  obtain ⟨n, hn⟩ : ∃ n, (l[0]!).toNat = n := ⟨_, rfl⟩
  rw [hn] at h1 h8
  obtain ⟨m, hm⟩ : ∃ m, (l.drop 1).take n = m := ⟨_, rfl⟩
  have hml : m.length = n := by rw [← hm]; simp; omega
  have e : rx l = val m := by unfold rx; rw [if_pos h, hn, hm]
  have en : rn l = n + 1 := by unfold rn; rw [if_pos h, hn]
  have hlt := val_lt m
  rw [hml] at hlt
  have hb : be n (val m) = m := by have := be_val m; rwa [hml] at this
  have hnb : nb (val m) = n := by
    refine Nat.le_antisymm ((nb_le _ _).2 hlt) ?_
    rcases Nat.eq_zero_or_pos n with h0 | h0
    · omega
    · rcases Nat.lt_or_ge (nb (val m)) n with h2 | h2
      · exfalso
        have h3 := (nb_le (val m) (n - 1)).1 (by omega)
        have h4 := be_getElem n (val m) 0 h0
        rw [show n - (0 + 1) = n - 1 from rfl, Nat.div_eq_of_lt h3, hb, ← hm, List.getElem?_take_of_lt h0, List.getElem?_drop] at h4
        have h5 : l[1]! = 0 := by rw [List.getElem!_eq_getElem?_getD, h4]; rfl
        have h6 := cd_lead l n hn h1 h8 h0 h5
        omega
      · exact h2
  refine ⟨?_, by omega, ?_⟩
  · rw [e, en]
    unfold up
    rw [hnb, hb, ← hm]
    cases l with
    | nil => simp at h1
    | cons a r =>
      have ha : UInt8.ofNat n = a := by
        rw [← hn]
        simp
      rw [ha]
      rfl
  · rw [e]
    exact Nat.lt_of_lt_of_le hlt (by
      have := Nat.pow_le_pow_right (show 0 < 256 from by omega) h8
      exact this)
end Go.Proofs.Ytdbhplahmnlgnaa
