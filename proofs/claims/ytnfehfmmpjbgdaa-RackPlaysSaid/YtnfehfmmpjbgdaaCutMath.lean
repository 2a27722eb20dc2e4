/- Two racks, of which one has a cut. -/
import Derived.Test.YtnfehfmmpjbgdaaRackMath
namespace Go.Proofs.Ytnfehfmmpjbgdaa
open Go.RowKit
set_option linter.unusedVariables false
namespace RSt
/-- How many writes were done. -/
def sum3 (t : RSt) : Nat := t.cnt 0 + t.cnt 1 + t.cnt 2
theorem lim_writeE (t : RSt) (h : t.cut = false) (L : Nat) (d i : Int) (x : ByteArray) : (t.lim true L).writeE d i x = if t.writeE d i x = 0 ∧ L = 0 then 71 else t.writeE d i x := by
  have hd : t.down = false := by unfold RSt.down; rw [h]; rfl
  have hd2 : (t.lim true L).down = (L == 0) := by show (true && (L == 0)) = _; simp
  unfold writeE
  rw [hd, hd2, show (t.lim true L).there d i = t.there d i from rfl]
  cases t.there d i
  · simp
  · by_cases h2 : 64 < x.size
    · simp [h2]
    · by_cases h3 : L = 0
      · simp [h2, h3]
      · simp [h2, h3]
theorem cut_step (t : RSt) (hp : t.Plain) (N done : Nat) (hN : N ≤ 300) (hle : done ≤ N) (hsum : t.sum3 = done) (d i : Int) (x : ByteArray) :
    ((t.lim true (N - done)).writeE d i x = 71 ∧ done = N ∧ (t.lim true (N - done)).writeS d i x = t.lim true (N - done)) ∨
    ((t.lim true (N - done)).writeE d i x = 0 ∧ t.writeE d i x = 0 ∧ done + 1 ≤ N ∧ (t.lim true (N - done)).writeS d i x = (t.writeS d i x).lim true (N - (done + 1)) ∧ (t.writeS d i x).sum3 = done + 1) ∨
    (∃ e, (e = 70 ∨ e = 4) ∧ (t.lim true (N - done)).writeE d i x = e ∧ t.writeE d i x = e ∧ (t.lim true (N - done)).writeS d i x = t.lim true (N - done) ∧ t.writeS d i x = t) := by
  have hE := lim_writeE t hp.cut (N - done) d i x
  by_cases h0 : t.writeE d i x = 0
  · by_cases hL : N - done = 0
    · left
      rw [if_pos ⟨h0, hL⟩] at hE
      refine ⟨hE, by omega, ?_⟩
      unfold writeS
      rw [if_neg (by rw [hE]; decide)]
    · right; left
      rw [if_neg (by omega), h0] at hE
      have hs : t.writeS d i x = t.wr d.toNat i.toNat (padL x) := if_pos h0
      have hs2 : (t.lim true (N - done)).writeS d i x = (t.lim true (N - done)).wr d.toNat i.toNat (padL x) := if_pos hE
      refine ⟨hE, h0, by omega, ?_, ?_⟩
      · rw [hs2, hs]
        show RSt.mk _ _ _ _ _ _ _ = RSt.mk _ _ _ _ _ _ _
        congr 1
      · rw [hs]
        have hth : t.there d i = true := by
          rcases t.writeS_cases d i x with h | h
          · exact absurd h0 h.1
          · exact h.2.1
        obtain ⟨d', i', rfl, rfl, hd, hi⟩ := RSt.there_iff hth
        rw [hp.n] at hd
        rw [Int.toNat_natCast, Int.toNat_natCast]
        unfold sum3 at hsum ⊢
        show (if 0 = d' then (t.cnt d' + 1) % 18446744073709551616 else t.cnt 0) + (if 1 = d' then (t.cnt d' + 1) % 18446744073709551616 else t.cnt 1) + (if 2 = d' then (t.cnt d' + 1) % 18446744073709551616 else t.cnt 2) = done + 1
        rcases (by omega : d' = 0 ∨ d' = 1 ∨ d' = 2) with rfl | rfl | rfl
        · rw [if_pos rfl, if_neg (by decide), if_neg (by decide)]; omega
        · rw [if_neg (by decide), if_pos rfl, if_neg (by decide)]; omega
        · rw [if_neg (by decide), if_neg (by decide), if_pos rfl]; omega
  · right; right
    rw [if_neg (fun h => h0 h.1)] at hE
    refine ⟨t.writeE d i x, ?_, hE, rfl, if_neg (by rw [hE]; exact h0), if_neg h0⟩
    unfold writeE at h0 ⊢
    have hd : t.down = false := hp.down
    rw [hd] at h0 ⊢
    split
    · exact .inl rfl
    · split
      · exact .inr rfl
      · rename_i h1 h2
        rw [if_neg h1, if_neg h2] at h0
        exact absurd rfl h0
theorem lim_all (t : RSt) (c : Bool) (k : Nat) (d : Int) : (t.lim c k).all d = t.all d := by
  unfold RSt.all
  show (if t.drive d = true then (⟨((t.lim c k).allTo d.toNat t.m).toArray⟩ : ByteArray) else ByteArray.empty) = _
  rw [allTo_congr (s := t.lim c k) (s' := t) (d := d.toNat) t.m (fun _ _ => rfl)]
theorem Plain.lim {t : RSt} (h : t.Plain) (k : Nat) (hk : k ≤ 9223372036854775807) : (t.lim false k).Plain := ⟨h.wf.lim _ _ hk, h.n, h.m, rfl, h.bad⟩
theorem Plain.writeE0 {t : RSt} (h : t.Plain) {d i : Nat} (hd : d < 3) (hi : i < 8) (x : ByteArray) (hx : x.size ≤ 64) : t.writeE d i x = 0 ∧ t.writeS d i x = t.wr d i (padL x) := by
  have he : t.writeE d i x = 0 := by
    unfold RSt.writeE
    rw [h.there hd hi, h.down, if_neg (by decide), if_neg (by omega), if_neg (by decide)]
  refine ⟨he, ?_⟩
  unfold RSt.writeS
  rw [if_pos he, Int.toNat_natCast, Int.toNat_natCast]
end RSt
end Go.Proofs.Ytnfehfmmpjbgdaa
