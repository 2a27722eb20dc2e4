/- What the document's own sums of products come to. -/
import Derived.Test.YtmfoplkpdibppaaFieldRef2
import Derived.Test.YtmfoplkpdibppaaGat
import Derived.Deep.AppendLies
import Derived.Deep.RegionLaw
import Derived.OwnWalk
namespace Go.Proofs.Ytmfoplkpdibppaa
open Go.RowKit Gf
set_option linter.unusedVariables false
/-- The first k texts, each with its byte of c. -/
def tl (c : ByteArray) (ss : List ByteArray) (k : Nat) : List ByteArray := (List.range k).map fun i => timesB (bt c i).toNat (nth ss i)
theorem tl_length (c : ByteArray) (ss : List ByteArray) (k : Nat) : (tl c ss k).length = k := by simp [tl]
theorem tl_snoc (c : ByteArray) (ss : List ByteArray) (k : Nat) : tl c ss (k + 1) = tl c ss k ++ [timesB (bt c k).toNat (nth ss k)] := by simp [tl, List.range_succ]
theorem tl_nth (c : ByteArray) (ss : List ByteArray) (k i : Nat) (h : i < k) : nth (tl c ss k) i = timesB (bt c i).toNat (nth ss i) := by
  unfold nth tl
  rw [List.getD_eq_getElem?_getD, List.getElem?_map, List.getElem?_range h]
  rfl
theorem times_size (c : Nat) (s : ByteArray) : (timesB c s).size = s.size := strOf_size _ _
theorem times_bt (c : Nat) (s : ByteArray) (j : Nat) (h : j < s.size) : bt (timesB c s) j = mb c (bt s j) := strOf_bt _ _ _ h
theorem nth_tl0 (c : ByteArray) (ss : List ByteArray) (k : Nat) (h : k = ss.length) : (nth (tl c ss k) 0).size = (nth ss 0).size := by
  by_cases h0 : 0 < k
  · rw [tl_nth _ _ _ _ h0, times_size]
  · obtain rfl := List.length_eq_zero_iff.1 (show ss.length = 0 by omega)
    subst h
    rfl
theorem even_tl (c : ByteArray) (ss : List ByteArray) : evenB (tl c ss ss.length) = evenB ss := by
  cases h : evenB ss
  · by_cases e : ∀ k, k < ss.length → (nth ss k).size = (nth ss 0).size
    · rw [even_yes ss e] at h; cases h
    · obtain ⟨k, hk⟩ := Classical.not_forall.1 e
      obtain ⟨hk, hne⟩ := Classical.not_imp.1 hk
      refine even_no _ k (by rw [tl_length]; exact hk) ?_
      rw [tl_nth _ _ _ _ hk, times_size, nth_tl0 c ss _ rfl]
      exact hne
  · refine even_yes _ (fun k hk => ?_)
    rw [tl_length] at hk
    rw [tl_nth _ _ _ _ hk, times_size, nth_tl0 c ss _ rfl, even_all ss h k hk]
theorem xr_tl (c : ByteArray) (ss : List ByteArray) (n : Nat) (hev : evenB ss = true) (k j : Nat) (hn : n = ss.length) (hk : k ≤ n) (hj : j < (nth ss 0).size) : xr (tl c ss n) k j = acc c ss k j := by
  induction k with
  | zero => rfl
  | succ k ih =>
    rw [xr, acc, ih (by omega), tl_nth _ _ _ _ (by omega), times_bt _ _ _ (by rw [even_all ss hev k (by omega)]; exact hj)]
theorem plS_tl (c : ByteArray) (ss : List ByteArray) (h : c.size = ss.length) : plS (tl c ss ss.length) = sumS c ss ∧ plE (tl c ss ss.length) = sumE c ss := by
  unfold plS plE sumS sumE sumOk
  rw [even_tl, h]
  cases hev : evenB ss
  · simp
  · simp only [decide_true, Bool.and_self, if_true, and_true]
    rw [tl_length, nth_tl0 c ss _ rfl]
    exact strOf_congr _ _ _ (fun j hj => xr_tl c ss _ hev _ j rfl (Nat.le_refl _) hj)
set_option maxRecDepth 100000 in
theorem refSum_any (c : ByteArray) (a : Option Addr) (cap : Nat) (ss : List ByteArray) (w : World) (hS : Strs w a ss) (hl : ss.length ≤ 100000000) (hz : ∀ s ∈ ss, s.size ≤ 100000000) (hcs : c.size ≤ 100000000) :
    Calls Try.prog 22 #[.string c, .slice a ss.length cap] w fun e w' => e = .returned (.tuple #[.string (sumS c ss), .int .i64 (sumE c ss)]) ∧ Kept w w' := by
  obtain ⟨b, o, hc⟩ := strs_at hS
  have HC := Lib.hid hc
  have HZ : Hid (∀ i, i < ss.length → (nth ss i).size ≤ 100000000) := fun i hi => hz _ (by rw [← nth_get ss i hi]; exact List.getElem_mem hi)
  clear hc hS hz
  by_cases h1 : c.size = ss.length
  · have h1b : ((c.size : Int) == (ss.length : Int)) = true := by simp [h1]
    go_enter Try.func22, Try.ntmps22
    go_wp2_with fail
    go_loopw [6, 7] (fun v i wr => ∃ (k : Nat) (x : Value), k ≤ ss.length ∧ v = x ∧ i = .int .i64 k ∧ Hid (Gat w.heap.size x (tl c ss k) wr ∧ Kept w wr)) (fun _ i _ => ss.length - (intOf i).toNat)
    case atStart => exact ⟨0, _, Nat.zero_le _, rfl, rfl, Gat.nil _ _, Kept.refl _⟩
    case round =>
      obtain ⟨k, x, hk, rfl, rfl, HI⟩ := hrel
      by_cases hlt : k < ss.length
      · obtain ⟨ha, hc⟩ := HC.out (by omega)
        have hck : wr.cell? ⟨b, o + k, none⟩ = some (.string (nth ss k)) := by
          rw [Below.cell HI.out.2 (block_lt_of_cell (hc k hlt)), hc k hlt]
        have hzk := HZ.out k hlt
        have hkc : k < c.size := by omega
        have HGT := Lib.hid (bt_get c k hkc)
        have hsn := tl_snoc c ss k
        rw [← HGT.out] at hsn
        have HSN := Lib.hid hsn
        clear hsn
        have hcb := c[k].toNat_lt
        rw [ha]
        clear hc
        generalize nth ss k = p at *
        go_wp2_with fail
        have HTL : Hid (∀ (k : Nat), (tl c ss k).length = k) := tl_length c ss
        have HMX : Hid ((tl c ss k).length + 1 ≤ maxLen ∧ ((tl c ss k).length + 1) * 16 ≤ 140737488355328) := by
          show _ ∧ _
          rw [HTL.out]
          unfold maxLen
          omega
        obtain ⟨i0, hi, hzz⟩ := Option.map_eq_some_iff.1 info_string
        simp only [Prod.mk.injEq] at hzz
        go_region_law (first
          | (go_simp; go_at_call 24; refine (refTimes_any c[k].toNat p hcb hzk _).mono ?_; rintro e w3 ⟨rfl, k3⟩)
          | (refine step_append_lies _ rfl (.tmp 19) (.tmp 28) 34 rfl w.heap.size 9 i0 (.string ByteArray.empty) 1 16 Try.underlying34 hi hzz.1 hzz.2.1 hzz.2.2 rfl (by decide) _ (tl c ss k).length ((tl c ss k).map Value.string) (by rfl) (World.ownsRow.alloc (HI.out.1.kept (((Kept.refl _).drewN _).trans k3)) _) ⟨w3.heap.size, 0, none⟩ 1 1 [.string (timesB c[k].toNat p)] (by rfl) rfl (cell_new _ _ _) (one_string _) (by decide) HMX.out.1 HMX.out.2 (Kept.alloc (HI.out.2.trans (((Kept.refl _).drewN _).trans k3)) _).size _ rfl ?_; intro g4 cap4 w4 hown4 hgr4 _ _; have HF := Lib.hid (Gat.snoc (HI.out.1.kept ((((Kept.refl _).drewN _).trans k3).alloc _)) ((HI.out.2.trans (((Kept.refl _).drewN _).trans k3)).alloc _) hown4 hgr4); clear hown4 hgr4))
        all_goals
          rw [← HSN.out] at HF
          clear k3 HI
          go_wp2_with fail
          exact ⟨⟨k + 1, _, by omega, rfl, by go_num, HF⟩, by simp [intOf]; omega⟩
      · obtain rfl : k = ss.length := by omega
        obtain ⟨a2, cap2, hv, hS2⟩ := HI.out.1.strs
        subst hv
        have HS2 := Lib.hid hS2
        have HK2 := Lib.hid HI.out.2
        have HPL := Lib.hid (plS_tl c ss h1)
        have hlen := tl_length c ss ss.length
        have HLN : Hid (∀ s ∈ tl c ss ss.length, s.size ≤ 100000000) := fun s hs => by
          obtain ⟨i, hi, rfl⟩ := List.getElem_of_mem hs
          have hi2 := hi
          rw [tl_length] at hi2
          rw [nth_get _ i hi, tl_nth _ _ _ _ hi2, times_size]
          exact HZ.out i hi2
        have HCL : Hid (∀ W, Strs W a2 (tl c ss ss.length) → Calls Try.prog 20 #[.slice a2 ss.length cap2] W fun e w' => e = .returned (.tuple #[.string (sumS c ss), .int .i64 (sumE c ss)]) ∧ Kept W w') := fun W hW => by
          have h := refPlus_any a2 cap2 (tl c ss ss.length) W hW (by rw [tl_length]; exact hl) HLN.out
          rw [tl_length, HPL.out.1, HPL.out.2] at h
          exact h
        rw [hlen] at *
        clear HI hS2 HLN HPL
        go_wp2_with fail
        refine (HCL.out _ HS2.out).mono ?_
        rintro e w3 ⟨rfl, k3⟩
        go_wp2_with fail
        go_ret2
        exact ⟨rfl, HK2.out.trans k3⟩
  · have h1b : ((c.size : Int) == (ss.length : Int)) = false := by simp; omega
    have H1 : Hid (⟨#[]⟩ = sumS c ss) := by show _ = _; unfold sumS sumOk; simp [h1]
    have H2 : Hid (2 = sumE c ss) := by show _ = _; unfold sumE sumOk; simp [h1]
    go_enter Try.func22, Try.ntmps22
    go_wp2_with fail
    go_ret2
    exact ⟨by rw [← H1.out, ← H2.out]; rfl, Kept.refl _⟩
end Go.Proofs.Ytmfoplkpdibppaa
