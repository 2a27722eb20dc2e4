/- The walk of SumParts. -/
import Derived.Test.YteonanmgghlefaaSumOpensWalk
import Derived.OpenShut
import Derived.Lib.Strings
import Derived.Deep.RegionWith
import Derived.Deep.DeepCutAuto
namespace Go.Proofs.Yteonanmgghlefaa
open Go.RowKit Sm
set_option linter.unusedVariables false
/-- Sealed k times. -/
def seals : Nat → List UInt8 → List UInt8
  | 0, l => l
  | k + 1, l => sealL (seals k l)
theorem isSealed_seal (l : List UInt8) : isSealed (sealL l) = true := by
  unfold isSealed
  rw [seal_len, Nat.add_sub_cancel]
  have e : (sealL l).take l.length = l := by unfold sealL; simp
  rw [e]
  simp
theorem opened_seal (s r : ByteArray) (l : List UInt8) (hr : r.data.toList = sealL l) (hs : s.data.toList = l) : opened r = s := by
  rw [opened_yes r (by rw [hr]; exact isSealed_seal l)]
  apply str_ext
  have hl : r.size = l.length + 4 := by
    have : r.data.toList.length = r.size := by simp
    rw [← this, hr, seal_len]
  have e : (r.extract 0 (r.size - 4)).data.toList = r.data.toList.take (r.size - 4) := by simp
  rw [e, hr, hl, Nat.add_sub_cancel, hs]
  unfold sealL
  simp
theorem three (s : ByteArray) (a b : Nat) (h1 : a ≤ b) (h2 : b ≤ s.size) : cat [s.extract 0 a, s.extract a b, s.extract b s.size] = s.data.toList := by
  have hl : s.data.toList.length = s.size := by simp
  have e1 : (s.extract 0 a).data.toList = s.data.toList.take a := by rw [Lib.extract_data, List.drop_zero, Nat.sub_zero]
  have e2 : (s.extract a b).data.toList = (s.data.toList.drop a).take (b - a) := by rw [Lib.extract_data]
  have e3 : (s.extract b s.size).data.toList = s.data.toList.drop b := by
    rw [Lib.extract_data, List.take_of_length_le (by rw [List.length_drop, hl]; exact Nat.le_refl _)]
  unfold cat
  simp only [List.map_cons, List.map_nil, List.flatten_cons, List.flatten_nil, List.append_nil, e1, e2, e3]
  have e4 : s.data.toList.drop b = (s.data.toList.drop a).drop (b - a) := by rw [List.drop_drop, Nat.add_sub_cancel' h1]
  rw [e4, List.take_append_drop, List.take_append_drop]
theorem two_a (s : ByteArray) : cat [⟨#[]⟩, s] = s.data.toList := by simp [cat]
theorem two_b (s : ByteArray) : cat [s, ⟨#[]⟩] = s.data.toList := by simp [cat]

set_option maxHeartbeats 2000000 in
set_option maxRecDepth 100000 in
theorem sumParts_walk (a0 : ByteArray) (a1 a2 a3 : Int) (w : World) (w0 : a0.size ≤ maxLen) (w1 : (Lit.int .u16 a1).wf = true) (w2 : (Lit.int .u16 a2).wf = true) (w3 : (Lit.int .u8 a3).wf = true) :
    Calls Try.prog 5 #[.string a0, .int .u16 a1, .int .u16 a2, .int .u8 a3] w fun e w' => e = .returned (.bool true) ∧ Kept w w' := by
  obtain ⟨x0, x1⟩ := bounds_u16 w1
  obtain ⟨y0, y1⟩ := bounds_u16 w2
  obtain ⟨d0, d1⟩ := bounds_u8 w3
  clear w0 w1 w2 w3
  rcases Nat.lt_or_ge 2048 a0.size with h | h
  · go_enter Try.func5, Try.ntmps5
    go_wp2_with fail
    refine (sumAlive_any _).mono ?_
    rintro e w7 ⟨rfl, g7⟩
    go_wp2_with fail
    go_ret
    exact ⟨rfl, g7⟩
  · obtain ⟨A, hA⟩ := Int.eq_ofNat_of_zero_le (show 0 ≤ a1 % ((a0.size : Int) + 1) from Int.emod_nonneg _ (by omega))
    have hAs : A ≤ a0.size := by have := Int.emod_lt_of_pos a1 (show (0 : Int) < (a0.size : Int) + 1 by omega); omega
    obtain ⟨D, hD⟩ := Int.eq_ofNat_of_zero_le (show 0 ≤ a2 % ((a0.size : Int) - A + 1) from Int.emod_nonneg _ (by omega))
    have hDs : D ≤ a0.size - A := by have := Int.emod_lt_of_pos a2 (show (0 : Int) < (a0.size : Int) - A + 1 by omega); omega
    obtain ⟨n, hn⟩ := Int.eq_ofNat_of_zero_le (show 0 ≤ a3 % 9 from Int.emod_nonneg _ (by omega))
    have hn9 : n < 9 := by have := Int.emod_lt_of_pos a3 (show (0 : Int) < 9 by omega); omega
    go_enter Try.func5, Try.ntmps5
    go_wp2_with fail
    rw [hA]
    obtain ⟨B, hB⟩ : ∃ B, A + D = B := ⟨_, rfl⟩
    rw [show (A : Int) + (D : Int) = (B : Int) from by omega]
    have hAB : A ≤ B := by omega
    have hBs : B ≤ a0.size := by omega
    have HN := Lib.hid hn
    clear hA hD hn hB hDs hAs x0 x1 y0 y1
    have H3 := Lib.hid (three a0 A B hAB hBs)
    go_cut [61] (fun b wx => b = .bool false ∧ Kept w wx)
    case first =>
      have hAs : A ≤ a0.size := by omega
      have hz0 : a0.size ≤ maxLen := by unfold maxLen; omega
      have hz1 : (a0.extract 0 A).size ≤ maxLen := by unfold maxLen; simp; omega
      have hz2 : (a0.extract A B).size ≤ maxLen := by unfold maxLen; simp; omega
      have hz3 : (a0.extract B a0.size).size ≤ maxLen := by unfold maxLen; simp; omega
      have O3 : Hid (∀ (g : Nat) (wx : World), wx.cell? ⟨g, 0, none⟩ = some (.string (a0.extract 0 A)) ∧ wx.cell? ⟨g, 1, none⟩ = some (.string (a0.extract A B)) ∧ wx.cell? ⟨g, 2, none⟩ = some (.string (a0.extract B a0.size)) → Calls Try.prog 7 #[.slice (some ⟨g, 0, none⟩) 3 3] wx fun e w' => e = .returned (.int .u32 (crc a0.data.toList : Nat)) ∧ Kept wx w') := by
        rintro g wx ⟨h1, h2, h3⟩
        rw [← H3.out]
        refine of_any _ 3 [a0.extract 0 A, a0.extract A B, a0.extract B a0.size] wx (.inr ⟨g, 0, rfl, fun i hi => ?_⟩) (by simp) (fun x hx => ?_)
        · match i, hi with
          | 0, _ => exact h1
          | 1, _ => exact h2
          | 2, _ => exact h3
        · simp at hx
          rcases hx with rfl | rfl | rfl <;> assumption
      have O1 : Hid (∀ (g : Nat) (wx : World), wx.cell? ⟨g, 0, none⟩ = some (.string a0) → Calls Try.prog 7 #[.slice (some ⟨g, 0, none⟩) 1 1] wx fun e w' => e = .returned (.int .u32 (crc a0.data.toList : Nat)) ∧ Kept wx w') := by
        intro g wx h1
        rw [← cat_one]
        refine of_any _ 1 [a0] wx (.inr ⟨g, 0, rfl, fun i hi => ?_⟩) (by simp) (fun x hx => ?_)
        · match i, hi with
          | 0, _ => exact h1
        · simp at hx
          subst hx
          exact hz0
      have O2 : Hid (∀ (g : Nat) (wx : World), (wx.cell? ⟨g, 0, none⟩ = some (.string ⟨#[]⟩) ∧ wx.cell? ⟨g, 1, none⟩ = some (.string a0)) ∨ (wx.cell? ⟨g, 0, none⟩ = some (.string a0) ∧ wx.cell? ⟨g, 1, none⟩ = some (.string ⟨#[]⟩)) → Calls Try.prog 7 #[.slice (some ⟨g, 0, none⟩) 2 2] wx fun e w' => e = .returned (.int .u32 (crc a0.data.toList : Nat)) ∧ Kept wx w') := by
        intro g wx h
        rcases h with ⟨h1, h2⟩ | ⟨h1, h2⟩
        · rw [← two_a]
          refine of_any _ 2 [⟨#[]⟩, a0] wx (.inr ⟨g, 0, rfl, fun i hi => ?_⟩) (by simp) (fun x hx => ?_)
          · match i, hi with
            | 0, _ => exact h1
            | 1, _ => exact h2
          · simp at hx
            rcases hx with rfl | rfl
            · decide
            · exact hz0
        · rw [← two_b]
          refine of_any _ 2 [a0, ⟨#[]⟩] wx (.inr ⟨g, 0, rfl, fun i hi => ?_⟩) (by simp) (fun x hx => ?_)
          · match i, hi with
            | 0, _ => exact h1
            | 1, _ => exact h2
          · simp at hx
            rcases hx with rfl | rfl
            · exact hz0
            · decide
      clear hz0 hz1 hz2 hz3
      go_region_with (first | (go_at_call 7; ((with_reducible refine (O3.out _ _ ?_).mono ?_)); (solve | simp [go_sem, *]); (rintro e wx ⟨rfl, hkx⟩; have hcx := fun b o => Below.cell (p := ⟨b, o, none⟩) hkx; have hzx := hkx.size)) | (go_at_call 7; ((with_reducible refine (O1.out _ _ ?_).mono ?_)); (solve | simp [go_sem, *]); (rintro e wx ⟨rfl, hkx⟩; have hcx := fun b o => Below.cell (p := ⟨b, o, none⟩) hkx; have hzx := hkx.size)) | (go_at_call 7; ((with_reducible refine (O2.out _ _ ?_).mono ?_)); ((first | (left; solve | simp [go_sem, *]) | (right; solve | simp [go_sem, *]))); (rintro e wx ⟨rfl, hkx⟩; have hcx := fun b o => Below.cell (p := ⟨b, o, none⟩) hkx; have hzx := hkx.size)))
      all_goals (go_wp2_with fail; go_meet; refine ⟨rfl, ?_⟩; (repeat (first | exact Kept.refl _ | refine Kept.trans ?_ (by assumption) | refine Kept.alloc ?_ _ | refine Kept.drew ?_)))
    case rest =>
      obtain ⟨rfl, k1⟩ := hcut
      go_wp2_with fail
      rw [HN.out]
      clear d0 d1
      go_loopw [12, 13] (fun v i wr => ∃ (k : Nat) (t : ByteArray), k ≤ n ∧ i = .int .i64 k ∧ v = .string t ∧ t.size = a0.size + 4 * k ∧ Hid (t.data.toList = seals k a0.data.toList) ∧ Kept w wr) (fun _ i _ => n - (intOf i).toNat)
      case atStart => exact ⟨0, a0, Nat.zero_le _, rfl, rfl, rfl, rfl, k1⟩
      case round =>
        obtain ⟨k, t, hk, rfl, rfl, ht, HT, kw⟩ := hrel
        have HSZ := Lib.hid ht
        clear ht
        by_cases hlt : k < n
        · go_wp2_with fail
          refine (seal_any t _ (by have := HSZ.out; omega)).mono ?_
          rintro e w2 ⟨⟨r, rfl, hr, hz⟩, k2⟩
          have HZ := Lib.hid hz
          clear hz
          go_wp2_with fail
          exact ⟨⟨k + 1, r, by omega, by go_num, rfl, by rw [HZ.out, HSZ.out]; omega, (show r.data.toList = seals (k + 1) a0.data.toList by rw [hr.out, HT.out]; rfl), kw.trans k2⟩, by simp [intOf]; omega⟩
        · obtain rfl : k = n := by omega
          go_wp2_with fail
          go_loopw [12, 14, 15, 16] (fun v i _ _ ws => ∃ (q : Nat) (r : ByteArray), q ≤ k ∧ i = .int .i64 q ∧ v = .string r ∧ r.size = a0.size + 4 * (k - q) ∧ Hid (r.data.toList = seals (k - q) a0.data.toList) ∧ Kept w ws) (fun _ i _ _ _ => k - (intOf i).toNat)
          case atStart => exact ⟨0, t, Nat.zero_le _, rfl, rfl, HSZ.out, HT, kw⟩
          case round =>
            obtain ⟨q, r, hq, rfl, rfl, hr, HR, kq⟩ := hrel
            have HRS := Lib.hid hr
            clear hr
            by_cases hlq : q < k
            · have hd : k - q = (k - (q + 1)) + 1 := by omega
              have HD := Lib.hid hd
              clear hd
              have hsl : r.data.toList = sealL (seals (k - (q + 1)) a0.data.toList) := by rw [HR.out, HD.out]; rfl
              have HSL := Lib.hid hsl
              clear hsl
              obtain ⟨u, hu⟩ : ∃ u : ByteArray, u.data.toList = seals (k - (q + 1)) a0.data.toList := ⟨⟨(seals (k - (q + 1)) a0.data.toList).toArray⟩, by simp⟩
              have HU := Lib.hid hu
              have ho := opened_seal u r _ HSL.out hu
              have hs := isSealed_seal (seals (k - (q + 1)) a0.data.toList)
              rw [← HSL.out] at hs
              have HO := Lib.hid ho
              have HS := Lib.hid hs
              clear hu ho hs
              go_wp2_with fail
              refine (open_any r _ (by have := HRS.out; omega)).mono ?_
              rintro e w2 ⟨he, k2⟩
              rw [HO.out, HS.out] at he
              subst he
              go_wp2_with fail
              refine ⟨⟨q + 1, u, by omega, by go_num, rfl, ?_, HU, kq.trans k2⟩, by simp [intOf]; omega⟩
              have h1 : r.data.toList.length = r.size := by simp
              have h2 : u.data.toList.length = u.size := by simp
              have h3 := congrArg List.length HSL.out
              rw [seal_len, ← HU.out, h1, h2, HRS.out] at h3
              omega
            · obtain rfl : q = k := by omega
              have hfin : r = a0 := str_ext (by rw [HR.out, Nat.sub_self]; rfl)
              subst hfin
              go_wp2_with fail
              refine (sumAlive_any _).mono ?_
              rintro e w7 ⟨rfl, g7⟩
              go_wp2_with fail
              go_ret
              exact ⟨rfl, kq.trans g7⟩
end Go.Proofs.Yteonanmgghlefaa
