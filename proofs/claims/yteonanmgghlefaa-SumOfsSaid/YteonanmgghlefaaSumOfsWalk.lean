/- The walk of SumOfs. -/
import Derived.Test.YteonanmgghlefaaSumOpensWalk
import Derived.OpenShut
namespace Go.Proofs.Yteonanmgghlefaa
open Go.RowKit Sm
set_option linter.unusedVariables false
set_option maxHeartbeats 1000000 in
set_option maxRecDepth 100000 in
theorem sumOfs_walk (a0 : Option Addr) (len0 cap0 : Nat) (z0 : List ByteArray) (a1 : Int) (w : World) (w0 : IsStrs w a0 len0 cap0 z0) (w1 : (Lit.int .u32 a1).wf = true) :
    Calls Try.prog 3 #[.slice a0 len0 cap0, .int .u32 a1] w fun e w' => e = .returned (.bool true) ∧ Kept w w' := by
  have hb := bounds_u32 w1
  obtain ⟨x0, x1⟩ := hb
  obtain ⟨hS, hl, hz⟩ := w0.strs
  clear w0 w1
  generalize z0.take len0 = ss at *
  subst hl
  rcases Nat.lt_or_ge 40 ss.length with h | h
  · clear hS hz
    go_enter Try.func3, Try.ntmps3
    go_wp2_with fail
    refine (sumAlive_any _).mono ?_
    rintro e w7 ⟨rfl, g7⟩
    go_wp2_with fail
    go_ret
    exact ⟨rfl, g7⟩
  · have hS2 := hS
    obtain ⟨b, o, hc⟩ : ∃ b o, 0 < ss.length → a0 = some ⟨b, o, none⟩ ∧ ∀ i, i < ss.length → w.cell? ⟨b, o + i, none⟩ = some (.string (ss.getD i ByteArray.empty)) := by
      rcases hS with rfl | ⟨b, o, h1, h2⟩
      · exact ⟨0, 0, fun h => absurd h (by simp)⟩
      · exact ⟨b, o, fun _ => ⟨h1, h2⟩⟩
    have HS := Lib.hid hS2
    have HC := Lib.hid hc
    have HZ := Lib.hid hz
    clear hS hS2 hc hz
    go_enter Try.func3, Try.ntmps3
    go_wp2_with fail
    go_loopw [5, 6] (fun s i wr => ∃ (k : Nat) (t : ByteArray), k ≤ ss.length ∧ i = .int .i64 k ∧ s = .string t ∧ t.size ≤ 256 * k ∧ Hid (t.data.toList = cat (ss.take k)) ∧ wr = w) (fun _ i _ => ss.length - (intOf i).toNat)
    case atStart => exact ⟨0, ⟨#[]⟩, Nat.zero_le _, rfl, rfl, Nat.le_refl _, rfl, rfl⟩
    case round =>
      obtain ⟨k, t, hk, rfl, rfl, ht, HT, rfl⟩ := hrel
      by_cases hlt : k < ss.length
      · obtain ⟨ha, hc⟩ := HC.out (by omega)
        have hck : wr.cell? ⟨b, o + k, none⟩ = some (.string ss[k]) := by
          rw [hc k hlt, List.getD_eq_getElem?_getD, List.getElem?_eq_getElem hlt]
          rfl
        have hsk : ss[k].size ≤ maxLen := HZ.out _ (List.getElem_mem hlt)
        have HCT := Lib.hid (cat_take ss k hlt)
        rw [ha]
        generalize ss[k] = p at *
        unfold maxLen at hsk
        clear hc
        rcases Nat.lt_or_ge 256 p.size with hp | hp
        · go_wp2_with fail
          refine (sumAlive_any _).mono ?_
          rintro e w7 ⟨rfl, g7⟩
          go_wp2_with fail
          go_ret
          exact ⟨rfl, g7⟩
        · go_wp2_with fail
          refine ⟨⟨k + 1, t ++ p, by omega, by go_num, rfl, by rw [ByteArray.size_append]; omega, ?_, trivial⟩, by simp [intOf]; omega⟩
          show (t ++ p).data.toList = cat (ss.take (k + 1))
          rw [HCT.out, ← HT.out]
          simp
      · obtain rfl : k = ss.length := by omega
        rw [cat_all] at HT
        clear hlt HC
        go_wp2_with fail
        refine (of_any a0 cap0 ss _ HS.out (by omega) HZ.out).mono ?_
        rintro e w1 ⟨rfl, k1⟩
        rw [← HT.out]
        go_wp2_with fail
        refine (refof_any t _ (by omega)).mono ?_
        rintro e w2 ⟨rfl, k2⟩
        go_wp2_with fail
        refine (of_one t _ _ (by unfold maxLen; omega)).mono ?_
        rintro e w3 ⟨rfl, k3⟩
        go_wp2_with fail
        refine (refof_any t _ (by omega)).mono ?_
        rintro e w4 ⟨rfl, k4⟩
        go_wp2_with fail
        refine (bytes_any a1 _ x0 x1).mono ?_
        rintro e w5 ⟨rfl, k5⟩
        go_wp2_with fail
        refine (refbytes_any a1 _ x0 x1).mono ?_
        rintro e w6 ⟨rfl, k6⟩
        go_wp2_with fail
        refine (sumAlive_any _).mono ?_
        rintro e w7 ⟨rfl, k7⟩
        go_wp2_with fail
        go_ret
        exact ⟨rfl, k1.trans (k2.trans (k3.trans (k4.trans (k5.trans (k6.trans k7)))))⟩
end Go.Proofs.Yteonanmgghlefaa
