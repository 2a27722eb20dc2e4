/- What the program's reader answers, and its writers. -/
import Derived.Test.YtdbhplahmnlgnaaWireCode3
namespace Go.Proofs.Ytdbhplahmnlgnaa
open Go.RowKit _root_.Go.Proofs.Ytdbhplahmnlgnaa.Nm Wr
set_option linter.unusedVariables false
set_option maxRecDepth 100000 in
theorem count_any (b : Nat) (s : St) (m : Int) (w : World) (hR : WrAt w b s) (h0 : -9223372036854775808 ≤ m) (h1 : m ≤ 9223372036854775807) :
    Calls Try.prog 22 #[.pointer (some ⟨b, 0, none⟩), .int .i64 m] w fun e w' => e = .returned (.int .i64 ((qCount m s).1 : Nat)) ∧ WrAt w' b (qCount m s).2 ∧ But b w w' := by
  obtain ⟨t, ht, hl, hz⟩ := hR.text
  have HR := Lib.hid hR
  have hen := enters_of Try.func45 (by kernel_rfl) rfl
  have HA : Hid (Kept w (w.alloc (.cells #[.int .i64 m] 3))) := (Kept.refl _).alloc _
  have HT : Hid ((w.alloc (.cells #[.int .i64 m] 3)).cell? ⟨b, 1, none⟩ = some (.string t)) := by show _ = _; rw [Below.cell HA.out (p := ⟨b, 1, none⟩) hR.lt]; exact ht
  have HC : Hid ((w.alloc (.cells #[.int .i64 m] 3)).cell? ⟨w.heap.size, 0, none⟩ = some (.int .i64 m)) := by show _ = _; rw [World.cell?_alloc_mark]; rfl
  by_cases hs : s.e = 0
  · obtain ⟨l, e⟩ := s
    obtain rfl : e = 0 := hs
    dsimp only at hl
    have hq := lenOf_count m l
    have hle := lenOf_le m l
    have hll : l.length = t.size := by rw [← hl, data_len]
    obtain ⟨a, n, c, hanc⟩ : ∃ a n c, lenOf m l = (a, n, c) := ⟨_, _, _, rfl⟩
    rw [hanc] at hq hle
    dsimp only at hq hle
    have hj := countlook t m a n c ⟨w.heap.size, 0, none⟩ _ hz HC.out h0 h1 (by rw [hl]; exact hanc)
    by_cases hc : c = 0
    · subst hc
      rw [if_pos rfl] at hq
      have HQ := Lib.hid hq
      have HJ := Lib.hid (ok_count b l t _ #[.pointer (some ⟨w.heap.size, 0, none⟩)] (a : Nat) n _ (HR.out.kept HA.out) HT.out (by omega) hen hj)
      clear hR ht hl hz hen hq hle hll hanc hj
      go_enter Try.func22, Try.ntmps22
      go_wp2_with fail
      refine HJ.out.mono ?_
      rintro e w1 ⟨rfl, hW, hB⟩
      have HW := Lib.hid hW
      have HB := Lib.hid hB
      clear hW hB
      go_wp2_with fail
      go_ret
      exact ⟨by rw [HQ.out]; rfl, by rw [HQ.out]; exact HW.out, (HA.out.but b).trans HB.out⟩
    · rw [if_neg hc] at hq
      have HQ := Lib.hid hq
      have HJ := Lib.hid (bad_count b l t _ #[.pointer (some ⟨w.heap.size, 0, none⟩)] (a : Nat) n c _ (HR.out.kept HA.out) HT.out hc hen hj)
      clear hR ht hl hz hen hq hle hll hanc hj hc
      go_enter Try.func22, Try.ntmps22
      go_wp2_with fail
      refine HJ.out.mono ?_
      rintro e w1 ⟨rfl, hW, hB⟩
      have HW := Lib.hid hW
      have HB := Lib.hid hB
      clear hW hB
      go_wp2_with fail
      go_ret
      exact ⟨by rw [HQ.out]; rfl, by rw [HQ.out]; exact HW.out, (HA.out.but b).trans HB.out⟩
  · have HQ := Lib.hid (qcount_fault m s hs)
    have HJ := Lib.hid (fault_count b s (.func (.func 45) #[] #[.pointer (some ⟨w.heap.size, 0, none⟩)]) _ (HR.out.kept HA.out) hs)
    clear hR ht hl hz hen
    go_enter Try.func22, Try.ntmps22
    go_wp2_with fail
    refine HJ.out.mono ?_
    rintro e w1 ⟨rfl, rfl⟩
    go_wp2_with fail
    go_ret
    exact ⟨by rw [HQ.out]; rfl, by rw [HQ.out]; exact HR.out.kept HA.out, HA.out.but b⟩
theorem ext_mid (t : ByteArray) (n a : Nat) : (t.extract n (n + a)) = ⟨((t.data.toList.drop n).take a).toArray⟩ := by
  apply ByteArray.ext
  rw [ByteArray.data_extract]
  apply Array.ext'
  simp
set_option maxRecDepth 100000 in
theorem text_any (b : Nat) (s : St) (m : Int) (w : World) (hR : WrAt w b s) (h0 : -9223372036854775808 ≤ m) (h1 : m ≤ 9223372036854775807) :
    Calls Try.prog 18 #[.pointer (some ⟨b, 0, none⟩), .int .i64 m] w fun e w' => e = .returned (.string ⟨(qText m s).1.toArray⟩) ∧ WrAt w' b (qText m s).2 ∧ But b w w' := by
  obtain ⟨t, ht, hl, hz⟩ := hR.text
  have HR := Lib.hid hR
  have hen := enters_of Try.func39 (by kernel_rfl) rfl
  have HA : Hid (Kept w (w.alloc (.cells #[.int .i64 m] 3))) := (Kept.refl _).alloc _
  have HT : Hid ((w.alloc (.cells #[.int .i64 m] 3)).cell? ⟨b, 1, none⟩ = some (.string t)) := by show _ = _; rw [Below.cell HA.out (p := ⟨b, 1, none⟩) hR.lt]; exact ht
  have HC : Hid ((w.alloc (.cells #[.int .i64 m] 3)).cell? ⟨w.heap.size, 0, none⟩ = some (.int .i64 m)) := by show _ = _; rw [World.cell?_alloc_mark]; rfl
  by_cases hs : s.e = 0
  · obtain ⟨l, e⟩ := s
    obtain rfl : e = 0 := hs
    dsimp only at hl
    have hq := lenOf_count m l
    have hle := lenOf_le m l
    have hll : l.length = t.size := by rw [← hl, data_len]
    obtain ⟨a, n, c, hanc⟩ : ∃ a n c, lenOf m l = (a, n, c) := ⟨_, _, _, rfl⟩
    rw [hanc] at hq hle
    dsimp only at hq hle
    have hj := textlook t m a n c ⟨w.heap.size, 0, none⟩ _ hz HC.out h0 h1 (by rw [hl]; exact hanc)
    by_cases hc : c = 0
    · subst hc
      rw [if_pos rfl] at hq
      have HQ : Hid (qText m ⟨l, 0⟩ = ((l.drop n).take a, ⟨l.drop (n + a), 0⟩)) := by
        show _ = _
        unfold qText
        rw [hq]
        dsimp only
        rw [List.drop_drop]
      have HJ := Lib.hid (ok_text b l t _ #[.pointer (some ⟨w.heap.size, 0, none⟩)] (t.extract n (n + a)) (n + a) _ (HR.out.kept HA.out) HT.out (by omega) hen hj)
      have HE := Lib.hid (ext_mid t n a)
      have HL := Lib.hid hl
      clear hR ht hl hz hen hq hle hll hanc hj
      generalize t.extract n (n + a) = x at *
      go_enter Try.func18, Try.ntmps18
      go_wp2_with fail
      refine HJ.out.mono ?_
      rintro e w1 ⟨rfl, hW, hB⟩
      have HW := Lib.hid hW
      have HB := Lib.hid hB
      clear hW hB
      go_wp2_with fail
      go_ret
      exact ⟨by rw [HQ.out]; dsimp only; rw [← HL.out, ← HE.out]; rfl, by rw [HQ.out]; exact HW.out, (HA.out.but b).trans HB.out⟩
    · rw [if_neg hc] at hq
      have HQ : Hid (qText m ⟨l, 0⟩ = ([], ⟨l, c⟩)) := by
        show _ = _
        unfold qText
        rw [hq]
        rfl
      have HJ := Lib.hid (bad_text b l t _ #[.pointer (some ⟨w.heap.size, 0, none⟩)] (t.extract n (n + a)) (n + a) c _ (HR.out.kept HA.out) HT.out hc hen hj)
      clear hR ht hl hz hen hq hle hll hanc hj hc
      generalize t.extract n (n + a) = x at *
      go_enter Try.func18, Try.ntmps18
      go_wp2_with fail
      refine HJ.out.mono ?_
      rintro e w1 ⟨rfl, hW, hB⟩
      have HW := Lib.hid hW
      have HB := Lib.hid hB
      clear hW hB
      go_wp2_with fail
      go_ret
      exact ⟨by rw [HQ.out]; rfl, by rw [HQ.out]; exact HW.out, (HA.out.but b).trans HB.out⟩
  · have HQ : Hid (qText m s = ([], s)) := by
      show _ = _
      unfold qText
      rw [qcount_fault m s hs]
      rfl
    have HJ := Lib.hid (fault_text b s (.func (.func 39) #[] #[.pointer (some ⟨w.heap.size, 0, none⟩)]) _ (HR.out.kept HA.out) hs)
    clear hR ht hl hz hen
    go_enter Try.func18, Try.ntmps18
    go_wp2_with fail
    refine HJ.out.mono ?_
    rintro e w1 ⟨rfl, rfl⟩
    go_wp2_with fail
    go_ret
    exact ⟨by rw [HQ.out]; rfl, by rw [HQ.out]; exact HR.out.kept HA.out, HA.out.but b⟩
set_option maxRecDepth 100000 in
theorem restlook (t : ByteArray) (w : World) (hz : t.size ≤ 281474976710656) :
    Calls Try.prog 46 #[.string t] w fun e w' => e = .returned (.tuple #[.string t, .int .i64 (t.size : Nat), .int .i64 0]) ∧ Kept w w' := by
  go_enter Try.func46, Try.ntmps46
  go_wp2_with fail
  refine (clone_any t _ hz).mono ?_
  rintro e w1 ⟨rfl, hk⟩
  have HK := Lib.hid hk
  clear hk
  go_wp2_with fail
  go_ret3
  exact ⟨rfl, HK.out⟩
set_option maxRecDepth 100000 in
theorem rest_any (b : Nat) (s : St) (w : World) (hR : WrAt w b s) :
    Calls Try.prog 24 #[.pointer (some ⟨b, 0, none⟩)] w fun e w' => e = .returned (.string ⟨(qRest s).1.toArray⟩) ∧ WrAt w' b (qRest s).2 ∧ But b w w' := by
  obtain ⟨t, ht, hl, hz⟩ := hR.text
  have HR := Lib.hid hR
  have hen := enters_of Try.func46 (by kernel_rfl) rfl
  by_cases hs : s.e = 0
  · obtain ⟨l, e⟩ := s
    obtain rfl : e = 0 := hs
    dsimp only at hl
    have hll : l.length = t.size := by rw [← hl, data_len]
    have HQ : Hid (qRest ⟨l, 0⟩ = (l, ⟨[], 0⟩)) := by show _ = _; unfold qRest; rw [if_neg (by simp)]
    have HJ := Lib.hid (ok_text b l t _ #[] t t.size _ HR.out ht (Nat.le_refl _) hen (restlook t w hz))
    rw [← hll, List.drop_length] at HJ
    have HE : Hid (t = ⟨l.toArray⟩) := by show _ = _; rw [← hl]
    clear hR ht hl hz hen hll
    go_enter Try.func24, Try.ntmps24
    go_wp2_with fail
    refine HJ.out.mono ?_
    rintro e w1 ⟨rfl, hW, hB⟩
    have HW := Lib.hid hW
    have HB := Lib.hid hB
    clear hW hB
    go_wp2_with fail
    go_ret
    exact ⟨by rw [HQ.out]; dsimp only; rw [← HE.out]; rfl, by rw [HQ.out]; exact HW.out, HB.out⟩
  · have HQ : Hid (qRest s = ([], s)) := by show _ = _; unfold qRest; rw [if_pos hs]
    have HJ := Lib.hid (fault_text b s (.func (.func 46) #[] #[]) _ HR.out hs)
    clear hR ht hl hz hen
    go_enter Try.func24, Try.ntmps24
    go_wp2_with fail
    refine HJ.out.mono ?_
    rintro e w1 ⟨rfl, rfl⟩
    go_wp2_with fail
    go_ret
    exact ⟨by rw [HQ.out]; rfl, by rw [HQ.out]; exact HR.out, But.refl _ _⟩
end Go.Proofs.Ytdbhplahmnlgnaa
