/- The walk of WireApart. -/
import Derived.Test.YtdbhplahmnlgnaaWireAlive
import Derived.Test.YtdbhplahmnlgnaaWireBackMath
import Derived.OpenShut
import Derived.Lib.Strings
import Derived.Deep.RegionWith
import Derived.Deep.RegionHeld3
import Derived.Deep.DeepCutAuto
import Derived.BigQuiet
import Derived.Deep.QuietTactic
namespace Go.Proofs.Ytdbhplahmnlgnaa
open Go.RowKit _root_.Go.Proofs.Ytdbhplahmnlgnaa.Nm Wr
set_option linter.unusedVariables false
theorem up_inj (x y : Nat) (r s : List UInt8) (hx : x < 18446744073709551616) (hy : y < 18446744073709551616) (h : up x ++ r = up y ++ s) : x = y ∧ r = s := by
  have h1 := q_up x r hx
  have h2 := q_up y s hy
  rw [h, h2] at h1
  injection h1 with h3 h4
  injection h4 with h5 _
  exact ⟨h3.symm, h5.symm⟩
theorem txt_inj (l m r s : List UInt8) (hl : l.length < 18446744073709551616) (hm : m.length < 18446744073709551616) (h : txt l ++ r = txt m ++ s) : l = m ∧ r = s := by
  unfold txt at h
  rw [List.append_assoc, List.append_assoc] at h
  obtain ⟨h1, h2⟩ := up_inj _ _ _ _ hl hm h
  exact List.append_inj h2 h1
theorem up_ne (x : Nat) : up x ≠ [] := by unfold up; simp
theorem nums_inj (xs ys : List Nat) (hx : ∀ x ∈ xs, x < 18446744073709551616) (hy : ∀ x ∈ ys, x < 18446744073709551616) (h : nums xs = nums ys) : xs = ys := by
  induction xs generalizing ys with
  | nil =>
    cases ys with
    | nil => rfl
    | cons y ys =>
      have e : nums (y :: ys) = up y ++ nums ys := rfl
      rw [e] at h
      have h0 : ([] : List UInt8) = up y ++ nums ys := h
      simp [up_ne] at h0
  | cons x xs ih =>
    have e1 : nums (x :: xs) = up x ++ nums xs := rfl
    cases ys with
    | nil =>
      rw [e1] at h
      have h0 : up x ++ nums xs = [] := h
      simp [up_ne] at h0
    | cons y ys =>
      have e2 : nums (y :: ys) = up y ++ nums ys := rfl
      rw [e1, e2] at h
      obtain ⟨h1, h2⟩ := up_inj _ _ _ _ (hx x (by simp)) (hy y (by simp)) h
      rw [h1, ih ys (fun z hz => hx z (by simp [hz])) (fun z hz => hy z (by simp [hz])) h2]
theorem bytes_ext {a b : ByteArray} (h : a.data.toList = b.data.toList) : a = b := by
  apply ByteArray.ext
  exact Array.toList_inj.1 h
theorem texts_inj (xs ys : List ByteArray) (hx : ∀ x ∈ xs, x.size ≤ 1024) (hy : ∀ x ∈ ys, x.size ≤ 1024) (h : texts xs = texts ys) : xs = ys := by
  have hne : ∀ l, txt l ≠ [] := by intro l; unfold txt; simp [up_ne]
  induction xs generalizing ys with
  | nil =>
    cases ys with
    | nil => rfl
    | cons y ys =>
      have h0 : ([] : List UInt8) = txt y.data.toList ++ texts ys := h
      simp [hne] at h0
  | cons x xs ih =>
    have e1 : texts (x :: xs) = txt x.data.toList ++ texts xs := rfl
    cases ys with
    | nil =>
      rw [e1] at h
      have h0 : txt x.data.toList ++ texts xs = [] := h
      simp [hne] at h0
    | cons y ys =>
      have e2 : texts (y :: ys) = txt y.data.toList ++ texts ys := rfl
      rw [e1, e2] at h
      have hxs := hx x (by simp)
      have hys := hy y (by simp)
      obtain ⟨h1, h2⟩ := txt_inj _ _ _ _ (by rw [data_len]; omega) (by rw [data_len]; omega) h
      rw [bytes_ext h1, ih ys (fun z hz => hx z (by simp [hz])) (fun z hz => hy z (by simp [hz])) h2]
theorem take_both {α : Type} (a b : List α) (k : Nat) (ha : k < a.length) (hb : k < b.length) : a.take (k + 1) = b.take (k + 1) ↔ a.take k = b.take k ∧ a[k] = b[k] := by
  rw [List.take_succ_eq_append_getElem ha, List.take_succ_eq_append_getElem hb]
  constructor
  · intro h
    obtain ⟨h1, h2⟩ := List.append_inj h (by rw [List.length_take, List.length_take]; omega)
    exact ⟨h1, by simpa using h2⟩
  · rintro ⟨h1, h2⟩
    rw [h1, h2]
/-- So far they are the same. -/
def Same {α : Type} (a b : List α) (k : Nat) (sm : Bool) : Prop := sm = true ↔ a.length = b.length ∧ a.take k = b.take k
theorem Same.all {α : Type} {a b : List α} {sm : Bool} (h : Same a b a.length sm) : sm = true ↔ a = b := by
  refine Iff.trans h ?_
  constructor
  · rintro ⟨h1, h2⟩
    rwa [List.take_length, h1, List.take_length] at h2
  · rintro rfl
    exact ⟨rfl, rfl⟩
theorem Same.not {α : Type} {a b : List α} {k : Nat} (h : Same a b k false) : ¬ a = b := by
  rintro rfl
  have := h.2 ⟨rfl, rfl⟩
  simp at this
theorem Same.no {α : Type} {a b : List α} {k : Nat} (h : Same a b k false) : Same a b (k + 1) false := by
  constructor
  · intro h1; simp at h1
  · rintro ⟨h1, h2⟩
    refine h.2 ⟨h1, ?_⟩
    have := congrArg (List.take k) h2
    simpa [List.take_take] using this
theorem Same.yes {α : Type} {a b : List α} {k : Nat} (h : Same a b k true) (ha : k < a.length) (hb : k < b.length) (sm : Bool) (e : sm = true ↔ a[k] = b[k]) : Same a b (k + 1) sm := by
  unfold Same
  rw [take_both a b k ha hb, e]
  have := h.1 rfl
  constructor
  · intro h; exact ⟨this.1, this.2, h⟩
  · intro h; exact h.2.2
theorem str_beq (x y : ByteArray) : (x.toList == y.toList) = true ↔ x = y := by
  rw [ByteArray.toList_eq, ByteArray.toList_eq, beq_iff_eq]
  exact ⟨bytes_ext, fun h => by rw [h]⟩
theorem same_start {α : Type} (a b : List α) : Same a b 0 ((a.length : Int) == (b.length : Int)) := by unfold Same; simp; omega
set_option maxHeartbeats 2000000 in
set_option maxRecDepth 100000 in
theorem wireApart_walk (a0 : Option Addr) (len0 cap0 : Nat) (z0 : List ByteArray) (a1 : Option Addr) (len1 cap1 : Nat) (z1 : List ByteArray) (a2 : Option Addr) (len2 cap2 : Nat) (z2 : List Int) (a3 : Option Addr) (len3 cap3 : Nat) (z3 : List Int) (w : World) (w0 : IsStrs w a0 len0 cap0 z0) (w1 : IsStrs w a1 len1 cap1 z1) (w2 : IsRow .u64 w a2 len2 cap2 z2) (w3 : IsRow .u64 w a3 len3 cap3 z3) :
    Calls Try.prog 6 #[.slice a0 len0 cap0, .slice a1 len1 cap1, .slice a2 len2 cap2, .slice a3 len3 cap3] w fun e w' => e = .returned (.bool true) ∧ Kept w w' := by
  obtain ⟨us, hul, hU⟩ := w2.u64s
  obtain ⟨vs, hvl, hV⟩ := w3.u64s
  obtain ⟨hA, hl0, hz0⟩ := w0.strs
  obtain ⟨hB, hl1, hz1⟩ := w1.strs
  clear w0 w1 w2 w3
  generalize z0.take len0 = ps at *
  generalize z1.take len1 = qs at *
  subst hl0 hl1 hul hvl
  by_cases hbig : 60 < ps.length ∨ 60 < qs.length ∨ 60 < us.length ∨ 60 < vs.length
  · have hq : ∀ n : Nat, decide (60 < (n : Int)) = decide (60 < n) := fun n => by by_cases h : 60 < n <;> simp [h] <;> omega
    clear hA hB hU hV hz0 hz1
    go_enter Try.func6, Try.ntmps6
    by_cases h0 : 60 < ps.length
    · go_wp2_with fail
      refine (wireAlive_any _).mono ?_
      rintro e w7 ⟨rfl, g7⟩
      go_wp2_with fail
      go_ret
      exact ⟨rfl, g7⟩
    · by_cases h1 : 60 < qs.length
      · go_wp2_with fail
        refine (wireAlive_any _).mono ?_
        rintro e w7 ⟨rfl, g7⟩
        go_wp2_with fail
        go_ret
        exact ⟨rfl, g7⟩
      · by_cases h2 : 60 < us.length
        · go_wp2_with fail
          refine (wireAlive_any _).mono ?_
          rintro e w7 ⟨rfl, g7⟩
          go_wp2_with fail
          go_ret
          exact ⟨rfl, g7⟩
        · have h3 : 60 < vs.length := by omega
          go_wp2_with fail
          refine (wireAlive_any _).mono ?_
          rintro e w7 ⟨rfl, g7⟩
          go_wp2_with fail
          go_ret
          exact ⟨rfl, g7⟩
  have hs0 : ps.length ≤ 60 := by omega
  have hs1 : qs.length ≤ 60 := by omega
  have hs2 : us.length ≤ 60 := by omega
  have hs3 : vs.length ≤ 60 := by omega
  clear hbig
  have HU := Lib.hid hU
  have HV := Lib.hid hV
  have HA := Lib.hid hA
  have HB := Lib.hid hB
  have HZ0 := Lib.hid hz0
  have HZ1 := Lib.hid hz1
  clear hU hV hA hB hz0 hz1
  go_enter Try.func6, Try.ntmps6
  go_wp2_with fail
  go_loopw [9, 10] (fun sm i wr => ∃ (k : Nat) (s : Bool), k ≤ ps.length ∧ i = .int .i64 k ∧ sm = .bool s ∧ Hid (Same ps qs k s) ∧ Hid (∀ x ∈ ps.take k, x.size ≤ 1024) ∧ Hid (Kept w wr)) (fun _ i _ => ps.length - (intOf i).toNat)
  case atStart => exact ⟨0, _, Nat.zero_le _, rfl, rfl, same_start ps qs, by intro x hx; simp at hx, Kept.refl _⟩
  case round =>
    obtain ⟨k, s, hk, rfl, rfl, HSm, HC, HK⟩ := hrel
    by_cases hlt : k < ps.length
    · rcases HA.out with rfl | ⟨b0, o0, ha0, hc0⟩
      · exact absurd hlt (by simp)
      have hp := hc0 k hlt
      have hsk : ps[k].size ≤ maxLen := HZ0.out _ (List.getElem_mem hlt)
      rw [List.getD_eq_getElem?_getD, List.getElem?_eq_getElem hlt, Option.getD_some] at hp
      have hpk : wr.cell? ⟨b0, o0 + k, none⟩ = some (.string ps[k]) := by
        rw [Below.cell HK.out (p := ⟨b0, o0 + k, none⟩) (block_lt_of_cell hp)]
        exact hp
      have HTK : Hid (ps.take (k + 1) = ps.take k ++ [ps[k]]) := List.take_succ_eq_append_getElem hlt
      have HY := Lib.hid (fun (h : s = true) (hb : k < qs.length) (sm : Bool) (e : sm = true ↔ ps[k] = qs[k]) => (show Same ps qs k true from h ▸ HSm.out).yes hlt hb sm e)
      rw [ha0]
      generalize ps[k] = x at *
      unfold maxLen at hsk
      clear hc0 hp
      rcases Nat.lt_or_ge 1024 x.size with hx | hx
      · go_wp2_with fail
        refine (wireAlive_any _).mono ?_
        rintro e w7 ⟨rfl, g7⟩
        go_wp2_with fail
        go_ret
        exact ⟨rfl, HK.out.trans g7⟩
      · cases s
        · go_wp2_with fail
          go_quiet (fail)
          go_wp2_with fail
          exact ⟨⟨k + 1, false, by omega, by go_num, rfl, HSm.out.no, (by
            show ∀ z ∈ ps.take (k + 1), z.size ≤ 1024
            intro z hz
            rw [HTK.out] at hz
            rcases List.mem_append.1 hz with hz | hz
            · exact HC.out z hz
            · rw [List.mem_singleton.1 hz]; exact hx), HK.out.drewN _⟩, by simp [intOf]; omega⟩
        · have hlen := (HSm.out.1 rfl).1
          have hlt1 : k < qs.length := by omega
          rcases HB.out with h | ⟨b1, o1, ha1, hc1⟩
          · rw [h] at hlt1; exact absurd hlt1 (by simp)
          have hp := hc1 k hlt1
          rw [List.getD_eq_getElem?_getD, List.getElem?_eq_getElem hlt1, Option.getD_some] at hp
          have hqk : wr.cell? ⟨b1, o1 + k, none⟩ = some (.string qs[k]) := by
            rw [Below.cell HK.out (p := ⟨b1, o1 + k, none⟩) (block_lt_of_cell hp)]
            exact hp
          have hy := Lib.hid (HY.out rfl hlt1)
          rw [ha1]
          generalize qs[k] = y at *
          clear hc1 hp HY
          have hb1 : decide (k < qs.length) = true := by simp; omega
          go_wp2_with fail
          go_quiet (fail)
          go_wp2_with fail
          exact ⟨⟨k + 1, _, by omega, by go_num, rfl, hy.out _ (str_beq x y), (by
            show ∀ z ∈ ps.take (k + 1), z.size ≤ 1024
            intro z hz
            rw [HTK.out] at hz
            rcases List.mem_append.1 hz with hz | hz
            · exact HC.out z hz
            · rw [List.mem_singleton.1 hz]; exact hx), HK.out.drewN _⟩, by simp [intOf]; omega⟩
    · obtain rfl : k = ps.length := by omega
      rw [List.take_length] at HC
      have HSA : Hid (s = true ↔ ps = qs) := HSm.out.all
      clear hlt HSm
      go_wp2_with fail
      go_loopw [11] (fun i wx => ∃ k : Nat, k ≤ qs.length ∧ i = .int .i64 k ∧ Hid (∀ x ∈ qs.take k, x.size ≤ 1024) ∧ wx = wr) (fun i _ => qs.length - (intOf i).toNat)
      case atStart => exact ⟨0, Nat.zero_le _, rfl, by intro x hx; simp at hx, rfl⟩
      case round =>
        obtain ⟨k, hk, rfl, HD, rfl⟩ := hrel
        by_cases hlt : k < qs.length
        · rcases HB.out with rfl | ⟨b0, o0, ha0, hc0⟩
          · exact absurd hlt (by simp)
          have hp := hc0 k hlt
          have hsk : qs[k].size ≤ maxLen := HZ1.out _ (List.getElem_mem hlt)
          rw [List.getD_eq_getElem?_getD, List.getElem?_eq_getElem hlt, Option.getD_some] at hp
          have hpk : wr.cell? ⟨b0, o0 + k, none⟩ = some (.string qs[k]) := by
            rw [Below.cell HK.out (p := ⟨b0, o0 + k, none⟩) (block_lt_of_cell hp)]
            exact hp
          have HTK : Hid (qs.take (k + 1) = qs.take k ++ [qs[k]]) := List.take_succ_eq_append_getElem hlt
          rw [ha0]
          generalize qs[k] = x at *
          unfold maxLen at hsk
          clear hc0 hp
          rcases Nat.lt_or_ge 1024 x.size with hx | hx
          · go_wp2_with fail
            refine (wireAlive_any _).mono ?_
            rintro e w7 ⟨rfl, g7⟩
            go_wp2_with fail
            go_ret
            exact ⟨rfl, HK.out.trans g7⟩
          · go_wp2_with fail
            refine ⟨⟨k + 1, by omega, by go_num, ?_, trivial⟩, by simp [intOf]; omega⟩
            show ∀ z ∈ qs.take (k + 1), z.size ≤ 1024
            intro z hz
            rw [HTK.out] at hz
            rcases List.mem_append.1 hz with hz | hz
            · exact HD.out z hz
            · rw [List.mem_singleton.1 hz]; exact hx
        · obtain rfl : k = qs.length := by omega
          rw [List.take_length] at HD
          clear hlt
          obtain ⟨r1, hr1⟩ : ∃ r1, (⟨(texts ps).toArray⟩ : ByteArray) = r1 := ⟨_, rfl⟩
          obtain ⟨r2, hr2⟩ : ∃ r2, (⟨(texts qs).toArray⟩ : ByteArray) = r2 := ⟨_, rfl⟩
          have HTB : Hid ((r1.toList == r2.toList) = s) := by
            show _ = _
            rw [Bool.eq_iff_iff, HSA.out, ← hr1, ← hr2, str_beq]
            constructor
            · intro h
              injection h with h
              exact texts_inj ps qs HC.out HD.out (by simpa using h)
            · rintro rfl; rfl
          have HT1 := Lib.hid hr1
          have HT2 := Lib.hid hr2
          clear hr1 hr2
          obtain ⟨r3, hr3⟩ : ∃ r3, (⟨(nums us).toArray⟩ : ByteArray) = r3 := ⟨_, rfl⟩
          obtain ⟨r4, hr4⟩ : ∃ r4, (⟨(nums vs).toArray⟩ : ByteArray) = r4 := ⟨_, rfl⟩
          have HNB : Hid (∀ l : Bool, (l = true ↔ us = vs) → (r3.toList == r4.toList) = l) := by
            intro l hl
            rw [Bool.eq_iff_iff, hl, ← hr3, ← hr4, str_beq]
            constructor
            · intro h
              injection h with h
              exact nums_inj us vs HU.out.2 HV.out.2 (by simpa using h)
            · rintro rfl; rfl
          have HT3 := Lib.hid hr3
          have HT4 := Lib.hid hr4
          clear hr3 hr4
          go_wp2_with fail
          have HK0 := HK
          clear HK
          go_loopw [12, 13] (fun sm i wx => ∃ (k : Nat) (l : Bool), k ≤ us.length ∧ i = .int .i64 k ∧ sm = .bool l ∧ Hid (Same us vs k l) ∧ Hid (Kept w wx)) (fun _ i _ => us.length - (intOf i).toNat)
          case atStart => exact ⟨0, _, Nat.zero_le _, rfl, rfl, same_start us vs, HK0.out⟩
          case round =>
            obtain ⟨k, l, hk, rfl, rfl, HSm, HK⟩ := hrel
            by_cases hlt : k < us.length
            · cases l
              · have HNB : Hid ((r3.toList == r4.toList) = false) := HNB.out false ⟨fun h => by simp at h, fun h => absurd h HSm.out.not⟩
                go_wp2_with fail
                refine (texts_any a0 cap0 ps _ (HA.out.kept HK.out) (by omega) (fun s hs => by have := HC.out s hs; omega)).mono ?_
                rintro e w3 ⟨rfl, k3⟩
                rw [HT1.out]
                go_wp2_with fail
                refine (texts_any a1 cap1 qs _ ((HB.out.kept HK.out).kept k3) (by omega) (fun s hs => by have := HD.out s hs; omega)).mono ?_
                rintro e w4 ⟨rfl, k4⟩
                rw [HT2.out]
                have hT := HTB.out
                go_wp2_with fail
                refine (nums_any a2 cap2 us _ (((HU.out.kept HK.out).kept k3).kept k4) (by omega)).mono ?_
                rintro e w5 ⟨rfl, k5⟩
                rw [HT3.out]
                go_wp2_with fail
                refine (nums_any a3 cap3 vs _ ((((HV.out.kept HK.out).kept k3).kept k4).kept k5) (by omega)).mono ?_
                rintro e w6 ⟨rfl, k6⟩
                rw [HT4.out]
                have hN := HNB.out
                go_wp2_with fail
                refine (wireAlive_any _).mono ?_
                rintro e w7 ⟨rfl, g7⟩
                go_wp2_with fail
                go_ret
                exact ⟨rfl, HK.out.trans (k3.trans (k4.trans (k5.trans (k6.trans g7))))⟩
              · have hlen := (HSm.out.1 rfl).1
                have hlt1 : k < vs.length := by omega
                rcases HU.out with ⟨h | ⟨b0, o0, ha0, hc0⟩, hb0⟩
                · rw [h] at hlt; exact absurd hlt (by simp)
                rcases HV.out with ⟨h | ⟨b1, o1, ha1, hc1⟩, hb1⟩
                · rw [h] at hlt1; exact absurd hlt1 (by simp)
                have hp := hc0 k hlt
                rw [List.getD_eq_getElem?_getD, List.getElem?_eq_getElem hlt, Option.getD_some] at hp
                have hpk : wr.cell? ⟨b0, o0 + k, none⟩ = some (.int .u64 ((us[k] : Nat) : Int)) := by
                  rw [Below.cell HK.out (p := ⟨b0, o0 + k, none⟩) (block_lt_of_cell hp)]
                  exact hp
                have hq := hc1 k hlt1
                rw [List.getD_eq_getElem?_getD, List.getElem?_eq_getElem hlt1, Option.getD_some] at hq
                have hqk : wr.cell? ⟨b1, o1 + k, none⟩ = some (.int .u64 ((vs[k] : Nat) : Int)) := by
                  rw [Below.cell HK.out (p := ⟨b1, o1 + k, none⟩) (block_lt_of_cell hq)]
                  exact hq
                have HY := Lib.hid (fun (sm : Bool) (e : sm = true ↔ us[k] = vs[k]) => HSm.out.yes hlt hlt1 sm e)
                rw [ha0, ha1]
                generalize us[k] = x at *
                generalize vs[k] = y at *
                clear hc0 hc1 hp hq hb0 hb1
                go_wp2_with fail
                go_quiet (fail)
                go_wp2_with fail
                exact ⟨⟨k + 1, _, by omega, by go_num, rfl, HY.out _ (by rw [beq_iff_eq]; omega), HK.out.drewN _⟩, by simp [intOf]; omega⟩
            · obtain rfl : k = us.length := by omega
              clear hlt
              have HNB : Hid ((r3.toList == r4.toList) = l) := HNB.out l HSm.out.all
              go_wp2_with fail
              refine (texts_any a0 cap0 ps _ (HA.out.kept HK.out) (by omega) (fun s hs => by have := HC.out s hs; omega)).mono ?_
              rintro e w3 ⟨rfl, k3⟩
              rw [HT1.out]
              go_wp2_with fail
              refine (texts_any a1 cap1 qs _ ((HB.out.kept HK.out).kept k3) (by omega) (fun s hs => by have := HD.out s hs; omega)).mono ?_
              rintro e w4 ⟨rfl, k4⟩
              rw [HT2.out]
              have hT := HTB.out
              go_wp2_with fail
              refine (nums_any a2 cap2 us _ (((HU.out.kept HK.out).kept k3).kept k4) (by omega)).mono ?_
              rintro e w5 ⟨rfl, k5⟩
              rw [HT3.out]
              go_wp2_with fail
              refine (nums_any a3 cap3 vs _ ((((HV.out.kept HK.out).kept k3).kept k4).kept k5) (by omega)).mono ?_
              rintro e w6 ⟨rfl, k6⟩
              rw [HT4.out]
              have hN := HNB.out
              go_wp2_with fail
              refine (wireAlive_any _).mono ?_
              rintro e w7 ⟨rfl, g7⟩
              go_wp2_with fail
              go_ret
              exact ⟨rfl, HK.out.trans (k3.trans (k4.trans (k5.trans (k6.trans g7))))⟩
end Go.Proofs.Ytdbhplahmnlgnaa
