/- What the document's own Seal and Open come to. -/
import Derived.Test.YteonanmgghlefaaSumRef
namespace Go.Proofs.Yteonanmgghlefaa
open Go.RowKit Sm
set_option linter.unusedVariables false

theorem mk_len (l : List UInt8) : (⟨l.toArray⟩ : ByteArray).size = l.length := by simp [ByteArray.size]
theorem str_ext {a b : ByteArray} (h : a.data.toList = b.data.toList) : a = b := by
  apply ByteArray.ext
  apply Array.toList_inj.1
  exact h
/-- A text, sealed. -/
def sealL (l : List UInt8) : List UInt8 := l ++ b4 (crc l)
theorem b4_len (x : Nat) : (b4 x).length = 4 := rfl
theorem seal_len (l : List UInt8) : (sealL l).length = l.length + 4 := by simp [sealL, b4_len]
/-- Is it a sealed text? -/
def isSealed (l : List UInt8) : Bool := decide (4 ≤ l.length) && sealL (l.take (l.length - 4)) == l

set_option maxRecDepth 100000 in
theorem refseal_any (s : ByteArray) (w : World) (hs : s.size ≤ 1000000) :
    Calls Try.prog 14 #[.string s] w fun e w' => (∃ r : ByteArray, e = .returned (.string r) ∧ Hid (r.data.toList = sealL s.data.toList) ∧ r.size = s.size + 4) ∧ Kept w w' := by
  have hc := crc_lt s.data.toList
  obtain ⟨x, hx⟩ : ∃ x, crc s.data.toList = x := ⟨_, rfl⟩
  have HX := Lib.hid hx
  have hx32 : (x : Int) ≤ 4294967295 := by omega
  clear hc hx
  go_enter Try.func14, Try.ntmps14
  go_wp2_with fail
  refine (refof_any s _ hs).mono ?_
  rintro e w1 ⟨rfl, hk1⟩
  rw [HX.out]
  go_wp2_with fail
  refine (refbytes_any x _ (by omega) hx32).mono ?_
  rintro e w2 ⟨rfl, hk2⟩
  have hz : (⟨(b4 (x : Int).toNat).toArray⟩ : ByteArray).size = 4 := by rw [mk_len]; rfl
  obtain ⟨r4, hr4⟩ : ∃ r4 : ByteArray, (⟨(b4 (x : Int).toNat).toArray⟩ : ByteArray) = r4 := ⟨_, rfl⟩
  have HR : Hid (r4.data.toList = b4 x) := by show _ = _; rw [← hr4]; simp
  rw [hr4] at hz
  rw [hr4]
  clear hr4
  go_wp2_with fail
  go_ret
  refine ⟨⟨_, rfl, ?_, ?_⟩, hk1.trans hk2⟩
  · show (s ++ r4).data.toList = _
    unfold sealL
    rw [HX.out, ← HR.out]
    simp
  · rw [ByteArray.size_append, hz]

theorem sealed_str (s r : ByteArray) (h4 : 4 ≤ s.size) (hr : r.data.toList = sealL (s.extract 0 (s.size - 4)).data.toList) : (r.toList == s.toList) = isSealed s.data.toList := by
  have hl : s.data.toList.length = s.size := by simp
  have hx : (s.extract 0 (s.size - 4)).data.toList = s.data.toList.take (s.size - 4) := by simp
  unfold isSealed
  rw [ByteArray.toList_eq, ByteArray.toList_eq, hr, hx, hl]
  simp [h4]
/-- What a text is opened as. -/
def opened (s : ByteArray) : ByteArray := if isSealed s.data.toList = true then s.extract 0 (s.size - 4) else ⟨#[]⟩
theorem opened_yes (s : ByteArray) (h : isSealed s.data.toList = true) : opened s = s.extract 0 (s.size - 4) := if_pos h
theorem opened_no (s : ByteArray) (h : isSealed s.data.toList = false) : opened s = ⟨#[]⟩ := if_neg (by rw [h]; simp)
set_option maxRecDepth 100000 in
theorem refopen_any (s : ByteArray) (w : World) (hs : s.size ≤ 1000000) :
    Calls Try.prog 12 #[.string s] w fun e w' => e = .returned (.tuple #[.string (opened s), .bool (isSealed s.data.toList)]) ∧ Kept w w' := by
  have hl : s.data.toList.length = s.size := by simp
  have HL := Lib.hid hl
  clear hl
  rcases Nat.lt_or_ge s.size 4 with h4 | h4
  · have hb : isSealed s.data.toList = false := by
      unfold isSealed
      rw [HL.out]
      simp
      omega
    rw [opened_no s hb, hb]
    clear hb
    go_enter Try.func12, Try.ntmps12
    go_wp2_with fail
    go_ret2
    exact ⟨rfl, Kept.refl _⟩
  · go_enter Try.func12, Try.ntmps12
    go_wp2_with fail
    refine (refseal_any (s.extract 0 (s.size - 4)) _ (by simp; omega)).mono ?_
    rintro e w1 ⟨⟨r, rfl, hr, hz⟩, hk1⟩
    have hb := sealed_str s r h4 hr.out
    clear hz
    cases hB : isSealed s.data.toList with
    | true =>
      rw [hB] at hb
      have HB := Lib.hid hB
      clear hB
      go_wp2_with fail
      go_ret2
      exact ⟨by rw [opened_yes s HB.out, HB.out]; rfl, hk1⟩
    | false =>
      rw [hB] at hb
      have HB := Lib.hid hB
      clear hB
      go_wp2_with fail
      go_ret2
      exact ⟨by rw [opened_no s HB.out, HB.out]; rfl, hk1⟩
end Go.Proofs.Yteonanmgghlefaa
