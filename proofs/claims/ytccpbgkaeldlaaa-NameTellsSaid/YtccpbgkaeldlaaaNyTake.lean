/- What takeNumber, takeBucket, takeName take. -/
import Derived.Test.YtccpbgkaeldlaaaNyEnc
import Derived.Test.YtccpbgkaeldlaaaPrefix
import Derived.Test.YtccpbgkaeldlaaaClone
import Derived.Lib.IndexLaws
namespace Go.Proofs.Ytccpbgkaeldlaaa
open Go.RowKit _root_.Go.Proofs.Ytccpbgkaeldlaaa.Nm Ny
set_option linter.unusedVariables false
set_option linter.unusedSimpArgs false
theorem val_app (l : List UInt8) (b : UInt8) : val (l ++ [b]) = 256 * val l + b.toNat := val_snoc l b
theorem or_u64 (x b : Nat) (hx : x < 72057594037927936) (hb : b < 256) : bits .or .u64 (IntKind.u64.wrap ((x : Int) * 256)) (IntKind.u64.wrap (b : Int)) = ((256 * x + b : Nat) : Int) := by
  rw [IntWalk.u64_in _ (by omega), IntWalk.u64_in _ (by omega), show ((x : Int) * 256) = ((256 * x : Nat) : Int) by omega, u64_or_nat _ _ (by omega) (by omega)]
  have := Nat.two_pow_add_eq_or_of_lt (i := 8) (a := x) (b := b) hb
  rw [show (2 : Nat) ^ 8 = 256 from rfl] at this
  rw [← this]
theorem or_u64' (x b : Nat) (hx : x < 72057594037927936) (hb : b < 256) : bits .or .u64 (IntKind.u64.wrap ((x : Int) * 256)) (b : Int) = ((256 * x + b : Nat) : Int) := by
  have := or_u64 x b hx hb
  rwa [IntWalk.u64_in (b : Int) (by omega)] at this
theorem val_take (l : List UInt8) (k : Nat) (h : k < l.length) : val (l.take (k + 1)) = 256 * val (l.take k) + l[k]!.toNat := by
  rw [List.take_succ_eq_append_getElem h, val_snoc, getElem!_pos l k h]
theorem pow_56 {y k : Nat} (h : y < 256 ^ k) (hk : k ≤ 7) : y < 72057594037927936 := by
  have : 256 ^ k ≤ 256 ^ 7 := Nat.pow_le_pow_right (by omega) hk
  have e : (256 : Nat) ^ 7 = 72057594037927936 := by decide
  omega
theorem val_step {y k b : Nat} (h : y < 256 ^ k) (hb : b < 256) : 256 * y + b < 256 ^ (k + 1) := by
  rw [Nat.pow_succ]; omega
set_option maxHeartbeats 1000000 in
set_option maxRecDepth 100000 in
theorem takeNumber_ok (s : ByteArray) (n : Nat) (w : World) (hn : n ≤ 8) (hs : s.size ≤ maxLen) (h : n ≤ s.size) :
    Calls Try.prog 46 #[.string s, .int .i64 (n : Nat)] w fun e w' => e = .returned (.tuple #[.int .u64 (val (s.data.toList.take n) : Nat), .string (s.extract n s.size), .bool true]) ∧ Kept w w' := by
  unfold maxLen at hs
  have HSL := Lib.hid (list_size s)
  obtain ⟨t, ht⟩ : ∃ t, s.extract 0 n = t := ⟨_, rfl⟩
  have htl : t.data.toList = s.data.toList.take n := by rw [← ht]; simp
  have htz : t.size = n := by rw [← list_size, htl, List.length_take, list_size]; omega
  have hcv := run_bytes_of_string (P := Try.prog) w 9 50 5 t Try.underlying9 Try.underlying50 Try.underlying5
  rw [htz] at hcv
  obtain ⟨cap, hcap⟩ : ∃ cap, grownCap w n 0 5 = cap := ⟨_, rfl⟩
  rw [hcap] at hcv
  have HC := Lib.hid (conv_cells w t cap 5)
  have HK : Hid (Kept w (w.drew.alloc (.cells (bytesRow t cap) 5 ((bytesRow t cap).size, (bytesRow t cap).size + 1)))) := (Kept.refl _).drew.alloc _
  generalize w.drew.alloc (.cells (bytesRow t cap) 5 ((bytesRow t cap).size, (bytesRow t cap).size + 1)) = w1 at *
  rw [htz, htl] at HC
  have HTL := Lib.hid htl
  clear hcap htz htl
  go_enter Try.func46, Try.ntmps46
  go_wp2_with fail
  go_loopw [4, 18] (fun x i wr => ∃ k : Nat, k ≤ n ∧ i = .int .i64 k ∧ ∃ y : Nat, x = .int .u64 (y : Nat) ∧ y < 256 ^ k ∧ Hid (y = val (s.data.toList.take k)) ∧ wr = w1) (fun _ i _ => n - (intOf i).toNat)
  case atStart => exact ⟨0, Nat.zero_le _, rfl, 0, rfl, by simp, rfl, rfl⟩
  case round =>
    obtain ⟨k, hk, rfl, y, rfl, hy, HY, rfl⟩ := hrel
    by_cases hlt : k < n
    · have hck := HC.out k hlt
      have hkl : k < s.data.toList.length := by rw [HSL.out]; omega
      have HB : Hid ((s.data.toList.take n)[k]! = s[k]'(by omega)) := by
        show _ = _
        rw [getElem!_pos _ k (by rw [List.length_take]; omega), List.getElem_take]
        rfl
      have HV : Hid (val (s.data.toList.take (k + 1)) = 256 * val (s.data.toList.take k) + (s[k]'(by omega)).toNat) := by
        show _ = _
        rw [val_take _ k hkl, getElem!_pos _ k hkl]
        rfl
      have hb : (s[k]'(by omega)).toNat < 256 := UInt8.toNat_lt _
      rw [HB.out] at hck
      generalize s[k]'(by omega) = b at *
      have HO := Lib.hid (or_u64' y b.toNat (pow_56 hy (by omega)) hb)
      have HS := Lib.hid (val_step hy hb)
      clear hkl
      go_wp2_with fail
      exact ⟨⟨k + 1, by omega, by go_num, 256 * y + b.toNat, by rw [HO.out], HS.out, by rw [HV.out, HY.out]; rfl, by first | rfl | trivial⟩, by simp [intOf]; omega⟩
    · obtain rfl : k = n := by omega
      have hyv := HY.out
      have HYV := Lib.hid hyv
      clear hyv HC hcv
      go_wp2_with fail
      go_region
      all_goals (go_wp2_with fail; exact bodyPost_ret (v := .tuple #[.int .u64 (y : Nat), .string (s.extract k s.size), .bool true]) (by simp [results, Try.results46, go_sem]) rfl ⟨by rw [← HYV.out], HK.out.drew⟩)
theorem takeNumber_no (s : ByteArray) (n : Nat) (w : World) (hn : n ≤ 8) (hs : s.size ≤ maxLen) (h : s.size < n) :
    Calls Try.prog 46 #[.string s, .int .i64 (n : Nat)] w fun e w' => e = .returned (.tuple #[.int .u64 0, .string ⟨#[]⟩, .bool false]) ∧ Kept w w' := by
  unfold maxLen at hs
  go_enter Try.func46, Try.ntmps46
  go_wp2_with fail
  exact bodyPost_ret (v := .tuple #[.int .u64 0, .string ⟨#[]⟩, .bool false]) (by simp [results, Try.results46, go_sem]) rfl ⟨rfl, Kept.refl _⟩
theorem indexByte_w (s : ByteArray) (c : Int) (w : World) :
    Calls Try.prog 55 #[.string s, .int .u8 c] w fun e w' => e = .returned (.int .i64 (Lib.indexByte s.data.toList c.toNat.toUInt8)) ∧ w' = w := by
  go_enter Try.func55, Try.ntmps55
  go_wp2_with fail
  rw [run_callFunc_extern Try.func58 (by kernel_rfl) (by kernel_rfl) (by kernel_rfl) (e := Extern.BytealgIndexByte.indexByte) (by kernel_rfl), Lib.run_indexByteString]
  simp only [Result.andThen]
  rw [Oper.upon_value]
  go_wp2_with fail
  go_ret
  exact ⟨rfl, rfl⟩
theorem indexByte_any (s : ByteArray) (c : Int) (w : World) :
    Calls Try.prog 51 #[.string s, .int .u8 c] w fun e w' => e = .returned (.int .i64 (Lib.indexByte s.data.toList c.toNat.toUInt8)) ∧ w' = w := by
  go_enter Try.func51, Try.ntmps51
  go_wp2_with fail
  refine (indexByte_w s c _).mono ?_
  rintro e w1 ⟨rfl, rfl⟩
  go_wp2_with fail
  go_ret
  exact ⟨rfl, rfl⟩
/-- A text of these bytes. -/
theorem ext_drop (s : ByteArray) (n : Nat) : s.extract n s.size = ⟨(s.data.toList.drop n).toArray⟩ := by
  apply ba_ext
  simp
  rw [List.take_of_length_le]
  simp
theorem ext_take (s : ByteArray) (n : Nat) : s.extract 0 n = ⟨(s.data.toList.take n).toArray⟩ := by
  apply ba_ext
  simp
theorem idx_no {l : List UInt8} (h : ∀ x ∈ l, x ≠ 0) : Lib.indexByte l 0 = -1 := by
  rcases Int.lt_or_le (Lib.indexByte l 0) 0 with h1 | h1
  · have := Lib.indexByte_ge l 0; omega
  · obtain ⟨o, ho⟩ : ∃ o : Nat, Lib.indexByte l 0 = o := ⟨(Lib.indexByte l 0).toNat, by omega⟩
    have := (Lib.indexByte_some ho).1
    exact absurd rfl (h 0 (List.mem_of_getElem? this))
theorem idx_at (a b : List UInt8) (h : ∀ x ∈ a, x ≠ 0) : Lib.indexByte (a ++ 0 :: b) 0 = a.length := by
  rcases Int.lt_or_le (Lib.indexByte (a ++ 0 :: b) 0) 0 with h1 | h1
  · have h2 := Lib.indexByte_ge (a ++ 0 :: b) 0
    have := Lib.indexByte_none (l := a ++ 0 :: b) (c := 0) (by omega) a.length
    exact absurd (by simp) this
  · obtain ⟨o, ho⟩ : ∃ o : Nat, Lib.indexByte (a ++ 0 :: b) 0 = o := ⟨(Lib.indexByte (a ++ 0 :: b) 0).toNat, by omega⟩
    obtain ⟨h2, h3⟩ := Lib.indexByte_some ho
    rw [ho]
    rcases Nat.lt_trichotomy o a.length with h4 | h4 | h4
    · rw [List.getElem?_append_left h4, List.getElem?_eq_getElem h4] at h2
      exact absurd (Option.some.inj h2) (h _ (List.getElem_mem h4))
    · rw [h4]
    · exact absurd (by simp) (h3 a.length h4)
theorem zero_split (l : List UInt8) : (∀ x ∈ l, x ≠ 0) ∨ ∃ a b, l = a ++ 0 :: b ∧ ∀ x ∈ a, x ≠ 0 := by
  induction l with
  | nil => exact .inl (by simp)
  | cons c l ih =>
    by_cases hc : c = 0
    · exact .inr ⟨[], l, by rw [hc]; rfl, by simp⟩
    · rcases ih with h | ⟨a, b, rfl, h⟩
      · exact .inl fun x hx => by
          rcases List.mem_cons.1 hx with rfl | hx
          · exact hc
          · exact h x hx
      · exact .inr ⟨c :: a, b, rfl, fun x hx => by
          rcases List.mem_cons.1 hx with rfl | hx
          · exact hc
          · exact h x hx⟩
theorem takeBucket_no (s : ByteArray) (w : World) (h : ∀ x ∈ s.data.toList, x ≠ 0) :
    Calls Try.prog 44 #[.string s] w fun e w' => e = .returned (.tuple #[.string ⟨#[]⟩, .string ⟨#[]⟩, .bool false]) ∧ Kept w w' := by
  have HI := Lib.hid (fun W => indexByte_any s 0 W)
  rw [show (0 : Int).toNat.toUInt8 = 0 from rfl, idx_no h] at HI
  clear h
  go_enter Try.func44, Try.ntmps44
  go_wp2_with fail
  refine (HI.out _).mono ?_
  rintro e w1 ⟨rfl, rfl⟩
  go_wp2_with fail
  exact bodyPost_ret (v := .tuple #[.string ⟨#[]⟩, .string ⟨#[]⟩, .bool false]) (by simp [results, Try.results44, go_sem]) rfl ⟨rfl, Kept.refl _⟩
theorem takeBucket_ok (s : ByteArray) (a b : List UInt8) (w : World) (hs : s.size ≤ 1000000) (hl : s.data.toList = a ++ 0 :: b) (h : ∀ x ∈ a, x ≠ 0) :
    Calls Try.prog 44 #[.string s] w fun e w' => e = .returned (.tuple #[.string ⟨a.toArray⟩, .string ⟨b.toArray⟩, .bool true]) ∧ Kept w w' := by
  have HI := Lib.hid (fun W => indexByte_any s 0 W)
  rw [show (0 : Int).toNat.toUInt8 = 0 from rfl, hl, idx_at a b h] at HI
  have hz : a.length + 1 ≤ s.size := by rw [← list_size, hl]; simp
  have e1 := ext_take s a.length
  have e2 := ext_drop s (a.length + 1)
  rw [hl] at e1 e2
  rw [show (a ++ 0 :: b).take a.length = a by simp] at e1
  rw [show (a ++ 0 :: b).drop (a.length + 1) = b by rw [List.drop_append]; simp] at e2
  have hAz : (⟨a.toArray⟩ : ByteArray).size ≤ 281474976710656 := by rw [← list_size]; simp; omega
  have HC := Lib.hid (fun W => clone_any ⟨a.toArray⟩ W hAz)
  clear h hl hAz
  generalize (⟨a.toArray⟩ : ByteArray) = A at *
  generalize (⟨b.toArray⟩ : ByteArray) = B at *
  generalize a.length = o at *
  have hsl1 : ∀ W : World, (Instr.slice 9 (.string s) none (some (.int .i64 (o : Int))) none).run Try.prog W = .ok (.string A) W := fun W => by
    have h := run_slice_string_h (P := Try.prog) W 9 s Try.underlying9 .i64 (o : Int) (by omega) (by omega)
    rw [Int.toNat_natCast, e1] at h
    exact h
  have hsl2 : ∀ W : World, (Instr.slice 9 (.string s) (some (.int .i64 ((o : Int) + 1))) none none).run Try.prog W = .ok (.string B) W := fun W => by
    have h := run_slice_string_l (P := Try.prog) W 9 s Try.underlying9 .i64 ((o : Int) + 1) (by omega) (by omega)
    rw [show ((o : Int) + 1).toNat = o + 1 by omega, e2] at h
    exact h
  have hw1 : IntKind.i64.wrap ((o : Int) + 1) = (o : Int) + 1 := IntWalk.i64_in _ (by omega)
  clear e1 e2
  go_enter Try.func44, Try.ntmps44
  go_wp2_with fail
  refine (HI.out _).mono ?_
  rintro e w1 ⟨rfl, rfl⟩
  go_wp2_with fail
  refine wp_quietN (C := fun W => Kept w1 W) (by kernel_rfl) (by kernel_rfl) ((Kept.refl w1).drew) ?_
  repeat (first
    | go_big_quiet_skip
    | (go_big_quiet_want
       refine ⟨_, fun W hW => by
         unfold Oper.quietAt
         go_simp
         first
           | (go_at_call 52; (with_reducible refine (HC.out W).mono ?_); exact fun e w' h => ⟨h.1, hW.trans h.2⟩)
           | exact rfl, ?_⟩
       go_simp
       go_big_quiet_on))
  refine wpQuiet_nil ?_
  intro W hW
  have HKW := Lib.hid hW
  clear hW
  go_wp2_with fail
  exact bodyPost_ret (v := .tuple #[.string A, .string B, .bool true]) (by simp [results, Try.results44, go_sem]) rfl ⟨rfl, HKW.out⟩
end Go.Proofs.Ytccpbgkaeldlaaa
