/- What putBucket, putName, putNumber lay. -/
import Derived.Test.YtccpbgkaeldlaaaNyAt
namespace Go.Proofs.Ytccpbgkaeldlaaa
open Go.RowKit _root_.Go.Proofs.Ytccpbgkaeldlaaa.Nm Ny
set_option linter.unusedVariables false
set_option linter.unusedSimpArgs false
/-- Bytes that were gathered are handed back. -/
def GotU (B : Nat) (l : List UInt8) (w : World) (e : Ending) (w' : World) : Prop := ∃ v, e = .returned v ∧ GatU B v l w' ∧ Below B w w'
theorem GatU.alloc {B : Nat} {v : Value} {l : List UInt8} {w : World} (h : GatU B v l w) (o : Obj) : GatU B v l (w.alloc o) := h.kept ((Kept.refl _).alloc _)
theorem add_list (a b : ByteArray) : (a ++ b).data.toList = a.data.toList ++ b.data.toList := by simp
theorem mk_list (l : List UInt8) : (⟨l.toArray⟩ : ByteArray).data.toList = l := rfl
theorem list_size (a : ByteArray) : a.data.toList.length = a.size := by simp
set_option maxRecDepth 100000 in
theorem putBucket_any (B : Nat) (v : Value) (l : List UInt8) (s : ByteArray) (w : World) (hB : B ≤ w.heap.size) (hG : GatU B v l w) (hl : l.length + s.size ≤ 1000000) :
    Calls Try.prog 26 #[v, .string s] w (GotU B (l ++ (s.data.toList ++ [0])) w) := by
  have HG := Lib.hid hG
  have HL : Hid ((l ++ s.data.toList).length ≤ 1000000000) := by show _ ≤ _; rw [List.length_append, list_size]; omega
  clear hG
  go_enter Try.func26, Try.ntmps26
  go_wp2_with (at_builtin; first
    | (refine wpList_gatus _ rfl (.tmp 5) (.tmp 6) rfl B hB v l rfl HG.out s rfl (by omega) ?_; intro v1 w1 hG1 hb1; have HG1 := Lib.hid hG1; have HB1 := Lib.hid hb1; have hB1 : B ≤ w1.heap.size := Nat.le_trans hB hb1.size; clear hG1 hb1)
    | (refine wpList_gatu _ rfl (.tmp 7) (.tmp 8) rfl B (by rw [World.size_alloc]; omega) v1 (l ++ s.data.toList) rfl (HG1.out.alloc _) 0 w1.heap.size rfl (by rw [World.cell?_alloc_mark]; rfl) HL.out ?_; intro v2 w2 hG2 hb2; have HG2 := Lib.hid hG2; have HB2 := Lib.hid hb2; clear hG2 hb2))
  go_ret
  exact ⟨_, rfl, by rw [← List.append_assoc]; exact HG2.out, HB1.out.trans (((Below.refl B w1).alloc hB1 _).trans HB2.out)⟩
theorem nm_take (s : List UInt8) (k : Nat) (h : k < s.length) : nmL (s.take (k + 1)) = nmL (s.take k) ++ nmL [s[k]] := by
  rw [List.take_succ_eq_append_getElem h, nmL_append]
theorem nm_len (s : List UInt8) (k n : Nat) (h : s.length = n) : (nmL (s.take k)).length ≤ 2 * n := by
  have := nmL_length (s.take k)
  have h2 := List.length_take_le' k s
  omega
set_option maxHeartbeats 1000000 in
set_option maxRecDepth 100000 in
theorem putName_any (B : Nat) (v : Value) (l : List UInt8) (s : ByteArray) (w : World) (hB : B ≤ w.heap.size) (hG : GatU B v l w) (hl : l.length + 2 * s.size ≤ 1000000) :
    Calls Try.prog 27 #[v, .string s] w (GotU B (l ++ nmL s.data.toList) w) := by
  have HG := Lib.hid hG
  have hsl := list_size s
  have HSL := Lib.hid hsl
  clear hG hsl
  go_enter Try.func27, Try.ntmps27
  go_wp2_with fail
  go_step3
  go_wp2_with fail
  go_step3
  go_wp2_with fail
  go_loopw [0, 8] (fun u i wr => ∃ k : Nat, k ≤ s.size ∧ i = .int .i64 k ∧ Hid (GatU B u (l ++ nmL (s.data.toList.take k)) wr ∧ Below B w wr ∧ B ≤ wr.heap.size)) (fun _ i _ => s.size - (intOf i).toNat)
  case atStart => exact ⟨0, Nat.zero_le _, rfl, by rw [List.take_zero]; show GatU B v (l ++ []) w; rw [List.append_nil]; exact HG.out, Below.refl _ _, hB⟩
  case round =>
    obtain ⟨k, hk, rfl, HI⟩ := hrel
    by_cases hlt : k < s.size
    · have HT := Lib.hid (nm_take s.data.toList k (by rw [HSL.out]; exact hlt))
      have HN : Hid ((l ++ nmL (s.data.toList.take k)).length ≤ 1000000) := by show _ ≤ _; rw [List.length_append]; have := nm_len s.data.toList k s.size HSL.out; omega
      have HE : Hid (s.data.toList[k]'(by rw [HSL.out]; exact hlt) = s[k]) := rfl
      rw [HE.out] at HT
      generalize nmL (s.data.toList.take k) = q at *
      by_cases h0 : s[k] = 0
      · have hz : (((s[k].toNat : Nat) : Int) != 0) = false := by rw [h0]; rfl
        have HQ : Hid (nmL (s.data.toList.take (k + 1)) = q ++ [0, 255]) := by show _ = _; rw [HT.out, h0]; rfl
        clear h0 HT HE
        go_wp2_with (at_builtin; (refine wpList_gatus _ rfl (.tmp 21) (.const (.string ⟨#[0, 255]⟩)) rfl B HI.out.2.2 _ (l ++ q) rfl HI.out.1 ⟨#[0, 255]⟩ rfl (by have := HN.out; show _ + 2 ≤ _; omega) ?_; intro v1 w1 hG1 hb1; have HG1 := Lib.hid hG1; have HB1 := Lib.hid hb1; clear hG1 hb1))
        go_roundw
        case rel => exact ⟨k + 1, by omega, by go_num, by rw [HQ.out, ← List.append_assoc]; exact HG1.out, HI.out.2.1.trans HB1.out, Nat.le_trans HI.out.2.2 HB1.out.size⟩
        case measure => simp [intOf]; omega
      · have hz : (((s[k].toNat : Nat) : Int) != 0) = true := by rw [bne_iff_ne]; have := pos_nat h0; omega
        have HQ : Hid (nmL (s.data.toList.take (k + 1)) = q ++ [s[k]]) := by show _ = _; rw [HT.out, nmL, if_neg h0]; rfl
        clear HT HE h0
        go_wp2_with (at_builtin; (refine wpList_gatu _ rfl (.tmp 15) (.tmp 19) rfl B (by rw [World.size_alloc]; have := HI.out.2.2; omega) _ (l ++ q) rfl (HI.out.1.alloc _) s[k] wr.heap.size rfl (by rw [World.cell?_alloc_mark]; rfl) (by have := HN.out; omega) ?_; intro v1 w1 hG1 hb1; have HG1 := Lib.hid hG1; have HB1 : Hid (Below B wr w1) := ((Below.refl B wr).alloc HI.out.2.2 _).trans hb1; clear hG1 hb1))
        go_roundw
        case rel => exact ⟨k + 1, by omega, by go_num, by rw [HQ.out, ← List.append_assoc]; exact HG1.out, HI.out.2.1.trans HB1.out, Nat.le_trans HI.out.2.2 HB1.out.size⟩
        case measure => simp [intOf]; omega
    · obtain rfl : k = s.size := by omega
      have HT : Hid (s.data.toList.take s.size = s.data.toList) := List.take_of_length_le (by rw [HSL.out]; exact Nat.le_refl _)
      go_wp2_with fail
      try rw [Exit.noGoto_ret]
      go_ret
      exact ⟨_, rfl, by have := HI.out.1; rw [HT.out] at this; exact this, HI.out.2.1⟩
theorem byte_at (x k : Nat) : (x : Int) / 2 ^ (8 * k) % 256 = ((UInt8.ofNat (x / 256 ^ k)).toNat : Nat) := by
  rw [UInt8.toNat_ofNat', show (256 : Nat) ^ k = 2 ^ (8 * k) by rw [Nat.pow_mul]]
  have e : ((2 : Int) ^ (8 * k)) = ((2 ^ (8 * k) : Nat) : Int) := by rw [Int.natCast_pow]; rfl
  rw [e]
  omega
theorem be_step (m x : Nat) (h : 0 < m) : be m x = UInt8.ofNat (x / 256 ^ (m - 1)) :: be (m - 1) x := by
  cases m with
  | zero => omega
  | succ m => rfl
set_option maxHeartbeats 1000000 in
set_option maxRecDepth 100000 in
theorem putNumber_any (B : Nat) (v : Value) (l : List UInt8) (x n : Nat) (w : World) (hB : B ≤ w.heap.size) (hG : GatU B v l w) (hl : l.length ≤ 1000000) (hn : n ≤ 8) (hx : x < 18446744073709551616) :
    Calls Try.prog 28 #[v, .int .u64 (x : Nat), .int .i64 (n : Nat)] w (GotU B (l ++ be n x) w) := by
  have HG := Lib.hid hG
  clear hG
  go_enter Try.func28, Try.ntmps28
  go_wp2_with fail
  go_loopw [0, 7] (fun u i wr => ∃ m : Nat, m ≤ n ∧ i = .int .i64 ((m : Int) - 1) ∧ Hid (∃ q, q ++ be m x = be n x ∧ GatU B u (l ++ q) wr ∧ Below B w wr ∧ B ≤ wr.heap.size)) (fun _ i _ => (intOf i + 1).toNat)
  case atStart => exact ⟨n, Nat.le_refl _, rfl, [], rfl, by rw [List.append_nil]; exact HG.out, Below.refl _ _, hB⟩
  case round =>
    obtain ⟨m, hm, rfl, HI⟩ := hrel
    obtain ⟨q, hq, hG, hb, hs⟩ := HI.out
    have HQ := Lib.hid hq
    have HG := Lib.hid hG
    have HB := Lib.hid hb
    clear HI hq hG hb
    by_cases h0 : 0 < m
    · have HY := Lib.hid (byte_at x (m - 1))
      have HN : Hid ((l ++ q).length ≤ 1000000000) := by
        have := congrArg List.length HQ.out
        rw [List.length_append, be_length, be_length] at this
        show _ ≤ _
        rw [List.length_append]
        omega
      have HS := Lib.hid (be_step m x h0)
      go_wp2_with (at_builtin; (refine wpList_gatu _ rfl (.tmp 14) (.tmp 20) rfl B (by rw [World.size_alloc]; omega) _ (l ++ q) rfl (HG.out.alloc _) (UInt8.ofNat (x / 256 ^ (m - 1))) wr.heap.size rfl (by rw [World.cell?_alloc_mark, ← HY.out]; rfl) HN.out ?_; intro v1 w1 hG1 hb1; have HG1 := Lib.hid hG1; have HB1 : Hid (Below B wr w1) := ((Below.refl B wr).alloc hs _).trans hb1; clear hG1 hb1))
      go_roundw
      case rel => exact ⟨m - 1, by omega, by go_num, q ++ [UInt8.ofNat (x / 256 ^ (m - 1))], by rw [← HQ.out, HS.out]; simp, by rw [← List.append_assoc]; exact HG1.out, HB.out.trans HB1.out, Nat.le_trans hs HB1.out.size⟩
      case measure => simp [intOf]; omega
    · obtain rfl : m = 0 := by omega
      go_wp2_with fail
      go_ret
      exact ⟨_, rfl, by have e := HQ.out; rw [be, List.append_nil] at e; rw [← e]; exact HG.out, HB.out⟩
end Go.Proofs.Ytccpbgkaeldlaaa
