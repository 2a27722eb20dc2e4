/- SMatRef2, SInts, SMatRef3, STxt, SMatCode, SMatCode2, SBytApp. -/
import Derived.Test.YthifdfbdekkmgaaPart10
import Derived.OwnWalk
import Derived.Deep.DeepMust
import Derived.StillTailTactics
import Derived.Test.YthifdfbdekkmgaaPart7
import Derived.OpenShut
import Derived.Test.YthifdfbdekkmgaaPart9
import Derived.Test.YthifdfbdekkmgaaPart8
import Derived.Lib.AppendStr
import Derived.Laws.IdiomCopy
import Derived.ArgAppend
set_option linter.unusedVariables false
set_option linter.unusedSimpArgs false
set_option linter.unusedSectionVars false
set_option linter.unnecessarySimpa false
set_option linter.deprecated false
/- What the document's own answers on matrices come to: Unit, Times. -/
namespace Go.Proofs.Ythifdfbdekkmgaa
open Go.RowKit Gf
set_option linter.unusedVariables false
theorem GotL.nil (w : World) : GotL [] w (.returned (.slice none 0 0)) w := ⟨none, 0, rfl, .inl rfl, Kept.refl _⟩
/-- What a call that has gathered rows leaves. -/
theorem Gat.gotL {B : Nat} {v : Value} {ss : List ByteArray} {w0 w : World} (h : Gat B v ss w) (k : Kept w0 w) : GotL ss w0 (.returned v) w := by
  obtain ⟨a, cap, rfl, hS⟩ := h.strs
  exact ⟨a, cap, rfl, hS, k⟩
theorem Gat.gotM {B : Nat} {v : Value} {ss : List ByteArray} {w0 w : World} (h : Gat B v ss w) (k : Kept w0 w) (err : Int) : GotM ss err w0 (.returned (.tuple #[v, .int .i64 err])) w := by
  obtain ⟨a, cap, rfl, hS⟩ := h.strs
  exact ⟨a, cap, rfl, hS, k⟩
theorem GotM.nil (err : Int) {w0 w : World} (k : Kept w0 w) : GotM [] err w0 (.returned (.tuple #[.slice none 0 0, .int .i64 err])) w := ⟨none, 0, rfl, .inl rfl, k⟩
theorem unit_bt (n k j : Nat) : upd (fun _ => 0) k 1 j = un k j := by
  unfold upd un
  by_cases e : j = k
  · rw [if_pos e, if_pos e.symm]
  · rw [if_neg e, if_neg (fun h => e h.symm)]
set_option maxHeartbeats 1000000 in
set_option maxRecDepth 100000 in
theorem refUnit_any (n : Int) (w : World) (h0 : -9223372036854775808 ≤ n) (h1 : n ≤ 9223372036854775807) :
    Calls Seq.prog 42 #[.int .i64 n] w fun e w' => GotL (unitL n) w e w' := by
  by_cases h : 1 ≤ n ∧ n ≤ 64
  · obtain ⟨N, rfl⟩ := Int.eq_ofNat_of_zero_le (show 0 ≤ n by omega)
    have HU : Hid (matL N N un = unitL (N : Int)) := by show _ = _; unfold unitL; rw [if_pos h]; rfl
    have hN1 : 1 ≤ N := by omega
    have hN2 : N ≤ 64 := by omega
    clear h h0 h1
    go_enter Seq.func42, Seq.ntmps42
    go_wp2_with fail
    go_loopw [3, 4, 5] (fun v i _ wr => ∃ k : Nat, k ≤ N ∧ i = .int .i64 k ∧ Hid (Gat w.heap.size v (matL k N un) wr ∧ Kept w wr)) (fun _ i _ _ => N - (intOf i).toNat)
    case atStart => exact ⟨0, Nat.zero_le _, rfl, Gat.nil _ _, Kept.refl _⟩
    case round =>
      obtain ⟨k, hk, rfl, HI⟩ := hrel
      by_cases hlt : k < N
      · have hmk := fun W => run_make_row' (P := Seq.prog) 41 5 (.int .u8 0) 1 Seq.underlying41 info_byte rfl .i64 .i64 N (by omega) (by omega) W
        rw [made_zero] at hmk
        have HB := Lib.hid (Byt.made wr N)
        have HK : Hid (Kept w (wr.alloc (.cells (row N fun _ => .int .u8 0) 5))) := HI.out.2.alloc _
        have HK0 : Hid (Kept wr (wr.alloc (.cells (row N fun _ => .int .u8 0) 5))) := (Kept.refl _).alloc _
        have HSZ : Hid (w.heap.size ≤ wr.heap.size) := HI.out.2.size
        generalize (row N fun _ => Value.int .u8 0) = R at *
        go_upto_region 8 with fail
        generalize wr.alloc (.cells R 5) = w5 at *
        obtain ⟨g, hg⟩ : ∃ g, wr.heap.size = g := ⟨_, rfl⟩
        have HGG := Lib.hid hg
        rw [hg] at HB HSZ ⊢
        clear hg hmk
        have hcell := HB.out.cell k hlt
        have hfree := HB.out.free k hlt
        have HB6 := HB.out.set k hlt 1
        have hcv := byt_string g N N _ _ HB6
        rw [strOf_congr N _ (un k) (fun j _ => unit_bt N k j)] at hcv
        rw [show ((1 : UInt8).toNat : Int) = 1 from rfl] at hcv
        have HW6 : Hid (Kept wr (w5.setCell ⟨g, k, none⟩ (.int .u8 1)) ∧ Kept w (w5.setCell ⟨g, k, none⟩ (.int .u8 1))) := ⟨HK0.out.setCell (by rw [HGG.out]; exact Nat.le_refl _) _, HK.out.setCell HSZ.out _⟩
        have HLN : Hid ((matL k N un).length ≤ 1000000000) := by show _ ≤ _; rw [matL_length]; omega
        have HSN := Lib.hid (matL_snoc k N un)
        clear HB6
        go_upto_region 9 with fail
        generalize w5.setCell ⟨g, k, none⟩ (.int .u8 1) = w6 at *
        clear hcell hfree
        go_wp2_with (first | (at_builtin; go_must (refine wpList_gat _ rfl (.tmp 22) (.tmp 25) 50 rfl Seq.underlying50 w _ (matL k N un) rfl (HI.out.1.kept (HW6.out.1.alloc _)) (HW6.out.2.alloc _) (strOf N (un k)) w6.heap.size rfl (by rw [World.cell?_alloc_mark]; rfl) HLN.out ?_); intro v9 w9 hG9 hK9))
        exact ⟨⟨k + 1, by omega, by go_num, by rw [HSN.out]; exact ⟨hG9, hK9⟩⟩, by simp [intOf]; omega⟩
      · obtain rfl : k = N := by omega
        have HR := Lib.hid HI.out.1
        have HK := Lib.hid HI.out.2
        clear HI
        go_wp2_with fail
        go_ret
        rw [← HU.out]
        exact HR.out.gotL HK.out
  · have HU : Hid ([] = unitL n) := by show _ = _; unfold unitL; rw [if_neg h]
    go_enter Seq.func42, Seq.ntmps42
    rcases Int.lt_or_le n 1 with h2 | h2
    · go_wp2_with fail
      go_ret
      rw [← HU.out]
      exact GotL.nil _
    · have h3 : 64 < n := by omega
      clear h
      go_wp2_with fail
      go_ret
      rw [← HU.out]
      exact GotL.nil _
/-- A row of the product, the first j elements of it, and of the next one the first k products. -/
def part (P : Nat → UInt8) (j : Nat) (x : UInt8) (t : Nat) : UInt8 := if t < j then P t else if t = j then x else 0
theorem part_set (P : Nat → UInt8) (j : Nat) (x y : UInt8) (t : Nat) : part P j y t = upd (part P j x) j y t := by
  unfold upd
  by_cases e : t = j
  · subst e; unfold part; rw [if_neg (by omega), if_pos rfl, if_pos rfl]
  · rw [if_neg e]
    unfold part
    by_cases h : t < j
    · rw [if_pos h, if_pos h]
    · rw [if_neg h, if_neg h, if_neg e, if_neg e]
theorem part_next (P : Nat → UInt8) (j t : Nat) : part P (j + 1) 0 t = part P j (P j) t := by
  unfold part
  by_cases h : t < j
  · rw [if_pos (by omega), if_pos h]
  · by_cases e : t = j
    · subst e; rw [if_pos (by omega), if_neg h, if_pos rfl]
    · rw [if_neg (by omega), if_neg h, if_neg e]
      split <;> rfl
theorem part_at (P : Nat → UInt8) (j : Nat) (x : UInt8) : part P j x j = x := by unfold part; rw [if_neg (by omega), if_pos rfl]
theorem all_nth {ss : List ByteArray} {n : Nat} (hz : ∀ s ∈ ss, s.size ≤ n) (i : Nat) (hi : i < ss.length) : (nth ss i).size ≤ n := hz _ (by rw [← nth_get ss i hi]; exact List.getElem_mem hi)
end Go.Proofs.Ythifdfbdekkmgaa

/- What a walk is told of a slice of numbers of some kind. -/
namespace Go.Proofs.Ythifdfbdekkmgaa
open Go.RowKit
set_option linter.unusedVariables false
def nthI (rs : List Int) (i : Nat) : Int := rs.getD i 0
/-- The numbers of a slice lie there. -/
def Ints (k : IntKind) (w : World) (a : Option Addr) (rs : List Int) : Prop :=
  rs = [] ∨ ∃ b o, a = some ⟨b, o, none⟩ ∧ ∀ i, i < rs.length → w.cell? ⟨b, o + i, none⟩ = some (.int k (nthI rs i))
theorem Ints.kept {k : IntKind} {w w' : World} {a : Option Addr} {rs : List Int} (h : Ints k w a rs) (kp : Kept w w') : Ints k w' a rs := by
  rcases h with h | ⟨b, o, ha, h⟩
  · exact .inl h
  · refine .inr ⟨b, o, ha, fun i hi => ?_⟩
    have hc := h i hi
    rw [← hc]
    exact Below.cell kp (block_lt_of_cell hc)
theorem ints_at {k : IntKind} {w : World} {a : Option Addr} {rs : List Int} (hS : Ints k w a rs) : ∃ b o, 0 < rs.length → a = some ⟨b, o, none⟩ ∧ ∀ i, i < rs.length → w.cell? ⟨b, o + i, none⟩ = some (.int k (nthI rs i)) := by
  rcases hS with rfl | ⟨b, o, h1, h2⟩
  · exact ⟨0, 0, fun h => absurd h (by simp)⟩
  · exact ⟨b, o, fun _ => ⟨h1, h2⟩⟩
theorem nthI_get (rs : List Int) (i : Nat) (h : i < rs.length) : rs[i] = nthI rs i := by unfold nthI; rw [List.getD_eq_getElem?_getD, List.getElem?_eq_getElem h]; rfl
theorem IsRow.ints {k : IntKind} {w : World} {a : Option Addr} {len cap : Nat} {zs : List Int} (h : IsRow k w a len cap zs) : Ints k w a (zs.take len) ∧ (zs.take len).length = len ∧ len ≤ maxLen ∧ ∀ n ∈ zs.take len, (Lit.int k n).wf = true := by
  rcases h with ⟨rfl, rfl, rfl, rfl⟩ | ⟨x, rfl, hl, hm, hz, hc, hs⟩
  · exact ⟨.inl rfl, rfl, Nat.zero_le _, fun s hs => by simp at hs⟩
  · refine ⟨?_, by rw [List.length_take]; omega, by omega, fun s h => hs s (List.mem_of_mem_take h)⟩
    rcases Nat.eq_zero_or_pos len with h0 | h0
    · left; rw [h0]; simp
    · right
      obtain ⟨b, off, spot⟩ := x
      have hspot : spot = none := by simpa [Addr.add] using World.cell?_spot (hc 0 (by omega))
      subst hspot
      refine ⟨b, off, rfl, fun i hi => ?_⟩
      rw [List.length_take] at hi
      have h1 := hc i (by omega)
      rw [Go.WideShapes.add_plain] at h1
      rw [h1]
      unfold nthI
      congr 2
      simp [List.getD, List.getElem?_take_of_lt (show i < len by omega)]
end Go.Proofs.Ythifdfbdekkmgaa

/- What the document's own answers on matrices come to: Cauchy, Pick. -/
namespace Go.Proofs.Ythifdfbdekkmgaa
open Go.RowKit Gf
set_option linter.unusedVariables false
theorem cau_at (M i j : Nat) (hM : M ≤ 64) (hi : i < 64) (hj : j < M) : ((quo 1 ((M + i) ^^^ j) : Nat)) = (gi (UInt8.ofNat (M + i) ^^^ UInt8.ofNat j)).toNat ∧ (M + i) ^^^ j < 256 := by
  have hy : (M + i) ^^^ j < 256 := Nat.xor_lt_two_pow (n := 8) (by omega) (by omega)
  have hne : (M + i) ^^^ j ≠ 0 := fun h => by
    have h2 : (M + i) ^^^ j ^^^ j = 0 ^^^ j := by rw [h]
    rw [Nat.xor_assoc, Nat.xor_self, Nat.xor_zero, Nat.zero_xor] at h2
    omega
  refine ⟨?_, hy⟩
  rw [quo_one _ hy hne, gi_nat, UInt8.toNat_xor, UInt8.toNat_ofNat', UInt8.toNat_ofNat', Nat.mod_eq_of_lt (by omega), Nat.mod_eq_of_lt (by omega)]
set_option maxHeartbeats 1000000 in
set_option maxRecDepth 100000 in
theorem refCauchy_any (n m : Int) (w : World) (h0 : -9223372036854775808 ≤ n) (h1 : n ≤ 9223372036854775807) (h2 : -9223372036854775808 ≤ m) (h3 : m ≤ 9223372036854775807) :
    Calls Seq.prog 43 #[.int .i64 n, .int .i64 m] w fun e w' => GotM (cauL n m) (cauE n m) w e w' := by
  by_cases h : 1 ≤ n ∧ n ≤ 64 ∧ 1 ≤ m ∧ m ≤ 64
  · obtain ⟨N, rfl⟩ := Int.eq_ofNat_of_zero_le (show 0 ≤ n by omega)
    obtain ⟨M, rfl⟩ := Int.eq_ofNat_of_zero_le (show 0 ≤ m by omega)
    obtain ⟨A, hA⟩ : ∃ A : Nat → Nat → UInt8, (fun i j => gi (UInt8.ofNat (M + i) ^^^ UInt8.ofNat j)) = A := ⟨_, rfl⟩
    have HE : Hid (matL N M A = cauL (N : Int) (M : Int) ∧ 0 = cauE (N : Int) (M : Int)) := by
      have he : cauE (N : Int) (M : Int) = 0 := by unfold cauE; rw [if_pos h]
      refine ⟨?_, he.symm⟩
      unfold cauL
      rw [if_pos he, ← hA]
      rfl
    have hN1 : 1 ≤ N := by omega
    have hN2 : N ≤ 64 := by omega
    have hM1 : 1 ≤ M := by omega
    have hM2 : M ≤ 64 := by omega
    have HA : Hid (∀ i j, i < N → j < M → (quo 1 ((M + i) ^^^ j)) = (A i j).toNat ∧ (M + i) ^^^ j < 256) := fun i j hi hj => by rw [← hA]; exact cau_at M i j hM2 (by omega) hj
    clear h h0 h1 h2 h3 hA
    go_enter Seq.func43, Seq.ntmps43
    go_wp2_with fail
    go_loopw [6, 7, 8, 9, 10, 11] (fun v i _ _ _ _ wr => ∃ k : Nat, k ≤ N ∧ i = .int .i64 k ∧ Hid (Gat w.heap.size v (matL k M A) wr ∧ Kept w wr)) (fun _ i _ _ _ _ _ => N - (intOf i).toNat)
    case atStart => exact ⟨0, Nat.zero_le _, rfl, Gat.nil _ _, Kept.refl _⟩
    case round =>
      obtain ⟨i, hi, rfl, HI⟩ := hrel
      by_cases hlt : i < N
      · have hmk := fun W => run_make_row' (P := Seq.prog) 41 5 (.int .u8 0) 1 Seq.underlying41 info_byte rfl .i64 .i64 M (by omega) (by omega) W
        rw [made_zero] at hmk
        have HGW := Lib.hid (fun W (hW : Kept wr W) => (⟨HI.out.1.kept hW, HI.out.2.trans hW⟩ : Gat w.heap.size _ (matL i M _) W ∧ Kept w W))
        have HB := Lib.hid (Byt.made wr M)
        have HK0 : Hid (Kept wr (wr.alloc (.cells (row M fun _ => .int .u8 0) 5))) := (Kept.refl _).alloc _
        clear HI
        generalize hwr : wr = w4 at *
        clear hwr
        generalize (row M fun _ => Value.int .u8 0) = R at *
        go_upto_region 8 with fail
        generalize w4.alloc (.cells R 5) = w5 at *
        obtain ⟨g, hg⟩ : ∃ g, w4.heap.size = g := ⟨_, rfl⟩
        have HGG := Lib.hid hg
        rw [hg] at HB ⊢
        clear hg hmk
        have HSN := Lib.hid (matL_snoc i M A)
        go_wp2_with fail
        go_loopw [9, 10, 11] (fun j _ _ ws => ∃ q : Nat, q ≤ M ∧ j = .int .i64 q ∧ Hid (Kept w4 ws ∧ Byt g M (part (A i) q 0) ws)) (fun j _ _ _ => M - (intOf j).toNat)
        case atStart => exact ⟨0, Nat.zero_le _, rfl, HK0.out, HB.out.congr (fun t ht => by unfold part; rw [if_neg (by omega)]; split <;> rfl)⟩
        case round =>
          obtain ⟨q, hq, rfl, HJ⟩ := hrel
          by_cases hlq : q < M
          · obtain ⟨y, hy⟩ : ∃ y, (M + i) ^^^ q = y := ⟨_, rfl⟩
            have hx := u8_xor_nat (M + i) q (by omega) (by omega)
            have hqv := (HA.out i q hlt hlq).1
            have hy8 := (HA.out i q hlt hlq).2
            rw [hy] at hx hqv hy8
            rw [Int.natCast_add] at hx
            have HQV := Lib.hid hqv
            have hcell := HJ.out.2.cell q hlq
            have hfree := HJ.out.2.free q hlq
            have HB7 : Hid (Kept w4 (wr.setCell ⟨g, q, none⟩ (.int .u8 ((A i q).toNat : Nat))) ∧ Byt g M (part (A i) (q + 1) 0) (wr.setCell ⟨g, q, none⟩ (.int .u8 ((A i q).toNat : Nat)))) :=
              ⟨HJ.out.1.setCell (by rw [HGG.out]; exact Nat.le_refl _) _, (HJ.out.2.set q hlq (A i q)).congr (fun t _ => by rw [part_next, part_set _ _ 0])⟩
            clear hy hqv
            go_wp2_with fail
            refine (refInv_any y hy8 _).mono ?_
            rintro e w6 ⟨rfl, rfl⟩
            rw [HQV.out]
            generalize quoE y = g7 at *
            go_wp2_with fail
            exact ⟨⟨q + 1, by omega, by go_num, HB7⟩, by simp [intOf]; omega⟩
          · obtain rfl : q = M := by omega
            have hcv := byt_string g q q _ wr HJ.out.2
            rw [strOf_congr q _ (A i) (fun t ht => by unfold part; rw [if_pos ht])] at hcv
            have HGJ := Lib.hid (HGW.out wr HJ.out.1)
            have HLN : Hid ((matL i q A).length ≤ 1000000000) := by show _ ≤ _; rw [matL_length]; omega
            clear HJ HGW HB HK0
            go_wp2_with (first | (at_builtin; go_must (refine wpList_gat _ rfl (.tmp 53) (.tmp 56) 50 rfl Seq.underlying50 w _ (matL i q A) rfl (HGJ.out.1.kept ((Kept.refl _).alloc _)) (HGJ.out.2.alloc _) (strOf q (A i)) wr.heap.size rfl (by rw [World.cell?_alloc_mark]; rfl) HLN.out ?_); intro v9 w9 hG9 hK9))
            exact ⟨⟨i + 1, by omega, by go_num, by rw [HSN.out]; exact ⟨hG9, hK9⟩⟩, by simp [intOf]; omega⟩
      · obtain rfl : i = N := by omega
        rw [HE.out.1] at HI
        have HR := Lib.hid HI.out.1
        have HK := Lib.hid HI.out.2
        clear HI
        go_wp2_with fail
        go_ret2
        rw [← HE.out.2]
        exact HR.out.gotM HK.out 0
  · have HE : Hid ([] = cauL n m ∧ 2 = cauE n m) := by
      have he : cauE n m = 2 := by unfold cauE; rw [if_neg h]
      exact ⟨by unfold cauL; rw [he]; rfl, he.symm⟩
    go_enter Seq.func43, Seq.ntmps43
    rcases Int.lt_or_le n 1 with k1 | k1
    · go_wp2_with fail
      go_ret2
      rw [← HE.out.1, ← HE.out.2]
      exact GotM.nil 2 (Kept.refl _)
    · rcases Int.lt_or_le 64 n with k2 | k2
      · go_wp2_with fail
        go_ret2
        rw [← HE.out.1, ← HE.out.2]
        exact GotM.nil 2 (Kept.refl _)
      · rcases Int.lt_or_le m 1 with k3 | k3
        · go_wp2_with fail
          go_ret2
          rw [← HE.out.1, ← HE.out.2]
          exact GotM.nil 2 (Kept.refl _)
        · have k4 : 64 < m := by omega
          clear h
          go_wp2_with fail
          go_ret2
          rw [← HE.out.1, ← HE.out.2]
          exact GotM.nil 2 (Kept.refl _)
end Go.Proofs.Ythifdfbdekkmgaa

/- A block of texts told by a function, made by the call itself. -/
namespace Go.Proofs.Ythifdfbdekkmgaa
open Go.RowKit
set_option linter.unusedVariables false
/-- n texts told by a function lie in block g, and may be written. -/
structure Txt (g n : Nat) (f : Nat → ByteArray) (w : World) : Prop where
  cell : ∀ j, j < n → w.cell? ⟨g, j, none⟩ = some (.string (f j))
  free : ∀ j, j < n → w.frozen? ⟨g, j, none⟩ = false
def updT (f : Nat → ByteArray) (k : Nat) (v : ByteArray) (j : Nat) : ByteArray := if j = k then v else f j
theorem Txt.lt {g n : Nat} {f : Nat → ByteArray} {w : World} (h : Txt g n f w) (h0 : 0 < n) : g < w.heap.size := block_lt_of_cell (h.cell 0 h0)
theorem Txt.drewN {g n : Nat} {f : Nat → ByteArray} {w : World} (h : Txt g n f w) (m : Nat) : Txt g n f (w.drewN m) := ⟨h.cell, h.free⟩
theorem Txt.keptBut {g n : Nat} {f : Nat → ByteArray} {w w' : World} (h : Txt g n f w) {b : Nat} (k : But b w w') (hb : g ≠ b) : Txt g n f w' :=
  ⟨fun j hj => by rw [k.cell (p := ⟨g, j, none⟩) (block_lt_of_cell (h.cell j hj)) hb]; exact h.cell j hj, fun j hj => by rw [k.frozen (p := ⟨g, j, none⟩) (block_lt_of_cell (h.cell j hj)) hb]; exact h.free j hj⟩
theorem Txt.kept {g n : Nat} {f : Nat → ByteArray} {w w' : World} (h : Txt g n f w) (k : Kept w w') : Txt g n f w' :=
  ⟨fun j hj => by rw [(k.but w.heap.size).cell (p := ⟨g, j, none⟩) (block_lt_of_cell (h.cell j hj)) (Nat.ne_of_lt (block_lt_of_cell (h.cell j hj)))]; exact h.cell j hj,
   fun j hj => by rw [(k.but w.heap.size).frozen (p := ⟨g, j, none⟩) (block_lt_of_cell (h.cell j hj)) (Nat.ne_of_lt (block_lt_of_cell (h.cell j hj)))]; exact h.free j hj⟩
theorem Txt.set {g n : Nat} {f : Nat → ByteArray} {w : World} (h : Txt g n f w) (k : Nat) (hk : k < n) (v : ByteArray) : Txt g n (updT f k v) (w.setCell ⟨g, k, none⟩ (.string v)) := by
  refine ⟨fun j hj => ?_, fun j hj => by rw [World.frozen?_setCell]; exact h.free j hj⟩
  unfold updT
  by_cases e : j = k
  · subst e
    rw [if_pos rfl, World.cell?_setCell_same _ _ _ (h.cell j hj)]
  · rw [if_neg e, World.cell?_setCell_other _ _ _ _ (fun h => e (by injection h with _ e2; exact e2.symm)), h.cell j hj]
theorem Txt.congr {g n : Nat} {f f' : Nat → ByteArray} {w : World} (h : Txt g n f w) (e : ∀ j, j < n → f' j = f j) : Txt g n f' w :=
  ⟨fun j hj => by rw [e j hj]; exact h.cell j hj, h.free⟩
theorem made_none (n : Nat) : madeCells #[Value.string ByteArray.empty] n = row n fun _ => .string ByteArray.empty := by
  apply Array.ext'
  rw [toList_madeCells_one]
  unfold row
  simp
  apply List.ext_getElem?
  intro i
  by_cases h : i < n <;> simp [h]
theorem Txt.made (w : World) (n : Nat) : Txt w.heap.size n (fun _ => ByteArray.empty) (w.alloc (.cells (row n fun _ => .string ByteArray.empty) 9)) := by
  refine ⟨fun j hj => ?_, fun j hj => ?_⟩
  · rw [World.cell?_alloc_mark, row_get _ _ j hj]
  · rw [World.frozen?_alloc_mark]; simp
/-- The texts, as a slice. -/
theorem Txt.strs {g n : Nat} {f : Nat → ByteArray} {w : World} (h : Txt g n f w) (ss : List ByteArray) (hl : ss.length = n) (e : ∀ i, i < n → nth ss i = f i) : Strs w (some ⟨g, 0, none⟩) ss := by
  refine .inr ⟨g, 0, rfl, fun i hi => ?_⟩
  have hi' : i < n := by omega
  rw [Nat.zero_add, h.cell i hi', ← e i hi']
  rfl
end Go.Proofs.Ythifdfbdekkmgaa

/- What the program's calls on matrices answer: side, May, Unit. -/
namespace Go.Proofs.Ythifdfbdekkmgaa
open Go.RowKit Gf
set_option linter.unusedVariables false
def sideB (n : Int) : Bool := decide (1 ≤ n ∧ n ≤ 64)
set_option maxRecDepth 100000 in
theorem side_any (n : Int) (w : World) (h0 : -9223372036854775808 ≤ n) (h1 : n ≤ 9223372036854775807) :
    Calls Seq.prog 76 #[.int .i64 n] w fun e w' => e = .returned (.bool (sideB n)) ∧ w' = w := by
  by_cases h2 : 1 ≤ n
  · by_cases h3 : n ≤ 64
    · have HE : Hid (sideB n = true) := decide_eq_true ⟨h2, h3⟩
      go_enter Seq.func76, Seq.ntmps76
      go_wp2_with fail
      go_ret
      exact ⟨by rw [HE.out]; rfl, rfl⟩
    · have HE : Hid (sideB n = false) := decide_eq_false (fun h => h3 h.2)
      go_enter Seq.func76, Seq.ntmps76
      go_wp2_with fail
      go_ret
      exact ⟨by rw [HE.out]; rfl, rfl⟩
  · have HE : Hid (sideB n = false) := decide_eq_false (fun h => h2 h.1)
    go_enter Seq.func76, Seq.ntmps76
    go_wp2_with fail
    go_ret
    exact ⟨by rw [HE.out]; rfl, rfl⟩
theorem side_nat (n : Nat) (w : World) (h1 : n ≤ 9223372036854775807) :
    Calls Seq.prog 76 #[.int .i64 (n : Int)] w fun e w' => e = .returned (.bool (sideB n)) ∧ w' = w := side_any n w (by omega) (by omega)
theorem sideB_yes {n : Int} (h : sideB n = true) : 1 ≤ n ∧ n ≤ 64 := of_decide_eq_true h
theorem sideB_no {n : Int} (h : sideB n = false) : ¬ (1 ≤ n ∧ n ≤ 64) := of_decide_eq_false h
set_option maxRecDepth 100000 in
theorem pMay_any (a : Option Addr) (cap : Nat) (ss : List ByteArray) (w : World) (hS : Strs w a ss) (hm : ss.length ≤ maxLen) (hz : ∀ s ∈ ss, s.size ≤ maxLen) :
    Calls Seq.prog 79 #[.slice a ss.length cap] w fun e w' => e = .returned (.bool (mayB ss)) ∧ Kept w w' := by
  obtain ⟨b, o, hc⟩ := strs_at hS
  have HC := Lib.hid hc
  have HZ : Hid (∀ i, i < ss.length → (nth ss i).size ≤ maxLen) := fun i hi => hz _ (by rw [← nth_get ss i hi]; exact List.getElem_mem hi)
  clear hc hS hz
  unfold maxLen at hm
  go_enter Seq.func79, Seq.ntmps79
  go_wp2_with fail
  refine (side_nat ss.length _ (by omega)).mono ?_
  rintro e w1 ⟨rfl, rfl⟩
  cases h1 : sideB ss.length
  · have HE := Lib.hid (may_no ss (fun h => sideB_no h1 ⟨by omega, by omega⟩))
    clear HC HZ
    go_wp2_with fail
    go_ret
    exact ⟨by rw [HE.out]; rfl, Kept.refl _⟩
  · have h1' := sideB_yes h1
    obtain ⟨ha, hc⟩ := HC.out (by omega)
    have hc0 := hc 0 (by omega)
    have hz0 := HZ.out 0 (by omega)
    unfold maxLen at hz0
    rw [Nat.add_zero] at hc0
    rw [ha]
    obtain ⟨q, hq⟩ : ∃ q, nth ss 0 = q := ⟨_, rfl⟩
    rw [hq] at hc0 hz0
    have HQ := Lib.hid hq
    have HCC := Lib.hid hc
    clear hc ha hq HC
    go_wp2_with fail
    refine (side_nat q.size _ (by omega)).mono ?_
    rintro e w1 ⟨rfl, rfl⟩
    cases h2 : sideB q.size
    · have HE := Lib.hid (may_no ss (fun h => sideB_no h2 ⟨by rw [HQ.out] at h; omega, by rw [HQ.out] at h; omega⟩))
      go_wp2_with fail
      go_ret
      exact ⟨by rw [HE.out]; rfl, Kept.refl _⟩
    · have h2' := sideB_yes h2
      have HE := Lib.hid (may_even ss (by rw [HQ.out]; omega))
      go_wp2_with fail
      go_loop [4, 19] (fun _ i => ∃ k : Nat, k ≤ ss.length ∧ i = .int .i64 k ∧ Hid (∀ j, j < k → (nth ss j).size = (nth ss 0).size)) (fun _ i => ss.length - (intOf i).toNat)
      case atStart => exact ⟨0, Nat.zero_le _, rfl, fun j hj => by omega⟩
      case round =>
        obtain ⟨k, hk, rfl, HY⟩ := hrel
        by_cases hlt : k < ss.length
        · have hck := HCC.out k hlt
          have hzk := HZ.out k hlt
          have HNO := Lib.hid (even_no ss k hlt)
          have HN : Hid ((nth ss k).size = (nth ss 0).size → ∀ j, j < k + 1 → (nth ss j).size = (nth ss 0).size) := fun h j hj => by
            by_cases e : j = k
            · subst e; exact h
            · exact HY.out j (by omega)
          unfold maxLen at hzk
          rw [HQ.out] at HNO HN
          generalize nth ss k = p at *
          by_cases he : p.size = q.size
          · have he1 : ((p.size : Int) == (q.size : Int)) = true := by simp [he]
            have HN2 := Lib.hid (HN.out he)
            clear HN HNO
            go_wp2_with fail
            exact ⟨⟨k + 1, by omega, by go_num, by rw [HQ.out]; exact HN2.out⟩, by simp [intOf]; omega⟩
          · have he1 : ((p.size : Int) == (q.size : Int)) = false := by simp; omega
            have HE2 := Lib.hid (HNO.out he)
            clear HN HNO
            go_wp2_with fail
            go_ret
            exact ⟨by rw [HE.out, HE2.out]; rfl, Kept.refl _⟩
        · obtain rfl : k = ss.length := by omega
          have HE2 := Lib.hid (even_yes ss HY.out)
          clear HY HCC HZ
          go_wp2_with fail
          go_ret
          exact ⟨by rw [HE.out, HE2.out]; rfl, Kept.refl _⟩
end Go.Proofs.Ythifdfbdekkmgaa

/- What the program's calls on matrices answer: Unit, Times, Cauchy. -/
namespace Go.Proofs.Ythifdfbdekkmgaa
open Go.RowKit Gf
set_option linter.unusedVariables false
/-- The first k texts are there, the others not yet. -/
def fillT (A : Nat → ByteArray) (k j : Nat) : ByteArray := if j < k then A j else ByteArray.empty
theorem fillT_next (A : Nat → ByteArray) (k j : Nat) : fillT A (k + 1) j = updT (fillT A k) k (A k) j := by
  unfold updT
  by_cases e : j = k
  · subst e; unfold fillT; rw [if_pos (by omega), if_pos rfl]
  · rw [if_neg e]
    unfold fillT
    by_cases h : j < k
    · rw [if_pos (by omega), if_pos h]
    · rw [if_neg (by omega), if_neg h]
/-- What a call that has filled a row of its own leaves. -/
theorem Txt.mat {w : World} {g n m : Nat} {A : Nat → Nat → UInt8} (h : Txt g n (fillT (fun i => strOf m (A i)) n) w) : Strs w (some ⟨g, 0, none⟩) (matL n m A) :=
  h.strs _ (matL_length _ _ _) (fun i hi => by rw [nth_matL _ _ _ _ hi]; unfold fillT; rw [if_pos hi])
theorem Txt.gotL {w0 w : World} {g n m cap : Nat} {A : Nat → Nat → UInt8} (h : Txt g n (fillT (fun i => strOf m (A i)) n) w) (k : Kept w0 w) : GotL (matL n m A) w0 (.returned (.slice (some ⟨g, 0, none⟩) n cap)) w :=
  ⟨_, cap, by rw [matL_length], h.mat, k⟩
theorem Txt.gotM {w0 w : World} {g n m cap : Nat} {A : Nat → Nat → UInt8} (h : Txt g n (fillT (fun i => strOf m (A i)) n) w) (k : Kept w0 w) : GotM (matL n m A) 0 w0 (.returned (.tuple #[.slice (some ⟨g, 0, none⟩) n cap, .int .i64 0])) w :=
  ⟨_, cap, by rw [matL_length], h.mat, k⟩
/-- Room for n texts, made just now. -/
theorem make_txt (n : Nat) (hn : n ≤ 1000000) (W : World) : (Instr.makeSlice 50 (.int .i64 (n : Int)) (.int .i64 (n : Int))).run Seq.prog W = .ok (.slice (some ⟨W.heap.size, 0, none⟩) n n) (W.alloc (.cells (row n fun _ => .string ByteArray.empty) 9)) := by
  have hmk := run_make_row' (P := Seq.prog) 50 9 (.string ByteArray.empty) 16 Seq.underlying50 info_string rfl .i64 .i64 n (by omega) (by omega) W
  rw [made_none] at hmk
  exact hmk
/-- What Unit leaves: a row of its own. -/
def UnitT (n : Int) (w : World) (e : Ending) (w' : World) : Prop :=
  (¬ (1 ≤ n ∧ n ≤ 64) ∧ e = .returned (.slice none 0 0) ∧ Kept w w') ∨
  ∃ G, (1 ≤ n ∧ n ≤ 64) ∧ e = .returned (.slice (some ⟨G, 0, none⟩) n.toNat n.toNat) ∧ w.heap.size ≤ G ∧ Txt G n.toNat (fillT (fun i => strOf n.toNat (un i)) n.toNat) w' ∧ Kept w w'
set_option maxHeartbeats 1000000 in
set_option maxRecDepth 100000 in
theorem pUnit_txt (n : Int) (w : World) (h0 : -9223372036854775808 ≤ n) (h1 : n ≤ 9223372036854775807) :
    Calls Seq.prog 39 #[.int .i64 n] w fun e w' => UnitT n w e w' := by
  go_enter Seq.func39, Seq.ntmps39
  go_wp2_with fail
  refine (side_any n _ h0 h1).mono ?_
  rintro e w1 ⟨rfl, rfl⟩
  cases hs : sideB n
  · have hno := sideB_no hs
    have HNO := Lib.hid hno
    clear hno
    go_wp2_with fail
    go_ret
    exact .inl ⟨HNO.out, rfl, Kept.refl _⟩
  · obtain ⟨h2, h3⟩ := sideB_yes hs
    obtain ⟨N, rfl⟩ := Int.eq_ofNat_of_zero_le (show 0 ≤ n by omega)
    have HSD : Hid (1 ≤ (N : Int) ∧ (N : Int) ≤ 64) := ⟨h2, h3⟩
    have hN1 : 1 ≤ N := by omega
    have hN2 : N ≤ 64 := by omega
    have hmk := fun W => make_txt N (by omega) W
    have HT := Lib.hid (Txt.made w1 N)
    have HK : Hid (Kept w1 (w1.alloc (.cells (row N fun _ => .string ByteArray.empty) 9))) := (Kept.refl _).alloc _
    clear h0 h1 h2 h3
    generalize (row N fun _ => Value.string ByteArray.empty) = R0 at *
    go_upto_region 4 with fail
    generalize w1.alloc (.cells R0 9) = w2 at *
    obtain ⟨G, hG⟩ : ∃ G, w1.heap.size = G := ⟨_, rfl⟩
    have HG := Lib.hid hG
    rw [hG] at HT ⊢
    clear hG hmk
    go_wp2_with fail
    go_loopw [13, 4, 5] (fun i _ _ wr => ∃ k : Nat, k ≤ N ∧ i = .int .i64 k ∧ Hid (Txt G N (fillT (fun i => strOf N (un i)) k) wr ∧ Kept w1 wr)) (fun i _ _ _ => N - (intOf i).toNat)
    case atStart => exact ⟨0, Nat.zero_le _, rfl, HT.out.congr (fun j hj => by unfold fillT; rw [if_neg (by omega)]), HK.out⟩
    case round =>
      obtain ⟨k, hk, rfl, HI⟩ := hrel
      by_cases hlt : k < N
      · have hmk := fun W => run_make_row' (P := Seq.prog) 41 5 (.int .u8 0) 1 Seq.underlying41 info_byte rfl .i64 .i64 N (by omega) (by omega) W
        rw [made_zero] at hmk
        have HB := Lib.hid (Byt.made wr N)
        have HK0 : Hid (Kept wr (wr.alloc (.cells (row N fun _ => .int .u8 0) 5))) := (Kept.refl _).alloc _
        generalize (row N fun _ => Value.int .u8 0) = R at *
        go_upto_region 8 with fail
        generalize wr.alloc (.cells R 5) = w5 at *
        obtain ⟨g, hg⟩ : ∃ g, wr.heap.size = g := ⟨_, rfl⟩
        have HGG := Lib.hid hg
        rw [hg] at HB ⊢
        clear hg hmk
        have hcell := HB.out.cell k hlt
        have hfree := HB.out.free k hlt
        have HB6 := HB.out.set k hlt 1
        have hcv := byt_string g N N _ _ HB6
        rw [strOf_congr N _ (un k) (fun j _ => unit_bt N k j)] at hcv
        rw [show ((1 : UInt8).toNat : Int) = 1 from rfl] at hcv
        have HW6 : Hid (Kept wr (w5.setCell ⟨g, k, none⟩ (.int .u8 1))) := HK0.out.setCell (by rw [HGG.out]; exact Nat.le_refl _) _
        clear HB6
        go_upto_region 9 with fail
        generalize w5.setCell ⟨g, k, none⟩ (.int .u8 1) = w6 at *
        clear hcell hfree
        have HT6 := Lib.hid (HI.out.1.kept HW6.out)
        have hcell := HT6.out.cell k hlt
        have hfree := HT6.out.free k hlt
        have HF : Hid (Txt G N (fillT (fun i => strOf N (un i)) (k + 1)) (w6.setCell ⟨G, k, none⟩ (.string (strOf N (un k)))) ∧ Kept w1 (w6.setCell ⟨G, k, none⟩ (.string (strOf N (un k))))) :=
          ⟨(HT6.out.set k hlt _).congr (fun j _ => fillT_next _ k j), (HI.out.2.trans HW6.out).setCell (by rw [HG.out]; exact Nat.le_refl _) _⟩
        generalize strOf N (un k) = s at *
        go_wp2_with fail
        exact ⟨⟨k + 1, by omega, by go_num, HF⟩, by simp [intOf]; omega⟩
      · obtain rfl : k = N := by omega
        have HR := Lib.hid HI.out.1
        have HK := Lib.hid HI.out.2
        clear HI
        go_wp2_with fail
        go_ret
        exact .inr ⟨G, HSD.out, rfl, HG.out ▸ Nat.le_refl _, HR.out, HK.out⟩
theorem pUnit_any (n : Int) (w : World) (h0 : -9223372036854775808 ≤ n) (h1 : n ≤ 9223372036854775807) :
    Calls Seq.prog 39 #[.int .i64 n] w fun e w' => GotL (unitL n) w e w' := by
  refine (pUnit_txt n w h0 h1).mono ?_
  rintro e w' (⟨hn, rfl, hk⟩ | ⟨G, hn, rfl, hG, hT, hk⟩)
  · have hu : unitL n = [] := by unfold unitL; rw [if_neg hn]
    rw [hu]
    exact ⟨none, 0, rfl, .inl rfl, hk⟩
  · have hu : unitL n = matL n.toNat n.toNat un := by unfold unitL; rw [if_pos hn]
    rw [hu]
    exact hT.gotL hk
/-- The product's row is a sum of rows. -/
theorem acc_sm (c : ByteArray) (ts : List ByteArray) (K j : Nat) : acc c ts K j = sm K fun t => gm (bt c t) (mt ts t j) := by
  induction K with
  | zero => rfl
  | succ K ih =>
    rw [acc, sm, ih]
    congr 1
theorem sum_row (ss ts : List ByteArray) (i m : Nat) (h1 : (nth ss i).size = ts.length) (h2 : evenB ts = true) (h3 : (nth ts 0).size = m) : sumS (nth ss i) ts = strOf m (mm ts.length (mt ss) (mt ts) i) := by
  unfold sumS sumOk
  rw [h2, decide_eq_true h1, if_pos (by rfl), h3]
  exact strOf_congr _ _ _ (fun j _ => acc_sm _ _ _ _)
set_option maxHeartbeats 1000000 in
set_option maxRecDepth 100000 in
theorem pTimes_any (a b : Option Addr) (ca cb : Nat) (ss ts : List ByteArray) (w : World) (hS : Strs w a ss) (hT : Strs w b ts) (hm : ss.length ≤ maxLen) (hn : ts.length ≤ maxLen) (hz1 : ∀ s ∈ ss, s.size ≤ maxLen) (hz2 : ∀ s ∈ ts, s.size ≤ maxLen) :
    Calls Seq.prog 54 #[.slice a ss.length ca, .slice b ts.length cb] w fun e w' => GotM (prodL ss ts) (prodE ss ts) w e w' := by
  obtain ⟨b1, o1, hc1⟩ := strs_at hS
  have HS := Lib.hid hS
  have HT := Lib.hid hT
  have HM1 := Lib.hid hm
  have HM2 := Lib.hid hn
  have HZ1 := Lib.hid hz1
  have HZ2 := Lib.hid hz2
  have H1 := Lib.hid hc1
  clear hS hT hm hn hz1 hz2 hc1
  go_enter Seq.func54, Seq.ntmps54
  go_wp2_with fail
  refine (pMay_any a ca ss _ HS.out HM1.out HZ1.out).mono ?_
  rintro e w1 ⟨rfl, k1⟩
  cases hma : mayB ss
  · have HE : Hid ([] = prodL ss ts ∧ 8 = prodE ss ts) := by
      have h8 : prodE ss ts = 8 := by unfold prodE; rw [hma]; simp
      exact ⟨by unfold prodL; rw [h8]; rfl, h8.symm⟩
    clear hma
    go_wp2_with fail
    go_ret2
    rw [← HE.out.1, ← HE.out.2]
    exact GotM.nil 8 k1
  · go_wp2_with fail
    refine (pMay_any b cb ts _ (HT.out.kept k1) HM2.out HZ2.out).mono ?_
    rintro e w2 ⟨rfl, k2⟩
    have k12 := k1.trans k2
    clear k1 k2
    cases hmb : mayB ts
    · have HE : Hid ([] = prodL ss ts ∧ 8 = prodE ss ts) := by
        have h8 : prodE ss ts = 8 := by unfold prodE; rw [hmb]; simp
        exact ⟨by unfold prodL; rw [h8]; rfl, h8.symm⟩
      clear hma hmb
      go_wp2_with fail
      go_ret2
      rw [← HE.out.1, ← HE.out.2]
      exact GotM.nil 8 k12
    · obtain ⟨a1, a2, a3, a4, _⟩ := may_yes ss hma
      obtain ⟨b1', b2', b3', b4', hev⟩ := may_yes ts hmb
      obtain ⟨ha, hc1⟩ := H1.out (by omega)
      have HC1 : Hid (∀ W, Kept w W → ∀ i, i < ss.length → W.cell? ⟨b1, o1 + i, none⟩ = some (.string (nth ss i))) := fun W hW i hi => by rw [Below.cell hW (block_lt_of_cell (hc1 i hi)), hc1 i hi]
      have HMA := Lib.hid (may_size ss hma)
      have HMB := Lib.hid (may_size ts hmb)
      have hc0 := HC1.out w2 k12 0 (by omega)
      rw [Nat.add_zero] at hc0
      rw [ha]
      clear hc1 ha H1 HM1 HM2 HZ1 HZ2 HS
      by_cases hs : (nth ss 0).size = ts.length
      · have hsb : (((nth ss 0).size : Int) == (ts.length : Int)) = true := by simp [hs]
        have HE : Hid (matL ss.length (nth ts 0).size (mm ts.length (mt ss) (mt ts)) = prodL ss ts ∧ 0 = prodE ss ts) := by
          have h0 : prodE ss ts = 0 := by unfold prodE; rw [if_pos ⟨hma, hmb⟩, if_pos hs]
          exact ⟨by unfold prodL; rw [if_pos h0], h0.symm⟩
        obtain ⟨m, hm⟩ : ∃ m, (nth ts 0).size = m := ⟨_, rfl⟩
        rw [hm] at HE HMB b3' b4'
        rw [hs] at HMA
        have HROW : Hid (∀ i, i < ss.length → sumS (nth ss i) ts = strOf m (mm ts.length (mt ss) (mt ts) i)) := fun i hi => sum_row ss ts i m (HMA.out i hi) hev hm
        have HZT : Hid (∀ s ∈ ts, s.size ≤ 100000000) := fun s hs => by
          obtain ⟨j, hj, rfl⟩ := List.getElem_of_mem hs
          rw [nth_get ts j hj, HMB.out j hj]
          omega
        clear hma hmb hm hev
        generalize nth ss 0 = p0 at *
        have hmk := fun W => make_txt ss.length (by omega) W
        have HTM := Lib.hid (Txt.made w2 ss.length)
        have HK : Hid (Kept w2 (w2.alloc (.cells (row ss.length fun _ => .string ByteArray.empty) 9))) := (Kept.refl _).alloc _
        generalize (row ss.length fun _ => Value.string ByteArray.empty) = R0 at *
        go_upto_region 6 with fail
        clear hc0 hsb hs a3 a4
        generalize w2.alloc (.cells R0 9) = w3 at *
        obtain ⟨G, hG⟩ : ∃ G, w2.heap.size = G := ⟨_, rfl⟩
        have HG := Lib.hid hG
        rw [hG] at HTM ⊢
        have HGW : Hid (w.heap.size ≤ G) := by rw [← hG]; exact k12.size
        clear hG hmk
        have HK3 := Lib.hid (k12.trans HK.out)
        obtain ⟨A, hA⟩ : ∃ A, mm ts.length (mt ss) (mt ts) = A := ⟨_, rfl⟩
        rw [hA] at HE HROW
        clear hA
        go_wp2_with fail
        go_loopw [31, 7, 8] (fun i _ _ wr => ∃ k : Nat, k ≤ ss.length ∧ i = .int .i64 k ∧ Hid (Txt G ss.length (fillT (fun i => strOf m (A i)) k) wr ∧ Kept w wr)) (fun i _ _ _ => ss.length - (intOf i).toNat)
        case atStart => exact ⟨0, Nat.zero_le _, rfl, HTM.out.congr (fun j hj => by unfold fillT; rw [if_neg (by omega)]), HK3.out⟩
        case round =>
          obtain ⟨k, hk, rfl, HI⟩ := hrel
          by_cases hlt : k < ss.length
          · have hck := HC1.out wr HI.out.2 k hlt
            have hzk := HMA.out k hlt
            have HRK := Lib.hid (HROW.out k hlt)
            generalize nth ss k = p at *
            go_wp2_with fail
            refine (sum_any p b cb ts _ (HT.out.kept HI.out.2) (by omega) HZT.out (by omega)).mono ?_
            rintro e w4 ⟨rfl, k4⟩
            rw [HRK.out]
            have HT6 := Lib.hid (HI.out.1.kept k4)
            have hcell := HT6.out.cell k hlt
            have hfree := HT6.out.free k hlt
            have HF : Hid (Txt G ss.length (fillT (fun i => strOf m (A i)) (k + 1)) (w4.setCell ⟨G, k, none⟩ (.string (strOf m (A k)))) ∧ Kept w (w4.setCell ⟨G, k, none⟩ (.string (strOf m (A k))))) :=
              ⟨(HT6.out.set k hlt _).congr (fun j _ => fillT_next _ k j), (HI.out.2.trans k4).setCell HGW.out _⟩
            generalize strOf m (A k) = s at *
            generalize sumE p ts = se at *
            go_wp2_with fail
            exact ⟨⟨k + 1, by omega, by go_num, HF⟩, by simp [intOf]; omega⟩
          · obtain rfl : k = ss.length := by omega
            have HR := Lib.hid HI.out.1
            have HK := Lib.hid HI.out.2
            clear HI
            go_wp2_with fail
            go_ret2
            rw [← HE.out.1, ← HE.out.2]
            exact HR.out.gotM HK.out
      · have hsb : (((nth ss 0).size : Int) == (ts.length : Int)) = false := by simp; omega
        have HE : Hid ([] = prodL ss ts ∧ 50 = prodE ss ts) := by
          have h0 : prodE ss ts = 50 := by unfold prodE; rw [if_pos ⟨hma, hmb⟩, if_neg hs]
          exact ⟨by unfold prodL; rw [h0]; rfl, h0.symm⟩
        clear hma hmb hev
        generalize nth ss 0 = p0 at *
        go_wp2_with fail
        go_ret2
        rw [← HE.out.1, ← HE.out.2]
        exact GotM.nil 50 k12
end Go.Proofs.Ythifdfbdekkmgaa

/- A text appended to bytes of the call's own: what is there then, whether there was room or not. -/
namespace Go.Proofs.Ythifdfbdekkmgaa
open Go.RowKit Go.Lib
set_option linter.unusedVariables false
/-- Behind the first n cells of block g there is room up to cap. -/
structure Spare (g n cap : Nat) (w : World) : Prop where
  there : ∀ j, n ≤ j → j < cap → (w.cell? ⟨g, j, none⟩).isSome = true
  free : ∀ j, n ≤ j → j < cap → w.frozen? ⟨g, j, none⟩ = false
/-- Bytes, and a text behind them. -/
def cat2 (n : Nat) (f : Nat → UInt8) (s : ByteArray) (j : Nat) : UInt8 := if j < n then f j else bt s (j - n)
theorem strCells_get (s : ByteArray) (j : Nat) (h : j < s.size) : (strCells s)[j]? = some (.int .u8 ((bt s j).toNat : Nat)) := by
  unfold strCells bt
  have h2 : j < s.data.toList.length := by simpa using h
  rw [List.getElem?_map, List.getElem?_eq_getElem h2, getElem!_pos s.data.toList j h2]
  rfl
theorem Spare.conv (w : World) (s : ByteArray) (cap : Nat) (t : TypeId) : Spare w.heap.size s.size (bytesRow s cap).size (w.drew.alloc (.cells (bytesRow s cap) t ((bytesRow s cap).size, (bytesRow s cap).size + 1))) := by
  refine ⟨fun j h1 h2 => ?_, fun j h1 h2 => ?_⟩
  · show ((w.alloc (Obj.cells (bytesRow s cap) _ _)).cell? _).isSome = _
    rw [World.cell?_alloc_mark, Array.getElem?_eq_getElem h2]
    rfl
  · show (w.alloc (Obj.cells (bytesRow s cap) _ _)).frozen? _ = _
    rw [World.frozen?_alloc_mark]
    simp
    omega
theorem bytesRow_size (s : ByteArray) (cap : Nat) (h : s.size ≤ cap) : (bytesRow s cap).size = cap := by
  unfold bytesRow
  rw [Array.size_append, Array.size_map, Array.size_replicate]
  show s.size + _ = _
  omega
theorem but_setCells (b : Nat) : ∀ (vs : List Value) (o : Nat) (u w : World), But b u w → But b u (w.setCells b o vs)
  | [], _, _, _, h => h
  | v :: r, o, u, w, h => but_setCells b r (o + 1) u _ (h.setCell o v)
theorem app_text {g n cap : Nat} {f : Nat → UInt8} {w : World} (ty : TypeId) (hB : Byt g n f w) (hS : Spare g n cap w) (hg : g < w.heap.size) (s : ByteArray) (hn : n + s.size ≤ 1000000000) :
    ∃ g' cap' w', (Builtin.append_ #[41, 9] ty #[.slice (some ⟨g, 0, none⟩) n cap, .string s]).run Seq.prog w = .ok (.slice (some ⟨g', 0, none⟩) (n + s.size) cap') w' ∧ Byt g' (n + s.size) (cat2 n f s) w' ∧ But g w w' ∧ (g' = g ∨ g' = w.heap.size) ∧ g' < w'.heap.size ∧ n + s.size ≤ cap' := by
  obtain ⟨i0, hi, hzz⟩ := Option.map_eq_some_iff.1 info_byte
  simp only [Prod.mk.injEq] at hzz
  obtain ⟨hz, hs1, hby⟩ := hzz
  by_cases hroom : n + s.size ≤ cap
  · have hf := run_firstCells_string (P := Seq.prog) w 1 s
    have hc : ∀ j, j < (strCells s).length → (w.cell? ⟨g, n + j, none⟩).isSome = true := fun j hj => by rw [strCells_length] at hj; exact hS.there _ (by omega) (by omega)
    have hfr : ∀ j, j < (strCells s).length → w.frozen? ⟨g, n + j, none⟩ = false := fun j hj => by rw [strCells_length] at hj; exact hS.free _ (by omega) (by omega)
    have hst := run_storeCells_cells (P := Seq.prog) g n (strCells s) 0 w (by simpa using hc) (by simpa using hfr) (strCells_oneCell s)
    simp only [Nat.add_zero] at hst
    refine ⟨g, cap, w.setCells g n (strCells s), ?_, ⟨fun j hj => ?_, fun j hj => ?_⟩, but_setCells g _ n _ _ (But.refl _ _), .inl rfl, ?_, hroom⟩
    · simp [Builtin.append_, run_underlying Seq.underlying41, run_underlying Seq.underlying9, sizeOf, typeInfo, hi, hs1, Builtin.lenOf, hroom, hf, Addr.add_lit, hst]
    · by_cases h : j < n
      · rw [World.cell?_setCells_out g _ n w _ (fun _ _ => .inl h), hB.cell j h]
        unfold cat2
        rw [if_pos h]
      · have e := World.cell?_setCells_in g (strCells s) n w hc (j - n) (by rw [strCells_length]; omega)
        rw [show n + (j - n) = j from by omega] at e
        rw [e, ← List.getElem?_eq_getElem, strCells_get s (j - n) (by omega)]
        unfold cat2
        rw [if_neg h]
    · rw [World.frozen?_setCells]
      by_cases h : j < n
      · exact hB.free j h
      · exact hS.free j (by omega) (by omega)
    · exact Nat.lt_of_lt_of_le hg (but_setCells g (strCells s) n w w (But.refl _ _)).size
  · have holds : ∀ j v, ((List.range n).map fun j => Value.int .u8 ((f j).toNat : Nat))[j]? = some v → w.cell? ((⟨g, 0, none⟩ : Addr).add j) = some v := fun j v hj => by
      rw [List.getElem?_map] at hj
      by_cases h : j < n
      · rw [List.getElem?_range h] at hj
        rw [add_at, hB.cell j h]
        exact hj
      · rw [List.getElem?_eq_none (by rw [List.length_range]; omega)] at hj
        cases hj
    have hr := run_append_grow_string (P := Seq.prog) w 41 9 ty 5 i0 (.int .u8 0) Seq.underlying41 Seq.underlying9 hi hz ⟨g, 0, none⟩ n cap ((List.range n).map fun j => Value.int .u8 ((f j).toNat : Nat)) (by rw [hs1]; simp) holds s (by omega) (by omega) (by rw [hby]; exact growslice_fits (by omega) (by omega))
    refine ⟨w.heap.size, _, _, hr, ⟨fun j hj => ?_, fun j hj => ?_⟩, ⟨rfl, rfl, rfl, ?_, fun k hk _ => _root_.Go.heap_alloc_old w.drew _ hk⟩, .inr rfl, ?_, grownCap_ge _ _ _ _⟩
    · show (w.drew.alloc _).cell? ⟨w.drew.heap.size, j, none⟩ = _
      rw [World.cell?_alloc_mark]
      by_cases h : j < n
      · rw [Array.getElem?_append_left (by simp; omega), Array.getElem?_append_left (by simp; omega)]
        unfold cat2
        rw [if_pos h]
        simp [h]
      · rw [Array.getElem?_append_left (by simp [strCells_length]; omega), Array.getElem?_append_right (by simp; omega)]
        have e := strCells_get s (j - n) (by omega)
        unfold cat2
        rw [if_neg h]
        simpa using e
    · show (w.drew.alloc _).frozen? ⟨w.drew.heap.size, j, none⟩ = _
      rw [World.frozen?_alloc_mark]
      simp
    · show w.heap.size ≤ (w.heap.push _).size
      simp
    · show w.heap.size < (w.heap.push _).size
      simp
/-- The same at a step of a region that draws its order. -/
theorem step_app {ops : Array Oper} {o : Oper} {a : Act} {w : World} {K : Act → World → Prop} {Q : Exit → Act → World → Prop} {E : Prop} (hgd : o.guard = none) (sl x : Operand)
    (ho : o.op = .call { callee := .builtin .append, args := #[sl, x], argTypes := #[41, 9] })
    (g n cap m : Nat) (f : Nat → UInt8) (s : ByteArray) (hs : a.eval sl = .slice (some ⟨g, 0, none⟩) n cap) (hx : a.eval x = .string s) (hB : Byt g n f w) (hS : Spare g n cap w) (hg : g < w.heap.size) (hm : n + s.size = m) (hn : m ≤ 1000000000)
    (h : ∀ g' cap' w', Byt g' m (cat2 n f s) w' → But g w w' → (g' = g ∨ g' = w.heap.size) → g' < w'.heap.size → m ≤ cap' → K (a.put o.dst (.slice (some ⟨g', 0, none⟩) m cap')) w') :
    if Region.wanted o (yielded ops a.tmps) = true then Oper.wp Seq.prog o a w K Q else E := by
  have hw : Region.wanted o (yielded ops a.tmps) = true := by simp [Region.wanted, hgd]
  rw [if_pos hw]
  subst hm
  obtain ⟨g', cap', w', hrun, h1, h2, h3, h4, h5⟩ := app_text o.type hB hS hg s hn
  unfold Oper.wp
  simp [execOp, ho, resolve, invoke, builtin, hs, hx, hrun, Result.andThen]
  exact h g' cap' w' h1 h2 h3 h4 h5
end Go.Proofs.Ythifdfbdekkmgaa

