/- KFieldCode, KFieldOne, KBut. -/
import Derived.Test.YthifdfbdekkmgaaPart26
import Derived.Test.YthifdfbdekkmgaaPart27
import Derived.BigRegion
import Derived.BigQuiet
import Derived.OpenShut
import Derived.Deep.DeepCutAuto
import Derived.Deep.WholeRow
import Derived.Test.YthifdfbdekkmgaaPart25
set_option linter.unusedVariables false
set_option linter.unusedSimpArgs false
set_option linter.unusedSectionVars false
set_option linter.unnecessarySimpa false
set_option linter.deprecated false
/- What byPowers answers: the powers of 2 and the logarithms, in two arrays. -/
namespace Go.Proofs.Ythifdfbdekkmgaa.Kid
open Go.RowKit Gf
set_option linter.unusedVariables false
theorem zero_arr (w : World) : (zeroValue 115).run Kid.prog w = .ok (.agg (row 766 fun _ => .int .u8 0)) w := by kernel_rfl
theorem info_arr : (Kid.prog.info? 115).map (·.size) = some 766 := by kernel_rfl
/-- The cells of both arrays, k powers of 2 in them. -/
def tabF (k : Nat) : Array Value := row 766 fun j => .int .u8 (tb k j : Nat)
theorem tab_one (k : Nat) : (tabF k).all (·.oneCell') = true := row_one 766 .u8 _
theorem tab_size (k : Nat) : (tabF k).size = 766 := row_size _ _
theorem tab_zero : tabF 0 = row 766 fun _ => .int .u8 0 := row_congr _ _ _ (fun j _ => by rw [tb_start]; rfl)
theorem tab_set (k : Nat) (hk : k < 255) : (((tabF k).setIfInBounds k (.int .u8 (P k : Nat))).setIfInBounds (255 + k) (.int .u8 (P k : Nat))).setIfInBounds (510 + P k) (.int .u8 (k : Nat)) = tabF (k + 1) := by
  have hp := P_lt k
  unfold tabF
  rw [row_set 766 _ (fun j => .int .u8 ((if j = k then P k else tb k j : Nat) : Nat)) k _ (by omega) (fun j _ => by by_cases e : j = k <;> simp [e]),
    row_set 766 _ (fun j => .int .u8 ((if j = 255 + k then P k else if j = k then P k else tb k j : Nat) : Nat)) (255 + k) _ (by omega) (fun j _ => by by_cases e : j = 255 + k <;> simp [e]),
    row_set 766 _ (fun j => .int .u8 (tb (k + 1) j : Nat)) (510 + P k) _ (by omega) (fun j hj => by rw [tb_next k j hk hj]; by_cases e : j = 510 + P k <;> simp [e])]
theorem dbl_all : ∀ x : Fin 256, bits BinOp.xor IntKind.u8 ((x.val : Int) * 2 % 256) (bits BinOp.and IntKind.u8 29 (-((x.val : Int) / 128) % 256)) = ((mul x.val 2 : Nat) : Int) := by decide +kernel
set_option maxRecDepth 100000 in
theorem powers_any (w : World) :
    Calls Kid.prog 69 #[] w fun e w' => e = .returned (.agg (tabF 255)) ∧ Kept w w' := by
  have hz := zero_arr
  rw [← tab_zero] at hz
  go_enter Kid.func69, Kid.ntmps69
  go_wp2_with fail
  clear hz
  go_loopw [2, 4] (fun x i wr => ∃ k : Nat, k ≤ 255 ∧ i = .int .i64 k ∧ x = .int .u8 (P k : Nat) ∧ wr = (w.alloc (.cells (tabF 0) 115)).alloc (.cells (tabF k) 115)) (fun _ i _ => 255 - (intOf i).toNat)
  case atStart => exact ⟨0, Nat.zero_le _, rfl, rfl, rfl⟩
  case round =>
    obtain ⟨k, hk, rfl, rfl, rfl⟩ := hrel
    by_cases hlt : k < 255
    · have hp := P_lt k
      have HS := Lib.hid (tab_set k hlt)
      have hsz := tab_size k
      have HD := Lib.hid (dbl_all ⟨P k, hp⟩)
      have HN := Lib.hid (P_succ k)
      generalize P k = p at *
      have hg1 : ∃ v, (tabF k)[k]? = some v := ⟨_, row_get _ _ _ (by omega)⟩
      have hg2 : ∃ v, ((tabF k).setIfInBounds k (.int .u8 (p : Nat)))[255 + k]? = some v := ⟨_, by rw [Array.getElem?_setIfInBounds, if_neg (by omega)]; exact row_get _ _ _ (by omega)⟩
      have hg3 : ∃ v, (((tabF k).setIfInBounds k (.int .u8 (p : Nat))).setIfInBounds (255 + k) (.int .u8 (p : Nat)))[510 + p]? = some v := by
        refine ⟨((((tabF k).setIfInBounds k (.int .u8 (p : Nat))).setIfInBounds (255 + k) (.int .u8 (p : Nat))))[510 + p]'(by rw [Array.size_setIfInBounds, Array.size_setIfInBounds, tab_size]; omega), ?_⟩
        rw [Array.getElem?_eq_getElem]
      generalize tabF k = T at *
      obtain ⟨v1, hg1⟩ := hg1
      obtain ⟨v2, hg2⟩ := hg2
      obtain ⟨v3, hg3⟩ := hg3
      have HB : Hid (bits BinOp.xor IntKind.u8 ((p : Int) * 2 % 256) (bits BinOp.and IntKind.u8 29 (-((p : Int) / 128) % 256)) = ((P (k + 1) : Nat) : Int)) := by
        show _ = _
        rw [HN.out]; exact HD.out
      clear HD HN
      go_wp2_with fail
      rw [HB.out, HS.out]
      exact ⟨⟨k + 1, by omega, by go_num, rfl, rfl⟩, by simp [intOf]; omega⟩
    · obtain rfl : k = 255 := by omega
      have hsz : (Kid.prog.info? 115).map (·.size) = some (tabF 255).size := by rw [tab_size]; exact info_arr
      have HSZ := Lib.hid hsz
      clear hsz
      have HOLD : (tabF 0).size = (tabF 255).size := by rw [tab_size, tab_size]
      have HB0 : Hid (_) := Lib.hid (heap_alloc2_old w (.cells (tabF 0) 115) (.cells (tabF 255) 115))
      have HB1 : Hid (_) := Lib.hid (heap_alloc2_new w (.cells (tabF 0) 115) (.cells (tabF 255) 115))
      have HK : Hid (Kept w ((w.alloc (.cells (tabF 0) 115)).alloc (.cells (tabF 255) 115))) := ((Kept.refl _).alloc _).alloc _
      have HT := Lib.hid (tab_one 255)
      generalize hwr : (w.alloc (.cells (tabF 0) 115)).alloc (.cells (tabF 255) 115) = wr at *
      clear hwr
      obtain ⟨T, hT⟩ : ∃ T, tabF 255 = T := ⟨_, rfl⟩
      rw [hT] at HSZ HOLD HB1 HT
      have HE := Lib.hid hT
      clear hT
      generalize tabF 0 = T0 at *
      go_wp2_with (first | ((with_reducible refine wpList_load_row rfl 115 _ rfl (w.heap.size + 1) rfl 115 T (0, 0) _ HB1.out Kid.underlying115 rfl HSZ.out ?_)) | ((with_reducible refine wpList_store_row rfl 115 _ _ rfl w.heap.size T rfl rfl 115 T0 HB0.out HSZ.out HOLD HT.out ?_)))
      exact bodyPost_ret (results_cell_row rfl _ _ w.heap.size 115 _ (0, 0) _ rfl (setRow_at _ _ _ _ _ HB0.out) Kid.underlying115 rfl HSZ.out) rfl ⟨by rw [HE.out], HK.out.setRow _ _ (Nat.le_refl _)⟩
/-- The tables lie in block g. -/
def Tab (g : Nat) (w : World) : Prop := ∀ j, j < 766 → w.cell? ⟨g, j, none⟩ = some (.int .u8 (tb 255 j : Nat))
theorem Tab.kept {g : Nat} {w w' : World} (h : Tab g w) (k : Kept w w') : Tab g w' := fun j hj => by
  rw [Below.cell k (block_lt_of_cell (h j hj)), h j hj]
theorem Tab.drewN {g : Nat} {w : World} (h : Tab g w) (m : Nat) : Tab g (w.drewN m) := fun j hj => h j hj
theorem tab_at (k q : Nat) (h : q < 766) : (tabF k)[q]? = some (.int .u8 (tb k q : Nat)) := row_get _ _ q h
theorem Tab.new (w : World) : Tab w.heap.size (w.alloc (.cells (tabF 255) 115)) := fun j hj => by rw [World.cell?_alloc_mark, tab_at _ j hj]
theorem Tab.pow {g : Nat} {w : World} (h : Tab g w) (j : Nat) (hj : j < 510) : w.cell? ⟨g, j, none⟩ = some (.int .u8 (P j : Nat)) := by rw [h j (by omega), tb_pow j hj]
theorem Tab.log {g : Nat} {w : World} (h : Tab g w) (x : Nat) (hx : x < 256) : w.cell? ⟨g, 510 + x, none⟩ = some (.int .u8 (lg x : Nat)) := by rw [h _ (by omega)]; rfl
set_option maxRecDepth 100000 in
theorem of_drew (g : Nat) (a b : Nat) (ha : a < 256) (hb : b < 256) (w : World) (hT : Tab g w) :
    Calls Kid.prog 94 #[.pointer (some ⟨g, 0, none⟩), .int .u8 (a : Nat), .int .u8 (b : Nat)] w fun e w' => e = .returned (.int .u8 (mul a b : Nat)) ∧ ∃ m, w' = w.drewN m := by
  by_cases ha0 : a = 0
  · subst ha0
    rw [zero_mul]
    clear hT
    go_enter Kid.func94, Kid.ntmps94
    go_wp2_with fail
    go_ret
    exact ⟨rfl, 0, rfl⟩
  · by_cases hb0 : b = 0
    · subst hb0
      rw [mul_zero]
      clear hT
      go_enter Kid.func94, Kid.ntmps94
      go_wp2_with fail
      go_ret
      exact ⟨rfl, 0, rfl⟩
    · have h1 := hT.log a ha
      have h2 := hT.log b hb
      have l1 := lg_lt a
      have l2 := lg_lt b
      have h3 := hT.pow (lg a + lg b) (by omega)
      have HM := Lib.hid (mul_logs a b ha hb ha0 hb0)
      have e1 : ((a : Int) == 0) = false := by simp; omega
      have e2 : ((b : Int) == 0) = false := by simp; omega
      clear hT
      generalize lg a = x at *
      generalize lg b = y at *
      generalize P (x + y) = z at *
      go_enter Kid.func94, Kid.ntmps94
      go_wp2_with fail
      go_quiet (fail)
      go_wp2_with fail
      go_ret
      exact ⟨by rw [← HM.out]; rfl, _, rfl⟩
theorem of_any (g : Nat) (a b : Nat) (ha : a < 256) (hb : b < 256) (w : World) (hT : Tab g w) :
    Calls Kid.prog 94 #[.pointer (some ⟨g, 0, none⟩), .int .u8 (a : Nat), .int .u8 (b : Nat)] w fun e w' => e = .returned (.int .u8 (mul a b : Nat)) ∧ Kept w w' := by
  refine (of_drew g a b ha hb w hT).mono ?_
  rintro e w' ⟨rfl, m, rfl⟩
  exact ⟨rfl, (Kept.refl _).drewN _⟩
set_option maxRecDepth 100000 in
theorem inverse_any (g : Nat) (b : Nat) (hb : b < 256) (hb0 : b ≠ 0) (w : World) (hT : Tab g w) :
    Calls Kid.prog 102 #[.pointer (some ⟨g, 0, none⟩), .int .u8 (b : Nat)] w fun e w' => e = .returned (.int .u8 (inv b : Nat)) ∧ Kept w w' := by
  have h1 := hT.log b hb
  have l1 := lg_lt b
  have h3 := hT.pow (255 - lg b) (by omega)
  have HM := Lib.hid (inv_log b hb hb0)
  clear hT
  obtain ⟨x, hx⟩ : ∃ x, 255 - lg b = x := ⟨_, rfl⟩
  have hx2 : (255 : Int) - (lg b : Nat) = (x : Nat) := by omega
  have hx3 : x ≤ 255 := by omega
  rw [hx] at h3 HM
  clear hx
  generalize lg b = y at *
  generalize P x = z at *
  go_enter Kid.func102, Kid.ntmps102
  go_wp2_with fail
  go_quiet (fail)
  go_wp2_with fail
  go_ret
  exact ⟨by rw [← HM.out]; rfl, (Kept.refl _).drewN _⟩
end Go.Proofs.Ythifdfbdekkmgaa.Kid

/- What the calls on elements answer. -/
namespace Go.Proofs.Ythifdfbdekkmgaa.Kid
open Go.RowKit Gf
set_option linter.unusedVariables false
theorem add_any (a b : Nat) (ha : a < 256) (hb : b < 256) (w : World) :
    Calls Kid.prog 78 #[.int .u8 (a : Nat), .int .u8 (b : Nat)] w fun e w' => e = .returned (.int .u8 (a ^^^ b : Nat)) ∧ w' = w := by
  go_enter Kid.func78, Kid.ntmps78
  go_wp2_with fail
  go_ret
  exact ⟨by rw [← u8_xor_nat a b ha hb]; rfl, rfl⟩
/-- A quotient. -/
def quo (a b : Nat) : Nat := if b = 0 then 0 else mul a (inv b)
def quoE (b : Nat) : Int := if b = 0 then 40 else 0
set_option maxRecDepth 100000 in
theorem div_any (a b : Nat) (ha : a < 256) (hb : b < 256) (w : World) :
    Calls Kid.prog 96 #[.int .u8 (a : Nat), .int .u8 (b : Nat)] w fun e w' => e = .returned (.tuple #[.int .u8 (quo a b : Nat), .int .i64 (quoE b)]) ∧ Kept w w' := by
  by_cases hb0 : b = 0
  · subst hb0
    go_enter Kid.func96, Kid.ntmps96
    go_wp2_with fail
    go_ret2
    exact ⟨rfl, Kept.refl _⟩
  · have e2 : ((b : Int) == 0) = false := by simp; omega
    have HQ : Hid (quo a b = mul a (inv b)) := by show quo a b = _; unfold quo; rw [if_neg hb0]
    have HE : Hid (quoE b = 0) := by show quoE b = _; unfold quoE; rw [if_neg hb0]
    go_enter Kid.func96, Kid.ntmps96
    go_wp2_with fail
    refine (powers_any _).mono ?_
    rintro e w1 ⟨rfl, hk1⟩
    have hz := zero_arr
    rw [← tab_zero] at hz
    have HB := Lib.hid (World.setRow_alloc_new w1 (tabF 0) (tabF 255) 115)
    have HG := Lib.hid (heap_alloc_last w1 (.cells (tabF 0) 115))
    have hsz : (Kid.prog.info? 115).map (·.size) = some (tabF 255).size := by rw [tab_size]; exact info_arr
    have HSZ := Lib.hid hsz
    clear hsz
    have HOLD : (tabF 0).size = (tabF 255).size := by rw [tab_size, tab_size]
    have HTO := Lib.hid (tab_one 255)
    have hk2 : Kept w (w1.alloc (.cells (tabF 255) 115)) := hk1.alloc _
    have hT : Tab w1.heap.size (w1.alloc (.cells (tabF 255) 115)) := Tab.new w1
    generalize tabF 255 = T at *
    generalize tabF 0 = T0 at *
    go_wp2_with (first | ((with_reducible refine wpList_store_row rfl 115 _ _ rfl w1.heap.size T rfl rfl 115 T0 HG.out HSZ.out HOLD HTO.out ?_); rw [HB.out]; clear hz HB HG HSZ HOLD HTO))
    generalize w1.alloc (.cells T 115) = w2 at *
    generalize w1.heap.size = g at *
    refine (inverse_any g b hb hb0 _ hT).mono ?_
    rintro e w3 ⟨rfl, hk3⟩
    go_wp2_with fail
    refine (of_any g a (inv b) ha (inv_lt hb) _ (hT.kept hk3)).mono ?_
    rintro e w4 ⟨rfl, hk4⟩
    go_wp2_with fail
    go_ret2
    exact ⟨by rw [HQ.out, HE.out]; rfl, hk2.trans (hk3.trans hk4)⟩
theorem inv_any (a : Nat) (ha : a < 256) (w : World) :
    Calls Kid.prog 77 #[.int .u8 (a : Nat)] w fun e w' => e = .returned (.tuple #[.int .u8 (quo 1 a : Nat), .int .i64 (quoE a)]) ∧ Kept w w' := by
  go_enter Kid.func77, Kid.ntmps77
  go_wp2_with fail
  refine (div_any 1 a (by decide) ha _).mono ?_
  rintro e w1 ⟨rfl, hk1⟩
  go_wp2_with fail
  go_ret2
  exact ⟨rfl, hk1⟩
end Go.Proofs.Ythifdfbdekkmgaa.Kid

/- What a call leaves that writes to one block of old memory: all the rest is as it was. -/
namespace Go.Proofs.Ythifdfbdekkmgaa.Kid
open Go.RowKit
/-- All that was there, block b aside, is as it was; there may be more. -/
structure But (b : Nat) (w w' : World) : Prop where
  os : w'.os = w.os
  tape : w'.tape = w.tape
  output : w'.output = w.output
  size : w.heap.size ≤ w'.heap.size
  block : ∀ k, k < w.heap.size → k ≠ b → w'.heap[k]? = w.heap[k]?
theorem But.refl (b : Nat) (w : World) : But b w w := ⟨rfl, rfl, rfl, Nat.le_refl _, fun _ _ _ => rfl⟩
theorem But.trans {b : Nat} {u v w : World} (h : But b u v) (k : But b v w) : But b u w :=
  ⟨k.os.trans h.os, k.tape.trans h.tape, k.output.trans h.output, Nat.le_trans h.size k.size, fun i hi hb => (k.block i (Nat.lt_of_lt_of_le hi h.size) hb).trans (h.block i hi hb)⟩
theorem Kept.but {w w' : World} (h : Kept w w') (b : Nat) : But b w w' := ⟨h.os, h.tape, h.output, h.size, fun k hk _ => h.block k hk⟩
theorem But.setCell {b : Nat} {u w : World} (h : But b u w) (o : Nat) (v : Value) : But b u (w.setCell ⟨b, o, none⟩ v) :=
  h.trans ⟨rfl, rfl, rfl, by simp [World.setCell], fun k hk hb => Below.heap_setCell _ _ _ _ hb⟩
theorem But.kept {b : Nat} {u w w' : World} (h : Kept u w) (hb : u.heap.size ≤ b) (k : But b w w') : Kept u w' :=
  Below.trans h ⟨k.os, k.tape, k.output, k.size, fun i hi => k.block i (Nat.lt_of_lt_of_le hi h.size) (by omega)⟩
theorem But.cell {b : Nat} {w w' : World} (h : But b w w') {p : Addr} (hp : p.block < w.heap.size) (hb : p.block ≠ b) : w'.cell? p = w.cell? p := World.cell?_of_block (w := w) (h.block p.block hp hb)
theorem But.frozen {b : Nat} {w w' : World} (h : But b w w') {p : Addr} (hp : p.block < w.heap.size) (hb : p.block ≠ b) : w'.frozen? p = w.frozen? p := World.frozen?_of_block (w := w) (h.block p.block hp hb)
end Go.Proofs.Ythifdfbdekkmgaa.Kid

