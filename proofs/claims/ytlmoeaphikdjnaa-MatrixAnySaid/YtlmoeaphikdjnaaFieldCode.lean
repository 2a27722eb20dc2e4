/- What byPowers answers: the powers of 2 and the logarithms, in two arrays. -/
import Derived.Test.YtlmoeaphikdjnaaFieldTab
import Derived.Test.YtlmoeaphikdjnaaShapes
import Derived.Test.YtlmoeaphikdjnaaRowOf
import Derived.BigRegion
import Derived.BigQuiet
import Derived.OpenShut
import Derived.Deep.DeepCutAuto
namespace Go.Proofs.Ytlmoeaphikdjnaa
open Go.RowKit Gf
set_option linter.unusedVariables false
theorem zero_arr (w : World) : (zeroValue 62).run Try.prog w = .ok (.agg (row 766 fun _ => .int .u8 0)) w := by kernel_rfl
theorem info_arr : (Try.prog.info? 62).map (·.size) = some 766 := by kernel_rfl
/-- The cells of both arrays, k powers of 2 in them. -/
def tabF (k : Nat) : Array Value := row 766 fun j => .int .u8 (tb k j : Nat)
theorem tab_one (k : Nat) : (tabF k).all (·.oneCell') = true := row_one 766 .u8 _
theorem tab_size (k : Nat) : (tabF k).size = 766 := row_size _ _
theorem tab_zero : tabF 0 = row 766 fun _ => .int .u8 0 := row_congr _ _ _ (fun j _ => by rw [tb_start]; rfl)
theorem tab_set (k : Nat) (hk : k < 255) : (((tabF k).setIfInBounds k (.int .u8 (P k : Nat))).setIfInBounds (255 + k) (.int .u8 (P k : Nat))).setIfInBounds (510 + P k) (.int .u8 (k : Nat)) = tabF (k + 1) := by
  have hp := P_lt k
  unfold tabF
  rw [row_set 766 _ (fun j => .int .u8 ((if j = k then P k else tb k j : Nat) : Nat)) k _ (by omega) (fun j _ => by by_cases e : j = k <;> simp [e]),
    row_set 766 _ (fun j => .int .u8 ((if j = 255 + k then P k else if j = k then P k else tb k j : Nat) : Nat)) (255 + k) _ (by omega) (fun j _ => by by_cases e : j = 255 + k <;> simp [e]),
    row_set 766 _ (fun j => .int .u8 (tb (k + 1) j : Nat)) (510 + P k) _ (by omega) (fun j hj => by rw [tb_next k j hk hj]; by_cases e : j = 510 + P k <;> simp [e])]
theorem dbl_all : ∀ x : Fin 256, bits BinOp.xor IntKind.u8 ((x.val : Int) * 2 % 256) (bits BinOp.and IntKind.u8 29 (-((x.val : Int) / 128) % 256)) = ((mul x.val 2 : Nat) : Int) := by decide +kernel
set_option maxRecDepth 100000 in
theorem powers_any (w : World) :
    Calls Try.prog 36 #[] w fun e w' => e = .returned (.agg (tabF 255)) ∧ Kept w w' := by
  have hz := zero_arr
  rw [← tab_zero] at hz
  go_enter Try.func36, Try.ntmps36
  go_wp2_with fail
  clear hz
  go_loopw [2, 4] (fun x i wr => ∃ k : Nat, k ≤ 255 ∧ i = .int .i64 k ∧ x = .int .u8 (P k : Nat) ∧ wr = (w.alloc (.cells (tabF 0) 62)).alloc (.cells (tabF k) 62)) (fun _ i _ => 255 - (intOf i).toNat)
  case atStart => exact ⟨0, Nat.zero_le _, rfl, rfl, rfl⟩
  case round =>
    obtain ⟨k, hk, rfl, rfl, rfl⟩ := hrel
    by_cases hlt : k < 255
    · have hp := P_lt k
      have HS := Lib.hid (tab_set k hlt)
      have hsz := tab_size k
      have HD := Lib.hid (dbl_all ⟨P k, hp⟩)
      have HN := Lib.hid (P_succ k)
      generalize P k = p at *
      have hg1 : ∃ v, (tabF k)[k]? = some v := ⟨_, row_get _ _ _ (by omega)⟩
      have hg2 : ∃ v, ((tabF k).setIfInBounds k (.int .u8 (p : Nat)))[255 + k]? = some v := ⟨_, by rw [Array.getElem?_setIfInBounds, if_neg (by omega)]; exact row_get _ _ _ (by omega)⟩
      have hg3 : ∃ v, (((tabF k).setIfInBounds k (.int .u8 (p : Nat))).setIfInBounds (255 + k) (.int .u8 (p : Nat)))[510 + p]? = some v := by
        refine ⟨((((tabF k).setIfInBounds k (.int .u8 (p : Nat))).setIfInBounds (255 + k) (.int .u8 (p : Nat))))[510 + p]'(by rw [Array.size_setIfInBounds, Array.size_setIfInBounds, tab_size]; omega), ?_⟩
        rw [Array.getElem?_eq_getElem]
      generalize tabF k = T at *
      obtain ⟨v1, hg1⟩ := hg1
      obtain ⟨v2, hg2⟩ := hg2
      obtain ⟨v3, hg3⟩ := hg3
      have HB : Hid (bits BinOp.xor IntKind.u8 ((p : Int) * 2 % 256) (bits BinOp.and IntKind.u8 29 (-((p : Int) / 128) % 256)) = ((P (k + 1) : Nat) : Int)) := by
        show _ = _
        rw [HN.out]; exact HD.out
      clear HD HN
      go_wp2_with fail
      rw [HB.out, HS.out]
      exact ⟨⟨k + 1, by omega, by go_num, rfl, rfl⟩, by simp [intOf]; omega⟩
    · obtain rfl : k = 255 := by omega
      have hsz : (Try.prog.info? 62).map (·.size) = some (tabF 255).size := by rw [tab_size]; exact info_arr
      have HSZ := Lib.hid hsz
      clear hsz
      have HOLD : (tabF 0).size = (tabF 255).size := by rw [tab_size, tab_size]
      have HB0 : Hid (_) := Lib.hid (heap_alloc2_old w (.cells (tabF 0) 62) (.cells (tabF 255) 62))
      have HB1 : Hid (_) := Lib.hid (heap_alloc2_new w (.cells (tabF 0) 62) (.cells (tabF 255) 62))
      have HK : Hid (Kept w ((w.alloc (.cells (tabF 0) 62)).alloc (.cells (tabF 255) 62))) := ((Kept.refl _).alloc _).alloc _
      have HT := Lib.hid (tab_one 255)
      generalize hwr : (w.alloc (.cells (tabF 0) 62)).alloc (.cells (tabF 255) 62) = wr at *
      clear hwr
      obtain ⟨T, hT⟩ : ∃ T, tabF 255 = T := ⟨_, rfl⟩
      rw [hT] at HSZ HOLD HB1 HT
      have HE := Lib.hid hT
      clear hT
      generalize tabF 0 = T0 at *
      go_wp2_with (first | ((with_reducible refine wpList_load_row rfl 62 _ rfl (w.heap.size + 1) rfl 62 T (0, 0) _ HB1.out Try.underlying62 rfl HSZ.out ?_)) | ((with_reducible refine wpList_store_row rfl 62 _ _ rfl w.heap.size T rfl rfl 62 T0 HB0.out HSZ.out HOLD HT.out ?_)))
      exact bodyPost_ret (results_cell_row rfl _ _ w.heap.size 62 _ (0, 0) _ rfl (setRow_at _ _ _ _ _ HB0.out) Try.underlying62 rfl HSZ.out) rfl ⟨by rw [HE.out], HK.out.setRow _ _ (Nat.le_refl _)⟩
/-- The tables lie in block g. -/
def Tab (g : Nat) (w : World) : Prop := ∀ j, j < 766 → w.cell? ⟨g, j, none⟩ = some (.int .u8 (tb 255 j : Nat))
theorem Tab.kept {g : Nat} {w w' : World} (h : Tab g w) (k : Kept w w') : Tab g w' := fun j hj => by
  rw [Below.cell k (block_lt_of_cell (h j hj)), h j hj]
theorem Tab.drewN {g : Nat} {w : World} (h : Tab g w) (m : Nat) : Tab g (w.drewN m) := fun j hj => h j hj
theorem tab_at (k q : Nat) (h : q < 766) : (tabF k)[q]? = some (.int .u8 (tb k q : Nat)) := row_get _ _ q h
theorem Tab.new (w : World) : Tab w.heap.size (w.alloc (.cells (tabF 255) 62)) := fun j hj => by rw [World.cell?_alloc_mark, tab_at _ j hj]
theorem Tab.pow {g : Nat} {w : World} (h : Tab g w) (j : Nat) (hj : j < 510) : w.cell? ⟨g, j, none⟩ = some (.int .u8 (P j : Nat)) := by rw [h j (by omega), tb_pow j hj]
theorem Tab.log {g : Nat} {w : World} (h : Tab g w) (x : Nat) (hx : x < 256) : w.cell? ⟨g, 510 + x, none⟩ = some (.int .u8 (lg x : Nat)) := by rw [h _ (by omega)]; rfl
set_option maxRecDepth 100000 in
theorem of_drew (g : Nat) (a b : Nat) (ha : a < 256) (hb : b < 256) (w : World) (hT : Tab g w) :
    Calls Try.prog 42 #[.pointer (some ⟨g, 0, none⟩), .int .u8 (a : Nat), .int .u8 (b : Nat)] w fun e w' => e = .returned (.int .u8 (mul a b : Nat)) ∧ ∃ m, w' = w.drewN m := by
  by_cases ha0 : a = 0
  · subst ha0
    rw [zero_mul]
    clear hT
    go_enter Try.func42, Try.ntmps42
    go_wp2_with fail
    go_ret
    exact ⟨rfl, 0, rfl⟩
  · by_cases hb0 : b = 0
    · subst hb0
      rw [mul_zero]
      clear hT
      go_enter Try.func42, Try.ntmps42
      go_wp2_with fail
      go_ret
      exact ⟨rfl, 0, rfl⟩
    · have h1 := hT.log a ha
      have h2 := hT.log b hb
      have l1 := lg_lt a
      have l2 := lg_lt b
      have h3 := hT.pow (lg a + lg b) (by omega)
      have HM := Lib.hid (mul_logs a b ha hb ha0 hb0)
      have e1 : ((a : Int) == 0) = false := by simp; omega
      have e2 : ((b : Int) == 0) = false := by simp; omega
      clear hT
      generalize lg a = x at *
      generalize lg b = y at *
      generalize P (x + y) = z at *
      go_enter Try.func42, Try.ntmps42
      go_wp2_with fail
      go_quiet (fail)
      go_wp2_with fail
      go_ret
      exact ⟨by rw [← HM.out]; rfl, _, rfl⟩
theorem of_any (g : Nat) (a b : Nat) (ha : a < 256) (hb : b < 256) (w : World) (hT : Tab g w) :
    Calls Try.prog 42 #[.pointer (some ⟨g, 0, none⟩), .int .u8 (a : Nat), .int .u8 (b : Nat)] w fun e w' => e = .returned (.int .u8 (mul a b : Nat)) ∧ Kept w w' := by
  refine (of_drew g a b ha hb w hT).mono ?_
  rintro e w' ⟨rfl, m, rfl⟩
  exact ⟨rfl, (Kept.refl _).drewN _⟩
set_option maxRecDepth 100000 in
theorem inverse_any (g : Nat) (b : Nat) (hb : b < 256) (hb0 : b ≠ 0) (w : World) (hT : Tab g w) :
    Calls Try.prog 45 #[.pointer (some ⟨g, 0, none⟩), .int .u8 (b : Nat)] w fun e w' => e = .returned (.int .u8 (inv b : Nat)) ∧ Kept w w' := by
  have h1 := hT.log b hb
  have l1 := lg_lt b
  have h3 := hT.pow (255 - lg b) (by omega)
  have HM := Lib.hid (inv_log b hb hb0)
  clear hT
  obtain ⟨x, hx⟩ : ∃ x, 255 - lg b = x := ⟨_, rfl⟩
  have hx2 : (255 : Int) - (lg b : Nat) = (x : Nat) := by omega
  have hx3 : x ≤ 255 := by omega
  rw [hx] at h3 HM
  clear hx
  generalize lg b = y at *
  generalize P x = z at *
  go_enter Try.func45, Try.ntmps45
  go_wp2_with fail
  go_quiet (fail)
  go_wp2_with fail
  go_ret
  exact ⟨by rw [← HM.out]; rfl, (Kept.refl _).drewN _⟩
end Go.Proofs.Ytlmoeaphikdjnaa
