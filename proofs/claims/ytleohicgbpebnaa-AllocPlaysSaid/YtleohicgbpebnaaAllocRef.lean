/- The document's own map: is there a row; which rows are something; a map is loaded. -/
import Derived.Test.YtleohicgbpebnaaAllocSteps
import Derived.BigQuiet
namespace Go.Proofs.Ytleohicgbpebnaa
open Go.RowKit
set_option linter.unusedVariables false
/-- The document's map: itself in block r, its n rows, told by a function, in block c, if there are any. -/
structure RefAt (r c n : Nat) (a : Option Addr) (cap : Nat) (f : Nat → Nat) (w : World) : Prop where
  hd : w.cell? ⟨r, 0, none⟩ = some (.slice a n cap)
  fh : w.frozen? ⟨r, 0, none⟩ = false
  at' : 0 < n → a = some ⟨c, 0, none⟩ ∧ c ≠ r
  rows : RowsT c n f w
  nm : n ≤ 4096
  lt : 0 < n → c < w.heap.size
theorem RefAt.rlt {r c n cap : Nat} {a : Option Addr} {f : Nat → Nat} {w : World} (h : RefAt r c n a cap f w) : r < w.heap.size := block_lt_of_cell h.hd
theorem RefAt.frame {r c n cap : Nat} {a : Option Addr} {f : Nat → Nat} {w w' : World} (h : RefAt r c n a cap f w) (e1 : w'.heap[r]? = w.heap[r]?) (e2 : 0 < n → w'.heap[c]? = w.heap[c]?) (hs : w.heap.size ≤ w'.heap.size) : RefAt r c n a cap f w' :=
  ⟨by rw [World.cell?_of_block (w := w) (a := ⟨r, 0, none⟩) e1]; exact h.hd, by rw [World.frozen?_of_block (w := w) (a := ⟨r, 0, none⟩) e1]; exact h.fh, h.at',
   ⟨fun j hj => by rw [World.cell?_of_block (w := w) (a := ⟨c, j, none⟩) (e2 (by omega))]; exact h.rows.cell j hj, fun j hj => by rw [World.frozen?_of_block (w := w) (a := ⟨c, j, none⟩) (e2 (by omega))]; exact h.rows.free j hj⟩, h.nm, fun h0 => Nat.lt_of_lt_of_le (h.lt h0) hs⟩
theorem RefAt.kept {r c n cap : Nat} {a : Option Addr} {f : Nat → Nat} {w w' : World} (h : RefAt r c n a cap f w) (k : Kept w w') : RefAt r c n a cap f w' :=
  h.frame (k.block r h.rlt) (fun h0 => k.block c (h.lt h0)) k.size
theorem RefAt.congr {r c n cap : Nat} {a : Option Addr} {f f' : Nat → Nat} {w : World} (h : RefAt r c n a cap f w) (e : ∀ j, j < n → f' j = f j) : RefAt r c n a cap f' w := { h with rows := h.rows.congr e }
theorem RefAt.set {r c n cap : Nat} {a : Option Addr} {f : Nat → Nat} {w : World} (h : RefAt r c n a cap f w) (k : Nat) (hk : k < n) (v : Nat) : RefAt r c n a cap (fun j => if j = k then v else f j) (w.setCell ⟨c, k, none⟩ (.int .u8 (v : Nat))) := by
  have hne : (⟨c, k, none⟩ : Addr) ≠ ⟨r, 0, none⟩ := fun e => (h.at' (by omega)).2 (by injection e)
  refine ⟨?_, ?_, h.at', h.rows.set k hk v, h.nm, fun h0 => by simp [World.setCell]; exact h.lt h0⟩
  · rw [World.cell?_setCell_other _ _ _ _ hne]; exact h.hd
  · rw [World.frozen?_setCell]; exact h.fh
set_option maxRecDepth 100000 in
theorem is_any (r c n cap : Nat) (a : Option Addr) (f : Nat → Nat) (x : Int) (hx : -9223372036854775808 ≤ x ∧ x ≤ 9223372036854775807) (w : World) (h : RefAt r c n a cap f w) :
    Calls Try.prog 20 #[.pointer (some ⟨r, 0, none⟩), .int .i64 x] w fun e w' => e = .returned (.bool (isRow n x)) ∧ w' = w := by
  have hd := h.hd
  have hn := h.nm
  clear h
  by_cases h0 : 0 ≤ x
  · have hb : decide (0 ≤ x) = true := decide_eq_true h0
    by_cases h1 : x < n
    · have HI : Hid (isRow n x = true) := decide_eq_true ⟨h0, h1⟩
      have hb2 : decide (x < (n : Int)) = true := decide_eq_true h1
      clear h0 h1
      go_enter Try.func20, Try.ntmps20
      go_wp2_with fail
      go_ret
      rw [HI.out]
      exact ⟨rfl, rfl⟩
    · have HI : Hid (isRow n x = false) := decide_eq_false (by omega)
      have hb2 : decide (x < (n : Int)) = false := decide_eq_false h1
      clear h0 h1
      go_enter Try.func20, Try.ntmps20
      go_wp2_with fail
      go_ret
      rw [HI.out]
      exact ⟨rfl, rfl⟩
  · have HI : Hid (isRow n x = false) := decide_eq_false (by omega)
    have hb : decide (0 ≤ x) = false := decide_eq_false h0
    clear h0
    go_enter Try.func20, Try.ntmps20
    go_wp2_with fail
    go_ret
    rw [HI.out]
    exact ⟨rfl, rfl⟩
set_option maxHeartbeats 1000000 in
set_option maxRecDepth 100000 in
theorem refRows_any (r c n cap : Nat) (a : Option Addr) (f : Nat → Nat) (x : Nat) (hx : x ≤ 255) (w : World) (h : RefAt r c n a cap f w) :
    Calls Try.prog 19 #[.pointer (some ⟨r, 0, none⟩), .int .u8 (x : Nat)] w fun e w' => GotI w (rowsL n f x) w e w' := by
  have HM := Lib.hid h
  have hn := h.nm
  clear h
  go_enter Try.func19, Try.ntmps19
  go_wp2_with fail
  go_loopw [5, 6] (fun v i wr => ∃ k : Nat, k ≤ n ∧ i = .int .i64 k ∧ Hid (GatI w.heap.size v (rowsL k f x) wr ∧ Kept w wr)) (fun _ i _ => n - (intOf i).toNat)
  case atStart => exact ⟨0, Nat.zero_le _, rfl, GatI.nil _ _, Kept.refl _⟩
  case round =>
    obtain ⟨k, hk, rfl, HI⟩ := hrel
    have hd := (HM.out.kept HI.out.2).hd
    by_cases hlt : k < n
    · have hck := (HM.out.kept HI.out.2).rows.cell k hlt
      obtain ⟨rfl, _⟩ := HM.out.at' (by omega)
      by_cases hfx : f k = x
      · have HY := Lib.hid (rowsL_yes k f x hfx)
        have hb : (((f k : Nat) : Int) == (x : Int)) = true := by rw [hfx]; simp
        have HLN : Hid ((rowsL k f x).length ≤ 1000000000) := by show _ ≤ _; have := rowsL_le k f x; omega
        generalize f k = y at *
        clear hfx
        go_wp2_with (at_builtin; refine wpList_gati _ rfl (.tmp 25) (.tmp 27) rfl w _ (rowsL k f x) (by rfl) (HI.out.1.kept ((Kept.refl _).alloc _)) (HI.out.2.alloc _) (k : Int) wr.heap.size rfl (by rw [World.cell?_alloc_mark]; rfl) HLN.out ?_; intro v9 w9 hG9 hK9)
        go_roundw
        case rel => exact ⟨k + 1, by omega, by go_num, by rw [HY.out]; exact ⟨hG9, hK9⟩⟩
        case measure => simp [intOf]; omega
      · have HY := Lib.hid (rowsL_no k f x hfx)
        have hb : (((f k : Nat) : Int) == (x : Int)) = false := by simp; omega
        generalize f k = y at *
        clear hfx
        go_wp2_with fail
        go_roundw
        case rel => exact ⟨k + 1, by omega, by go_num, by rw [HY.out]; exact HI.out⟩
        case measure => simp [intOf]; omega
    · obtain rfl : k = n := by omega
      go_wp2_with fail
      go_ret
      exact ⟨_, rfl, HI.out.1, HI.out.2⟩
end Go.Proofs.Ytleohicgbpebnaa
