/- slices.Reverse of ints that the call has gathered. -/
import Derived.Test.YtmgkkoajjdgmbaaGreatDoorPart27
import Derived.Test.YtmgkkoajjdgmbaaGreatDoorPart32
import Derived.Shelf.Slices.Reverse
import Derived.Lib.OwnBridge
set_option linter.unusedVariables false
set_option linter.unusedSimpArgs false
set_option linter.unusedSectionVars false
set_option linter.unnecessarySimpa false
set_option linter.deprecated false
namespace Go.Proofs.YtmgkkoajjdgmbaaGreatDoor
open Go.Shelf Go.RowKit
set_option linter.unusedVariables false
def revRen : Go.Shelf.Ren := ⟨fun | 112 => 63 | n => n, fun | 28 => 50 | 0 => 0 | 3 => 3 | 4 => 4 | n => n, fun | n => n⟩
theorem revLays : Go.Proofs.Lays.n112 Tryz.prog revRen := {
  mixed := by kernel_rfl
  f112 := Tryz.func63.trans (congrArg some (by kernel_rfl))
  t0 := Tryz.underlying0
  a0 := Tryz.isAgg0
  z0 := Tryz.sizeOf0
  v0 := Tryz.zeroValue0
  t3 := Tryz.underlying3
  a3 := Tryz.isAgg3
  z3 := Tryz.sizeOf3
  v3 := Tryz.zeroValue3
  t4 := Tryz.underlying4
  a4 := Tryz.isAgg4
  z4 := Tryz.sizeOf4
  v4 := Tryz.zeroValue4
  t28 := Tryz.underlying50
  a28 := Tryz.isAgg50
  z28 := Tryz.sizeOf50
  v28 := Tryz.zeroValue50 }
theorem reverse_any (B : Nat) (v : Value) (rs : List Int) (w : World) (h : GatI B v rs w) (hl : rs.length ≤ 1000000) :
    Calls Tryz.prog 63 #[v] w fun e w' => e = .returned (.tuple #[]) ∧ GatI B v rs.reverse w' ∧ w.grownBy w' v.ownBlock := by
  have h0 := h
  obtain ⟨h1, h2⟩ := h
  rcases h2 with ⟨rfl, h2⟩ | ⟨g, cap, cur, rfl, h3, h4, h5, h6, h7, h8⟩
  · obtain rfl : rs = [] := List.length_eq_zero_iff.1 h2
    exact (Any.slices_Reverse_int_empty revLays none 0 w).mono fun e w' hh => ⟨hh.1, by rw [hh.2]; exact GatI.nil _ _, by rw [hh.2]; exact ⟨rfl, rfl, rfl, Nat.le_refl _, fun _ _ _ => rfl⟩⟩
  · have hH : Sort.Holds (Value.int .i64) w g 0 rs.toArray := by
      intro j hj
      have hj' : j < rs.length := by simpa using hj
      refine ⟨?_, frozen_of_row _ _ _ _ _ h4⟩
      rw [Nat.zero_add, cell_of_row _ _ j _ _ _ h4]
      have e : (cur.toList.take (rs.length * 1))[j]? = (rs.map (Value.int .i64))[j]? := by rw [h8]
      rw [List.getElem?_take_of_lt (by omega)] at e
      rw [← Array.getElem?_toList, e, List.getElem?_map, List.getElem?_eq_getElem hj']
      simp [getElem!_pos, hj']
    refine (Any.slices_Reverse_int revLays g 0 cap rs w hH (by omega)).mono ?_
    rintro e w' ⟨rfl, q, rfl⟩
    refine ⟨rfl, ?_, ?_⟩
    · have := Lib.ownsRow_putRow (q := q) (k := rs.length) h0 (ys := rs.reverse) (by simp) (Nat.le_refl _)
      rw [List.take_of_length_le (by simp)] at this
      unfold GatI
      rw [List.length_reverse]
      exact this
    · refine ⟨rfl, rfl, rfl, by simp [Sort.putRow, Sort.mapBlock, Sort.ahead], fun k hk hne => ?_⟩
      have hgk : g ≠ k := fun e => hne (by rw [e]; rfl)
      simp [Sort.putRow, Sort.mapBlock, Sort.ahead, Array.getElem?_modify, hgk]
end Go.Proofs.YtmgkkoajjdgmbaaGreatDoor
