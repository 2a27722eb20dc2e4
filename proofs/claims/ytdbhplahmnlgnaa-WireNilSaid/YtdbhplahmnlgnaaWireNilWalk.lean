/- The walk of WireNil: what no reader answers. -/
import Derived.Test.YtdbhplahmnlgnaaWireAlive
namespace Go.Proofs.Ytdbhplahmnlgnaa
open Go.RowKit _root_.Go.Proofs.Ytdbhplahmnlgnaa.Nm Wr
set_option linter.unusedVariables false
/-- No reader: nil, or one that New did not make. -/
def NoAt (w : World) (p : Option Addr) : Prop := p = none ∨ ∃ b, p = some ⟨b, 0, none⟩ ∧ w.cell? ⟨b, 0, none⟩ = some (.bool false)
theorem NoAt.kept {w w' : World} {p : Option Addr} (h : NoAt w p) (k : Kept w w') : NoAt w' p := by
  rcases h with h | ⟨b, h, hc⟩
  · exact .inl h
  · exact .inr ⟨b, h, by rw [Below.cell k (p := ⟨b, 0, none⟩) (block_lt_of_cell hc)]; exact hc⟩
set_option maxRecDepth 100000 in
theorem no_err (p : Option Addr) (w : World) (h : NoAt w p) :
    Calls Try.prog 28 #[.pointer p] w fun e w' => e = .returned (.int .i64 1) ∧ w' = w := by
  rcases h with rfl | ⟨b, rfl, hc⟩
  · go_enter Try.func28, Try.ntmps28
    go_wp2_with fail
    go_ret
    exact ⟨rfl, rfl⟩
  · go_enter Try.func28, Try.ntmps28
    go_wp2_with fail
    go_ret
    exact ⟨rfl, rfl⟩
set_option maxRecDepth 100000 in
theorem no_end (p : Option Addr) (w : World) (h : NoAt w p) :
    Calls Try.prog 26 #[.pointer p] w fun e w' => e = .returned (.int .i64 1) ∧ w' = w := by
  have H := Lib.hid h
  clear h
  go_enter Try.func26, Try.ntmps26
  go_wp2_with fail
  refine (no_err p _ H.out).mono ?_
  rintro e w1 ⟨rfl, rfl⟩
  go_wp2_with fail
  refine (no_err p _ H.out).mono ?_
  rintro e w1 ⟨rfl, rfl⟩
  go_wp2_with fail
  go_ret
  exact ⟨rfl, rfl⟩
set_option maxRecDepth 100000 in
theorem none_num (p : Option Addr) (f : Value) (w : World) (h : NoAt w p) :
    Calls Try.prog 34 #[.pointer p, f] w fun e w' => e = .returned (.int .u64 0) ∧ w' = w := by
  have H := Lib.hid h
  clear h
  go_enter Try.func34, Try.ntmps34
  go_wp2_with fail
  refine (no_err p _ H.out).mono ?_
  rintro e w1 ⟨rfl, rfl⟩
  go_wp2_with fail
  go_ret
  exact ⟨rfl, rfl⟩
set_option maxRecDepth 100000 in
theorem none_text (p : Option Addr) (f : Value) (w : World) (h : NoAt w p) :
    Calls Try.prog 38 #[.pointer p, f] w fun e w' => e = .returned (.string ⟨#[]⟩) ∧ w' = w := by
  have H := Lib.hid h
  clear h
  go_enter Try.func38, Try.ntmps38
  go_wp2_with fail
  refine (no_err p _ H.out).mono ?_
  rintro e w1 ⟨rfl, rfl⟩
  go_wp2_with fail
  go_ret
  exact ⟨rfl, rfl⟩
set_option maxRecDepth 100000 in
theorem none_bool (p : Option Addr) (f : Value) (w : World) (h : NoAt w p) :
    Calls Try.prog 41 #[.pointer p, f] w fun e w' => e = .returned (.bool false) ∧ w' = w := by
  have H := Lib.hid h
  clear h
  go_enter Try.func41, Try.ntmps41
  go_wp2_with fail
  refine (no_err p _ H.out).mono ?_
  rintro e w1 ⟨rfl, rfl⟩
  go_wp2_with fail
  go_ret
  exact ⟨rfl, rfl⟩
set_option maxRecDepth 100000 in
theorem none_count (p : Option Addr) (f : Value) (w : World) (h : NoAt w p) :
    Calls Try.prog 44 #[.pointer p, f] w fun e w' => e = .returned (.int .i64 0) ∧ w' = w := by
  have H := Lib.hid h
  clear h
  go_enter Try.func44, Try.ntmps44
  go_wp2_with fail
  refine (no_err p _ H.out).mono ?_
  rintro e w1 ⟨rfl, rfl⟩
  go_wp2_with fail
  go_ret
  exact ⟨rfl, rfl⟩
set_option maxRecDepth 100000 in
theorem no_num (p : Option Addr) (m : Int) (w : World) (h : NoAt w p) :
    Calls Try.prog 16 #[.pointer p, .int .u64 m] w fun e w' => e = .returned (.int .u64 0) ∧ Kept w w' := by
  have HA : Hid (Kept w (w.alloc (.cells #[.int .u64 m] 26))) := (Kept.refl _).alloc _
  have H := Lib.hid (h.kept HA.out)
  clear h
  go_enter Try.func16, Try.ntmps16
  go_wp2_with fail
  refine (none_num p _ _ H.out).mono ?_
  rintro e w1 ⟨rfl, rfl⟩
  go_wp2_with fail
  go_ret
  exact ⟨rfl, HA.out⟩
set_option maxRecDepth 100000 in
theorem no_text (p : Option Addr) (m : Int) (w : World) (h : NoAt w p) :
    Calls Try.prog 18 #[.pointer p, .int .i64 m] w fun e w' => e = .returned (.string ⟨#[]⟩) ∧ Kept w w' := by
  have HA : Hid (Kept w (w.alloc (.cells #[.int .i64 m] 3))) := (Kept.refl _).alloc _
  have H := Lib.hid (h.kept HA.out)
  clear h
  go_enter Try.func18, Try.ntmps18
  go_wp2_with fail
  refine (none_text p _ _ H.out).mono ?_
  rintro e w1 ⟨rfl, rfl⟩
  go_wp2_with fail
  go_ret
  exact ⟨rfl, HA.out⟩
set_option maxRecDepth 100000 in
theorem no_count (p : Option Addr) (m : Int) (w : World) (h : NoAt w p) :
    Calls Try.prog 22 #[.pointer p, .int .i64 m] w fun e w' => e = .returned (.int .i64 0) ∧ Kept w w' := by
  have HA : Hid (Kept w (w.alloc (.cells #[.int .i64 m] 3))) := (Kept.refl _).alloc _
  have H := Lib.hid (h.kept HA.out)
  clear h
  go_enter Try.func22, Try.ntmps22
  go_wp2_with fail
  refine (none_count p _ _ H.out).mono ?_
  rintro e w1 ⟨rfl, rfl⟩
  go_wp2_with fail
  go_ret
  exact ⟨rfl, HA.out⟩
set_option maxRecDepth 100000 in
theorem no_bool (p : Option Addr) (w : World) (h : NoAt w p) :
    Calls Try.prog 20 #[.pointer p] w fun e w' => e = .returned (.bool false) ∧ w' = w := by
  have H := Lib.hid h
  clear h
  go_enter Try.func20, Try.ntmps20
  go_wp2_with fail
  refine (none_bool p _ _ H.out).mono ?_
  rintro e w1 ⟨rfl, rfl⟩
  go_wp2_with fail
  go_ret
  exact ⟨rfl, rfl⟩
set_option maxRecDepth 100000 in
theorem no_rest (p : Option Addr) (w : World) (h : NoAt w p) :
    Calls Try.prog 24 #[.pointer p] w fun e w' => e = .returned (.string ⟨#[]⟩) ∧ w' = w := by
  have H := Lib.hid h
  clear h
  go_enter Try.func24, Try.ntmps24
  go_wp2_with fail
  refine (none_text p _ _ H.out).mono ?_
  rintro e w1 ⟨rfl, rfl⟩
  go_wp2_with fail
  go_ret
  exact ⟨rfl, rfl⟩
set_option maxHeartbeats 1000000 in
set_option maxRecDepth 100000 in
theorem wireNil_walk (a0 : Int) (a1 : Int) (a2 : Bool) (w : World) (w0 : (Lit.int .i64 a0).wf = true) (w1 : (Lit.int .u64 a1).wf = true) :
    Calls Try.prog 7 #[.int .i64 a0, .int .u64 a1, .bool a2] w fun e w' => e = .returned (.bool true) ∧ Kept w w' := by
  clear w0 w1
  cases a2
  · go_enter Try.func7, Try.ntmps7
    go_wp2_with fail
    have H : Hid (NoAt w none) := .inl rfl
    refine (no_num none _ _ H.out).mono ?_
    rintro e w1 ⟨rfl, hk⟩
    have K1 := Lib.hid hk
    clear hk
    go_wp2_with fail
    refine (no_text none _ _ (H.out.kept K1.out)).mono ?_
    rintro e w2 ⟨rfl, hk⟩
    have K2 := Lib.hid (K1.out.trans hk)
    clear hk K1
    go_wp2_with fail
    refine (no_bool none _ (H.out.kept K2.out)).mono ?_
    rintro e w3 ⟨rfl, rfl⟩
    go_wp2_with fail
    refine (no_count none _ _ (H.out.kept K2.out)).mono ?_
    rintro e w3 ⟨rfl, hk⟩
    have K3 := Lib.hid (K2.out.trans hk)
    clear hk K2
    go_wp2_with fail
    refine (no_rest none _ (H.out.kept K3.out)).mono ?_
    rintro e w4 ⟨rfl, rfl⟩
    go_wp2_with fail
    refine (no_err none _ (H.out.kept K3.out)).mono ?_
    rintro e w4 ⟨rfl, rfl⟩
    go_wp2_with fail
    refine (no_end none _ (H.out.kept K3.out)).mono ?_
    rintro e w4 ⟨rfl, rfl⟩
    go_wp2_with fail
    refine (wireAlive_any _).mono ?_
    rintro e w5 ⟨rfl, hk⟩
    have K5 := Lib.hid (K3.out.trans hk)
    clear hk K3
    go_wp2_with fail
    go_ret
    exact ⟨rfl, K5.out⟩
  · go_enter Try.func7, Try.ntmps7
    go_wp2_with fail
    have H : Hid (NoAt (w.alloc (Obj.cells #[.bool false, .string ⟨#[]⟩, .int .i64 0] 51)) (some ⟨w.heap.size, 0, none⟩)) := .inr ⟨_, rfl, by rw [World.cell?_alloc_mark]; rfl⟩
    have K0 : Hid (Kept w (w.alloc (Obj.cells #[.bool false, .string ⟨#[]⟩, .int .i64 0] 51))) := (Kept.refl _).alloc _
    generalize hp : (some (⟨w.heap.size, 0, none⟩ : Addr)) = p at *
    refine (no_num p _ _ H.out).mono ?_
    rintro e w1 ⟨rfl, hk⟩
    have K1 := Lib.hid hk
    clear hk
    go_wp2_with fail
    refine (no_text p _ _ (H.out.kept K1.out)).mono ?_
    rintro e w2 ⟨rfl, hk⟩
    have K2 := Lib.hid (K1.out.trans hk)
    clear hk K1
    go_wp2_with fail
    refine (no_bool p _ (H.out.kept K2.out)).mono ?_
    rintro e w3 ⟨rfl, rfl⟩
    go_wp2_with fail
    refine (no_count p _ _ (H.out.kept K2.out)).mono ?_
    rintro e w3 ⟨rfl, hk⟩
    have K3 := Lib.hid (K2.out.trans hk)
    clear hk K2
    go_wp2_with fail
    refine (no_rest p _ (H.out.kept K3.out)).mono ?_
    rintro e w4 ⟨rfl, rfl⟩
    go_wp2_with fail
    refine (no_err p _ (H.out.kept K3.out)).mono ?_
    rintro e w4 ⟨rfl, rfl⟩
    go_wp2_with fail
    refine (no_end p _ (H.out.kept K3.out)).mono ?_
    rintro e w4 ⟨rfl, rfl⟩
    go_wp2_with fail
    refine (wireAlive_any _).mono ?_
    rintro e w5 ⟨rfl, hk⟩
    have K5 := Lib.hid ((K0.out.trans K3.out).trans hk)
    clear hk K3
    go_wp2_with fail
    go_ret
    exact ⟨rfl, K5.out⟩
end Go.Proofs.Ytdbhplahmnlgnaa
