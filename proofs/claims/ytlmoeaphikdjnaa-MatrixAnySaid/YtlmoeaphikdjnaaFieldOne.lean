/- What the calls on elements answer. -/
import Derived.Test.YtlmoeaphikdjnaaFieldCode
import Derived.Deep.WholeRow
namespace Go.Proofs.Ytlmoeaphikdjnaa
open Go.RowKit Gf
set_option linter.unusedVariables false
theorem add_any (a b : Nat) (ha : a < 256) (hb : b < 256) (w : World) :
    Calls Try.prog 33 #[.int .u8 (a : Nat), .int .u8 (b : Nat)] w fun e w' => e = .returned (.int .u8 (a ^^^ b : Nat)) ∧ w' = w := by
  go_enter Try.func33, Try.ntmps33
  go_wp2_with fail
  go_ret
  exact ⟨by rw [← u8_xor_nat a b ha hb]; rfl, rfl⟩
/-- A quotient. -/
def quo (a b : Nat) : Nat := if b = 0 then 0 else mul a (inv b)
def quoE (b : Nat) : Int := if b = 0 then 40 else 0
set_option maxRecDepth 100000 in
theorem div_any (a b : Nat) (ha : a < 256) (hb : b < 256) (w : World) :
    Calls Try.prog 40 #[.int .u8 (a : Nat), .int .u8 (b : Nat)] w fun e w' => e = .returned (.tuple #[.int .u8 (quo a b : Nat), .int .i64 (quoE b)]) ∧ Kept w w' := by
  by_cases hb0 : b = 0
  · subst hb0
    go_enter Try.func40, Try.ntmps40
    go_wp2_with fail
    go_ret2
    exact ⟨rfl, Kept.refl _⟩
  · have e2 : ((b : Int) == 0) = false := by simp; omega
    have HQ : Hid (quo a b = mul a (inv b)) := by show quo a b = _; unfold quo; rw [if_neg hb0]
    have HE : Hid (quoE b = 0) := by show quoE b = _; unfold quoE; rw [if_neg hb0]
    go_enter Try.func40, Try.ntmps40
    go_wp2_with fail
    refine (powers_any _).mono ?_
    rintro e w1 ⟨rfl, hk1⟩
    have hz := zero_arr
    rw [← tab_zero] at hz
    have HB := Lib.hid (World.setRow_alloc_new w1 (tabF 0) (tabF 255) 62)
    have HG := Lib.hid (heap_alloc_last w1 (.cells (tabF 0) 62))
    have hsz : (Try.prog.info? 62).map (·.size) = some (tabF 255).size := by rw [tab_size]; exact info_arr
    have HSZ := Lib.hid hsz
    clear hsz
    have HOLD : (tabF 0).size = (tabF 255).size := by rw [tab_size, tab_size]
    have HTO := Lib.hid (tab_one 255)
    have hk2 : Kept w (w1.alloc (.cells (tabF 255) 62)) := hk1.alloc _
    have hT : Tab w1.heap.size (w1.alloc (.cells (tabF 255) 62)) := Tab.new w1
    generalize tabF 255 = T at *
    generalize tabF 0 = T0 at *
    go_wp2_with (first | ((with_reducible refine wpList_store_row rfl 62 _ _ rfl w1.heap.size T rfl rfl 62 T0 HG.out HSZ.out HOLD HTO.out ?_); rw [HB.out]; clear hz HB HG HSZ HOLD HTO))
    generalize w1.alloc (.cells T 62) = w2 at *
    generalize w1.heap.size = g at *
    refine (inverse_any g b hb hb0 _ hT).mono ?_
    rintro e w3 ⟨rfl, hk3⟩
    go_wp2_with fail
    refine (of_any g a (inv b) ha (inv_lt hb) _ (hT.kept hk3)).mono ?_
    rintro e w4 ⟨rfl, hk4⟩
    go_wp2_with fail
    go_ret2
    exact ⟨by rw [HQ.out, HE.out]; rfl, hk2.trans (hk3.trans hk4)⟩
theorem inv_any (a : Nat) (ha : a < 256) (w : World) :
    Calls Try.prog 32 #[.int .u8 (a : Nat)] w fun e w' => e = .returned (.tuple #[.int .u8 (quo 1 a : Nat), .int .i64 (quoE a)]) ∧ Kept w w' := by
  go_enter Try.func32, Try.ntmps32
  go_wp2_with fail
  refine (div_any 1 a (by decide) ha _).mono ?_
  rintro e w1 ⟨rfl, hk1⟩
  go_wp2_with fail
  go_ret2
  exact ⟨rfl, hk1⟩
end Go.Proofs.Ytlmoeaphikdjnaa
