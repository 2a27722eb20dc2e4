/- Drop, Clear, Load; what no map answers. -/
import Derived.Test.YtleohicgbpebnaaAllocNew
namespace Go.Proofs.Ytleohicgbpebnaa
open Go.RowKit
set_option linter.unusedVariables false
theorem drop_any (g c n cap : Nat) (f : Nat → Nat) (a : Option Addr) (ca : Nat) (ls : List Int) (hl : ls.length ≤ maxLen) (hr : ∀ r ∈ ls, -9223372036854775808 ≤ r ∧ r ≤ 9223372036854775807) (w : World) (h : MapAt g c n cap f w) (hI : Ints .i64 w a ls) :
    Calls Try.prog 15 #[.pointer (some ⟨g, 0, none⟩), .slice a ls.length ca] w fun e w' => e = .returned (.int .i64 (turnE n f 2 ls : Nat)) ∧ Left g c n (turnF n f 2 3 ls) w w' := by
  have H := Lib.hid (turn_any g c n cap f 2 3 (by decide) (by decide) (by decide) a ca ls hl hr w h hI)
  clear h hI hl hr
  generalize ls.length = m at *
  generalize turnE n f 2 ls = z at *
  go_enter Try.func15, Try.ntmps15
  go_wp2_with fail
  refine H.out.mono ?_
  rintro e w1 ⟨rfl, hL⟩
  have HL := Lib.hid hL
  clear hL
  go_wp2_with fail
  go_ret
  exact ⟨rfl, HL.out⟩
theorem clear_any (g c n cap : Nat) (f : Nat → Nat) (a : Option Addr) (ca : Nat) (ls : List Int) (hl : ls.length ≤ maxLen) (hr : ∀ r ∈ ls, -9223372036854775808 ≤ r ∧ r ≤ 9223372036854775807) (w : World) (h : MapAt g c n cap f w) (hI : Ints .i64 w a ls) :
    Calls Try.prog 17 #[.pointer (some ⟨g, 0, none⟩), .slice a ls.length ca] w fun e w' => e = .returned (.int .i64 (turnE n f 3 ls : Nat)) ∧ Left g c n (turnF n f 3 1 ls) w w' := by
  have H := Lib.hid (turn_any g c n cap f 3 1 (by decide) (by decide) (by decide) a ca ls hl hr w h hI)
  clear h hI hl hr
  generalize ls.length = m at *
  generalize turnE n f 3 ls = z at *
  go_enter Try.func17, Try.ntmps17
  go_wp2_with fail
  refine H.out.mono ?_
  rintro e w1 ⟨rfl, hL⟩
  have HL := Lib.hid hL
  clear hL
  go_wp2_with fail
  go_ret
  exact ⟨rfl, HL.out⟩
/-- These rows may be used, and these dirty. -/
def mayLoad (r : Int) (us ds : List Int) : Bool := mayRows r && (!outB r.toNat us && !outB r.toNat ds)
def loadF (us ds : List Int) : Nat → Nat := letF (letF (fun _ => 1) 3 ds) 2 us
set_option maxHeartbeats 1000000 in
set_option maxRecDepth 100000 in
theorem load_bad (r : Int) (a b : Option Addr) (ca cb : Nat) (us ds : List Int) (hm : mayLoad r us ds = false) (hlu : us.length ≤ maxLen) (hld : ds.length ≤ maxLen) (hru : ∀ r ∈ us, -9223372036854775808 ≤ r ∧ r ≤ 9223372036854775807) (hrd : ∀ r ∈ ds, -9223372036854775808 ≤ r ∧ r ≤ 9223372036854775807)
    (w : World) (hU : Ints .i64 w a us) (hD : Ints .i64 w b ds) :
    Calls Try.prog 9 #[.int .i64 r, .slice a us.length ca, .slice b ds.length cb] w fun e w' => e = .returned (.tuple #[.pointer none, .int .i64 2]) ∧ Kept w w' := by
  cases hmr : mayRows r
  · have HB := Lib.hid (new_bad r hmr w)
    clear hm hmr hU hD hru hrd
    generalize us.length = nu at *
    generalize ds.length = nd at *
    go_enter Try.func9, Try.ntmps9
    go_wp2_with fail
    refine HB.out.mono ?_
    rintro e w1 ⟨rfl, hk⟩
    have HK := Lib.hid hk
    clear hk
    go_wp2_with fail
    go_ret2
    exact ⟨rfl, HK.out⟩
  · obtain ⟨n, rfl⟩ : ∃ n : Nat, r = n := ⟨r.toNat, by have := of_decide_eq_true hmr; omega⟩
    have hn : n ≤ 4096 := by have := of_decide_eq_true hmr; omega
    have HB := Lib.hid (new_ok n hn w)
    have HLU : Hid (∀ g c cap W, MapAt g c n cap (fun _ => 1) W → Kept w W → Calls Try.prog 24 #[.pointer (some ⟨g, 0, none⟩), .slice a us.length ca] W fun e w' => e = .returned (.bool (outB n us)) ∧ Kept W w') := fun g c cap W h k => lacks_any g c n cap _ a ca us hlu hru W h (hU.kept k)
    have HLD : Hid (∀ g c cap W, MapAt g c n cap (fun _ => 1) W → Kept w W → Calls Try.prog 24 #[.pointer (some ⟨g, 0, none⟩), .slice b ds.length cb] W fun e w' => e = .returned (.bool (outB n ds)) ∧ Kept W w') := fun g c cap W h k => lacks_any g c n cap _ b cb ds hld hrd W h (hD.kept k)
    have HM : Hid (outB n us = true ∨ (outB n us = false ∧ outB n ds = true)) := by
      show _ ∨ _
      unfold mayLoad at hm
      rw [hmr, Bool.true_and, Int.toNat_natCast] at hm
      cases h1 : outB n us
      · rw [h1] at hm
        exact .inr ⟨rfl, by simpa using hm⟩
      · exact .inl rfl
    clear hm hmr hU hD hru hrd
    generalize us.length = nu at *
    generalize ds.length = nd at *
    generalize outB n us = q1 at *
    generalize outB n ds = q2 at *
    go_enter Try.func9, Try.ntmps9
    go_wp2_with fail
    refine HB.out.mono ?_
    rintro e w1 ⟨g, c, cap, rfl, hM, _, _, hk⟩
    have HK := Lib.hid hk
    have HM1 := Lib.hid hM
    clear hk hM HB
    go_wp2_with fail
    refine (HLU.out g c cap _ HM1.out HK.out).mono ?_
    rintro e w2 ⟨rfl, hk2⟩
    have HK2 : Hid (Kept w w2) := HK.out.trans hk2
    have HM2 := Lib.hid (HM1.out.kept hk2)
    clear hk2
    rcases HM.out with h1 | ⟨h1, h2⟩
    · subst h1
      clear HM
      go_wp2_with fail
      go_ret2
      exact ⟨rfl, HK2.out⟩
    · subst h1 h2
      clear HM
      go_wp2_with fail
      refine (HLD.out g c cap _ HM2.out HK2.out).mono ?_
      rintro e w3 ⟨rfl, hk3⟩
      have HK3 : Hid (Kept w w3) := HK2.out.trans hk3
      clear hk3
      go_wp2_with fail
      go_ret2
      exact ⟨rfl, HK3.out⟩
set_option maxHeartbeats 1000000 in
set_option maxRecDepth 100000 in
theorem load_ok (n : Nat) (a b : Option Addr) (ca cb : Nat) (us ds : List Int) (hm : mayLoad (n : Nat) us ds = true) (hlu : us.length ≤ maxLen) (hld : ds.length ≤ maxLen) (hru : ∀ r ∈ us, -9223372036854775808 ≤ r ∧ r ≤ 9223372036854775807) (hrd : ∀ r ∈ ds, -9223372036854775808 ≤ r ∧ r ≤ 9223372036854775807)
    (w : World) (hU : Ints .i64 w a us) (hD : Ints .i64 w b ds) (hau : ∀ x, a = some x → x.block < w.heap.size) (had : ∀ x, b = some x → x.block < w.heap.size) :
    Calls Try.prog 9 #[.int .i64 (n : Nat), .slice a us.length ca, .slice b ds.length cb] w fun e w' => GotMap n (loadF us ds) w e w' := by
  unfold mayLoad at hm
  rw [Bool.and_eq_true, Bool.and_eq_true, Int.toNat_natCast] at hm
  obtain ⟨hmr, hou, hod⟩ := hm
  have hn : n ≤ 4096 := by have := of_decide_eq_true hmr; omega
  have hou' : outB n us = false := by simpa using hou
  have hod' : outB n ds = false := by simpa using hod
  have HB := Lib.hid (new_ok n hn w)
  have HLU : Hid (∀ g c cap W, MapAt g c n cap (fun _ => 1) W → Kept w W → Calls Try.prog 24 #[.pointer (some ⟨g, 0, none⟩), .slice a us.length ca] W fun e w' => e = .returned (.bool false) ∧ Kept W w') := fun g c cap W h k => by
    have h := lacks_any g c n cap _ a ca us hlu hru W h (hU.kept k)
    rwa [hou'] at h
  have HLD : Hid (∀ g c cap W, MapAt g c n cap (fun _ => 1) W → Kept w W → Calls Try.prog 24 #[.pointer (some ⟨g, 0, none⟩), .slice b ds.length cb] W fun e w' => e = .returned (.bool false) ∧ Kept W w') := fun g c cap W h k => by
    have h := lacks_any g c n cap _ b cb ds hld hrd W h (hD.kept k)
    rwa [hod'] at h
  have HSD : Hid (∀ g c cap W, MapAt g c n cap (fun _ => 1) W → Kept w W → w.heap.size ≤ c → Calls Try.prog 25 #[.pointer (some ⟨g, 0, none⟩), .int .u8 3, .slice b ds.length cb] W fun e w' => e = .returned (.tuple #[]) ∧ MapAt g c n cap (letF (fun _ => 1) 3 ds) w' ∧ But c W w') := fun g c cap W h k hc =>
    let_any g c n cap _ 3 (by decide) b cb ds hld (outB_no hod') W h (hD.kept k) (fun x hx => by have := had x hx; omega)
  have HSU : Hid (∀ g c cap W, MapAt g c n cap (letF (fun _ => 1) 3 ds) W → Kept w W → w.heap.size ≤ c → Calls Try.prog 25 #[.pointer (some ⟨g, 0, none⟩), .int .u8 2, .slice a us.length ca] W fun e w' => e = .returned (.tuple #[]) ∧ MapAt g c n cap (loadF us ds) w' ∧ But c W w') := fun g c cap W h k hc =>
    let_any g c n cap _ 2 (by decide) a ca us hlu (outB_no hou') W h (hU.kept k) (fun x hx => by have := hau x hx; omega)
  clear hmr hU hD hru hrd hou hod hou' hod' hau had
  generalize us.length = nu at *
  generalize ds.length = nd at *
  go_enter Try.func9, Try.ntmps9
  go_wp2_with fail
  refine HB.out.mono ?_
  rintro e w1 ⟨g, c, cap, rfl, hM, hg, hc, hk⟩
  have HK := Lib.hid hk
  have HM1 := Lib.hid hM
  clear hk hM HB
  go_wp2_with fail
  refine (HLU.out g c cap _ HM1.out HK.out).mono ?_
  rintro e w2 ⟨rfl, hk2⟩
  have HK2 : Hid (Kept w w2) := HK.out.trans hk2
  have HM2 := Lib.hid (HM1.out.kept hk2)
  clear hk2
  go_wp2_with fail
  refine (HLD.out g c cap _ HM2.out HK2.out).mono ?_
  rintro e w3 ⟨rfl, hk3⟩
  have HK3 : Hid (Kept w w3) := HK2.out.trans hk3
  have HM3 := Lib.hid (HM2.out.kept hk3)
  clear hk3
  go_wp2_with fail
  refine (HSD.out g c cap _ HM3.out HK3.out hc).mono ?_
  rintro e w4 ⟨rfl, hM4, hB4⟩
  have HK4 : Hid (Kept w w4) := But.kept HK3.out hc hB4
  have HM4 := Lib.hid hM4
  clear hM4 hB4
  go_wp2_with fail
  refine (HSU.out g c cap _ HM4.out HK4.out hc).mono ?_
  rintro e w5 ⟨rfl, hM5, hB5⟩
  have HK5 : Hid (Kept w w5) := But.kept HK4.out hc hB5
  have HM5 := Lib.hid hM5
  clear hM5 hB5
  go_wp2_with fail
  go_ret2
  exact ⟨g, c, cap, rfl, HM5.out, hg, hc, HK5.out⟩
theorem take_nil (m : Int) (w : World) :
    Calls Try.prog 12 #[.pointer none, .int .i64 m] w fun e w' => e = .returned (.tuple #[.slice none 0 0, .int .i64 1]) ∧ w' = w := by
  go_enter Try.func12, Try.ntmps12
  go_wp2_with (go_at_call 27; refine (none_nil _).mono ?_; rintro e w ⟨rfl, rfl⟩)
  go_ret2
  exact ⟨rfl, rfl⟩
theorem turn_nil (x y : Int) (v : Value) (w : World) :
    Calls Try.prog 29 #[.pointer none, .int .u8 x, .int .u8 y, v] w fun e w' => e = .returned (.int .i64 1) ∧ w' = w := by
  go_enter Try.func29, Try.ntmps29
  go_wp2_with (go_at_call 27; refine (none_nil _).mono ?_; rintro e w ⟨rfl, rfl⟩)
  go_ret
  exact ⟨rfl, rfl⟩
theorem drop_nil (v : Value) (w : World) :
    Calls Try.prog 15 #[.pointer none, v] w fun e w' => e = .returned (.int .i64 1) ∧ w' = w := by
  go_enter Try.func15, Try.ntmps15
  go_wp2_with (go_at_call 29; refine (turn_nil _ _ _ _).mono ?_; rintro e w ⟨rfl, rfl⟩)
  go_ret
  exact ⟨rfl, rfl⟩
theorem clear_nil (v : Value) (w : World) :
    Calls Try.prog 17 #[.pointer none, v] w fun e w' => e = .returned (.int .i64 1) ∧ w' = w := by
  go_enter Try.func17, Try.ntmps17
  go_wp2_with (go_at_call 29; refine (turn_nil _ _ _ _).mono ?_; rintro e w ⟨rfl, rfl⟩)
  go_ret
  exact ⟨rfl, rfl⟩
theorem rows_nil (x : Int) (w : World) :
    Calls Try.prog 22 #[.pointer none, .int .u8 x] w fun e w' => e = .returned (.slice none 0 0) ∧ w' = w := by
  go_enter Try.func22, Try.ntmps22
  go_wp2_with (go_at_call 27; refine (none_nil _).mono ?_; rintro e w ⟨rfl, rfl⟩)
  go_ret
  exact ⟨rfl, rfl⟩
theorem count_nil (w : World) :
    Calls Try.prog 18 #[.pointer none] w fun e w' => e = .returned (.tuple #[.int .i64 0, .int .i64 0, .int .i64 0]) ∧ w' = w := by
  go_enter Try.func18, Try.ntmps18
  go_wp2_with (go_at_call 22; refine (rows_nil _ _).mono ?_; rintro e w ⟨rfl, rfl⟩)
  go_ret3
  exact ⟨rfl, rfl⟩
end Go.Proofs.Ytleohicgbpebnaa
