/- What the program's reader answers: the call behind all of them, take. -/
import Derived.Test.YtmgkkoajjdgmbaaGreatDoorPart11
import Derived.Test.YtmgkkoajjdgmbaaGreatDoorPart4
import Derived.Test.YtmgkkoajjdgmbaaGreatDoorPart12
import Derived.Test.YtmgkkoajjdgmbaaGreatDoorPart8
set_option linter.unusedVariables false
set_option linter.unusedSimpArgs false
set_option linter.unusedSectionVars false
set_option linter.unnecessarySimpa false
set_option linter.deprecated false
namespace Go.Proofs.YtmgkkoajjdgmbaaGreatDoor
open Go.RowKit _root_.Go.Proofs.YtmgkkoajjdgmbaaGreatDoor.Nm Wr
set_option linter.unusedVariables false
/-- The program's reader stands in block b. -/
structure WrAt (w : World) (b : Nat) (s : St) : Prop where
  text : ∃ t : ByteArray, w.cell? ⟨b, 1, none⟩ = some (.string t) ∧ t.data.toList = s.l ∧ t.size ≤ 281474976710656
  err : w.cell? ⟨b, 2, none⟩ = some (.int .i64 (s.e : Nat))
  made : w.cell? ⟨b, 0, none⟩ = some (.bool true)
  soft1 : w.frozen? ⟨b, 1, none⟩ = false
  soft2 : w.frozen? ⟨b, 2, none⟩ = false
theorem WrAt.lt {w : World} {b : Nat} {s : St} (h : WrAt w b s) : b < w.heap.size := block_lt_of_cell h.err
theorem WrAt.kept {w w' : World} {b : Nat} {s : St} (h : WrAt w b s) (k : Kept w w') : WrAt w' b s := by
  obtain ⟨t, h1, h2, h3⟩ := h.text
  exact ⟨⟨t, by rw [Below.cell k (p := ⟨b, 1, none⟩) h.lt]; exact h1, h2, h3⟩, by rw [Below.cell k (p := ⟨b, 2, none⟩) h.lt]; exact h.err, by rw [Below.cell k (p := ⟨b, 0, none⟩) h.lt]; exact h.made, by rw [Below.frozen k (p := ⟨b, 1, none⟩) h.lt]; exact h.soft1, by rw [Below.frozen k (p := ⟨b, 2, none⟩) h.lt]; exact h.soft2⟩
theorem WrAt.but {w w' : World} {b c : Nat} {s : St} (h : WrAt w b s) (k : But c w w') (hc : b ≠ c) : WrAt w' b s := by
  obtain ⟨t, h1, h2, h3⟩ := h.text
  exact ⟨⟨t, by rw [k.cell (p := ⟨b, 1, none⟩) h.lt hc]; exact h1, h2, h3⟩, by rw [k.cell (p := ⟨b, 2, none⟩) h.lt hc]; exact h.err, by rw [k.cell (p := ⟨b, 0, none⟩) h.lt hc]; exact h.made, by rw [k.frozen (p := ⟨b, 1, none⟩) h.lt hc]; exact h.soft1, by rw [k.frozen (p := ⟨b, 2, none⟩) h.lt hc]; exact h.soft2⟩
theorem WrAt.setErr {w : World} {b : Nat} {s : St} (h : WrAt w b s) (e : Nat) : WrAt (w.setCell ⟨b, 2, none⟩ (.int .i64 (e : Nat))) b ⟨s.l, e⟩ := by
  obtain ⟨t, h1, h2, h3⟩ := h.text
  exact ⟨⟨t, by rw [World.cell?_setCell_other _ _ _ _ (by simp)]; exact h1, h2, h3⟩, World.cell?_setCell_same _ _ _ h.err, by rw [World.cell?_setCell_other _ _ _ _ (by simp)]; exact h.made, by rw [World.frozen?_setCell]; exact h.soft1, by rw [World.frozen?_setCell]; exact h.soft2⟩
theorem WrAt.setText {w : World} {b : Nat} {s : St} (h : WrAt w b s) (t : ByteArray) (l : List UInt8) (hl : t.data.toList = l) (ht : t.size ≤ 281474976710656) : WrAt (w.setCell ⟨b, 1, none⟩ (.string t)) b ⟨l, s.e⟩ := by
  obtain ⟨t0, h1, h2, h3⟩ := h.text
  exact ⟨⟨t, World.cell?_setCell_same _ _ _ h1, hl, ht⟩, by rw [World.cell?_setCell_other _ _ _ _ (by simp)]; exact h.err, by rw [World.cell?_setCell_other _ _ _ _ (by simp)]; exact h.made, by rw [World.frozen?_setCell]; exact h.soft1, by rw [World.frozen?_setCell]; exact h.soft2⟩
set_option maxRecDepth 100000 in
theorem err_same (b : Nat) (s : St) (w : World) (hR : WrAt w b s) :
    Calls Tryz.prog 103 #[.pointer (some ⟨b, 0, none⟩)] w fun e w' => e = .returned (.int .i64 (s.e : Nat)) ∧ w' = w := by
  have he := hR.err
  have hm := hR.made
  clear hR
  go_enter Tryz.func103, Tryz.ntmps103
  go_wp2_with fail
  go_ret
  exact ⟨rfl, rfl⟩
theorem err_any (b : Nat) (s : St) (w : World) (hR : WrAt w b s) :
    Calls Tryz.prog 103 #[.pointer (some ⟨b, 0, none⟩)] w fun e w' => e = .returned (.int .i64 (s.e : Nat)) ∧ But b w w' ∧ WrAt w' b s :=
  (err_same b s w hR).mono fun e w' h => ⟨h.1, by rw [h.2]; exact But.refl _ _, by rw [h.2]; exact hR⟩
set_option maxRecDepth 100000 in
theorem fault_num (b : Nat) (s : St) (f : Value) (w : World) (hR : WrAt w b s) (hs : s.e ≠ 0) :
    Calls Tryz.prog 123 #[.pointer (some ⟨b, 0, none⟩), f] w fun e w' => e = .returned (.int .u64 0) ∧ w' = w := by
  have hne := int_ne _ hs
  have HR := Lib.hid hR
  clear hR hs
  go_enter Tryz.func123, Tryz.ntmps123
  go_wp2_with fail
  refine (err_same b s _ HR.out).mono ?_
  rintro e w1 ⟨rfl, rfl⟩
  go_wp2_with fail
  go_ret
  exact ⟨rfl, rfl⟩
set_option maxRecDepth 100000 in
theorem bad_num (b : Nat) (l : List UInt8) (t : ByteArray) (j : Nat) (caps : Array Value) (x : Int) (n c : Nat) (w : World) (hR : WrAt w b ⟨l, 0⟩) (ht : w.cell? ⟨b, 1, none⟩ = some (.string t)) (hc : c ≠ 0)
    (hen : ∀ args w, (callFunc j args).run Tryz.prog w = .ok (.enter j args) w)
    (hj : Calls Tryz.prog j (#[.string t] ++ caps) w fun e w' => e = .returned (.tuple #[.int .u64 x, .int .i64 (n : Nat), .int .i64 (c : Nat)]) ∧ Kept w w') :
    Calls Tryz.prog 123 #[.pointer (some ⟨b, 0, none⟩), .func (.func j) #[] caps] w fun e w' => e = .returned (.int .u64 0) ∧ WrAt w' b ⟨l, c⟩ ∧ But b w w' := by
  have hne := int_ne _ hc
  have HR := Lib.hid hR
  clear hR hc
  go_enter Tryz.func123, Tryz.ntmps123
  go_wp2_with fail
  refine (err_same b ⟨l, 0⟩ _ HR.out).mono ?_
  rintro e w1 ⟨rfl, rfl⟩
  go_wp2_with (go_at_fn j; refine hj.mono ?_)
  rintro e w2 ⟨rfl, hk⟩
  have HR2 := Lib.hid (HR.out.kept hk)
  have he2 := HR2.out.err
  have hf2 := HR2.out.soft2
  have HK := Lib.hid hk
  clear hk hj
  go_wp2_with fail
  go_ret
  exact ⟨rfl, HR2.out.setErr c, (HK.out.but b).setCell _ _⟩
set_option maxRecDepth 100000 in
theorem ok_num (b : Nat) (l : List UInt8) (t : ByteArray) (j : Nat) (caps : Array Value) (x : Int) (n : Nat) (w : World) (hR : WrAt w b ⟨l, 0⟩) (ht : w.cell? ⟨b, 1, none⟩ = some (.string t)) (hn : n ≤ t.size)
    (hen : ∀ args w, (callFunc j args).run Tryz.prog w = .ok (.enter j args) w)
    (hj : Calls Tryz.prog j (#[.string t] ++ caps) w fun e w' => e = .returned (.tuple #[.int .u64 x, .int .i64 (n : Nat), .int .i64 0]) ∧ Kept w w') :
    Calls Tryz.prog 123 #[.pointer (some ⟨b, 0, none⟩), .func (.func j) #[] caps] w fun e w' => e = .returned (.int .u64 x) ∧ WrAt w' b ⟨l.drop n, 0⟩ ∧ But b w w' := by
  obtain ⟨t', h1, h2, h3⟩ := hR.text
  obtain rfl : t' = t := by rw [ht] at h1; injection h1 with h1; injection h1 with h1; exact h1.symm
  have HR := Lib.hid hR
  have HL := Lib.hid h2
  have HZ := Lib.hid h3
  have hz : t'.size ≤ 9223372036854775807 := by omega
  clear hR h1 h2 h3
  go_enter Tryz.func123, Tryz.ntmps123
  go_wp2_with fail
  refine (err_same b ⟨l, 0⟩ _ HR.out).mono ?_
  rintro e w1 ⟨rfl, rfl⟩
  go_wp2_with (go_at_fn j; refine hj.mono ?_)
  rintro e w2 ⟨rfl, hk⟩
  have HR2 := Lib.hid (HR.out.kept hk)
  have hf2 := HR2.out.soft1
  have ht2 : w2.cell? ⟨b, 1, none⟩ = some (.string t') := by rw [Below.cell hk (p := ⟨b, 1, none⟩) HR.out.lt]; exact ht
  have HK := Lib.hid hk
  clear hk hj ht
  go_wp2_with fail
  go_ret
  exact ⟨rfl, HR2.out.setText _ _ (by rw [ext_drop, HL.out]) (by rw [ByteArray.size_extract]; have := HZ.out; omega), (HK.out.but b).setCell _ _⟩
set_option maxRecDepth 100000 in
theorem fault_text (b : Nat) (s : St) (f : Value) (w : World) (hR : WrAt w b s) (hs : s.e ≠ 0) :
    Calls Tryz.prog 126 #[.pointer (some ⟨b, 0, none⟩), f] w fun e w' => e = .returned (.string ⟨#[]⟩) ∧ w' = w := by
  have hne := int_ne _ hs
  have HR := Lib.hid hR
  clear hR hs
  go_enter Tryz.func126, Tryz.ntmps126
  go_wp2_with fail
  refine (err_same b s _ HR.out).mono ?_
  rintro e w1 ⟨rfl, rfl⟩
  go_wp2_with fail
  go_ret
  exact ⟨rfl, rfl⟩
set_option maxRecDepth 100000 in
theorem bad_text (b : Nat) (l : List UInt8) (t : ByteArray) (j : Nat) (caps : Array Value) (x : ByteArray) (n c : Nat) (w : World) (hR : WrAt w b ⟨l, 0⟩) (ht : w.cell? ⟨b, 1, none⟩ = some (.string t)) (hc : c ≠ 0)
    (hen : ∀ args w, (callFunc j args).run Tryz.prog w = .ok (.enter j args) w)
    (hj : Calls Tryz.prog j (#[.string t] ++ caps) w fun e w' => e = .returned (.tuple #[.string x, .int .i64 (n : Nat), .int .i64 (c : Nat)]) ∧ Kept w w') :
    Calls Tryz.prog 126 #[.pointer (some ⟨b, 0, none⟩), .func (.func j) #[] caps] w fun e w' => e = .returned (.string ⟨#[]⟩) ∧ WrAt w' b ⟨l, c⟩ ∧ But b w w' := by
  have hne := int_ne _ hc
  have HR := Lib.hid hR
  clear hR hc
  go_enter Tryz.func126, Tryz.ntmps126
  go_wp2_with fail
  refine (err_same b ⟨l, 0⟩ _ HR.out).mono ?_
  rintro e w1 ⟨rfl, rfl⟩
  go_wp2_with (go_at_fn j; refine hj.mono ?_)
  rintro e w2 ⟨rfl, hk⟩
  have HR2 := Lib.hid (HR.out.kept hk)
  have he2 := HR2.out.err
  have hf2 := HR2.out.soft2
  have HK := Lib.hid hk
  clear hk hj
  go_wp2_with fail
  go_ret
  exact ⟨rfl, HR2.out.setErr c, (HK.out.but b).setCell _ _⟩
set_option maxRecDepth 100000 in
theorem ok_text (b : Nat) (l : List UInt8) (t : ByteArray) (j : Nat) (caps : Array Value) (x : ByteArray) (n : Nat) (w : World) (hR : WrAt w b ⟨l, 0⟩) (ht : w.cell? ⟨b, 1, none⟩ = some (.string t)) (hn : n ≤ t.size)
    (hen : ∀ args w, (callFunc j args).run Tryz.prog w = .ok (.enter j args) w)
    (hj : Calls Tryz.prog j (#[.string t] ++ caps) w fun e w' => e = .returned (.tuple #[.string x, .int .i64 (n : Nat), .int .i64 0]) ∧ Kept w w') :
    Calls Tryz.prog 126 #[.pointer (some ⟨b, 0, none⟩), .func (.func j) #[] caps] w fun e w' => e = .returned (.string x) ∧ WrAt w' b ⟨l.drop n, 0⟩ ∧ But b w w' := by
  obtain ⟨t', h1, h2, h3⟩ := hR.text
  obtain rfl : t' = t := by rw [ht] at h1; injection h1 with h1; injection h1 with h1; exact h1.symm
  have HR := Lib.hid hR
  have HL := Lib.hid h2
  have HZ := Lib.hid h3
  have hz : t'.size ≤ 9223372036854775807 := by omega
  clear hR h1 h2 h3
  go_enter Tryz.func126, Tryz.ntmps126
  go_wp2_with fail
  refine (err_same b ⟨l, 0⟩ _ HR.out).mono ?_
  rintro e w1 ⟨rfl, rfl⟩
  go_wp2_with (go_at_fn j; refine hj.mono ?_)
  rintro e w2 ⟨rfl, hk⟩
  have HR2 := Lib.hid (HR.out.kept hk)
  have hf2 := HR2.out.soft1
  have ht2 : w2.cell? ⟨b, 1, none⟩ = some (.string t') := by rw [Below.cell hk (p := ⟨b, 1, none⟩) HR.out.lt]; exact ht
  have HK := Lib.hid hk
  clear hk hj ht
  go_wp2_with fail
  go_ret
  exact ⟨rfl, HR2.out.setText _ _ (by rw [ext_drop, HL.out]) (by rw [ByteArray.size_extract]; have := HZ.out; omega), (HK.out.but b).setCell _ _⟩
end Go.Proofs.YtmgkkoajjdgmbaaGreatDoor
