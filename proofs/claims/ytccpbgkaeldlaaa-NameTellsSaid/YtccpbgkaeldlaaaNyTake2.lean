/- What takeName takes. -/
import Derived.Test.YtccpbgkaeldlaaaNyTake
namespace Go.Proofs.Ytccpbgkaeldlaaa
open Go.RowKit _root_.Go.Proofs.Ytccpbgkaeldlaaa.Nm Ny
set_option linter.unusedVariables false
set_option linter.unusedSimpArgs false
/-- A name's bytes taken from the front: the name, and what is left. -/
def tkN : List UInt8 → Option (List UInt8 × List UInt8)
  | [] => none
  | c :: l =>
    if c = 0 then
      match l with
      | [] => none
      | d :: l' => if d = 255 then (tkN l').map fun p => (0 :: p.1, p.2) else if d = 1 then some ([], l') else none
    else (tkN l).map fun p => (c :: p.1, p.2)
def tkV (o : Option (List UInt8 × List UInt8)) : Value :=
  match o with
  | none => .tuple #[.string ⟨#[]⟩, .string ⟨#[]⟩, .bool false]
  | some p => .tuple #[.string ⟨p.1.toArray⟩, .string ⟨p.2.toArray⟩, .bool true]
def pre1 (q : List UInt8) (o : Option (List UInt8 × List UInt8)) : Option (List UInt8 × List UInt8) := o.map fun p => (q ++ p.1, p.2)
theorem pre1_nil (o : Option (List UInt8 × List UInt8)) : pre1 [] o = o := by cases o <;> rfl
theorem pre1_app (q r : List UInt8) (o : Option (List UInt8 × List UInt8)) : pre1 (q ++ r) o = pre1 q (pre1 r o) := by cases o <;> simp [pre1]
theorem tk_byte (c : UInt8) (l : List UInt8) (h : c ≠ 0) : tkN (c :: l) = pre1 [c] (tkN l) := by
  rw [tkN.eq_def]; simp only; rw [if_neg h]; rfl
theorem tk_own (l : List UInt8) : tkN (0 :: 255 :: l) = pre1 [0] (tkN l) := by
  rw [tkN.eq_def]; simp only [if_true]; rfl
theorem tk_over (l : List UInt8) : tkN (0 :: 1 :: l) = some ([], l) := by
  rw [tkN.eq_def]; simp
theorem tk_end : tkN [0] = none := by rw [tkN.eq_def]; simp
theorem tk_bad (d : UInt8) (l : List UInt8) (h : d ≠ 255) (h1 : d ≠ 1) : tkN (0 :: d :: l) = none := by
  rw [tkN.eq_def]; simp [h, h1]
theorem tkN_enc (a r : List UInt8) : tkN (nmL a ++ 0 :: 1 :: r) = some (a, r) := by
  induction a with
  | nil => exact tk_over r
  | cons c a ih =>
    rw [nmL]
    by_cases h : c = 0
    · subst h
      rw [if_pos rfl, List.cons_append, List.cons_append, tk_own, ih]
      rfl
    · rw [if_neg h, List.cons_append, tk_byte _ _ h, ih]
      rfl
theorem tkN_dec : ∀ (l a r : List UInt8), tkN l = some (a, r) → l = nmL a ++ 0 :: 1 :: r
  | [], a, r, h => by cases h
  | c :: l, a, r, h => by
    by_cases hc : c = 0
    · subst hc
      match l, h with
      | [], h => rw [tk_end] at h; cases h
      | d :: l', h =>
        by_cases h1 : d = 255
        · subst h1
          rw [tk_own] at h
          cases hl : tkN l' with
          | none => rw [hl] at h; cases h
          | some p =>
            obtain ⟨a', r'⟩ := p
            rw [hl] at h
            simp only [pre1, Option.map_some, Option.some.injEq, Prod.mk.injEq] at h
            obtain ⟨rfl, rfl⟩ := h
            rw [tkN_dec l' a' r' hl]
            rfl
        · by_cases h2 : d = 1
          · subst h2
            rw [tk_over] at h
            simp only [Option.some.injEq, Prod.mk.injEq] at h
            obtain ⟨rfl, rfl⟩ := h
            rfl
          · rw [tk_bad _ _ h1 h2] at h; cases h
    · rw [tk_byte _ _ hc] at h
      cases hl : tkN l with
      | none => rw [hl] at h; cases h
      | some p =>
        obtain ⟨a', r'⟩ := p
        rw [hl] at h
        simp only [pre1, Option.map_some, Option.some.injEq, Prod.mk.injEq] at h
        obtain ⟨rfl, rfl⟩ := h
        rw [tkN_dec l a' r' hl]
        show _ = nmL (c :: a') ++ _
        rw [nmL, if_neg hc]
        rfl
def sizeV (v : Value) : Nat := match v with | .string t => t.size | _ => 0
theorem list_head (t : ByteArray) (h : 0 < t.size) : ∃ l, t.data.toList = t[0] :: l ∧ l.length + 1 = t.size := by
  have hl : 0 < t.data.toList.length := by rw [list_size]; exact h
  refine ⟨t.data.toList.drop 1, ?_, by rw [List.length_drop, list_size]; omega⟩
  have := List.drop_eq_getElem_cons (i := 0) hl
  rw [List.drop_zero] at this
  exact this
theorem not_empty (t : ByteArray) (h : 0 < t.size) : t.toList.isEmpty = false := by
  rw [str_nil]; exact decide_eq_false (by omega)
set_option maxHeartbeats 2000000 in
set_option maxRecDepth 100000 in
theorem takeName_any (s : ByteArray) (w : World) (hs : s.size ≤ 1000000) :
    Calls Try.prog 45 #[.string s] w fun e w' => e = .returned (tkV (tkN s.data.toList)) ∧ Kept w w' := by
  have HTK : Hid (∀ o, o = tkN s.data.toList → tkV o = tkV (tkN s.data.toList)) := fun o h => by rw [h]
  generalize hR : tkN s.data.toList = R at *
  have HRR := Lib.hid hR
  clear hR
  go_enter Try.func45, Try.ntmps45
  go_wp2_with fail
  go_step3
  go_wp2_with fail
  go_step3
  go_wp2_with fail
  go_loopw [0, 5] (fun u v wr => ∃ (t : ByteArray) (q : List UInt8), u = .string t ∧ t.size ≤ 1000000 ∧ Hid (GatU w.heap.size v q wr ∧ Kept w wr ∧ R = pre1 q (tkN t.data.toList) ∧ q.length + t.size ≤ 1000000)) (fun u _ _ => sizeV u)
  case atStart => exact ⟨s, [], rfl, hs, GatU.nil _ _, Kept.refl _, by rw [pre1_nil]; exact HRR.out.symm, by simpa using hs⟩
  case round =>
    obtain ⟨t, q, rfl, ht, HI⟩ := hrel
    by_cases h0 : t.size = 0
    · obtain rfl : t = ⟨#[]⟩ := ba_nil h0
      have HR : Hid (R = none) := by show _ = _; rw [HI.out.2.2.1]; rfl
      have HK := Lib.hid HI.out.2.1
      clear HI h0
      have HV := Lib.hid (HTK.out none HR.out.symm)
      go_wp2_with fail
      rw [Exit.noGoto_ret]
      exact bodyPost_ret (v := .tuple #[.string ⟨#[]⟩, .string ⟨#[]⟩, .bool false]) (by simp [results, Try.results45, go_sem]) rfl ⟨by rw [← HV.out]; rfl, HK.out⟩
    · have hpos : 0 < t.size := by omega
      obtain ⟨l, hl, hll⟩ := list_head t hpos
      have hemp := not_empty t hpos
      have HL := Lib.hid hl
      have HGA := Lib.hid HI.out.1
      have HKA := Lib.hid HI.out.2.1
      have HRA := Lib.hid HI.out.2.2.1
      have HQL := Lib.hid HI.out.2.2.2
      have HX1 : Hid (t.extract 1 t.size = ⟨l.toArray⟩) := by show _ = _; rw [ext_drop, hl]; rfl
      have HX2 : Hid (t.extract 2 t.size = ⟨(l.drop 1).toArray⟩) := by show _ = _; rw [ext_drop, hl]; rfl
      have HPO := Lib.hid (fun W => prefix_any t ⟨#[0, 255]⟩ W)
      have HPV := Lib.hid (fun W => prefix_any t ⟨#[0, 1]⟩ W)
      rw [hl] at HPO HPV
      rw [hl] at HRA
      clear hl h0 HI
      obtain ⟨c, hc0⟩ : ∃ c, t[0] = c := ⟨_, rfl⟩
      rw [hc0] at HPO HPV HRA
      by_cases hc : c = 0
      · have hz : (((c.toNat : Nat) : Int) != 0) = false := by rw [hc]; rfl
        rw [hc] at HPO HPV HRA
        clear hc HX1
        match l, hll, HX2, HPO, HPV, HRA, HL with
        | [], hll, HX2, HPO, HPV, HRA, HL =>
          have HV := Lib.hid (HTK.out none (by rw [HRA.out, tk_end]; rfl))
          have HPO2 : Hid (∀ W, Calls Try.prog 53 #[.string t, .string ⟨#[0, 255]⟩] W fun e w' => e = .returned (.bool false) ∧ w' = W) := HPO.out
          have HPV2 : Hid (∀ W, Calls Try.prog 53 #[.string t, .string ⟨#[0, 1]⟩] W fun e w' => e = .returned (.bool false) ∧ w' = W) := HPV.out
          clear HPO HPV HRA HX2
          go_wp2_with fail
          refine (HPO2.out _).mono ?_
          rintro e y1 ⟨rfl, rfl⟩
          go_wp2_with fail
          refine (HPV2.out _).mono ?_
          rintro e y2 ⟨rfl, rfl⟩
          go_wp2_with fail
          rw [Exit.noGoto_ret]
          exact bodyPost_ret (v := .tuple #[.string ⟨#[]⟩, .string ⟨#[]⟩, .bool false]) (by simp [results, Try.results45, go_sem]) rfl ⟨by rw [← HV.out]; rfl, HKA.out⟩
        | d :: l', hll, HX2, HPO, HPV, HRA, HL =>
          have HX3 : Hid (t.extract 2 t.size = ⟨l'.toArray⟩) := HX2.out
          have hsz2 : l'.length + 2 = t.size := hll
          have hsl2 : ∀ W : World, (Instr.slice 9 (.string t) (some (.int .i64 2)) none none).run Try.prog W = .ok (.string ⟨l'.toArray⟩) W := fun W => by
            have h := run_slice_string_l (P := Try.prog) W 9 t Try.underlying9 .i64 2 (by omega) (by omega)
            rw [show (2 : Int).toNat = 2 from rfl, HX3.out] at h
            exact h
          have HS2 : Hid ((⟨l'.toArray⟩ : ByteArray).size + 2 = t.size) := by show _ = _; rw [← list_size]; exact hsz2
          clear HX2 HX3 hll hsz2
          by_cases h1 : d = 255
          · have HPO2 : Hid (∀ W, Calls Try.prog 53 #[.string t, .string ⟨#[0, 255]⟩] W fun e w' => e = .returned (.bool true) ∧ w' = W) := by rw [h1] at HPO; exact HPO.out
            have HRB : Hid (R = pre1 (q ++ [0]) (tkN l')) := by show _ = _; rw [HRA.out, h1, tk_own, pre1_app]
            clear HPO HPV HRA h1 HL
            have HAR : Hid (∀ X, GatU w.heap.size u5 q (wr.alloc X).drew ∧ Kept w (wr.alloc X).drew ∧ w.heap.size ≤ (wr.alloc X).drew.heap.size) := fun X =>
              ⟨HGA.out.kept (((Kept.refl _).alloc _).drew), HKA.out.trans (((Kept.refl _).alloc _).drew), (HKA.out.trans (((Kept.refl _).alloc X).drew)).size⟩
            have HCE : Hid (∀ v T, (wr.alloc (.cells #[v] T)).drew.cell? ⟨wr.heap.size, 0, none⟩ = some v) := fun v T => by
              show (wr.alloc _).cell? _ = _
              rw [World.cell?_alloc_mark]
              rfl
            have HQ2 : Hid (q.length ≤ 1000000000) := by show _ ≤ _; have := HQL.out; omega
            go_wp2_with fail
            refine (HPO2.out _).mono ?_
            rintro e y1 ⟨rfl, rfl⟩
            go_wp2_with fail
            go_region_law (refine step_gatu rfl (.tmp 22) (.tmp 23) rfl w.heap.size (HAR.out _).2.2 u5 q (by rfl) (HAR.out _).1 0 _ (by rfl) (HCE.out _ _) HQ2.out ?_; intro v9 w9 hG9 hB9; have HG9 := Lib.hid hG9; have HB9 : Hid (Kept w w9) := Below.trans (HAR.out _).2.1 hB9; clear hG9 hB9)
            all_goals
              go_wp2_with fail
              go_simp
              refine ⟨⟨_, _, _, _, _, ⟨⟨l'.toArray⟩, rfl, by have := HS2.out; omega, q ++ [0], HG9.out, HB9.out, HRB.out, by rw [List.length_append]; have := HS2.out; have := HQL.out; simp; omega⟩, rfl, rfl, rfl, rfl, rfl⟩, ?_⟩
              show (⟨l'.toArray⟩ : ByteArray).size < t.size
              have := HS2.out
              omega
          · have hp2 : List.isPrefixOf [0, 255] (0 :: d :: l') = false := by
              rw [List.isPrefixOf_cons_cons, List.isPrefixOf_cons_cons]
              simp
              exact fun h => h1 h.symm
            have HPO2 : Hid (∀ W, Calls Try.prog 53 #[.string t, .string ⟨#[0, 255]⟩] W fun e w' => e = .returned (.bool false) ∧ w' = W) := fun W => by rw [← hp2]; exact HPO.out W
            clear HPO hp2
            by_cases h2 : d = 1
            · have HPV2 : Hid (∀ W, Calls Try.prog 53 #[.string t, .string ⟨#[0, 1]⟩] W fun e w' => e = .returned (.bool true) ∧ w' = W) := by rw [h2] at HPV; exact HPV.out
              have HV := Lib.hid (HTK.out (some (q, l')) (by rw [HRA.out, h2, tk_over]; simp [pre1]))
              clear HPV HRA h1 h2 HL
              go_wp2_with fail
              refine (HPO2.out _).mono ?_
              rintro e y1 ⟨rfl, rfl⟩
              go_wp2_with fail
              refine (HPV2.out _).mono ?_
              rintro e y2 ⟨rfl, rfl⟩
              have hcv := (HGA.out.kept ((Kept.refl _).drew)).text (by have := HQL.out; omega)
              go_wp2_with fail
              go_region
              all_goals
                go_wp2_with fail
                rw [Exit.noGoto_ret]
                exact bodyPost_ret (v := .tuple #[.string ⟨q.toArray⟩, .string ⟨l'.toArray⟩, .bool true]) (by simp [results, Try.results45, go_sem]) rfl ⟨by rw [← HV.out]; rfl, HKA.out.drew⟩
            · have hp2 : List.isPrefixOf [0, 1] (0 :: d :: l') = false := by
                rw [List.isPrefixOf_cons_cons, List.isPrefixOf_cons_cons]
                simp
                exact fun h => h2 h.symm
              have HPV2 : Hid (∀ W, Calls Try.prog 53 #[.string t, .string ⟨#[0, 1]⟩] W fun e w' => e = .returned (.bool false) ∧ w' = W) := fun W => by rw [← hp2]; exact HPV.out W
              have HV := Lib.hid (HTK.out none (by rw [HRA.out, tk_bad _ _ h1 h2]; rfl))
              clear HPV hp2 HRA h1 h2 HL
              go_wp2_with fail
              refine (HPO2.out _).mono ?_
              rintro e y1 ⟨rfl, rfl⟩
              go_wp2_with fail
              refine (HPV2.out _).mono ?_
              rintro e y2 ⟨rfl, rfl⟩
              go_wp2_with fail
              rw [Exit.noGoto_ret]
              exact bodyPost_ret (v := .tuple #[.string ⟨#[]⟩, .string ⟨#[]⟩, .bool false]) (by simp [results, Try.results45, go_sem]) rfl ⟨by rw [← HV.out]; rfl, HKA.out⟩
      · have hz : (((c.toNat : Nat) : Int) != 0) = true := by rw [bne_iff_ne]; have := pos_nat hc; omega
        have HRB : Hid (R = pre1 (q ++ [c]) (tkN l)) := by show _ = _; rw [HRA.out, tk_byte _ _ hc, pre1_app]
        have hsl1 : ∀ W : World, (Instr.slice 9 (.string t) (some (.int .i64 1)) none none).run Try.prog W = .ok (.string ⟨l.toArray⟩) W := fun W => by
          have h := run_slice_string_l (P := Try.prog) W 9 t Try.underlying9 .i64 1 (by omega) (by omega)
          rw [show (1 : Int).toNat = 1 from rfl, HX1.out] at h
          exact h
        have HS1 : Hid ((⟨l.toArray⟩ : ByteArray).size + 1 = t.size) := by show _ = _; rw [← list_size]; exact hll
        clear hc HPO HPV HRA HX1 HX2 hll HL
        have HAR : Hid (∀ X, GatU w.heap.size u5 q (wr.alloc X).drew ∧ Kept w (wr.alloc X).drew ∧ w.heap.size ≤ (wr.alloc X).drew.heap.size) := fun X =>
          ⟨HGA.out.kept (((Kept.refl _).alloc _).drew), HKA.out.trans (((Kept.refl _).alloc _).drew), (HKA.out.trans (((Kept.refl _).alloc X).drew)).size⟩
        have HCE : Hid (∀ v T, (wr.alloc (.cells #[v] T)).drew.cell? ⟨wr.heap.size, 0, none⟩ = some v) := fun v T => by
          show (wr.alloc _).cell? _ = _
          rw [World.cell?_alloc_mark]
          rfl
        have HQ2 : Hid (q.length ≤ 1000000000) := by show _ ≤ _; have := HQL.out; omega
        go_wp2_with fail
        go_region_law (refine step_gatu rfl (.tmp 12) (.tmp 15) rfl w.heap.size (HAR.out _).2.2 u5 q (by rfl) (HAR.out _).1 c _ (by rfl) (HCE.out _ _) HQ2.out ?_; intro v9 w9 hG9 hB9; have HG9 := Lib.hid hG9; have HB9 : Hid (Kept w w9) := Below.trans (HAR.out _).2.1 hB9; clear hG9 hB9)
        all_goals
          go_wp2_with fail
          go_simp
          refine ⟨⟨_, _, _, _, _, ⟨⟨l.toArray⟩, rfl, by have := HS1.out; omega, q ++ [c], HG9.out, HB9.out, HRB.out, by rw [List.length_append]; have := HS1.out; have := HQL.out; simp; omega⟩, rfl, rfl, rfl, rfl, rfl⟩, ?_⟩
          show (⟨l.toArray⟩ : ByteArray).size < t.size
          have := HS1.out
          omega
end Go.Proofs.Ytccpbgkaeldlaaa
