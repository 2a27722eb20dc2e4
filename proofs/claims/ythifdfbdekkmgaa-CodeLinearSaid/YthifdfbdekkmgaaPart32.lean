/- What code.sums' stub does alone. -/
import Derived.Test.YthifdfbdekkmgaaPart19
import Derived.Test.YthifdfbdekkmgaaPart31
import Derived.Test.YthifdfbdekkmgaaPart16
set_option linter.unusedVariables false
set_option linter.unusedSimpArgs false
set_option linter.unusedSectionVars false
set_option linter.unnecessarySimpa false
set_option linter.deprecated false
namespace Go.Proofs.Ythifdfbdekkmgaa
open Go.Conc
set_option linter.unusedVariables false
set_option linter.unusedSectionVars false
theorem kid_sumS : Kid.sumS = sumS := by kernel_rfl
theorem sr_lone {P : Program} {F : Array Func} {sp : FuncId → Bool} {r : Ren} {l l' : List Frame} (h : SR P true F sp r l l') : SR (Wi P F) true F (fun _ => false) r l l' := by
  induction h with
  | nil => exact .nil
  | cons h1 h2 h3 _ ih =>
    refine .cons ⟨rfl, h1.2⟩ ?_ h3 ih
    rw [List.all_eq_true] at h2 ⊢
    intro x hx
    have := h2 x hx
    cases x with
    | code c => exact codeW_wi c this
    | inLoop c => exact codeW_wi c this
    | inBlock _ => rfl
    | inRegion ops t =>
      have h' : (ops.all fun o => white P true F o.op) = true := this
      show (ops.all fun o => white (Wi P F) true F o.op) = true
      simp only [Array.all_eq_true_iff_forall_mem] at h' ⊢
      exact fun o ho => white_wi _ (h' o ho)
    | _ => exact this
theorem Will.tape {Q : Program} {Stop : Goroutine → World → Prop} (hH : Halts Q Stop) {g : Goroutine} {u : World} (h : Will Q Stop g u) (T : Tape) (D : Nat) : Will Q Stop g (W2 u T D) := by
  cases h with
  | stop hs => exact .stop (hH.blind _ _ T D hs)
  | step nx nw h1 h2 => exact .step nx nw h1 h2
theorem seq_body : Seq.stub.body = some Seq.code := rfl
theorem seq_nt : Seq.stub.ntmps = 20 := rfl
set_option maxRecDepth 100000 in
/-- ████ The stub, alone: what it is handed is two slices of texts; it answers the sums in a block of its own. -/
theorem lone_at {Stop : Goroutine → World → Prop} (hH : Halts Seq.prog Stop) (a : Array Value) (l : List Frame) (u : World) (hl : l ≠ []) (hsz : ∃ fn, (seqF Try.prog 22 Seq.stub)[22]? = some fn ∧ fn.params.size = a.size)
    (hr : ∃ r : Ren, HR Seq.prog (fun _ => False) r u u ∧ AR r a a ∧ SR Try.prog true (seqF Try.prog 22 Seq.stub) (seqSp Try.prog 22) r l l)
    (hw : Will Seq.prog Stop (G (Frame.enter Seq.prog 22 a .normal) (l ++ [trap Seq.prog])) u) : LoneAt Seq.prog Stop [trap Seq.prog] a l u := by
  have hz := Seq.zs2
  have hS := Seq.lone
  obtain ⟨r, hr, hA, hL⟩ := hr
  have ha : a.size = 2 := by
    obtain ⟨fn, e, h⟩ := hsz
    have := Seq.func22
    have e2 : fn = Seq.stub := Option.some.inj (e.symm.trans this)
    rw [← h, e2]
    rfl
  have hent : Frame.enter Seq.prog 22 a .normal = (base 22).at ⟨a ++ Array.replicate (20 - a.size) undef, []⟩ [.code Seq.code] := enter_at a Seq.func22 seq_body
  have hli : LI Seq.prog [trap Seq.prog] (G (Frame.enter Seq.prog 22 a .normal) (l ++ [trap Seq.prog])) u := by
    rw [hent]
    exact ⟨r, 22, _, [.code Seq.code], false, l, rfl, hr, ⟨rfl, _, Seq.func22⟩, by simp [itemW, hS.code _ _ _ rfl Seq.func22 seq_body], pad_alike hA 20, sr_lone hL⟩
  have hwell : Well Seq.prog Stop (G (Frame.enter Seq.prog 22 a .normal) (l ++ [trap Seq.prog])) u := ⟨hw, hli⟩
  obtain ⟨aR, capR, rows, aL, cap, ss, rfl, b1, b2, t1, t2, b3, b4⟩ := in_inv hH ha hr hA (l := l) (by have := hwell; rw [hent] at this; exact this)
  refine ⟨rows, ss, aR, aL, capR, cap, rfl, t1, t2, b1, b2, b4, b3, ?_⟩
  intro c l0 hcl
  have hcalls := sums_big aR aL capR cap rows ss (W0 u) t1 t2 b1 b2 b4 b3
  obtain ⟨e, w', fr, ⟨Gl, rfl, hbig, hk, hG⟩, hc, hf, hlv⟩ := hcalls (l ++ [trap Seq.prog])
  obtain ⟨n, hn⟩ : Steps Seq.prog _ _ := hc
  obtain ⟨hruns, hK⟩ := runs_of hz hS n _ _ _ _ _ _ (.li (hli.tape tau0 0)) hn
  have hne : l ++ [trap Seq.prog] ≠ [trap Seq.prog] := by
    intro h
    have := congrArg List.length h
    simp at this
    exact hl this
  obtain ⟨T', D', hdesc, hw2⟩ := desc_of hz hS hH hruns hne (show l ++ [trap Seq.prog] ≠ [] by simp) tau0 0 ⟨(hwell.will.tape hH tau0 0).tape hH tau0 0, (hli.tape tau0 0).tape tau0 0⟩
  obtain ⟨hm, hd, hkind, fn, hfn, hres⟩ := hlv
  obtain ⟨r', f', a', t', b', l', e2, _⟩ := hw2.li
  have e3 : fr = fz f' a' t' b' := congrArg (fun g => g.frame) e2
  subst e3
  have hf' : f' = 22 := hf
  subst hf'
  have hb' : b' = true := by
    cases b'
    · simp [fz] at hm
    · rfl
  subst hb'
  have hfn' : fn = Seq.stub := Option.some.inj (hfn.symm.trans Seq.func22)
  subst hfn'
  have hr4 : Seq.stub.results = #[.tmp 4] := rfl
  have hres' : (Go.results Seq.stub a').run Seq.prog w' = .ok (.slice (some ⟨Gl, 0, none⟩) rows.length rows.length) w' := hres
  have ha4 : a'.getD 4 undef = .slice (some ⟨Gl, 0, none⟩) rows.length rows.length := by
    have : (Go.results Seq.stub a').run Seq.prog w' = .ok (a'.getD 4 undef) w' := by simp [Go.results, hr4]
    rw [this] at hres'
    injection hres'
  subst hcl
  have hstep : stepG Seq.prog true (G (fz 22 a' t' true) (c :: (l0 ++ [trap Seq.prog]))) (W2 (W2 w' T' D') tau0 0) = .go (G (c.finish (.slice (some ⟨Gl, 0, none⟩) rows.length rows.length)) (l0 ++ [trap Seq.prog])) (W2 w' tau0 0) (seen Seq.prog 22 ((Go.results Seq.stub a').events Seq.prog (W2 (W2 w' T' D') tau0 0) #[])) := by
    rw [step_back Seq.func22]
    have : (Go.results Seq.stub a').run Seq.prog (W2 (W2 w' T' D') tau0 0) = .ok (a'.getD 4 undef) (W2 (W2 w' T' D') tau0 0) := by simp [Go.results, hr4]
    rw [this, ha4]
    rfl
  have hns : ¬ Stop (G (fz 22 a' t' true) (c :: l0 ++ [trap Seq.prog])) (W2 w' T' D') := fun hs => by
    obtain ⟨_, _, _, e⟩ := hH.out _ _ hs
    exact hne (congrArg (fun g => g.callers) e)
  have hfull := hdesc.trans (.next hns hstep .self)
  refine ⟨Gl, W2 w' tau0 0, ?_, hG, ?_, fun b hb => hk.block b hb, hk.size⟩
  · generalize hgE : G (c.finish (.slice (some ⟨Gl, 0, none⟩) rows.length rows.length)) (l0 ++ [trap Seq.prog]) = gE at hfull ⊢
    have hc0 : gE.callers = l0 ++ [trap Seq.prog] := by rw [← hgE]; rfl
    clear hgE hstep
    generalize hgS : G (Frame.enter Seq.prog 22 #[.slice aR rows.length capR, .slice aL ss.length cap] .normal) (c :: l0 ++ [trap Seq.prog]) = gS at hfull ⊢
    have hc1 : gS.callers = c :: l0 ++ [trap Seq.prog] := by rw [← hgS]; rfl
    generalize hW : W2 (W0 u) tau0 0 = uS at hfull
    have hW' : ∀ τ, W2 uS τ 0 = W2 u τ 0 := fun τ => by rw [← hW]; rfl
    cases hfull with
    | self =>
      rw [hc0] at hc1
      have := congrArg List.length hc1
      simp at this
    | next _ e d =>
      rw [hW'] at e
      exact ⟨_, _, _, _, e, d⟩
  · rw [kid_sumS]
    have hx := hbig.exact
    have he : (Array.ofFn (n := rows.length) fun j => Value.string (nth (sumsL rows ss) j.val)) = Array.ofFn (n := rows.length) fun j => Value.string (sumS (rows.getD j.val ByteArray.empty) ss) := by
      congr 1
      funext j
      unfold sumsL
      rw [← nth_get _ j.val (by rw [List.length_map]; exact j.isLt), List.getElem_map, nth_get rows j.val j.isLt]
      rfl
    rw [← he]
    exact hx
end Go.Proofs.Ythifdfbdekkmgaa
