/- From a walk of the one alone to the whole run, on every schedule. -/
import Derived.Test.YthifdfbdekkmgaaPart3
import Derived.Conc.LeavingOf
import Derived.Conc.FxEnd
import Derived.ChangeAgain
import Derived.Below
import Derived.SizedLaws
set_option linter.unusedVariables false
set_option linter.unusedSimpArgs false
set_option linter.unusedSectionVars false
set_option linter.unnecessarySimpa false
set_option linter.deprecated false
namespace Go.Proofs.Ythifdfbdekkmgaa
open Go.Conc Go.ConcX Go.RowKit Go.ChangeShapes Go.WideShapes Go.ChangeAt
set_option linter.unusedVariables false
set_option linter.unusedSectionVars false
theorem res_tmp {P : Program} {fn : Func} {t : Tmp} (h : fn.results = #[.tmp t]) (a : Array Value) (w : World) : (Go.results fn a).run P w = .ok (a.getD t undef) w := by
  simp [Go.results, h]
/-- The last step of the first activation of all. -/
theorem step_last {P : Program} {f : FuncId} {fn : Func} {t : Tmp} {a : Array Value} {todo : List Item} (hi : P.inits.idxOf? f = none) (hf : P.funcs[f]? = some fn) (h : fn.results = #[.tmp t]) (w : World) :
    stepG P true (G (fz f a todo true) []) w = .ended (.done (a.getD t undef)) w #[] := by
  simp [G, stepG, fz, unwind, hf, hi, Sem.runT_eq, res_tmp h, events_results_tmp h, doReturn, GStep.after, seen_none]
section
variable {P : Program} [NoCx P]
/-- ████ A law whose arguments name no memory: what it answers alone, whatever the answers asked, it answers on every schedule; no old block has turned. -/
theorem good_lone (hz : Zs P) {k : FuncId} {stub : Func} (hs : Stub P k stub) {f : FuncId} {fn : Func} {c : Code} {t : Tmp} {args : Array Value} {W : World}
    (hi : P.inits.idxOf? f = none) (hsp : seqSp P k f = false) (hf : (seqF P k stub)[f]? = some fn) (hc : fn.body = some c) (hres : fn.results = #[.tmp t]) (hflat : args.all flatV = true) (hg : P.globals.size ≤ W.heap.size)
    (h : ∀ W : World, Calls (Wi P (seqF P k stub)) f args W fun e w' => e = .returned (.bool true))
    (hp : PhaseAt P true (seqF P k stub) (seqSp P k) [trap (Wi P (seqF P k stub))] [] (OutOf (Wi P (seqF P k stub)) f (fun v _ => v = .bool true)) k) :
    ∃ M last o w' t', runNT P (M + 1) (solo (G (Frame.enter P f args .normal) []) W) #[] = (.ended o w', t') ∧ runN P M (solo (G (Frame.enter P f args .normal) []) W) = .next last ∧
      step P last = .ended o w' ∧ Go.Conc.Good P (fun v w' => v = .bool true ∧ Below W.heap.size W w') last o w' t' := by
  have hr : HR P (fun _ => False) (fun _ _ => False) W W := hr_none hg hg
  have hru : HR (Wi P (seqF P k stub)) (fun _ => False) (fun _ _ => False) W W := hr_none (P := Wi P (seqF P k stub)) hg hg
  rw [solo_eq_crowd]
  have hF : Fr P (fun _ => False) W.heap.size #[G (Frame.enter P f args .normal) []] (G (Frame.enter P f args .normal) []) #[] :=
    ⟨rfl, ⟨_, leavers_one _ _⟩, past_nil.mono (Nat.zero_le _)⟩
  obtain ⟨N, gl', u', s, g', w', gs', sl', t', Shun', hrun, hOut, hRel, hF', hA⟩ := lone_real (br := []) (Shun := fun _ => False) (sl := none) (R := fun v _ => v = .bool true) hz hs hsp hf hc hr hru (flat_alike _ hflat) (fun _ _ _ _ h => h)
    (fun τ => (h (W2 W τ 0)).mono fun e w' he => ⟨_, he, rfl⟩) hp (fun _ _ h => h.elim) (fun c _ => ⟨fun _ _ h => h, fun h => h⟩) hF
  obtain ⟨a, todo, v, fn', rfl, hfn', hrr, hv⟩ := hOut
  obtain rfl : fn' = fn := Option.some.inj (hfn'.symm.trans hf)
  have hv0 : v = .bool true := hv u'.tape u'.drawn
  have hrr0 := hrr u'.tape u'.drawn
  rw [res_tmp hres] at hrr0
  have hav : a.getD t undef = .bool true := by
    injection hrr0 with e
    rw [e]; exact hv0
  rcases hRel.out.inv with ⟨f2, a2, a', todo2, back2, l2, l2', k1, k2, k3, k4, e1, e2⟩ | ⟨f2, a2, a', l2, l2', k1, _, _, _, k5, e1, _⟩
  · unfold G fz at e1
    simp only [Goroutine.mk.injEq, Frame.mk.injEq] at e1
    obtain ⟨⟨rfl, rfl, rfl, _, hb, _⟩, hl, _⟩ := e1
    have hl2 : l2 = [] := by
      have := congrArg List.length hl
      simp at this
      exact this
    subst hl2
    cases k4
    have hb2 : back2 = true := by
      cases back2
      · simp at hb
      · rfl
    subst hb2
    rw [List.nil_append] at e2
    have hfP : P.funcs[f]? = some fn' := by
      have := (hs.fs (ext_all (seqF P k stub))).same f fn' hsp hf
      exact this
    have hav' : a'.getD t undef = .bool true := by
      have := k3.getD t (.undef s)
      rw [hav] at this
      generalize a'.getD t undef = x at this
      cases this
      rfl
    have hB : Below W.heap.size W w' := ⟨hA.os, hA.tape, hA.output, hA.size, fun b hb => hA.keep b hb (fun _ h => h)⟩
    obtain ⟨q, hq⟩ := hF'.leave
    have hG : Goes P true AtRel DC0 (AtEnd P Shun' w'.heap.size (fun v w' => v = .bool true ∧ Below W.heap.size W w')) 0 g' w' := by
      refine Goes.stop fun w1 r1 => ?_
      obtain ⟨d, rfl⟩ := r1
      subst e2
      refine ⟨rfl, .bool true, #[], ?_, fun e he => by simp at he, rfl, ⟨hB.os, hB.tape, hB.output, hB.size, hB.block⟩⟩
      rw [step_last hi hfP hres, hav']
    obtain ⟨M, last, o, w2, t2, x1, x2, x3, x4⟩ := beside_ends (P := P) (sl := sl') dc0_evL hF'.first hq hF'.past hG
    refine ⟨N + M, last, o, w2, t2, ?_, ?_, x3, x4⟩
    · rw [Nat.add_assoc, runNT_add, hrun]; exact x1
    · rw [runN_add, ← runNT_fst P _ _ #[], hrun]; exact x2
  · exfalso
    have hm := congrArg (fun g => g.frame.mode) e1
    simp [G, fz, Frame.enter] at hm
end
/-- The tables' blocks lie there. -/
theorem shaped_size {P : Program} {W : World} (h : W.ShapedOpen P) (h0 : P.globals.size < (begin P (fun _ _ => 0) default).world.heap.size) : P.globals.size ≤ W.heap.size := by
  obtain ⟨o, o0, h1, _⟩ := h.2 P.globals.size (Nat.le_refl _) h0
  exact Nat.le_of_lt (Array.getElem?_eq_some_iff.1 h1).1
section
variable {H : Type} {enc : TypeId × Value → H}
/-- The frame of a statement, for a call that starts goroutines; the world's shape is handed on. -/
theorem returnsInLeavingWide_shaped {a : Assume} {C : Checked} {os : Os} {f : FuncId} {fn : Func} {s : ChangeSpec} {conds : List PathCond} {apart fresh handsOn again : Bool}
    (own : ownKnob C.prog.godebug = none) (started : os.Started) (hfn : C.prog.funcs[f]? = some fn)
    (witness : ∃ (w : World) (tape : Tape) (i : Input), w.os = os ∧ (w.forCall tape i).Shaped C.prog ∧ i.vars = [] ∧ Input.okWide C.prog (w.forCall tape i) .any w.heap.size f i ∧
      s.pre6 enc C.prog fn conds apart (w.forCall tape i).memory i.args ∧ a.holds C.prog (lone (Frame.enter C.prog f i.args .normal) [] (w.forCall tape i)))
    (runs : ∀ (W : World) (base : Nat) (args : Array Value) (ds gs : List (DataW H)) (before : List MemPlace),
      (∀ (j : Nat) t v, fn.params[j]? = some t → args[j]? = some v → Value.okWide C.prog W .any base t v) →
      DataW.Whole enc C.prog fn.params.toList s.vars apart W args.toList ds gs before →
      W.ShapedOpen C.prog →
      ∃ M last o w' t', runNT C.prog (M + 1) (solo (G (Frame.enter C.prog f args .normal) []) W) #[] = (.ended o w', t') ∧ runN C.prog M (solo (G (Frame.enter C.prog f args .normal) []) W) = .next last ∧
        step C.prog last = .ended o w' ∧ Conc.Good C.prog (fun v W' => s.post enc C.prog fn apart fresh handsOn again W args v W') last o w' t') :
    ReturnsInLeavingWide a C os f .any (s.pre6 enc C.prog fn conds apart) (s.post enc C.prog fn apart fresh handsOn again) := by
  refine returnsInLeavingWide_of_good own started witness ?_
  intro w tape i _ hsh _ hok hpre hholds
  obtain ⟨_, _, _, fn', hfn', _, _, _, _, hval⟩ := hok
  have e : fn' = fn := Option.some.inj (hfn'.symm.trans hfn)
  subst e
  obtain ⟨⟨ds, gs, before, hw, hc⟩, hz⟩ := hpre
  have hw' := DataW.Whole.of_heap (w' := w.forCall tape i) (by rfl) hw
  obtain ⟨M, last, o, w', t', h1, h2, h3, h4⟩ := runs (w.forCall tape i) w.heap.size i.args ds gs before hval hw' hsh
  exact ⟨M, last, o, w', t', h1, h2, h3, h4.mono fun v hp => ChangeSpec.post_blind hp⟩
end
end Go.Proofs.Ythifdfbdekkmgaa
