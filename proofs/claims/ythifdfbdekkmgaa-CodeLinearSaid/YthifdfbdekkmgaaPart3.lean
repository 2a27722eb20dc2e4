/- RenBeside, RenSim, RenComes, RenSeq, RenZero, RenCall, SeqProg, RenWi. -/
import Derived.Test.YthifdfbdekkmgaaPart2
import Derived.Conc.Beside
import Derived.Conc.FxBegin
import Derived.Calls
import Derived.Test.YthifdfbdekkmgaaProg
set_option linter.unusedVariables false
set_option linter.unusedSimpArgs false
set_option linter.unusedSectionVars false
set_option linter.unnecessarySimpa false
set_option linter.deprecated false
/- The other's step, beside goroutines that only leave. -/
namespace Go.Proofs.Ythifdfbdekkmgaa
open Go.Conc
open Go.ConcN (sumTo upd sumTo_upd upd_ne upd_same)
set_option linter.unusedVariables false
/-- A machine of which all but goroutine 0 only leave. -/
structure Fr (P : Program) (Shun : Loc → Prop) (B : Nat) (gs : Array Goroutine) (g : Goroutine) (t : Trace) : Prop where
  first : gs[0]? = some g
  leave : ∃ q, Leavers P t gs q
  past : Past Shun B t
theorem ofEv_g {g : Nat} {fn : FuncId} {pos : String} {es : Array Event} : ∀ op ∈ MemOp.ofEvents g fn pos es, op.g = g := fun op hop => by
  obtain ⟨e, _, rfl⟩ := Go.Conc.mem_ofEvents hop
  rfl
/-- Goroutine 0's own step leaves the leavers leaving. -/
theorem leavers_own {P : Program} {t : Trace} {gs : Array Goroutine} {q : Nat → Nat} (h : Leavers P t gs q) (hz : 0 < gs.size) (g g' : Goroutine) (w' : World) (u : Trace) (hu : ∀ op ∈ u, op.g = 0) :
    Leavers P (t ++ u) ((gs.map (woken P g g' w')).setIfInBounds 0 g') q := by
  refine ⟨fun j x hj hx => ?_, fun j hj => ?_⟩
  · have hne : 0 ≠ j := by omega
    rw [Array.getElem?_setIfInBounds_ne hne, Array.getElem?_map] at hx
    obtain ⟨y, hy, rfl⟩ := Option.map_eq_some_iff.1 hx
    have hq := h.old j y hj hy
    rw [woken_quitsD hq, Deaf_other t (g' := 0) (show (0 : Nat) ≠ j by omega) _ hu]
    exact hq
  · rw [Deaf_other t (g' := 0) (by simp at hj; omega) _ hu]
    exact h.above j (by simpa using hj)
/-- A leaver slips. -/
theorem leavers_slip {P : Program} {t : Trace} {gs : Array Goroutine} {q : Nat → Nat} (h : Leavers P t gs q) {i k : Nat} {g g' : Goroutine} {w' : World} {es : Array Event} (hpos : 0 < i) (hi : gs[i]? = some g) (hq : QuitsD P k (deafBehind (Deaf t i) es) g') {fn : FuncId} {pos : String} :
    Leavers P (t ++ MemOp.ofEvents i fn pos es) ((gs.map (woken P g g' w')).setIfInBounds i g') (upd q i k) := by
  have hlt : i < gs.size := (Array.getElem?_eq_some_iff.1 hi).1
  refine ⟨fun j x hj hx => ?_, fun j hj => ?_⟩
  · by_cases hji : i = j
    · subst hji
      rw [Array.getElem?_setIfInBounds_self_of_lt (by simpa using hlt)] at hx
      obtain rfl := Option.some.inj hx
      rw [upd_same, Deaf_own]
      exact hq
    · rw [Array.getElem?_setIfInBounds_ne hji, Array.getElem?_map] at hx
      obtain ⟨y, hy, rfl⟩ := Option.map_eq_some_iff.1 hx
      have hqj := h.old j y hj hy
      rw [woken_quitsD hqj, upd_ne q k (Ne.symm hji), Deaf_other t hji _ ofEv_g]
      exact hqj
  · rw [Deaf_other t (g' := i) (by simp at hj; omega) _ ofEv_g]
    exact h.above j (by simpa using hj)
/-- One own step of goroutine 0's. -/
theorem fr_step1 {P : Program} {Shun : Loc → Prop} {g : Goroutine} (hrun : g.status = .running) (K : Goroutine → World → Prop) (w0 : World) :
    ∀ (M : Nat) (gs : Array Goroutine) (d0 : Nat) (sl : Option (Nat × Nat)) (t : Trace) (q : Nat → Nat) (B : Nat), sumTo gs.size q < M → gs[0]? = some g → Leavers P t gs q → Past Shun B t →
      (∀ d, ∃ g' w' es, stepG P true g (w0.at d) = .go g' w' es ∧ (∀ e ∈ es, EvL Shun w'.heap.size e) ∧ B ≤ w'.heap.size ∧ K g' w') →
      ∃ (N : Nat) (gs' : Array Goroutine) (g' : Goroutine) (w' : World) (sl' : Option (Nat × Nat)) (t' : Trace),
        runNT P N (crowd gs (w0.at d0) sl) t = (.next (crowd gs' w' sl'), t') ∧ Fr P Shun w'.heap.size gs' g' t' ∧ gs'.size = gs.size ∧ K g' w' := by
  intro M
  induction M with
  | zero => intro gs d0 sl t q B hM; omega
  | succ M ih =>
    intro gs d0 sl t q B hM h0 hL hP hs
    have haw : ∀ x ∈ gs, awake x := by
      intro x hx
      obtain ⟨i, hi, rfl⟩ := Array.mem_iff_getElem.1 hx
      rcases Nat.eq_zero_or_pos i with rfl | hpos
      · have : gs[0] = g := by simpa [Array.getElem?_eq_getElem hi] using h0
        rw [this]; exact awake_of (.inl hrun)
      · exact awake_of ((hL.old i _ hpos (Array.getElem?_eq_getElem hi)).status.elim .inl fun x => .inr (.inr x))
    obtain ⟨i, x, d, sl', hi, hx, hst⟩ := crowd_pick (P := P) (w := w0.at d0) (sl := sl) haw ⟨0, g, h0, hrun⟩
    have hat : (w0.at d0).at d = w0.at d := rfl
    rw [hat] at hst
    have hlt : i < gs.size := (Array.getElem?_eq_some_iff.1 hi).1
    rcases Nat.eq_zero_or_pos i with rfl | hpos
    · obtain rfl : x = g := by rw [h0] at hi; exact (Option.some.inj hi).symm
      obtain ⟨g', w', es, e, hev, hz, hK⟩ := hs d
      have hrunT := runT_crowd_go (P := P) (sl := sl') (i := 0) hi (show stepG P (0 == 0) x (w0.at d) = _ from e)
      refine ⟨1, _, g', w', sl', t ++ MemOp.ofEvents 0 x.frame.fn x.frame.place es, by simp only [runNT, hst, hrunT], ⟨by simp [hlt], ⟨q, leavers_own hL hlt x g' w' _ ofEv_g⟩, (hP.mono hz).own hev⟩, by simp, hK⟩
    · have hq := hL.old i x hpos hi
      have hi0 : (i == 0) = false := by simp; omega
      cases hqi : q i with
      | zero => rw [hqi] at hq; rw [hq.1] at hx; cases hx
      | succ k =>
        rw [hqi] at hq
        rcases hq with ⟨hf, _⟩ | ⟨_, g', es, hm, hstp, hq'⟩
        · rw [hf] at hx; cases hx
        have hrunT := runT_crowd_go (P := P) (sl := sl') (i := i) hi (by rw [hi0]; exact hstp (w0.at d))
        have hsum : sumTo gs.size (upd q i k) + (k + 1) = sumTo gs.size q + k := by
          have := sumTo_upd q k id hlt
          simpa [hqi] using this
        obtain ⟨N, gs', g2, w', sl2, t', hr, hF, hz, hK⟩ := ih ((gs.map (woken P x g' (w0.at d))).setIfInBounds i g') d sl' (t ++ MemOp.ofEvents i x.frame.fn x.frame.place es) (upd q i k) B (by simp; omega)
          (by
            have hne : i ≠ 0 := by omega
            rw [Array.getElem?_setIfInBounds_ne hne, Array.getElem?_map, h0]
            simp [woken_run hrun])
          (leavers_slip hL hpos hi hq') (hP.mute (by omega) hm) hs
        exact ⟨N + 1, gs', g2, w', sl2, t', by simp only [runNT, hst, hrunT]; exact hr, hF, by simpa using hz, hK⟩
theorem fr_step {P : Program} {Shun : Loc → Prop} {B : Nat} {gs : Array Goroutine} {g : Goroutine} {w : World} {sl : Option (Nat × Nat)} {t : Trace} (h : Fr P Shun B gs g t) (hrun : g.status = .running) (K : Goroutine → World → Prop)
    (hs : ∀ d, ∃ g' w' es, stepG P true g (w.at d) = .go g' w' es ∧ (∀ e ∈ es, EvL Shun w'.heap.size e) ∧ B ≤ w'.heap.size ∧ K g' w') :
      ∃ (N : Nat) (gs' : Array Goroutine) (g' : Goroutine) (w' : World) (sl' : Option (Nat × Nat)) (t' : Trace),
        runNT P N (crowd gs w sl) t = (.next (crowd gs' w' sl'), t') ∧ Fr P Shun w'.heap.size gs' g' t' ∧ gs'.size = gs.size ∧ K g' w' := by
  obtain ⟨q, hq⟩ := h.leave
  exact fr_step1 hrun K w (sumTo gs.size q + 1) gs w.drawn sl t q B (Nat.lt_succ_self _) h.first hq h.past hs
end Go.Proofs.Ythifdfbdekkmgaa

/- The other comes, beside leavers, to where the one comes alone. -/
namespace Go.Proofs.Ythifdfbdekkmgaa
open Go.Conc
set_option linter.unusedVariables false
/-- The one's next states, till it stops. -/
inductive Desc (Q : Program) (Stop : Goroutine → World → Prop) : Goroutine → World → Goroutine → World → Prop
  | self {g : Goroutine} {u : World} : Desc Q Stop g u g u
  | next {g g1 g2 : Goroutine} {u u1 u2 : World} {τ : Tape} {es : Array Event} : ¬ Stop g u → stepG Q true g (W2 u τ 0) = .go g1 u1 es → Desc Q Stop g1 u1 g2 u2 → Desc Q Stop g u g2 u2
section
variable {Q : Program} [NoCx Q] {Stop : Goroutine → World → Prop}
theorem Desc.trans {g g1 g2 : Goroutine} {u u1 u2 : World} (h : Desc Q Stop g u g1 u1) (k : Desc Q Stop g1 u1 g2 u2) : Desc Q Stop g u g2 u2 := by
  induction h with
  | self => exact k
  | next hn e _ ih => exact .next hn e (ih k)
theorem Will.desc {g g2 : Goroutine} {u u2 : World} (h : Will Q Stop g u) (k : Desc Q Stop g u g2 u2) : Will Q Stop g2 u2 := by
  induction k with
  | self => exact h
  | next hn e _ ih =>
    cases h with
    | stop hs => exact absurd hs hn
    | step nx nw hst hw =>
      obtain ⟨es', e'⟩ := hst _
      rw [e'] at e
      cases e
      exact ih (hw _)
/-- What holds where it holds of all that may come next. -/
theorem Will.strong {M : Goroutine → World → Prop}
    (hM : ∀ g u, Will Q Stop g u → (∀ τ g1 u1 es g2 u2, ¬ Stop g u → stepG Q true g (W2 u τ 0) = .go g1 u1 es → Desc Q Stop g1 u1 g2 u2 → M g2 u2) → M g u)
    {g : Goroutine} {u : World} (h : Will Q Stop g u) : M g u := by
  have key : ∀ {g u}, Will Q Stop g u → ∀ g2 u2, Desc Q Stop g u g2 u2 → M g2 u2 := by
    intro g u h
    induction h with
    | stop hs =>
      intro g2 u2 hd
      cases hd with
      | self => exact hM _ _ (.stop hs) fun τ g1 u1 es g2 u2 hn _ _ => absurd hs hn
      | next hn _ _ => exact absurd hs hn
    | step nx nw hst hw ih =>
      rename_i g0 u0
      intro g2 u2 hd
      have on : ∀ τ g1 u1 es g2 u2, stepG Q true g0 (W2 u0 τ 0) = .go g1 u1 es → Desc Q Stop g1 u1 g2 u2 → M g2 u2 := by
        intro τ g1 u1 es g2 u2 e hd
        obtain ⟨es', e'⟩ := hst τ
        rw [e'] at e
        cases e
        exact ih τ g2 u2 hd
      cases hd with
      | self => exact hM _ _ (.step nx nw hst hw) fun τ g1 u1 es g2 u2 _ e hd => on τ g1 u1 es g2 u2 e hd
      | next _ e hd => exact on _ _ _ _ _ _ e hd
  exact key h g u .self
theorem Will.not_ended {g : Goroutine} {u : World} (h : Will Q Stop g u) (hn : ¬ Stop g u) (he : ∀ z, ∃ o z' es, stepG Q true g z = .ended o z' es) : False := by
  cases h with
  | stop hs => exact hn hs
  | step nx nw hst _ =>
    obtain ⟨es, e⟩ := hst (fun _ _ => 0)
    obtain ⟨o, z', es', e'⟩ := he (W2 u (fun _ _ => 0) 0)
    rw [e'] at e
    cases e
/-- Who panics will not stop. -/
theorem Will.calm (hH : Halts Q Stop) {g : Goroutine} {u : World} (h : Will Q Stop g u) : ¬ panics Q.funcs [trap Q] g := by
  induction h with
  | stop hs =>
    rintro ⟨c, fr, l, rfl, hm, _⟩
    obtain ⟨f, a, todo, e⟩ := hH.out _ _ hs
    unfold G fz at e
    simp only [Goroutine.mk.injEq] at e
    rw [e.1] at hm
    cases hm
  | step nx nw hst hw ih =>
    rintro ⟨c, fr, l, rfl, hm, hd, ⟨fn, hf⟩, hl⟩
    have hcat : Frame.catches Q fr = false := by simp [Frame.catches, hf]
    have e1 : ∀ (x : Frame) (cs : List Frame) (z : World), stepG Q true (G fr (x :: cs)) z = .go (G (x.raise c) cs) z := by
      intro x cs z
      obtain ⟨f1, f2, f3, f4, f5, f6, f7⟩ := fr
      simp only at hm hd
      subst hm hd
      simp [G, stepG, unwind, hcat]
    obtain ⟨es, e⟩ := hst (fun _ _ => 0)
    cases l with
    | nil =>
      rw [List.nil_append, e1] at e
      have hw0 := hw (fun _ _ => 0)
      rw [← (GStep.go.inj e).1] at hw0
      refine hw0.not_ended (fun hs => ?_) (fun z => trap_panic c z)
      obtain ⟨f, a, todo, e⟩ := hH.out _ _ hs
      unfold G fz at e
      simp only [Goroutine.mk.injEq] at e
      have := e.1
      simp [Frame.raise, trap] at this
    | cons x l =>
      rw [List.cons_append, e1] at e
      have ih0 := ih (fun _ _ => 0)
      rw [← (GStep.go.inj e).1] at ih0
      have hx := hl x (by simp)
      obtain ⟨⟨c', k1⟩, k2, k3⟩ := raise_at x c
      exact ih0 ⟨c', x.raise c, l, rfl, k1, by rw [k2]; exact hx.1, by rw [k3]; exact hx.2, fun y hy => hl y (by simp [hy])⟩
/-- Who is out has stopped. -/
theorem Will.out (hH : Halts Q Stop) {f : FuncId} {a : Array Value} {todo : List Item} {u : World} (h : Will Q Stop (G (fz f a todo true) [trap Q]) u) {fn : Func} (hfn : Q.funcs[f]? = some fn) : Stop (G (fz f a todo true) [trap Q]) u := by
  cases h with
  | stop hs => exact hs
  | step nx nw hst hw =>
    exfalso
    obtain ⟨es, e⟩ := hst (fun _ _ => 0)
    have hw0 := hw (fun _ _ => 0)
    rw [step_back hfn] at e
    cases hrun : (Go.results fn a).run Q (W2 u (fun _ _ => 0) 0) with
    | halt x y => rw [hrun] at e; cases x <;> cases e
    | ok v z =>
      rw [hrun] at e
      rw [← (GStep.go.inj e).1] at hw0
      refine hw0.not_ended (fun hs => ?_) (fun z => trap_next v z)
      obtain ⟨f', a', todo', e⟩ := hH.out _ _ hs
      unfold G at e
      simp only [Goroutine.mk.injEq] at e
      cases e.2.1
end
end Go.Proofs.Ythifdfbdekkmgaa

/- The other comes, beside leavers and through what it starts and joins, to where the one comes alone. -/
namespace Go.Proofs.Ythifdfbdekkmgaa
open Go.Conc
set_option linter.unusedVariables false
/-- No place of the block is shunned. -/
def Free (Shun : Loc → Prop) (c : Nat) : Prop := (∀ a : Addr, a.block = c → ¬ Shun (.cell a)) ∧ ¬ Shun (.obj c)
/-- The one and the other, alike: what the one names is not shunned; nor is what is yet to be made. -/
structure Rel (P : Program) (bq : Bool) (F : Array Func) (sp : FuncId → Bool) (bl br : List Frame) (Shun : Loc → Prop) (r : Ren) (gl : Goroutine) (u : World) (g : Goroutine) (w : World) : Prop where
  heap : HR P (fun _ => False) r u w
  free : ∀ b c, r b c → Free Shun c
  above : ∀ c, w.heap.size ≤ c → Free Shun c
  out : Out P bq F sp r bl br gl g
/-- What has been done to the other's world. -/
structure Ac (r : Ren) (w : World) (s : Ren) (w' : World) : Prop where
  fresh : ∀ b c, s b c → r b c ∨ w.heap.size ≤ c
  keep : ∀ c, c < w.heap.size → (∀ b, ¬ r b c) → w'.heap[c]? = w.heap[c]?
  size : w.heap.size ≤ w'.heap.size
  os : w'.os = w.os
  output : w'.output = w.output
  tape : w'.tape = w.tape
theorem Ac.refl (r : Ren) (w : World) : Ac r w r w := ⟨fun _ _ h => .inl h, fun _ _ _ => rfl, Nat.le_refl _, rfl, rfl, rfl⟩
theorem Ac.trans {r s t : Ren} {w w' w'' : World} (h : Ac r w s w') (k : Ac s w' t w'') : Ac r w t w'' := by
  refine ⟨fun b c x => ?_, fun c hc hn => ?_, Nat.le_trans h.size k.size, k.os.trans h.os, k.output.trans h.output, k.tape.trans h.tape⟩
  · rcases k.fresh b c x with y | y
    · exact h.fresh b c y
    · exact .inr (Nat.le_trans h.size y)
  · rw [k.keep c (Nat.lt_of_lt_of_le hc h.size) ?_, h.keep c hc hn]
    intro b hb
    rcases h.fresh b c hb with y | y
    · exact hn b y
    · omega
theorem Adv.ac {r s : Ren} {u w u' w' : World} {d : Nat} (h : Adv (fun _ => False) r s u (w.at d) u' w') : Ac r w s w' :=
  ⟨fun b c x => (h.fresh b c x).imp id And.right, fun c hc hn => h.keep c hc (.inr hn), h.size, h.os, h.out, h.tape⟩
section
variable {P : Program} [NoCx P] {bq : Bool} {F : Array Func} {sp : FuncId → Bool} {Stop : Goroutine → World → Prop} {bl br : List Frame}
/-- What is asked of a special function: the other comes through it, and the one too, to where they are alike again. -/
def PhaseAt (P : Program) (bq : Bool) (F : Array Func) (sp : FuncId → Bool) (bl br : List Frame) (Stop : Goroutine → World → Prop) (f : FuncId) : Prop :=
  ∀ (a a' : Array Value) (l l' : List Frame) (r : Ren) (u w : World) (gs : Array Goroutine) (sl : Option (Nat × Nat)) (t : Trace) (Shun : Loc → Prop),
    sp f = true → (∃ fn, F[f]? = some fn ∧ fn.params.size = a.size) → Rel P bq F sp bl br Shun r (G (Frame.enter (Wi P F) f a .normal) (l ++ bl)) u (G (Frame.enter P f a' .normal) (l' ++ br)) w → AR r a a' → SR P bq F sp r l l' → l ≠ [] →
    Fr P Shun w.heap.size gs (G (Frame.enter P f a' .normal) (l' ++ br)) t → Will (Wi P F) Stop (G (Frame.enter (Wi P F) f a .normal) (l ++ bl)) u → ¬ Stop (G (Frame.enter (Wi P F) f a .normal) (l ++ bl)) u →
    ∃ (N : Nat) (gl' : Goroutine) (u' : World) (s : Ren) (g' : Goroutine) (w' : World) (gs' : Array Goroutine) (sl' : Option (Nat × Nat)) (t' : Trace) (Shun' : Loc → Prop),
      runNT P N (crowd gs w sl) t = (.next (crowd gs' w' sl'), t') ∧ (∃ τ g1 u1 es, stepG (Wi P F) true (G (Frame.enter (Wi P F) f a .normal) (l ++ bl)) (W2 u τ 0) = .go g1 u1 es ∧ Desc (Wi P F) Stop g1 u1 gl' u') ∧
      Rel P bq F sp bl br Shun' s gl' u' g' w' ∧ Fr P Shun' w'.heap.size gs' g' t' ∧ Ac r w s w'
/-- Of each special function. -/
def Phase (P : Program) (bq : Bool) (F : Array Func) (sp : FuncId → Bool) (bl br : List Frame) (Stop : Goroutine → World → Prop) : Prop := ∀ f : FuncId, PhaseAt P bq F sp bl br Stop f
theorem evL_of {Shun : Loc → Prop} {s : Ren} {w : World} {e : Event} (hlt : ∀ b c, s b c → c < w.heap.size) (hfree : ∀ b c, s b c → Free Shun c) (h : EvK (fun _ => False) s e) : EvL Shun w.heap.size e := by
  rcases h with ⟨a, wr, rfl, ⟨b, hb⟩, _⟩ | rfl | ⟨f, rfl⟩ | ⟨c, rfl, b, hb⟩
  · exact evL_cell a wr ((hfree _ _ hb).1 a rfl) (hlt _ _ hb)
  · exact ⟨fun x hx => (by cases hx), (by simp), (by simp), trivial⟩
  · exact ⟨fun x hx => (by cases hx), (by simp), (by simp), trivial⟩
  · refine ⟨fun x hx hs => ?_, by simp, by simp, hlt _ _ hb⟩
    have e1 : (MemAct.ofEvent ⟨.obj c, false, false⟩).touch? = some ⟨.obj c, false, .plain⟩ := rfl
    rw [e1] at hx
    cases hx
    exact absurd hs (hfree _ _ hb).2
theorem HR.lt {ro : Nat → Prop} {r : Ren} {u w : World} (h : HR P ro r u w) {b c : Nat} (k : r b c) : b < u.heap.size ∧ c < w.heap.size := by
  obtain ⟨_, _, g1, g2, _⟩ := h.obj b c k
  exact ⟨(Array.getElem?_eq_some_iff.1 g1).1, (Array.getElem?_eq_some_iff.1 g2).1⟩
/-- ████ To where the one stops. -/
theorem comes (hz : Zs P) (hS : Fits P bq F (fun _ => False) sp) (hH : Halts (Wi P F) Stop) (hbl : bl = [trap (Wi P F)]) (hp : Phase P bq F sp bl br Stop) {gl : Goroutine} {u : World} (hw : Will (Wi P F) Stop gl u) :
    ∀ (r : Ren) (g : Goroutine) (w : World) (gs : Array Goroutine) (sl : Option (Nat × Nat)) (t : Trace) (Shun : Loc → Prop), Rel P bq F sp bl br Shun r gl u g w → Fr P Shun w.heap.size gs g t →
      ∃ (N : Nat) (gl' : Goroutine) (u' : World) (s : Ren) (g' : Goroutine) (w' : World) (gs' : Array Goroutine) (sl' : Option (Nat × Nat)) (t' : Trace) (Shun' : Loc → Prop),
        runNT P N (crowd gs w sl) t = (.next (crowd gs' w' sl'), t') ∧ Stop gl' u' ∧ Rel P bq F sp bl br Shun' s gl' u' g' w' ∧ Fr P Shun' w'.heap.size gs' g' t' ∧ Ac r w s w' := by
  refine Will.strong (Q := Wi P F) (Stop := Stop) (M := fun gl u => ∀ (r : Ren) (g : Goroutine) (w : World) (gs : Array Goroutine) (sl : Option (Nat × Nat)) (t : Trace) (Shun : Loc → Prop), Rel P bq F sp bl br Shun r gl u g w → Fr P Shun w.heap.size gs g t →
      ∃ (N : Nat) (gl' : Goroutine) (u' : World) (s : Ren) (g' : Goroutine) (w' : World) (gs' : Array Goroutine) (sl' : Option (Nat × Nat)) (t' : Trace) (Shun' : Loc → Prop),
        runNT P N (crowd gs w sl) t = (.next (crowd gs' w' sl'), t') ∧ Stop gl' u' ∧ Rel P bq F sp bl br Shun' s gl' u' g' w' ∧ Fr P Shun' w'.heap.size gs' g' t' ∧ Ac r w s w') ?_ hw
  intro gl u hW ih r g w gs sl t Shun hR hF
  by_cases hst : Stop gl u
  · exact ⟨0, gl, u, r, g, w, gs, sl, t, Shun, rfl, hst, hR, hF, .refl r w⟩
  rcases hR.out.inv with ⟨f, a, a', todo, back, l, l', k1, k2, k3, k4, rfl, rfl⟩ | ⟨f, a, a', l, l', k1, k0, k3, k4, k5, rfl, rfl⟩
  · -- an own step
    have hnd : back = true → l ≠ [] := by
      rintro rfl rfl
      obtain ⟨_, fn, hfn⟩ := k1
      rw [List.nil_append, hbl] at hW hst
      exact hst (hW.out hH hfn)
    have one : ∀ d, ∃ g' w' es, stepG P true (G (fz f a' todo back) (l' ++ br)) (w.at d) = .go g' w' es ∧ (∀ e ∈ es, EvL Shun w'.heap.size e) ∧ w.heap.size ≤ w'.heap.size ∧
        (∃ s τ gl' u' es', stepG (Wi P F) true (G (fz f a todo back) (l ++ bl)) (W2 u τ 0) = .go gl' u' es' ∧ Rel P bq F sp bl br Shun s gl' u' g' w' ∧ Ac r w s w') := by
      intro d
      have hW' := hW
      cases hW' with
      | stop hs => exact absurd hs hst
      | step nx nw hnx hwx =>
        let τ : Tape := fun i q => w.tape (d + i) q
        obtain ⟨es, e⟩ := hnx τ
        have hr : HR P (fun _ => False) r (W2 u τ 0) (w.at d) := ⟨hR.heap.obj, hR.heap.one, hR.heap.inj, hR.heap.old, hR.heap.glo, hR.heap.ug, hR.heap.wg⟩
        have hAT : AT (W2 u τ 0) (w.at d) (nw τ).drawn := fun i q _ => by
          show w.tape (d + (0 + i)) q = w.tape (d + i) q
          rw [Nat.zero_add]
        have key : Step1 P bq F (fun _ => False) sp r bl br (W2 u τ 0) (w.at d) true (stepG (Wi P F) true (G (fz f a todo back) (l ++ bl)) (W2 u τ 0)) (stepG P true (G (fz f a' todo back) (l' ++ br)) (w.at d)) := by
          cases back with
          | false => exact step_run hz hS k1 k2 k3 k4 hr
          | true => exact step_ret hS k1 k3 k4 (hnd rfl) hr
        rcases key.2 _ _ _ e hAT with hpan | ⟨s, g', w', es', e', h1, h2, h3, h4⟩
        · rw [hbl] at hpan
          exact absurd hpan ((hwx τ).calm hH)
        · have hfree : ∀ b c, s b c → Free Shun c := fun b c x => by
            rcases h2.fresh b c x with y | ⟨_, y⟩
            · exact hR.free b c y
            · exact hR.above c y
          exact ⟨g', w', es', e', fun e he => evL_of (fun b c x => (h1.lt x).2) hfree (h4 e he), h2.size, s, τ, nx τ, nw τ, es, e, ⟨h1, hfree, fun c hc => hR.above c (Nat.le_trans h2.size hc), h3⟩, h2.ac⟩
    obtain ⟨N, gs', g', w', sl', t', hrun, hF', hsz, s, τ, gl', u', es', e', hR', hA⟩ := fr_step hF rfl _ one
    obtain ⟨N2, gl2, u2, s2, g2, w2, gs2, sl2, t2, Shun2, hrun2, hs2, hR2, hF2, hA2⟩ := ih τ gl' u' es' gl' u' hst e' .self s g' w' gs' sl' t' Shun hR' hF'
    exact ⟨N + N2, gl2, u2, s2, g2, w2, gs2, sl2, t2, Shun2, Go.ConcX.runNT_trans hrun hrun2, hs2, hR2, hF2, hA.trans hA2⟩
  · obtain ⟨N, gl', u', s, g', w', gs', sl', t', Shun', hrun, ⟨τ, g1, u1, es, e, hd⟩, hR', hF', hA⟩ := hp f a a' l l' r u w gs sl t Shun k1 k0 hR k3 k4 k5 hF hW hst
    obtain ⟨N2, gl2, u2, s2, g2, w2, gs2, sl2, t2, Shun2, hrun2, hs2, hR2, hF2, hA2⟩ := ih τ g1 u1 es gl' u' hst e hd s g' w' gs' sl' t' Shun' hR' hF'
    exact ⟨N + N2, gl2, u2, s2, g2, w2, gs2, sl2, t2, Shun2, Go.ConcX.runNT_trans hrun hrun2, hs2, hR2, hF2, hA.trans hA2⟩
end
end Go.Proofs.Ythifdfbdekkmgaa

/- A program in which one function is another, and what is not looked at is refused. -/
namespace Go.Proofs.Ythifdfbdekkmgaa
open Go.Conc
set_option linter.unusedVariables false
set_option linter.unusedSectionVars false
/-- Looked at, as it stands. -/
def plainF (P : Program) (fn : Func) : Bool := fn.body.all (codeW P true P.funcs)
def seqOne (P : Program) (fn : Func) : Func := if plainF P fn then fn else { fn with body := some (.refuse "") }
def seqF (P : Program) (k : FuncId) (stub : Func) : Array Func := (P.funcs.map (seqOne P)).setIfInBounds k stub
def seqSp (P : Program) (k : FuncId) (f : FuncId) : Bool := f == k || !(P.funcs[f]?).any (plainF P)
section
variable {P : Program} {k : FuncId} {stub : Func} {f : FuncId} {fn : Func}
theorem seq_get (h : (seqF P k stub)[f]? = some fn) : (f = k ∧ fn = stub ∧ ∃ fn0, P.funcs[f]? = some fn0) ∨ f ≠ k ∧ ∃ fn0, P.funcs[f]? = some fn0 ∧ fn = seqOne P fn0 := by
  unfold seqF at h
  rw [Array.getElem?_setIfInBounds] at h
  by_cases e : k = f
  · subst e
    rw [if_pos rfl] at h
    split at h
    · rename_i hlt
      cases h
      rw [Array.size_map] at hlt
      exact .inl ⟨rfl, rfl, ⟨P.funcs[k], by simp [hlt]⟩⟩
    · cases h
  · rw [if_neg e, Array.getElem?_map] at h
    cases h0 : P.funcs[f]? with
    | none => rw [h0] at h; cases h
    | some fn0 =>
      rw [h0] at h
      cases h
      exact .inr ⟨fun h => e h.symm, fn0, rfl, rfl⟩
theorem seqOne_name (fn : Func) : (seqOne P fn).name = fn.name ∧ (seqOne P fn).origin = fn.origin ∧ (fn.body.isSome = true → (seqOne P fn).body.isSome = true) ∧ ((seqOne P fn).body.isSome = true → fn.body.isSome = true) := by
  unfold seqOne
  split
  · exact ⟨rfl, rfl, id, id⟩
  · rename_i h
    refine ⟨rfl, rfl, fun _ => rfl, fun _ => ?_⟩
    unfold plainF at h
    cases hb : fn.body with
    | none => rw [hb] at h; exact absurd rfl h
    | some c => rfl
theorem seqOne_ext (fn : Func) : isExt (seqOne P fn) = isExt fn := by
  obtain ⟨h1, h2, h3, h4⟩ := seqOne_name (P := P) fn
  unfold isExt
  have : (seqOne P fn).body.isNone = fn.body.isNone := by
    cases hb : fn.body with
    | none =>
      cases hb' : (seqOne P fn).body with
      | none => rfl
      | some c => have := h4 (by rw [hb']; rfl); rw [hb] at this; cases this
    | some c =>
      cases hb' : (seqOne P fn).body with
      | some c => rfl
      | none => have := h3 (by rw [hb]; rfl); rw [hb'] at this; cases this
  rw [h1, h2, this]
/-- What is looked at with the one's functions is so with the other's. -/
theorem white_mono {b : Bool} {F F' : Array Func} (h1 : ∀ f : FuncId, (F[f]?).any isExt = true → (F'[f]?).any isExt = true) (h2 : ∀ f : FuncId, (F[f]?).any (·.body.isSome) = true → (F'[f]?).any (·.body.isSome) = true)
    (h3 : ∀ f : FuncId, (F'[f]?).any (·.name == "runtime.NumGoroutine") = true → (F[f]?).any (·.name == "runtime.NumGoroutine") = true) (h5 : ∀ (f : FuncId) (n : Nat), (F[f]?).all (·.params.size == n) = true → (F'[f]?).all (·.params.size == n) = true) (o : Op) (h : white P b F o = true) : white P b F' o = true := by
  cases o with
  | call c =>
    simp only [white, Bool.and_eq_true] at h ⊢
    obtain ⟨h0, h⟩ := h
    refine ⟨h0, ?_⟩
    revert h
    generalize c.callee = cal
    intro h
    cases cal with
    | value x =>
      cases x with
      | func f =>
        simp only [Bool.or_eq_true, Bool.and_eq_true, Bool.not_eq_true'] at h ⊢
        rcases h with h | h
        · exact .inl (h1 f h)
        · refine .inr ⟨⟨h2 f h.1.1, ?_⟩, h5 f _ h.2⟩
          cases e : (F'[f]?).any (·.name == "runtime.NumGoroutine") with
          | false => rfl
          | true => rw [h3 f e] at h; exact absurd h.1.2 (by simp)
      | _ => exact h
    | builtin q => cases q <;> exact h
    | _ => exact h
  | _ => exact h
theorem codeW_mono {b : Bool} {F F' : Array Func} (h : ∀ o, white P b F o = true → white P b F' o = true) : ∀ (c : Code), codeW P b F c = true → codeW P b F' c = true
  | .skip, _ => rfl
  | .exit _, _ => rfl
  | .label _, _ => rfl
  | .ret, _ => rfl
  | .refuse _, _ => rfl
  | .region _ ops _, k => by
    simp only [codeW, Array.all_eq_true_iff_forall_mem] at k ⊢
    exact fun o ho => h _ (k o ho)
  | .seq x y, k => by
    simp only [codeW, Bool.and_eq_true] at k ⊢
    exact ⟨codeW_mono h x k.1, codeW_mono h y k.2⟩
  | .cond c x y, k => by
    simp only [codeW, Bool.and_eq_true] at k ⊢
    exact ⟨⟨k.1.1, codeW_mono h x k.1.2⟩, codeW_mono h y k.2⟩
  | .block _ c, k => codeW_mono (F := F) (F' := F') h c k
  | .loop c, k => codeW_mono (F := F) (F' := F') h c k
  | .scope c, k => codeW_mono (F := F) (F' := F') h c k
/-- What is asked of the two functions without a body. -/
def Ext (P : Program) (F : Array Func) : Prop := ∀ (fn : Func), isExt fn = true → (fn.name == "runtime.NumGoroutine") = false ∧ Extern.findNext fn = none ∧
    ∃ e, Extern.find fn = some e ∧ ∀ (ro : Nat → Prop) (r : Ren) (a a' : Array Value), AR r a a' → RS (Wi P F) P ro r (fun s x y => VR s x y) (e a) (e a')
/-- What is asked of the one that is another. -/
structure Stub (P : Program) (k : FuncId) (stub : Func) : Prop where
  body : stub.body.isSome = true
  name : (stub.name == "runtime.NumGoroutine") = false
  own : ∃ fn, P.funcs[k]? = some fn ∧ fn.body.isSome = true ∧ (fn.name == "runtime.NumGoroutine") = false ∧ fn.params.size = stub.params.size
  code : stub.body.all (codeW P true P.funcs) = true
theorem Stub.mono (h : Stub P k stub) (o : Op) (ho : white P true P.funcs o = true) : white P true (seqF P k stub) o = true := by
  obtain ⟨fk, o1, o2, o3, o4⟩ := h.own
  have get : ∀ f : FuncId, (seqF P k stub)[f]? = if k = f then some stub else (P.funcs[f]?).map (seqOne P) := by
    intro f
    unfold seqF
    rw [Array.getElem?_setIfInBounds]
    by_cases e : k = f
    · subst e
      have : k < P.funcs.size := (Array.getElem?_eq_some_iff.1 o1).1
      simp [this]
    · rw [if_neg e, if_neg e, Array.getElem?_map]
  refine white_mono (fun f h1 => ?_) (fun f h1 => ?_) (fun f h1 => ?_) (fun f n h1 => ?_) o ho
  · rw [get]
    split
    · rename_i e
      subst e
      rw [o1] at h1
      simp only [Option.any_some, isExt, Bool.and_eq_true] at h1
      rw [Option.isNone_iff_eq_none] at h1
      rw [h1.1.1] at o2
      cases o2
    · cases h0 : P.funcs[f]? with
      | none => rw [h0] at h1; cases h1
      | some fn => rw [h0] at h1; exact (seqOne_ext fn).trans h1
  · rw [get]
    split
    · exact h.body
    · cases h0 : P.funcs[f]? with
      | none => rw [h0] at h1; cases h1
      | some fn => rw [h0] at h1; exact (seqOne_name fn).2.2.1 h1
  · rw [get] at h1
    split at h1
    · rw [Option.any_some, h.name] at h1; cases h1
    · cases h0 : P.funcs[f]? with
      | none => rw [h0] at h1; cases h1
      | some fn =>
        rw [h0] at h1
        have h1' : ((seqOne P fn).name == "runtime.NumGoroutine") = true := h1
        rw [(seqOne_name fn).1] at h1'
        exact h1'
  · rw [get]
    split
    · rename_i e
      subst e
      rw [o1] at h1
      simp only [Option.all_some] at h1 ⊢
      rw [← o4]; exact h1
    · cases h0 : P.funcs[f]? with
      | none => rfl
      | some fn =>
        rw [h0] at h1
        have hp : (seqOne P fn).params = fn.params := by unfold seqOne; split <;> rfl
        simp only [Option.map_some, Option.all_some, hp] at h1 ⊢
        exact h1
variable [NoCx P]
theorem Stub.names (h : Stub P k stub) (he : Ext P (seqF P k stub)) : FR P (seqF P k stub) := by
  obtain ⟨fk, o1, o2, o3, o4⟩ := h.own
  refine ⟨fun f fn e hx => ?_, fun f fn e => ?_⟩
  · obtain ⟨a1, a2, a3⟩ := he fn hx
    refine ⟨?_, a1, a2, a3⟩
    rcases seq_get e with ⟨rfl, rfl, _⟩ | ⟨_, fn0, e0, rfl⟩
    · have := h.body
      simp only [isExt, Bool.and_eq_true, Option.isNone_iff_eq_none] at hx
      rw [hx.1.1] at this
      cases this
    · rw [e0]
      have hx0 := hx
      rw [seqOne_ext] at hx0
      simp only [isExt, Bool.and_eq_true, Option.isNone_iff_eq_none] at hx0
      have : plainF P fn0 = true := by unfold plainF; rw [hx0.1.1]; rfl
      unfold seqOne
      rw [if_pos this]
  · rcases seq_get e with ⟨rfl, rfl, _⟩ | ⟨_, fn0, e0, rfl⟩
    · exact ⟨fk, o1, by rw [h.name, o3], fun _ => o2⟩
    · obtain ⟨b1, b2, b3, b4⟩ := seqOne_name (P := P) fn0
      exact ⟨fn0, e0, by rw [b1], b4⟩
/-- The program's functions, and those with the one in another's place. -/
theorem Stub.fs (h : Stub P k stub) (he : Ext P (seqF P k stub)) : Fits P true (seqF P k stub) (fun _ => False) (seqSp P k) := by
  refine ⟨fun _ _ h => h, h.names he, fun f fn hs e => ?_, fun f fn c hs e hc => ?_⟩
  · unfold seqSp at hs
    simp only [Bool.or_eq_false_iff, beq_eq_false_iff_ne, Bool.not_eq_false'] at hs
    rcases seq_get e with ⟨rfl, _⟩ | ⟨_, fn0, e0, rfl⟩
    · exact absurd rfl hs.1
    · have := hs.2
      rw [e0, Option.any_some] at this
      unfold seqOne
      rw [if_pos this]
      exact e0
  · unfold seqSp at hs
    simp only [Bool.or_eq_false_iff, beq_eq_false_iff_ne, Bool.not_eq_false'] at hs
    rcases seq_get e with ⟨rfl, _⟩ | ⟨_, fn0, e0, rfl⟩
    · exact absurd rfl hs.1
    · have hp := hs.2
      rw [e0, Option.any_some] at hp
      unfold seqOne at hc
      rw [if_pos hp] at hc
      unfold plainF at hp
      rw [hc] at hp
      exact codeW_mono h.mono c hp
omit [NoCx P] in
theorem white_wi {b : Bool} {F G : Array Func} (o : Op) (h : white P b F o = true) : white (Wi P G) b F o = true := by
  cases o with
  | call c =>
    simp only [white, Bool.and_eq_true] at h ⊢
    exact h
  | _ => exact h
omit [NoCx P] in
theorem codeW_wi {b : Bool} {F G : Array Func} : ∀ (c : Code), codeW P b F c = true → codeW (Wi P G) b F c = true
  | .skip, _ => rfl
  | .exit _, _ => rfl
  | .label _, _ => rfl
  | .ret, _ => rfl
  | .refuse _, _ => rfl
  | .region _ ops _, k => by
    simp only [codeW, Array.all_eq_true_iff_forall_mem] at k ⊢
    exact fun o ho => white_wi _ (k o ho)
  | .seq x y, k => by
    simp only [codeW, Bool.and_eq_true] at k ⊢
    exact ⟨codeW_wi x k.1, codeW_wi y k.2⟩
  | .cond c x y, k => by
    simp only [codeW, Bool.and_eq_true] at k ⊢
    exact ⟨⟨k.1.1, codeW_wi x k.1.2⟩, codeW_wi y k.2⟩
  | .block _ c, k => codeW_wi (F := F) (G := G) c k
  | .loop c, k => codeW_wi (F := F) (G := G) c k
  | .scope c, k => codeW_wi (F := F) (G := G) c k
/-- The one alone. -/
theorem Stub.lone (h : Stub P k stub) (he : Ext (Wi P (seqF P k stub)) (seqF P k stub)) : Fits (Wi P (seqF P k stub)) true (seqF P k stub) (fun _ => False) (fun _ => false) := by
  refine ⟨fun _ _ h => h, ⟨fun f fn e hx => ?_, fun f fn e => ⟨fn, e, rfl, id⟩⟩, fun f fn _ e => e, fun f fn c _ e hc => ?_⟩
  · obtain ⟨a1, a2, a3⟩ := he fn hx
    exact ⟨e, a1, a2, a3⟩
  · refine codeW_wi c ?_
    rcases seq_get e with ⟨rfl, rfl, _⟩ | ⟨_, fn0, e0, rfl⟩
    · have := h.code
      rw [hc] at this
      exact codeW_mono h.mono c this
    · unfold seqOne at hc
      by_cases hp : plainF P fn0 = true
      · rw [if_pos hp] at hc
        unfold plainF at hp
        rw [hc] at hp
        exact codeW_mono h.mono c hp
      · rw [if_neg hp] at hc
        cases hc
        rfl
theorem RS.noEscape {F : Array Func} {ro : Nat → Prop} {r : Ren} {a a' : Array Value} (hl : AR r a a') : RS (Wi P F) P ro r (fun s x y => VR s x y) (Extern.AbiNoEscape.same a) (Extern.AbiNoEscape.same a') := by
  have h := hl.list
  obtain ⟨l⟩ := a
  obtain ⟨l'⟩ := a'
  cases l with
  | nil => cases l' with
    | nil => exact RS.halt
    | cons x l' => exact h.elim
  | cons v l => cases l' with
    | nil => exact h.elim
    | cons v' l' =>
      obtain ⟨hv, h⟩ := h
      cases l with
      | cons w l => cases l' with
        | nil => exact h.elim
        | cons w' l' => exact RS.halt
      | nil => cases l' with
        | cons w' l' => exact h.elim
        | nil => exact RS.pure hv
theorem digits_self {r : Ren} : ∀ (n m : Nat) {x x' : Array Value}, AR r x x' → AR r (Extern.BytealgMakeNoZero.digits n m x) (Extern.BytealgMakeNoZero.digits n m x')
  | 0, _, _, _, h => h
  | n + 1, m, _, _, h => digits_self n _ (h.push (.int _ _))
theorem RS.makeNoZero {F : Array Func} {ro : Nat → Prop} {r : Ren} (ps rs : Array TypeId) {a a' : Array Value} (hl : AR r a a') : RS (Wi P F) P ro r (fun s x y => VR s x y) (Extern.BytealgMakeNoZero.makeNoZero ps rs a) (Extern.BytealgMakeNoZero.makeNoZero ps rs a') := by
  have h := hl.list
  obtain ⟨l⟩ := a
  obtain ⟨l'⟩ := a'
  cases l with
  | nil => cases l' with
    | nil => exact RS.halt
    | cons x l' => exact h.elim
  | cons v l => cases l' with
    | nil => exact h.elim
    | cons v' l' =>
      obtain ⟨hv, h⟩ := h
      cases l with
      | cons w l => cases l' with
        | nil => exact h.elim
        | cons w' l' => cases hv <;> exact RS.halt
      | nil => cases l' with
        | cons w' l' => exact h.elim
        | nil =>
          cases hv with
          | int q n =>
            cases q with
            | i64 =>
              unfold Extern.BytealgMakeNoZero.makeNoZero
              cases rs[0]? with
              | none => exact RS.halt
              | some t =>
                dsimp only
                refine (RS.underlying t).bind fun s1 l1 d d' hd => ?_
                obtain ⟨rfl, hd⟩ := hd
                cases d with
                | slice e =>
                  dsimp only
                  refine RS.ite (fun _ => RS.dead (Dies.bind_left (Dies.runtimePanic _))) fun _ => ?_
                  refine (RS.choose _).bind fun s2 l2 c c' h => ?_
                  cases h
                  refine (RS.askRoom _).bind fun s3 l3 _ _ _ => ?_
                  refine (RS.choose _).bind fun s4 l4 b b' h => ?_
                  cases h
                  refine (RS.newRow (digits_self _ _ (AR.empty s4))).bind fun s5 l5 p q h => ?_
                  exact RS.pure (.ofSlice _ _ h)
                | _ => exact RS.halt
            | _ => exact RS.halt
          | _ => exact RS.halt
theorem ext_all (F : Array Func) : Ext P F := by
  intro fn h
  simp only [isExt, Bool.and_eq_true, Bool.or_eq_true, beq_iff_eq, Option.isNone_iff_eq_none] at h
  obtain ⟨⟨hb, ho⟩, hn | hn⟩ := h
  · refine ⟨by rw [hn]; decide, ?_, Extern.AbiNoEscape.same, ?_, fun ro r a a' h => RS.noEscape h⟩
    · unfold Extern.findNext
      rw [hn, ho]
      have e1 : Extern.allNextRows.lookup "internal/abi.NoEscape" = none := by kernel_rfl
      have e2 : Extern.allNextRows.lookup "" = none := by kernel_rfl
      simp only [e1, e2]
      rfl
    · unfold Extern.find
      rw [hn, ho]
      have e1 : Extern.allGenericRows.lookup "internal/abi.NoEscape" = none := by kernel_rfl
      have e2 : Extern.allTypedRows.lookup "internal/abi.NoEscape" = none := by kernel_rfl
      have e3 : Extern.allRows.lookup "internal/abi.NoEscape" = some Extern.AbiNoEscape.same := by kernel_rfl
      simp only [e1, e2, e3]
      rfl
  · refine ⟨by rw [hn]; decide, ?_, Extern.BytealgMakeNoZero.makeNoZero fn.params fn.resultTypes, ?_, fun ro r a a' h => RS.makeNoZero _ _ h⟩
    · unfold Extern.findNext
      rw [hn, ho]
      have e1 : Extern.allNextRows.lookup "internal/bytealg.MakeNoZero" = none := by kernel_rfl
      have e2 : Extern.allNextRows.lookup "" = none := by kernel_rfl
      simp only [e1, e2]
      rfl
    · unfold Extern.find
      rw [hn, ho]
      have e1 : Extern.allGenericRows.lookup "internal/bytealg.MakeNoZero" = none := by kernel_rfl
      have e2 : Extern.allTypedRows.lookup "internal/bytealg.MakeNoZero" = some Extern.BytealgMakeNoZero.makeNoZero := by kernel_rfl
      simp only [e1, e2]
      rfl
end
end Go.Proofs.Ythifdfbdekkmgaa

/- What is zero names no memory: of the table's types by a look, of others by how they are reckoned. -/
namespace Go.Proofs.Ythifdfbdekkmgaa
set_option linter.unusedVariables false
/-- It names no memory. -/
def SV (v : Value) : Prop := ∀ r, VR r v v
theorem SV.agg {a : Array Value} (h : ∀ x ∈ a, SV x) : SV (.agg a) := fun r => .agg rfl fun i v v' e e' => by
  rw [e] at e'
  cases e'
  exact h v (Array.mem_of_getElem? e) r
theorem SV.cells {v : Value} (h : SV v) : ∀ x ∈ v.cells, SV x := by
  intro x hx r
  obtain ⟨i, hi, e⟩ := Array.mem_iff_getElem.1 hx
  have e' : v.cells[i]? = some x := by rw [Array.getElem?_eq_getElem hi, e]
  exact (h r).cells.2 i x x e' e'
/-- What is zero of it names no memory. -/
def ZI (i : TypeInfo) : Prop := ∀ v, i.zero = some v → SV v
theorem forIn_inv {α σ : Type} (I : σ → Prop) (f : α → σ → Option (ForInStep σ)) (h : ∀ a s s', I s → f a s = some s' → I (match s' with | .done s => s | .yield s => s)) :
    ∀ (l : List α) (s s' : σ), I s → forIn l s f = some s' → I s'
  | [], s, s', hs, e => by
    rw [List.forIn_nil] at e
    cases e
    exact hs
  | a :: l, s, s', hs, e => by
    rw [List.forIn_cons] at e
    cases h1 : f a s with
    | none => rw [h1] at e; cases e
    | some x =>
      rw [h1] at e
      have := h a s x hs h1
      cases x with
      | done s1 => cases e; exact this
      | yield s1 => exact forIn_inv I f h l s1 s' this e
theorem zi_struct {info : TypeId → Option TypeInfo} (hi : ∀ t i, info t = some i → ZI i) {fs : Array Field} {i : TypeInfo} (h : Made.reckonStruct info fs = some i) : ZI i := by
  unfold Made.reckonStruct at h
  simp only [bind, Option.bind] at h
  rw [← Array.forIn_toList] at h
  split at h
  · cases h
  · rename_i st hst
    have inv : ∀ z, st.2.2.2.2.2.2.2.1 = some z → ∀ x ∈ z, SV x := by
      refine forIn_inv (fun st : Array Field × Nat × Nat × Nat × Nat × Bool × Bool × Option (Array Value) × String => ∀ z, st.2.2.2.2.2.2.2.1 = some z → ∀ x ∈ z, SV x) _ (fun a s s' hs e => ?_) _ _ _ (fun z hz => ?_) hst
      · cases hi1 : info a.type with
        | none => rw [hi1] at e; cases e
        | some i =>
          have hz := hi _ _ hi1
          rw [hi1] at e
          dsimp only at e
          have hs' : ∃ q, s' = .yield q ∧ ∀ z, q.2.2.2.2.2.2.2.1 = some z → ∀ x ∈ z, SV x := by
            repeat' split at e
            all_goals first
            | (cases e; done)
            | (cases e
               refine ⟨_, rfl, fun z h1 => ?_⟩
               first
               | (cases h1; done)
               | (cases h2 : i.zero with
                  | none => simp only [h2] at h1; cases h1
                  | some l2 =>
                    simp only [h2] at h1
                    cases h1
                    intro x hx
                    rcases Array.mem_append.1 hx with hx | hx
                    · exact hs _ ‹_› x hx
                    · exact (hz _ h2).cells x hx))
          obtain ⟨q, rfl, hq⟩ := hs'
          exact hq
      · cases hz
        simp
    have hz : ∃ j, j.zero = st.2.2.2.2.2.2.2.1.map Value.agg ∧ i = j := by
      dsimp only at h
      by_cases hc : (decide (st.2.2.1 > 0) && decide (st.2.2.2.2.1 = st.2.2.1)) = true
      · rw [if_pos hc] at h
        cases h
        exact ⟨_, rfl, rfl⟩
      · rw [if_neg hc] at h
        cases h
        exact ⟨_, rfl, rfl⟩
    obtain ⟨j, hj, rfl⟩ := hz
    intro v hv
    rw [hj] at hv
    cases h1 : st.2.2.2.2.2.2.2.1 with
    | none => simp only [h1, Option.map_none] at hv; cases hv
    | some z =>
      simp only [h1, Option.map_some] at hv
      cases hv
      exact SV.agg (inv z h1)
theorem zi_reckon {info : TypeId → Option TypeInfo} (hi : ∀ t i, info t = some i → ZI i) {d : TypeDesc} {i : TypeInfo} (h : Made.reckon info d = some i) : ZI i := by
  have word : ∀ (d : TypeDesc) (s : String) (z : Value) (b : Bool) (n : Nat), SV z → ZI (Made.word d s z b n) := by
    intro d s z b n hz v e
    cases e
    exact hz
  cases d with
  | struct fs => exact zi_struct hi h
  | pointer e =>
    simp only [Made.reckon, Option.bind_eq_bind, Option.bind_eq_some_iff] at h
    obtain ⟨j, _, h⟩ := h
    split at h
    · cases h
    · split at h
      · cases h
      · simp only [Option.bind_eq_some_iff] at h
        obtain ⟨_, _, h⟩ := h
        cases h
        exact word _ _ _ _ _ fun r => .nilPtr
    · simp only [Option.bind_eq_some_iff] at h
      obtain ⟨_, _, h⟩ := h
      cases h
      exact word _ _ _ _ _ fun r => .nilPtr
  | slice e =>
    simp only [Made.reckon, Option.bind_eq_bind, Option.bind_eq_some_iff] at h
    obtain ⟨_, _, _, _, h⟩ := h
    cases h
    exact word _ _ _ _ _ fun r => .nilSlice _ _
  | map k e =>
    simp only [Made.reckon, Option.bind_eq_bind, Option.bind_eq_some_iff] at h
    obtain ⟨_, _, _, _, _, _, _, _, h⟩ := h
    cases h
    exact word _ _ _ _ _ fun r => .nilMap
  | chan q e =>
    simp only [Made.reckon, Option.bind_eq_bind, Option.bind_eq_some_iff] at h
    obtain ⟨_, _, _, _, h⟩ := h
    cases h
    exact word _ _ _ _ _ fun r => .nilChan
  | func ps rs v =>
    simp only [Made.reckon, Option.bind_eq_bind, Option.bind_eq_some_iff] at h
    obtain ⟨_, _, h⟩ := h
    cases h
    exact word _ _ _ _ _ fun r => .nilFunc
  | array n e =>
    simp only [Made.reckon, Option.bind_eq_bind, Option.bind_eq_some_iff] at h
    obtain ⟨j, hj, _, _, h⟩ := h
    cases h
    intro v hv
    dsimp only at hv
    split at hv
    · cases hv
    · split at hv
      · cases hv
        exact SV.agg (by simp)
      · cases h1 : j.zero with
        | none => rw [h1] at hv; cases hv
        | some z =>
          rw [h1] at hv
          cases hv
          refine SV.agg fun x hx => ?_
          rw [Array.mem_flatten] at hx
          obtain ⟨y, hy, hx⟩ := hx
          rw [Array.mem_replicate] at hy
          obtain ⟨_, rfl⟩ := hy
          exact (hi _ _ hj z h1).cells x hx
  | _ => cases h
theorem zi_info {T : Tables} (h : ∀ (t : Nat) i, T.types[t]? = some i → ZI i) : ∀ (n : Nat) (t : TypeId) (i : TypeInfo), Made.infoAt T n t = some i → ZI i
  | 0, _, _, e => by cases e
  | n + 1, t, i, e => by
    unfold Made.infoAt at e
    split at e
    · exact h _ _ e
    · rw [Option.bind_eq_some_iff] at e
      obtain ⟨d, _, e⟩ := e
      exact zi_reckon (zi_info h n) e
/-- Looked at once. -/
def plainZ : Value → Bool
  | .agg a | .tuple a => a.all plainV
  | v => plainV v
theorem plainZ_alike {v : Value} (h : plainZ v = true) : SV v := by
  intro r
  have all : ∀ (a : Array Value), a.all plainV = true → ∀ (i : Nat) x x', a[i]? = some x → a[i]? = some x' → VR r x x' := by
    intro a ha i x x' e e'
    rw [e] at e'
    cases e'
    rw [Array.all_eq_true_iff_forall_mem] at ha
    exact plainV_alike r (ha x (Array.mem_of_getElem? e))
  cases v with
  | agg a => exact .agg rfl (all a h)
  | tuple a => exact .tuple rfl (all a h)
  | _ => exact plainV_alike r h
theorem zs_of {P : Program} (h : (P.types.all fun i => i.zero.all plainZ) = true) : Zs P := by
  have key : ∀ (t : Nat) i, P.types[t]? = some i → ZI i := by
    intro t i e v hv
    rw [Array.all_eq_true_iff_forall_mem] at h
    have := h i (Array.mem_of_getElem? e)
    rw [hv] at this
    exact plainZ_alike this
  intro t i v e e2
  have e' : Tables.info? P.toTables t = some i := e
  unfold Tables.info? at e'
  split at e'
  · exact key _ _ e' v e2
  · exact zi_info key _ _ _ e' v e2
theorem reckon_cx {info : TypeId → Option TypeInfo} {d : TypeDesc} {i : TypeInfo} (h : Made.reckon info d = some i) (k : FloatKind) : i.desc ≠ .complex k := by
  have word : ∀ (d : TypeDesc) (s : String) (z : Value) (b : Bool) (n : Nat), d ≠ .complex k → (Made.word d s z b n).desc ≠ .complex k := fun _ _ _ _ _ h => h
  cases d with
  | struct fs =>
    unfold Made.reckon Made.reckonStruct at h
    simp only [bind, Option.bind_eq_some_iff, pure] at h
    obtain ⟨a, _, h⟩ := h
    split at h <;> (cases h; intro e; cases e)
  | pointer e =>
    simp only [Made.reckon, Option.bind_eq_bind, Option.bind_eq_some_iff] at h
    obtain ⟨j, _, h⟩ := h
    split at h
    · cases h
    · split at h
      · cases h
      · simp only [Option.bind_eq_some_iff] at h
        obtain ⟨_, _, h⟩ := h
        cases h
        exact word _ _ _ _ _ (by simp)
    · simp only [Option.bind_eq_some_iff] at h
      obtain ⟨_, _, h⟩ := h
      cases h
      exact word _ _ _ _ _ (by simp)
  | slice e =>
    simp only [Made.reckon, Option.bind_eq_bind, Option.bind_eq_some_iff] at h
    obtain ⟨_, _, _, _, h⟩ := h
    cases h
    exact word _ _ _ _ _ (by simp)
  | map k e =>
    simp only [Made.reckon, Option.bind_eq_bind, Option.bind_eq_some_iff] at h
    obtain ⟨_, _, _, _, _, _, _, _, h⟩ := h
    cases h
    exact word _ _ _ _ _ (by simp)
  | chan q e =>
    simp only [Made.reckon, Option.bind_eq_bind, Option.bind_eq_some_iff] at h
    obtain ⟨_, _, _, _, h⟩ := h
    cases h
    exact word _ _ _ _ _ (by simp)
  | func ps rs v =>
    simp only [Made.reckon, Option.bind_eq_bind, Option.bind_eq_some_iff] at h
    obtain ⟨_, _, h⟩ := h
    cases h
    exact word _ _ _ _ _ (by simp)
  | array n e =>
    simp only [Made.reckon, Option.bind_eq_bind, Option.bind_eq_some_iff] at h
    obtain ⟨j, hj, _, _, h⟩ := h
    cases h
    simp
  | _ => cases h
theorem noCx_of {P : Program} (h : (P.types.all fun i => match i.desc with | .complex _ => false | _ => true) = true) : NoCx P := by
  have key0 : ∀ t i k, P.info? t = some i → i.desc ≠ .complex k := by
    intro t i k e e2
    have e1 : Tables.info? P.toTables t = some i := e
    by_cases ht : t < P.toTables.types.size
    · have e3 := e1
      unfold Tables.info? at e3
      rw [if_pos ht] at e3
      rw [Array.all_eq_true_iff_forall_mem] at h
      have := h i (Array.mem_of_getElem? e3)
      rw [e2] at this
      cases this
    · unfold Tables.info? at e1
      rw [if_neg ht] at e1
      unfold Made.depth at e1
      unfold Made.infoAt at e1
      rw [if_neg ht] at e1
      rw [Option.bind_eq_some_iff] at e1
      obtain ⟨d, _, e1⟩ := e1
      exact reckon_cx e1 k e2
  have key : ∀ t k, P.underlying t ≠ some (.complex k) := by
    intro t k e
    unfold Program.underlying at e
    split at e
    · cases h1 : P.info? _ with
      | none => rw [h1] at e; cases e
      | some j => rw [h1] at e; exact key0 _ j k h1 (Option.some.inj e)
    · rename_i i h1 h2
      exact key0 _ i k ‹_› (Option.some.inj e)
    · cases e
  refine ⟨fun d => ?_⟩
  induction d with
  | zero => intro t o k x y e; cases e
  | succ d ih =>
    intro t o k x y e
    unfold plainCell at e
    split at e
    · rename_i fs heq
      obtain ⟨f, _, e⟩ := Array.exists_of_findSome?_eq_some e
      split at e
      · exact ih _ _ _ _ _ e
      · cases e
    · dsimp only at e
      split at e
      · cases e
      · exact ih _ _ _ _ _ e
    · split at e <;> cases e
    · split at e <;> cases e
    · split at e <;> cases e
    · rename_i k2 heq
      exact key _ _ heq
    · cases e
end Go.Proofs.Ythifdfbdekkmgaa

/- From a contract of the program alone to the chain. -/
namespace Go.Proofs.Ythifdfbdekkmgaa
open Go.Conc
set_option linter.unusedVariables false
set_option linter.unusedSectionVars false
section
variable {Q : Program} [NoCx Q] {Stop : Goroutine → World → Prop}
/-- What the one may be at, from its first step on, till it ends. -/
inductive KL (Q : Program) (g : Goroutine) (u : World) : Prop
  | li : LI Q [trap Q] g u → KL Q g u
  | panics : panics Q.funcs [trap Q] g → KL Q g u
  | back (v : Value) : g = G ((trap Q).finish v) [] → KL Q g u
  | over (c : List PanicEntry) : g = G ((trap Q).raise c) [] → KL Q g u
theorem KL.next (hz : Zs Q) (hS : Fits Q true Q.funcs (fun _ => False) (fun _ => false)) {g : Goroutine} {u : World} (h : KL Q g u) :
    (∃ o u' es, stepG Q true g u = .ended o u' es) ∨ ∃ fr cs u' es, stepG Q true g u = .go (G fr cs) u' es ∧ KL Q (G fr cs) u' := by
  cases h with
  | li hL =>
    by_cases hd : Done [trap Q] g
    · obtain ⟨f, a, todo, rfl⟩ := hd
      obtain ⟨r, f2, a2, todo2, back, l, e0, _, ⟨_, fn, hfn⟩, _⟩ := hL
      have ef : f2 = f := by
        unfold G fz at e0
        simp only [Goroutine.mk.injEq, Frame.mk.injEq] at e0
        exact e0.1.1.symm
      subst ef
      rw [step_back hfn]
      cases hrun : (Go.results fn a).run Q u with
      | ok v z => exact .inr ⟨_, _, _, _, rfl, .back v rfl⟩
      | halt h z => cases h <;> exact .inl ⟨_, _, _, rfl⟩
    · rcases step_same hz hS hL hd with h | ⟨g', u', es, e, h⟩
      · exact .inl h
      · rcases h with hp | ⟨hL', _, _⟩
        · obtain ⟨c, fr, l, rfl, h⟩ := hp
          exact .inr ⟨_, _, _, _, e, .panics ⟨c, fr, l, rfl, h⟩⟩
        · have hL2 := hL'
          obtain ⟨r, f, a, todo, back, l, rfl, _⟩ := hL2
          exact .inr ⟨_, _, _, _, e, .li hL'⟩
  | panics hp =>
    obtain ⟨c, fr, l, rfl, hm, hd, ⟨fn, hf⟩, hl⟩ := hp
    have hcat : Frame.catches Q fr = false := by
      simp [Frame.catches, hf]
    have e1 : ∀ (x : Frame) (cs : List Frame) (z : World), stepG Q true (G fr (x :: cs)) z = .go (G (x.raise c) cs) z := by
      intro x cs z
      obtain ⟨f1, f2, f3, f4, f5, f6, f7⟩ := fr
      simp only at hm hd
      subst hm hd
      simp [G, stepG, unwind, hcat]
    cases l with
    | nil => exact .inr ⟨_, _, _, _, e1 _ _ _, .over c rfl⟩
    | cons x l =>
      obtain ⟨⟨c', h1⟩, h2, h3⟩ := raise_at x c
      have hx := hl x (by simp)
      exact .inr ⟨_, _, _, _, e1 _ _ _, .panics ⟨c', x.raise c, l, rfl, h1, h2.trans hx.1, by rw [h3]; exact hx.2, fun y hy => hl y (by simp [hy])⟩⟩
  | back v e => subst e; exact .inl (trap_next v u)
  | over c e => subst e; exact .inl (trap_panic c u)
/-- The machine's steps are the one's own. -/
theorem runs_of (hz : Zs Q) (hS : Fits Q true Q.funcs (fun _ => False) (fun _ => false)) : ∀ (n : Nat) (fr : Frame) (cs : List Frame) (u : World) (fr' : Frame) (cs' : List Frame) (u' : World),
    KL Q (G fr cs) u → runN Q n (lone fr cs u) = .next (lone fr' cs' u') → Runs Q n (G fr cs) u (G fr' cs') u' ∧ KL Q (G fr' cs') u'
  | 0, fr, cs, u, fr', cs', u', hK, h => by
    simp only [runN, Stepped.next.injEq] at h
    have : u = u' ∧ fr = fr' ∧ cs = cs' := by
      simpa [lone] using h
    obtain ⟨rfl, rfl, rfl⟩ := this
    exact ⟨.nil, hK⟩
  | n + 1, fr, cs, u, fr', cs', u', hK, h => by
    rcases hK.next hz hS with ⟨o, z, es, e⟩ | ⟨fr1, cs1, u1, es, e, hK'⟩
    · have := step_lone_ended (P := Q) (fr := fr) (cs := cs) (w := u) (w' := z) (o := o) (by
        show (stepG Q true (G fr cs) u).bare = _
        rw [e]; rfl)
      simp only [runN, this] at h
      cases h
    · have := step_lone_go (P := Q) (fr := fr) (cs := cs) (w := u) (fr' := fr1) (cs' := cs1) (w' := u1) (by
        show (stepG Q true (G fr cs) u).bare = _
        rw [e]; rfl)
      simp only [runN, this] at h
      obtain ⟨h1, h2⟩ := runs_of hz hS n fr1 cs1 u1 fr' cs' u' hK' h
      exact ⟨.cons e h1, h2⟩
/-- On the way out of f, above the trap, with v: whatever answers lie ahead. -/
def OutOf (Q : Program) (f : FuncId) (R : Value → World → Prop) (g : Goroutine) (u : World) : Prop :=
  ∃ a todo v fn, g = G (fz f a todo true) [trap Q] ∧ Q.funcs[f]? = some fn ∧ (∀ T D, (Go.results fn a).run Q (W2 u T D) = .ok v (W2 u T D)) ∧ ∀ T D, R v (W2 u T D)
theorem OutOf.halts (f : FuncId) (R : Value → World → Prop) : Halts Q (OutOf Q f R) :=
  ⟨fun g u ⟨a, todo, v, fn, e, _⟩ => ⟨f, a, todo, e⟩, fun g u T D ⟨a, todo, v, fn, e, h1, h2, h3⟩ => ⟨a, todo, v, fn, e, h1, fun T D => h2 T D, fun T D => h3 T D⟩⟩
/-- A contract, whatever the answers, is a chain to the way out. -/
theorem comes1_of (hz : Zs Q) (hS : Fits Q true Q.funcs (fun _ => False) (fun _ => false)) {f : FuncId} {args : Array Value} {u : World} {R : Value → World → Prop} (hR : ∀ v w T D, R v w → R v (W2 w T D))
    (hL : LI Q [trap Q] (G (Frame.enter Q f args .normal) [trap Q]) u) (h : ∀ τ, Calls Q f args (W2 u τ 0) fun e w' => ∃ v, e = .returned v ∧ R v w') : Comes1 Q (OutOf Q f R) (G (Frame.enter Q f args .normal) [trap Q]) u := by
  intro τ
  obtain ⟨e, w', fr, ⟨v, rfl, hv⟩, hc, hf, hlv⟩ := h τ [trap Q]
  obtain ⟨n, hn⟩ : Steps Q _ _ := hc
  obtain ⟨hruns, hK⟩ := runs_of hz hS n _ _ _ _ _ _ (.li (hL.tape τ 0)) hn
  refine ⟨n, _, _, hruns, ?_⟩
  obtain ⟨hm, hd, hk, fn, hfn, hres⟩ := hlv
  cases hK with
  | li hL' =>
    obtain ⟨r, f', a, todo, back, l, e0, hr, hg, hto, ha, hl⟩ := hL'
    have e1 : fr = fz f' a todo back ∧ [trap Q] = l ++ [trap Q] := by
      unfold G at e0
      simpa using e0
    obtain ⟨rfl, e2⟩ := e1
    have hb : back = true := by
      cases back
      · simp [fz] at hm
      · rfl
    subst hb
    have hf' : f' = f := hf
    subst hf'
    have hns := (RS.results (P := Q) (F := Q.funcs) (ro := fun _ => False) ha fn w' w' hr).2.2
    have hres' : (Go.results fn a).run Q w' = .ok v w' := hres
    refine ⟨a, todo, v, fn, rfl, hfn, fun T D => ?_, fun T D => hR v w' T D hv⟩
    have := run_tape Q (Go.results fn a) w' T D hns (fun i q hi => by
      rw [hres'] at hi
      exact absurd hi (by simp [endW]))
    rw [this, hres']
    simp [mapW]
  | panics hp =>
    obtain ⟨c, fr2, l, e0, hm2, _⟩ := hp
    unfold G at e0
    simp only [Goroutine.mk.injEq] at e0
    rw [← e0.1] at hm2
    rw [hm2] at hm
    cases hm
  | back v e0 => unfold G at e0; simp at e0
  | over c e0 => unfold G at e0; simp at e0
theorem pad_alike {r : Ren} {args args' : Array Value} (h : AR r args args') (n : Nat) : AR r (args ++ Array.replicate (n - args.size) undef) (args' ++ Array.replicate (n - args'.size) undef) := by
  rw [← h.1]
  refine h.append ⟨by simp, fun j x x' e e' => ?_⟩
  rw [Array.getElem?_replicate] at e e'
  split at e
  · rw [if_pos ‹_›] at e'
    cases e; cases e'; exact .undef r
  · cases e
/-- Where a call begins. -/
theorem li_of {f : FuncId} {fn : Func} {c : Code} {args : Array Value} {u : World} {r : Ren} (hS : Fits Q true Q.funcs (fun _ => False) (fun _ => false)) (hf : Q.funcs[f]? = some fn) (hc : fn.body = some c) (hr : HR Q (fun _ => False) r u u) (ha : AR r args args) :
    LI Q [trap Q] (G (Frame.enter Q f args .normal) [trap Q]) u := by
  rw [enter_at args hf hc]
  exact ⟨r, f, _, [.code c], false, [], rfl, hr, ⟨rfl, fn, hf⟩, by simp [itemW, hS.code f fn c rfl hf hc], pad_alike ha _, .nil⟩
/-- No names in common. -/
theorem hr_none {P : Program} {u w : World} (hu : P.globals.size ≤ u.heap.size) (hw : P.globals.size ≤ w.heap.size) : HR P (fun _ => False) (fun _ _ => False) u w :=
  ⟨fun _ _ h => h.elim, fun _ _ _ h => h.elim, fun _ _ _ h => h.elim, fun _ h => h.elim, fun _ _ h => h.elim, hu, hw⟩
theorem flat_alike (r : Ren) {args : Array Value} (h : args.all flatV = true) : AR r args args := by
  refine ⟨rfl, fun i v v' e e' => ?_⟩
  rw [e] at e'
  cases e'
  rw [Array.all_eq_true_iff_forall_mem] at h
  have := h v (Array.mem_of_getElem? e)
  cases v <;> first | exact .int _ _ | exact .string _ | exact .bool _ | cases this
/-- Where both begin. -/
theorem rel_of {P : Program} {bq : Bool} {F : Array Func} {sp : FuncId → Bool} {bl br : List Frame} {Shun : Loc → Prop} {f : FuncId} {fn : Func} {c : Code} {args args' : Array Value} {u w : World} {r : Ren} (hS : Fits P bq F (fun _ => False) sp) (hs : sp f = false) (hf : F[f]? = some fn) (hc : fn.body = some c)
    (hr : HR P (fun _ => False) r u w) (ha : AR r args args') (free : ∀ b c, r b c → Free Shun c) (above : ∀ c, w.heap.size ≤ c → Free Shun c) :
    Rel P bq F sp bl br Shun r (G (Frame.enter (Wi P F) f args .normal) bl) u (G (Frame.enter P f args' .normal) br) w := by
  have hq : (Wi P F).funcs[f]? = some fn := hf
  have hp := hS.same f fn hs hf
  rw [enter_at args hq hc, enter_at args' hp hc]
  exact ⟨hr, free, above, Out.go (f := f) (back := false) (todo := [.code c]) (l := []) (l' := []) ⟨hs, fn, hf⟩ (by simp [itemW, hS.code f fn c hs hf hc]) (pad_alike ha _) .nil⟩
end
section
variable {P : Program} [NoCx P]
/-- A special function that is refused is never come to. -/
theorem never {k : FuncId} {stub : Func} {Stop : Goroutine → World → Prop} {f : FuncId} (hk : f ≠ k) (hsp : seqSp P k f = true) (hf : ∃ fn, (seqF P k stub)[f]? = some fn) {a : Array Value} {cs : List Frame} {u : World}
    (hw : Will (Wi P (seqF P k stub)) Stop (G (Frame.enter (Wi P (seqF P k stub)) f a .normal) cs) u) (hs : ¬ Stop (G (Frame.enter (Wi P (seqF P k stub)) f a .normal) cs) u) : False := by
  obtain ⟨fn, hf⟩ := hf
  rcases seq_get hf with ⟨e, _⟩ | ⟨_, fn0, e0, rfl⟩
  · exact hk e
  · have hp : plainF P fn0 ≠ true := by
      unfold seqSp at hsp
      rw [e0] at hsp
      intro h
      simp [hk, h] at hsp
    have hq : (Wi P (seqF P k stub)).funcs[f]? = some (seqOne P fn0) := hf
    have hb : (seqOne P fn0).body = some (.refuse "") := by
      unfold seqOne
      rw [if_neg hp]
    rw [enter_at a hq hb] at hw hs
    cases hw with
    | stop h => exact hs h
    | step nx nw h _ =>
      obtain ⟨es, e⟩ := h (fun _ _ => 0)
      have e1 : ∃ o z' es', stepG (Wi P (seqF P k stub)) true (G ((base f).at ⟨a ++ Array.replicate ((seqOne P fn0).ntmps - a.size) undef, []⟩ [.code (.refuse "")]) cs) (W2 u (fun _ _ => 0) 0) = .ended o z' es' :=
        ⟨_, _, _, by simp [G, stepG, stepG.exec, Frame.at, base]; exact ⟨rfl, rfl, rfl⟩⟩
      obtain ⟨o, z', es', e1⟩ := e1
      rw [e1] at e
      cases e
/-- It is asked of the one function alone. -/
theorem phase_of {k : FuncId} {stub : Func} {br : List Frame} {Stop : Goroutine → World → Prop} (h : PhaseAt P true (seqF P k stub) (seqSp P k) [trap (Wi P (seqF P k stub))] br Stop k) : Phase P true (seqF P k stub) (seqSp P k) [trap (Wi P (seqF P k stub))] br Stop := by
  intro f
  by_cases e : f = k
  · subst e
    exact h
  · intro a a' l l' r u w gs sl t Shun h1 h2 h3 h4 h5 h6 h7 h8 h9
    exact (never e h1 (let ⟨fn, x, _⟩ := h2; ⟨fn, x⟩) h8 h9).elim
/-- ████ A contract of the program with the stub, whatever the answers, is a run of the program itself, given what the one function does. -/
theorem lone_real (hz : Zs P) {k : FuncId} {stub : Func} (hs : Stub P k stub) {f : FuncId} {fn : Func} {c : Code} {args : Array Value} {u w : World} {R : Value → World → Prop} {r : Ren} {br : List Frame} {Shun : Loc → Prop} {gs : Array Goroutine} {sl : Option (Nat × Nat)} {t : Trace}
    (hsp : seqSp P k f = false) (hf : (seqF P k stub)[f]? = some fn) (hc : fn.body = some c) (hr : HR P (fun _ => False) r u w) (hru : HR (Wi P (seqF P k stub)) (fun _ => False) r u u) (ha : AR r args args)
    (hR : ∀ v w T D, R v w → R v (W2 w T D)) (h : ∀ τ, Calls (Wi P (seqF P k stub)) f args (W2 u τ 0) fun e w' => ∃ v, e = .returned v ∧ R v w')
    (hp : PhaseAt P true (seqF P k stub) (seqSp P k) [trap (Wi P (seqF P k stub))] br (OutOf (Wi P (seqF P k stub)) f R) k)
    (free : ∀ b c, r b c → Free Shun c) (above : ∀ c, w.heap.size ≤ c → Free Shun c) (hF : Fr P Shun w.heap.size gs (G (Frame.enter P f args .normal) br) t) :
    ∃ (N : Nat) (gl' : Goroutine) (u' : World) (s : Ren) (g' : Goroutine) (w' : World) (gs' : Array Goroutine) (sl' : Option (Nat × Nat)) (t' : Trace) (Shun' : Loc → Prop),
      runNT P N (crowd gs w sl) t = (.next (crowd gs' w' sl'), t') ∧ OutOf (Wi P (seqF P k stub)) f R gl' u' ∧ Rel P true (seqF P k stub) (seqSp P k) [trap (Wi P (seqF P k stub))] br Shun' s gl' u' g' w' ∧ Fr P Shun' w'.heap.size gs' g' t' ∧ Ac r w s w' := by
  have hz2 : Zs (Wi P (seqF P k stub)) := hz
  have hfs := hs.fs (ext_all (seqF P k stub))
  have hlo := hs.lone (ext_all (P := Wi P (seqF P k stub)) (seqF P k stub))
  have hW := will_of hz2 hlo (OutOf.halts f R) (li_of hlo hf hc hru ha) (comes1_of hz2 hlo hR (li_of hlo hf hc hru ha) h)
  exact comes hz hfs (OutOf.halts f R) rfl (phase_of hp) hW r _ w gs sl t Shun (rel_of hfs hsp hf hc hr ha free above) hF
omit [NoCx P] in
/-- A function that is looked at stands as it stood. -/
theorem seq_func {k f : FuncId} {stub fn : Func} (hk : f ≠ k) (h : P.funcs[f]? = some fn) (hp : plainF P fn = true) : (Wi P (seqF P k stub)).funcs[f]? = some fn := by
  show (seqF P k stub)[f]? = some fn
  unfold seqF
  rw [Array.getElem?_setIfInBounds, if_neg (fun e => hk e.symm), Array.getElem?_map, h]
  show some (seqOne P fn) = some fn
  unfold seqOne
  rw [if_pos hp]
end
end Go.Proofs.Ythifdfbdekkmgaa

/- The program with code.sums in one goroutine. -/
namespace Go.Proofs.Ythifdfbdekkmgaa
open Go.Conc
set_option linter.unusedVariables false
/-- The slice in the slot x is looked at: no more than 64 texts, each of them in a block that is seen as it lies, and not too long. -/
noncomputable def Seq.test (x : Nat) : Code :=
    (.seq (.region 10 #[
      { dst := some 5, op := .move (.tmp x), type := 0, pos := "", after := #[], guard := none },
      { dst := some 6, op := .call { callee := .builtin .len, args := #[.tmp 5], argTypes := #[23] }, type := 3, pos := "", after := #[], guard := none },
      { dst := some 7, op := .binOp .lss 3 (.const (.int .i64 64)) (.tmp 6) 3, type := 0, pos := "", after := #[], guard := none }] false)
    (.seq (.cond (.tmp 7) (.refuse "") .skip)
    (.seq (.region 11 #[{ dst := some 9, op := .move (.const (.int .i64 0)), type := 3, pos := "", after := #[], guard := none }] false)
    (.block 1 (.loop
      (.seq (.region 12 #[{ dst := some 10, op := .binOp .lss 3 (.tmp 9) (.tmp 6) 3, type := 0, pos := "", after := #[], guard := none }] false)
      (.seq (.cond (.tmp 10) .skip (.exit 1))
      (.seq (.region 13 #[
        { dst := some 11, op := .move (.tmp x), type := 0, pos := "", after := #[], guard := none },
        { dst := some 12, op := .indexAddr 23 (.tmp 11) (.tmp 9), type := 0, pos := "", after := #[], guard := none },
        { dst := some 16, op := .binOp .eql 100 (.tmp 12) (.tmp 19) 100, type := 0, pos := "", after := #[], guard := none },
        { dst := some 13, op := .load 9 (.tmp 12), type := 9, pos := "", after := #[], guard := none },
        { dst := some 14, op := .call { callee := .builtin .len, args := #[.tmp 13], argTypes := #[9] }, type := 3, pos := "", after := #[], guard := none },
        { dst := some 15, op := .binOp .lss 3 (.const (.int .i64 100000000)) (.tmp 14) 3, type := 0, pos := "", after := #[], guard := none }] false)
      (.seq (.cond (.tmp 15) (.refuse "") .skip)
      (.region 14 #[
        { dst := some 17, op := .binOp .add 3 (.tmp 9) (.const (.int .i64 1)) 3, type := 3, pos := "", after := #[], guard := none },
        { dst := some 9, op := .move (.tmp 17), type := 0, pos := "", after := #[], guard := none }] false))))))))))
/-- The sums, one behind the other. -/
noncomputable def Seq.sums : Code :=
    (.seq (.region 1 #[
      { dst := some 5, op := .move (.tmp 0), type := 0, pos := "", after := #[], guard := none },
      { dst := some 6, op := .call { callee := .builtin .len, args := #[.tmp 5], argTypes := #[50] }, type := 3, pos := "", after := #[], guard := none },
      { dst := some 7, op := .makeSlice 23 (.tmp 6) (.tmp 6), type := 23, pos := "", after := #[], guard := none },
      { dst := some 8, op := .assign (.tmp 7), type := 0, pos := "", after := #[], guard := none },
      { dst := some 9, op := .move (.const (.int .i64 0)), type := 3, pos := "", after := #[], guard := none }] false)
    (.seq (.block 0 (.loop
      (.seq (.region 2 #[{ dst := some 10, op := .binOp .lss 3 (.tmp 9) (.tmp 6) 3, type := 0, pos := "", after := #[], guard := none }] false)
      (.seq (.cond (.tmp 10) .skip (.exit 0))
      (.seq (.region 3 #[
        { dst := some 11, op := .move (.tmp 0), type := 0, pos := "", after := #[], guard := none },
        { dst := some 12, op := .indexAddr 50 (.tmp 11) (.tmp 9), type := 0, pos := "", after := #[], guard := none },
        { dst := some 13, op := .load 9 (.tmp 12), type := 9, pos := "", after := #[], guard := none }] false)
      (.seq (.region 4 #[
        { dst := some 14, op := .call { callee := .value (.func 37), args := #[.tmp 13, .tmp 1], argTypes := #[9, 23] }, type := 0, pos := "", after := #[], guard := none },
        { dst := some 15, op := .extract (.tmp 14) 0, type := 0, pos := "", after := #[], guard := none }] false)
      (.seq (.region 5 #[
        { dst := some 16, op := .indexAddr 23 (.tmp 8) (.tmp 9), type := 0, pos := "", after := #[], guard := none },
        { dst := none, op := .store 9 (.tmp 16) (.tmp 15), type := 0, pos := "", after := #[], guard := none }] false)
      (.region 6 #[
        { dst := some 17, op := .binOp .add 3 (.tmp 9) (.const (.int .i64 1)) 3, type := 3, pos := "", after := #[], guard := none },
        { dst := some 9, op := .move (.tmp 17), type := 0, pos := "", after := #[], guard := none }] false))))))))
    (.seq (.region 7 #[
      { dst := some 18, op := .move (.tmp 8), type := 0, pos := "", after := #[], guard := none },
      { dst := some 4, op := .assign (.tmp 18), type := 0, pos := "", after := #[], guard := none }] false)
    .ret)))
/-- What came in is looked at, and then summed. -/
noncomputable def Seq.code : Code :=
    (.seq (.region 0 #[{ dst := some 4, op := .assign (.const (.slice none 0 0)), type := 23, pos := "", after := #[], guard := none }] false)
    (.seq (.region 9 #[{ dst := some 19, op := .alloc 9, type := 0, pos := "", after := #[], guard := none }] false)
    (.seq (Seq.test 0)
    (.seq (Seq.test 1)
    Seq.sums))))
noncomputable def Seq.stub : Func := { Try.f22 with ntmps := 20, body := some Seq.code }
theorem Seq.is : Stub Try.prog 22 Seq.stub :=
  ⟨rfl, by kernel_rfl, ⟨_, Try.func22, by kernel_rfl, by kernel_rfl, rfl⟩, by kernel_rfl⟩
/-- The program, with that one. -/
noncomputable def Seq.prog : Program := Wi Try.prog (seqF Try.prog 22 Seq.stub)
theorem Seq.func22 : Seq.prog.funcs[22]? = some Seq.stub := by kernel_rfl
theorem Seq.func8 : Seq.prog.funcs[8]? = some Try.f8 := seq_func (by decide) Try.func8 (by kernel_rfl)
theorem Seq.func10 : Seq.prog.funcs[10]? = some Try.f10 := seq_func (by decide) Try.func10 (by kernel_rfl)
theorem Seq.func12 : Seq.prog.funcs[12]? = some Try.f12 := seq_func (by decide) Try.func12 (by kernel_rfl)
theorem Seq.func20 : Seq.prog.funcs[20]? = some Try.f20 := seq_func (by decide) Try.func20 (by kernel_rfl)
theorem Seq.func23 : Seq.prog.funcs[23]? = some Try.f23 := seq_func (by decide) Try.func23 (by kernel_rfl)
theorem Seq.func39 : Seq.prog.funcs[39]? = some Try.f39 := seq_func (by decide) Try.func39 (by kernel_rfl)
theorem Seq.func40 : Seq.prog.funcs[40]? = some Try.f40 := seq_func (by decide) Try.func40 (by kernel_rfl)
theorem Seq.func41 : Seq.prog.funcs[41]? = some Try.f41 := seq_func (by decide) Try.func41 (by kernel_rfl)
theorem Seq.func37 : Seq.prog.funcs[37]? = some Try.f37 := seq_func (by decide) Try.func37 (by kernel_rfl)
theorem Seq.func68 : Seq.prog.funcs[68]? = some Try.f68 := seq_func (by decide) Try.func68 (by kernel_rfl)
theorem Seq.func69 : Seq.prog.funcs[69]? = some Try.f69 := seq_func (by decide) Try.func69 (by kernel_rfl)
theorem Seq.func3 : Seq.prog.funcs[3]? = some Try.f3 := seq_func (by decide) Try.func3 (by kernel_rfl)
theorem Seq.func89 : Seq.prog.funcs[89]? = some Try.f89 := seq_func (by decide) Try.func89 (by kernel_rfl)
theorem Seq.zs : Zs Try.prog := zs_of (by kernel_rfl)
theorem Seq.zs2 : Zs Seq.prog := Seq.zs
instance Seq.noCx : NoCx Try.prog := noCx_of (by kernel_rfl)
theorem Seq.fs : Fits Try.prog true (seqF Try.prog 22 Seq.stub) (fun _ => False) (seqSp Try.prog 22) := Seq.is.fs (ext_all _)
theorem Seq.lone : Fits Seq.prog true Seq.prog.funcs (fun _ => False) (fun _ => false) := Seq.is.lone (ext_all _)
end Go.Proofs.Ythifdfbdekkmgaa

/- The tables of a program with other functions are its own. -/
namespace Go.Proofs.Ythifdfbdekkmgaa
open Go.Conc
set_option linter.unusedVariables false
theorem wig_info {P : Program} {F : Array Func} (t : TypeId) : (Wi P F).info? t = P.info? t := rfl
theorem wig_under {P : Program} {F : Array Func} (t : TypeId) : (Wi P F).underlying t = P.underlying t := rfl
theorem wig_typeInfo {P : Program} {F : Array Func} (t : TypeId) (w : World) : (Go.typeInfo t).run (Wi P F) w = (Go.typeInfo t).run P w := by
  have e := wig_info (P := P) (F := F) t
  cases h : P.info? t with
  | none => rw [h] at e; simp [Go.typeInfo, h, e]
  | some i => rw [h] at e; simp [Go.typeInfo, h, e]
theorem wig_underlying {P : Program} {F : Array Func} (t : TypeId) (w : World) : (Go.underlying t).run (Wi P F) w = (Go.underlying t).run P w := by
  have e := wig_under (P := P) (F := F) t
  cases h : P.underlying t with
  | none => rw [h] at e; simp [Go.underlying, h, e]
  | some i => rw [h] at e; simp [Go.underlying, h, e]
theorem wig_sizeOf {P : Program} {F : Array Func} (t : TypeId) (w : World) : (Go.sizeOf t).run (Wi P F) w = (Go.sizeOf t).run P w := by
  have e := wig_info (P := P) (F := F) t
  cases h : P.info? t with
  | none => rw [h] at e; simp [Go.sizeOf, Go.typeInfo, h, e]
  | some i => rw [h] at e; simp [Go.sizeOf, Go.typeInfo, h, e]
theorem wig_zeroValue {P : Program} {F : Array Func} (t : TypeId) (w : World) : (Go.zeroValue t).run (Wi P F) w = (Go.zeroValue t).run P w := by
  have e := wig_info (P := P) (F := F) t
  cases h : P.info? t with
  | none => rw [h] at e; simp [Go.zeroValue, Go.typeInfo, h, e]
  | some i =>
    rw [h] at e
    cases hz : i.zero <;> simp [Go.zeroValue, Go.typeInfo, h, e, hz]
theorem wig_isAgg {P : Program} {F : Array Func} (t : TypeId) (w : World) : (Go.isAgg t).run (Wi P F) w = (Go.isAgg t).run P w := by
  have e := wig_under (P := P) (F := F) t
  cases h : P.underlying t with
  | none => rw [h] at e; simp [Go.isAgg, Go.underlying, h, e]
  | some i =>
    rw [h] at e
    cases i <;> simp [Go.isAgg, Go.underlying, h, e]
end Go.Proofs.Ythifdfbdekkmgaa

