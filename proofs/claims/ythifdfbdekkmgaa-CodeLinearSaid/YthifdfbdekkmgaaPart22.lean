/- MillLib, RenKid, MillWork, MillDone, MillWg, MillAdd, MillWt0, MillFrz, KidProg. -/
import Derived.Test.YthifdfbdekkmgaaPart21
import Derived.Test.YthifdfbdekkmgaaProg
import Derived.Conc.WgGenN3
import Derived.Test.YthifdfbdekkmgaaPart3
set_option linter.unusedVariables false
set_option linter.unusedSimpArgs false
set_option linter.unusedSectionVars false
set_option linter.unnecessarySimpa false
set_option linter.deprecated false
/- The library's WaitGroup, as it lies in this program. -/
namespace Go.Proofs.Ythifdfbdekkmgaa
open Go.Conc
abbrev lnk : Go.Conc.Lib.WgLink := { add := 34, done := 36, wait := 38, relMerge := 55, disable := 56, enable := 57, inBubble := 58, associate := 59, fatal := 60, uOr := 61, uAdd := 62, raceRead := 63, uLoad := 64, uStore := 65, disassociate := 66, semrelease := 67, acquire := 71, isAssociated := 72, uCas := 73, raceWrite := 74, semacquire := 75, orU64 := 90, addU64 := 91, loadU64 := 92, storeU64 := 93, casU64 := 95, tWgP := 98, tUP := 100, tAssoc := 101, tWg := 73, tAU := 70, tU64 := 68, tUint := 105, tU32 := 71, tPU32 := 106, tPAU := 134, tPU64 := 136, tNoCopy := 65, tANoCopy := 66, tAlign64 := 67 }
theorem wgLib : Go.Conc.Lib.WgLib Try.prog lnk :=
  ⟨Try.func34, Try.func36, Try.func38, Try.func55, Try.func56, Try.func57, Try.func58, Try.func59, Try.func60, Try.func61, Try.func62, Try.func63, Try.func64, Try.func65, Try.func66, Try.func67, Try.func71, Try.func72, Try.func73, Try.func74, Try.func75, Try.func90, Try.func91, Try.func92, Try.func93, Try.func95, Try.underlying98, Try.runUnderlying98, Try.sizeOf98, Try.isAgg98, Try.zeroValue98, Try.underlying100, Try.runUnderlying100, Try.sizeOf100, Try.isAgg100, Try.zeroValue100, Try.underlying101, Try.runUnderlying101, Try.sizeOf101, Try.isAgg101, Try.zeroValue101, Try.underlying73, Try.runUnderlying73, Try.sizeOf73, Try.isAgg73, Try.zeroValue73, Try.underlying70, Try.runUnderlying70, Try.sizeOf70, Try.isAgg70, Try.zeroValue70, Try.underlying68, Try.runUnderlying68, Try.sizeOf68, Try.isAgg68, Try.zeroValue68, Try.underlying105, Try.runUnderlying105, Try.sizeOf105, Try.isAgg105, Try.zeroValue105, Try.underlying71, Try.runUnderlying71, Try.sizeOf71, Try.isAgg71, Try.zeroValue71, Try.underlying106, Try.runUnderlying106, Try.sizeOf106, Try.isAgg106, Try.zeroValue106, Try.underlying134, Try.runUnderlying134, Try.sizeOf134, Try.isAgg134, Try.zeroValue134, Try.underlying136, Try.runUnderlying136, Try.sizeOf136, Try.isAgg136, Try.zeroValue136, Try.underlying0, Try.runUnderlying0, Try.sizeOf0, Try.isAgg0, Try.zeroValue0, Try.underlying3, Try.runUnderlying3, Try.sizeOf3, Try.isAgg3, Try.zeroValue3, Try.underlying4, Try.runUnderlying4, Try.sizeOf4, Try.isAgg4, Try.zeroValue4, Try.underlying9, Try.runUnderlying9, Try.sizeOf9, Try.isAgg9, Try.zeroValue9, Try.underlying20, Try.runUnderlying20, Try.sizeOf20, Try.isAgg20, Try.zeroValue20, Try.underlying21, Try.runUnderlying21, Try.sizeOf21, Try.isAgg21, Try.zeroValue21, (by kernel_rfl), (by kernel_rfl)⟩
end Go.Proofs.Ythifdfbdekkmgaa

/- The program in which nothing is written to what is only read: what isn't looked at so is refused. -/
namespace Go.Proofs.Ythifdfbdekkmgaa
open Go.Conc
set_option linter.unusedVariables false
set_option linter.unusedSectionVars false
def plain0 (P : Program) (fn : Func) : Bool := fn.body.all (codeW P false P.funcs)
def one0 (P : Program) (fn : Func) : Func := if plain0 P fn then fn else { fn with body := some (.refuse "") }
def kidF (P : Program) : Array Func := P.funcs.map (one0 P)
def kidSp (P : Program) (f : FuncId) : Bool := !(P.funcs[f]?).any (plain0 P)
section
variable {P : Program} {f : FuncId} {fn : Func}
theorem kid_get (h : (kidF P)[f]? = some fn) : ∃ fn0, P.funcs[f]? = some fn0 ∧ fn = one0 P fn0 := by
  unfold kidF at h
  rw [Array.getElem?_map] at h
  cases h0 : P.funcs[f]? with
  | none => rw [h0] at h; cases h
  | some fn0 => rw [h0] at h; cases h; exact ⟨fn0, rfl, rfl⟩
theorem one0_name (fn : Func) : (one0 P fn).name = fn.name ∧ (one0 P fn).origin = fn.origin ∧ (one0 P fn).params = fn.params ∧ (fn.body.isSome = true → (one0 P fn).body.isSome = true) ∧ ((one0 P fn).body.isSome = true → fn.body.isSome = true) := by
  unfold one0
  split
  · exact ⟨rfl, rfl, rfl, id, id⟩
  · rename_i h
    refine ⟨rfl, rfl, rfl, fun _ => rfl, fun _ => ?_⟩
    unfold plain0 at h
    cases hb : fn.body with
    | none => rw [hb] at h; exact absurd rfl h
    | some c => rfl
theorem one0_ext (fn : Func) : isExt (one0 P fn) = isExt fn := by
  obtain ⟨h1, h2, _, h3, h4⟩ := one0_name (P := P) fn
  unfold isExt
  have : (one0 P fn).body.isNone = fn.body.isNone := by
    cases hb : fn.body with
    | none =>
      cases hb' : (one0 P fn).body with
      | none => rfl
      | some c => have := h4 (by rw [hb']; rfl); rw [hb] at this; cases this
    | some c =>
      cases hb' : (one0 P fn).body with
      | some c => rfl
      | none => have := h3 (by rw [hb]; rfl); rw [hb'] at this; cases this
  rw [h1, h2, this]
theorem kid_mono (o : Op) (ho : white P false P.funcs o = true) : white P false (kidF P) o = true := by
  have get : ∀ f : FuncId, (kidF P)[f]? = (P.funcs[f]?).map (one0 P) := fun f => by unfold kidF; rw [Array.getElem?_map]
  refine white_mono (fun f h1 => ?_) (fun f h1 => ?_) (fun f h1 => ?_) (fun f n h1 => ?_) o ho
  · rw [get]
    cases h0 : P.funcs[f]? with
    | none => rw [h0] at h1; cases h1
    | some fn => rw [h0] at h1; exact (one0_ext fn).trans h1
  · rw [get]
    cases h0 : P.funcs[f]? with
    | none => rw [h0] at h1; cases h1
    | some fn => rw [h0] at h1; exact (one0_name fn).2.2.2.1 h1
  · rw [get] at h1
    cases h0 : P.funcs[f]? with
    | none => rw [h0] at h1; cases h1
    | some fn =>
      rw [h0] at h1
      have h1' : ((one0 P fn).name == "runtime.NumGoroutine") = true := h1
      rw [(one0_name fn).1] at h1'
      exact h1'
  · rw [get]
    cases h0 : P.funcs[f]? with
    | none => rfl
    | some fn =>
      rw [h0] at h1
      simp only [Option.map_some, Option.all_some, (one0_name fn).2.2.1] at h1 ⊢
      exact h1
theorem white_true {F : Array Func} (o : Op) (h : white P false F o = true) : white P true F o = true := by
  cases o with
  | call c =>
    simp only [white, Bool.and_eq_true] at h ⊢
    refine ⟨h.1, ?_⟩
    have h2 := h.2
    revert h2
    generalize c.callee = cal
    intro h2
    cases cal with
    | builtin q => cases q <;> first | exact h2 | rfl
    | value x => cases x <;> exact h2
    | _ => exact h2
  | binOp op t x y u =>
    simp only [white, Bool.and_eq_true] at h ⊢
    exact ⟨h.1, by simp⟩
  | convert t u x =>
    simp only [white, Bool.and_eq_true] at h ⊢
    refine ⟨h.1, ?_⟩
    have h2 := h.2
    unfold plainC at h2 ⊢
    split at h2 <;> first | rfl | exact h2 | (simp at h2)
  | _ => exact h
theorem codeW_true {F : Array Func} : ∀ (c : Code), codeW P false F c = true → codeW P true F c = true
  | .skip, _ => rfl
  | .exit _, _ => rfl
  | .label _, _ => rfl
  | .ret, _ => rfl
  | .refuse _, _ => rfl
  | .region _ ops _, k => by
    simp only [codeW, Array.all_eq_true_iff_forall_mem] at k ⊢
    exact fun o ho => white_true _ (k o ho)
  | .seq x y, k => by
    simp only [codeW, Bool.and_eq_true] at k ⊢
    exact ⟨codeW_true x k.1, codeW_true y k.2⟩
  | .cond c x y, k => by
    simp only [codeW, Bool.and_eq_true] at k ⊢
    exact ⟨⟨k.1.1, codeW_true x k.1.2⟩, codeW_true y k.2⟩
  | .block _ c, k => codeW_true (F := F) c k
  | .loop c, k => codeW_true (F := F) c k
  | .scope c, k => codeW_true (F := F) c k
variable [NoCx P]
theorem kid_names : FR P (kidF P) := by
  refine ⟨fun f fn e hx => ?_, fun f fn e => ?_⟩
  · obtain ⟨a1, a2, a3⟩ := ext_all (P := P) (kidF P) fn hx
    refine ⟨?_, a1, a2, a3⟩
    obtain ⟨fn0, e0, rfl⟩ := kid_get e
    rw [e0]
    have hx0 := hx
    rw [one0_ext] at hx0
    simp only [isExt, Bool.and_eq_true, Option.isNone_iff_eq_none] at hx0
    have : plain0 P fn0 = true := by unfold plain0; rw [hx0.1.1]; rfl
    unfold one0
    rw [if_pos this]
  · obtain ⟨fn0, e0, rfl⟩ := kid_get e
    obtain ⟨b1, b2, _, b3, b4⟩ := one0_name (P := P) fn0
    exact ⟨fn0, e0, by rw [b1], b4⟩
theorem kid_fs (ro : Nat → Prop) : Fits P false (kidF P) ro (kidSp P) := by
  refine ⟨fun h => (by cases h), kid_names, fun f fn hs e => ?_, fun f fn c hs e hc => ?_⟩
  · unfold kidSp at hs
    simp only [Bool.not_eq_false'] at hs
    obtain ⟨fn0, e0, rfl⟩ := kid_get e
    rw [e0, Option.any_some] at hs
    unfold one0
    rw [if_pos hs]
    exact e0
  · unfold kidSp at hs
    simp only [Bool.not_eq_false'] at hs
    obtain ⟨fn0, e0, rfl⟩ := kid_get e
    have hp := hs
    rw [e0, Option.any_some] at hp
    unfold one0 at hc
    rw [if_pos hp] at hc
    unfold plain0 at hp
    rw [hc] at hp
    exact codeW_mono kid_mono c hp
theorem kid_lone : Fits (Wi P (kidF P)) true (kidF P) (fun _ => False) (fun _ => false) := by
  refine ⟨fun _ _ h => h, ⟨fun f fn e hx => ?_, fun f fn e => ⟨fn, e, rfl, id⟩⟩, fun f fn _ e => e, fun f fn c _ e hc => ?_⟩
  · obtain ⟨a1, a2, a3⟩ := ext_all (P := Wi P (kidF P)) (kidF P) fn hx
    exact ⟨e, a1, a2, a3⟩
  · refine codeW_wi c (codeW_true c ?_)
    obtain ⟨fn0, e0, rfl⟩ := kid_get e
    unfold one0 at hc
    by_cases hp : plain0 P fn0 = true
    · rw [if_pos hp] at hc
      unfold plain0 at hp
      rw [hc] at hp
      exact codeW_mono kid_mono c hp
    · rw [if_neg hp] at hc
      cases hc
      rfl
omit [NoCx P] in
theorem kid_func (h : P.funcs[f]? = some fn) (hp : plain0 P fn = true) : (Wi P (kidF P)).funcs[f]? = some fn := by
  show (kidF P)[f]? = some fn
  unfold kidF
  rw [Array.getElem?_map, h]
  show some (one0 P fn) = some fn
  unfold one0
  rw [if_pos hp]
/-- What is refused is never come to. -/
theorem kid_never {Stop : Goroutine → World → Prop} (hsp : kidSp P f = true) (hf : ∃ fn, (kidF P)[f]? = some fn) {a : Array Value} {cs : List Frame} {u : World}
    (hw : Will (Wi P (kidF P)) Stop (G (Frame.enter (Wi P (kidF P)) f a .normal) cs) u) (hs : ¬ Stop (G (Frame.enter (Wi P (kidF P)) f a .normal) cs) u) : False := by
  obtain ⟨fn, hf⟩ := hf
  obtain ⟨fn0, e0, rfl⟩ := kid_get hf
  have hp : plain0 P fn0 ≠ true := by
    unfold kidSp at hsp
    rw [e0] at hsp
    intro h
    simp [h] at hsp
  have hq : (Wi P (kidF P)).funcs[f]? = some (one0 P fn0) := hf
  have hb : (one0 P fn0).body = some (.refuse "") := by
    unfold one0
    rw [if_neg hp]
  rw [enter_at a hq hb] at hw hs
  cases hw with
  | stop h => exact hs h
  | step nx nw h _ =>
    obtain ⟨es, e⟩ := h (fun _ _ => 0)
    have e1 : ∃ o z' es', stepG (Wi P (kidF P)) true (G ((base f).at ⟨a ++ Array.replicate ((one0 P fn0).ntmps - a.size) undef, []⟩ [.code (.refuse "")]) cs) (W2 u (fun _ _ => 0) 0) = .ended o z' es' :=
      ⟨_, _, _, by simp [G, stepG, stepG.exec, Frame.at, base]; exact ⟨rfl, rfl, rfl⟩⟩
    obtain ⟨o, z', es', e1⟩ := e1
    rw [e1] at e
    cases e
end
end Go.Proofs.Ythifdfbdekkmgaa

/- One that was started works as the one alone does. -/
namespace Go.Proofs.Ythifdfbdekkmgaa
open Go.Conc
open Go.ConcN (PermW ShN RelBy RW RW.refl WSit AtR0 WgLive PayAt Has CTag WD)
open Go.ConcR (KK wgBlock WgAt stA smA rd wr Payload Aside2 DC0 Bk)
set_option linter.unusedVariables false
set_option linter.unusedSectionVars false
section
variable {m : Mill} [Payload]
theorem Mine.refl (M : Nat → Prop) (w : World) : Mine M M w w := ⟨fun _ h => h, fun _ h => .inl h, fun _ _ _ => rfl, Nat.le_refl _, rfl, rfl, rfl⟩
/-- A rank is found. -/
theorem CW.mk' {i C : Nat} {R : Nat → Prop} {snt : Bool} {M : Nat → Prop} {g : Goroutine} {w : World} (hr : g.status = .running)
    (h : ∀ w1, Still m (fun c => M c ∨ R c) w w1 →
      (∃ g' w' es M', stepG m.P false g w1 = .go g' w' es ∧ Mine M M' w1 w' ∧ (∀ e ∈ es, EvC m M' R w'.heap.size e) ∧ ∃ ρ, CW m i C R ρ snt M' g' w') ∨
      (snt = false ∧ ∃ g2 z, stepG m.P false g w1 = .comm g2 #[scase m.Ch (m.val i) z] true .send w1 #[] ∧ ∃ ρ, CW m i C R ρ true M ({ g2 with frame := g2.frame.finish undef, status := .running, offers := none } : Goroutine) w1) ∨
      (snt = true ∧ AtR0 m.P m.ty m.Wg C 1 0 1 (m.cval i) g w1)) : ∃ ρ, CW m i C R ρ snt M g w := by
  have h' : ∀ w1 : World, ∃ ρ : Rk, Still m (fun c => M c ∨ R c) w w1 →
      (∃ g' w' es M', stepG m.P false g w1 = .go g' w' es ∧ Mine M M' w1 w' ∧ (∀ e ∈ es, EvC m M' R w'.heap.size e) ∧ CW m i C R ρ snt M' g' w') ∨
      (snt = false ∧ ∃ g2 z, stepG m.P false g w1 = .comm g2 #[scase m.Ch (m.val i) z] true .send w1 #[] ∧ CW m i C R ρ true M ({ g2 with frame := g2.frame.finish undef, status := .running, offers := none } : Goroutine) w1) ∨
      (snt = true ∧ AtR0 m.P m.ty m.Wg C 1 0 1 (m.cval i) g w1) := by
    intro w1
    by_cases hs : Still m (fun c => M c ∨ R c) w w1
    · rcases h w1 hs with ⟨g', w', es, M', h1, h2, h3, ρ, h4⟩ | ⟨h1, g2, z, h2, ρ, h3⟩ | ⟨h1, h2⟩
      · exact ⟨ρ, fun _ => .inl ⟨g', w', es, M', h1, h2, h3, h4⟩⟩
      · exact ⟨ρ, fun _ => .inr (.inl ⟨h1, g2, z, h2, h3⟩)⟩
      · exact ⟨.node Empty (fun x => nomatch x), fun _ => .inr (.inr ⟨h1, h2⟩)⟩
    · exact ⟨.node Empty (fun x => nomatch x), fun h => absurd h hs⟩
  refine ⟨.node World fun w1 => Classical.choose (h' w1), ?_⟩
  unfold CW
  refine ⟨hr, fun w1 hs => ?_⟩
  rcases Classical.choose_spec (h' w1) hs with ⟨g', w', es, M', h1, h2, h3, h4⟩ | ⟨h1, g2, z, h2, h3⟩ | ⟨h1, h2⟩
  · exact .inl ⟨w1, g', w', es, M', h1, h2, h3, h4⟩
  · exact .inr (.inl ⟨h1, w1, g2, z, h2, h3⟩)
  · exact .inr (.inr ⟨h1, h2⟩)
/-- Steps that touch nothing. -/
theorem CW.goes {i C : Nat} {R : Nat → Prop} {snt : Bool} {M : Nat → Prop} : ∀ {n : Nat} {g : Goroutine} {w : World},
    Goes m.P false (Still m (fun c => M c ∨ R c)) DC0 (fun g w => ∃ ρ, CW m i C R ρ snt M g w) n g w → ∃ ρ, CW m i C R ρ snt M g w
  | 0, g, w, h => h w (.refl _ w)
  | n + 1, g, w, h => by
    rcases h with h | ⟨hs, h⟩
    · exact h w (.refl _ w)
    · refine CW.mk' hs fun w1 h1 => .inl ?_
      obtain ⟨g', w', es, e, ⟨rfl, rfl⟩, hg⟩ := goes_elim (h w1 h1)
      exact ⟨g', w', #[], M, e, .refl M w', fun e he => by simp at he, CW.goes hg⟩
/-- A step that reads what may be read. -/
theorem CW.reads {i C : Nat} {R : Nat → Prop} {snt : Bool} {M : Nat → Prop} {g : Goroutine} {w : World} (hs : g.status = .running)
    (h : ∀ w1, Still m (fun c => M c ∨ R c) w w1 → ∃ g' ad, stepG m.P false g w1 = .go g' w1 #[⟨.cell ad, false, false⟩] ∧ (M ad.block ∨ R ad.block) ∧ ad.block < w1.heap.size ∧ ∃ ρ, CW m i C R ρ snt M g' w1) : ∃ ρ, CW m i C R ρ snt M g w := by
  refine CW.mk' hs fun w1 h1 => .inl ?_
  obtain ⟨g', ad, e, hb, hl, hc⟩ := h w1 h1
  refine ⟨g', w1, _, M, e, .refl M w1, fun e he => ?_, hc⟩
  rw [Array.mem_singleton] at he
  subst he
  refine ⟨fun x hx => ?_, by simp, by simp, by simp, hl⟩
  cases hx
  exact .inr ⟨by simp, ad.block, .inl ⟨ad, rfl, rfl⟩, hb.imp id fun h => ⟨h, rfl⟩⟩
/-- To its Done. -/
theorem CW.done {i C : Nat} {R : Nat → Prop} {M : Nat → Prop} (hC : M C) {n : Nat} {g : Goroutine} {w : World}
    (h : Goes m.P false (RW m.ty m.Wg C 1 0 0) DC0 (AtR0 m.P m.ty m.Wg C 1 0 1 (m.cval i)) n g w) : ∃ ρ, CW m i C R ρ true M g w := by
  have rw' : ∀ {w w1 : World}, Still m (fun c => M c ∨ R c) w w1 → RW m.ty m.Wg C 1 0 0 w w1 := by
    intro w w1 k
    have := k.keep C (.inl hC)
    exact ⟨fun b hb => absurd hb (Nat.not_lt_zero _), k.live, fun ⟨cs, e, hn⟩ => ⟨cs, this.trans e, hn⟩, by simp only [World.cell?, this]⟩
  induction n generalizing g w with
  | zero => exact CW.mk' (h w (RW.refl w)).1 fun w1 h1 => .inr (.inr ⟨rfl, h w1 (rw' h1)⟩)
  | succ n ih =>
    rcases h with h | ⟨hs, h⟩
    · exact CW.mk' (h w (RW.refl w)).1 fun w1 h1 => .inr (.inr ⟨rfl, h w1 (rw' h1)⟩)
    · refine CW.mk' hs fun w1 h1 => .inl ?_
      obtain ⟨g', w', es, e, ⟨rfl, rfl⟩, hg⟩ := goes_elim (h w1 (rw' h1))
      exact ⟨g', w', #[], M, e, .refl M w', fun e he => by simp at he, ih hg⟩
end
/-- Two judgements on one way. -/
theorem goes_both {P : Program} {main : Bool} {R : World → World → Prop} {D1 : World → World → Array Event → Prop} {Stop1 Q : Goroutine → World → Prop} (refl : ∀ w, R w w) (trans : ∀ a b c, R a b → R b c → R a c)
    (hx : ∀ g w g' w', Stop1 g w → stepG P main g w ≠ .go g' w' #[]) : ∀ (k n : Nat) (g : Goroutine) (w : World), Goes P main R D1 Stop1 n g w → Goes P main R DC0 Q k g w → Goes P main R DC0 (fun g w => Q g w ∧ ∃ n, Goes P main R D1 Stop1 n g w) k g w := by
  intro k
  induction k with
  | zero => exact fun n g w h1 h2 => fun w1 r => ⟨h2 w1 r, n, Goes.rely trans h1 r⟩
  | succ k ih =>
    intro n g w h1 h2
    rcases h2 with h2 | ⟨hs, h2⟩
    · exact .inl fun w1 r => ⟨h2 w1 r, n, Goes.rely trans h1 r⟩
    · refine .inr ⟨hs, fun w1 r => ?_⟩
      obtain ⟨g', w', es, e, ⟨rfl, rfl⟩, hg⟩ := goes_elim (h2 w1 r)
      rw [e]
      refine ⟨⟨rfl, rfl⟩, ?_⟩
      rcases Goes.cases h1 with h3 | ⟨n', rfl, h3⟩
      · exact absurd e (hx _ _ _ _ (h3 _ r))
      · obtain ⟨g2, w2, es2, e2, _, hg2⟩ := h3 _ r
        rw [e] at e2
        cases e2
        exact ih n' _ _ hg2 hg
theorem goes_reach {P : Program} {main : Bool} {R : World → World → Prop} {Q : Goroutine → World → Prop} {D : World → World → Array Event → Prop} (refl : ∀ w, R w w) : ∀ (k : Nat) (g : Goroutine) (w : World), Goes P main R D Q k g w → ∃ g' w', Q g' w'
  | 0, g, w, h => ⟨g, w, h w (refl w)⟩
  | k + 1, g, w, h => by
    rcases h with h | ⟨_, h⟩
    · exact ⟨g, w, h w (refl w)⟩
    · obtain ⟨g', w', es, e, _, hg⟩ := goes_elim (h w (refl w))
      exact goes_reach refl k g' w' hg
section
variable {m : Mill} [Payload] {F : Array Func}
/-- Alike to one alone that comes to a stop, it comes to it. -/
theorem CW.sim [NoCx m.P] (hz : Zs m.P) {ro : Nat → Prop} {f0 : FuncId} {R0 : Value → World → Prop} {br : List Frame} {i C : Nat} {R Z : Nat → Prop} (hro : ∀ c, ro c → R c) {gl : Goroutine} {u : World} (hw : Will (Wi m.P (kidF m.P)) (OutOf (Wi m.P (kidF m.P)) f0 R0) gl u) :
    ∀ (r : Ren) (M : Nat → Prop) (g : Goroutine) (w : World), HR m.P ro r u w → (∀ b c, r b c → M c ∨ ro c) → (∀ c, Z c → c < w.heap.size ∧ (M c ∨ R c)) → (∀ b c, r b c → Z c → ro c) → m.Wg < w.heap.size → ¬ M m.Wg → Out m.P false (kidF m.P) (kidSp m.P) r [trap (Wi m.P (kidF m.P))] br gl g →
      (∀ gl' u' s M' g' w', OutOf (Wi m.P (kidF m.P)) f0 R0 gl' u' → HR m.P ro s u' w' → (∀ c, M c → M' c) → Out m.P false (kidF m.P) (kidSp m.P) s [trap (Wi m.P (kidF m.P))] br gl' g' → Still m Z w w' → ∃ ρ, CW m i C R ρ false M' g' w') →
      ∃ ρ, CW m i C R ρ false M g w := by
  have hS := kid_fs (P := m.P) ro
  have hH := OutOf.halts (Q := Wi m.P (kidF m.P)) f0 R0
  refine Will.strong (Q := Wi m.P (kidF m.P)) (Stop := OutOf (Wi m.P (kidF m.P)) f0 R0) (M := fun gl u => ∀ (r : Ren) (M : Nat → Prop) (g : Goroutine) (w : World), HR m.P ro r u w → (∀ b c, r b c → M c ∨ ro c) → (∀ c, Z c → c < w.heap.size ∧ (M c ∨ R c)) → (∀ b c, r b c → Z c → ro c) → m.Wg < w.heap.size → ¬ M m.Wg → Out m.P false (kidF m.P) (kidSp m.P) r [trap (Wi m.P (kidF m.P))] br gl g →
      (∀ gl' u' s M' g' w', OutOf (Wi m.P (kidF m.P)) f0 R0 gl' u' → HR m.P ro s u' w' → (∀ c, M c → M' c) → Out m.P false (kidF m.P) (kidSp m.P) s [trap (Wi m.P (kidF m.P))] br gl' g' → Still m Z w w' → ∃ ρ, CW m i C R ρ false M' g' w') →
      ∃ ρ, CW m i C R ρ false M g w) ?_ hw
  intro gl u hW ih r M g w hr hMr hZ hZr hWg hMw hout hnext
  by_cases hst : OutOf (Wi m.P (kidF m.P)) f0 R0 gl u
  · exact hnext gl u r M g w hst hr (fun _ h => h) hout (.refl _ w)
  rcases hout.inv with ⟨f, a, a', todo, back, l, l', k1, k2, k3, k4, rfl, rfl⟩ | ⟨f, a, a', l, l', k1, k0, k3, k4, k5, rfl, rfl⟩
  · have hnd : back = true → l ≠ [] := by
      rintro rfl rfl
      obtain ⟨_, fn, hfn⟩ := k1
      rw [List.nil_append] at hW hst
      exact hst (hW.out hH hfn)
    refine CW.mk' rfl fun w1 hs => .inl ?_
    have hr1 : HR m.P ro r u w1 := by
      refine ⟨fun b c x => ?_, hr.one, hr.inj, fun c x => Nat.lt_of_lt_of_le (hr.old c x) hs.size, hr.glo, hr.ug, Nat.le_trans hr.wg hs.size⟩
      obtain ⟨o, o', e1, e2, e3⟩ := hr.obj b c x
      exact ⟨o, o', e1, (hs.keep c ((hMr b c x).imp id (hro c))).trans e2, e3⟩
    have hW' := hW
    cases hW' with
    | stop hs => exact absurd hs hst
    | step nx nw hnx hwx =>
      let τ : Tape := fun i q => w1.tape (w1.drawn + i) q
      obtain ⟨es, e⟩ := hnx τ
      have hr2 : HR m.P ro r (W2 u τ 0) w1 := ⟨hr1.obj, hr1.one, hr1.inj, hr1.old, hr1.glo, hr1.ug, hr1.wg⟩
      have hAT : AT (W2 u τ 0) w1 (nw τ).drawn := fun i q _ => by
        show w1.tape (w1.drawn + (0 + i)) q = w1.tape (w1.drawn + i) q
        rw [Nat.zero_add]
      have key : Step1 m.P false (kidF m.P) ro (kidSp m.P) r [trap (Wi m.P (kidF m.P))] br (W2 u τ 0) w1 true (stepG (Wi m.P (kidF m.P)) true (G (fz f a todo back) (l ++ [trap (Wi m.P (kidF m.P))])) (W2 u τ 0)) (stepG m.P false (G (fz f a' todo back) (l' ++ br)) w1) := by
        cases back with
        | false => exact step_run hz hS k1 k2 k3 k4 hr2
        | true => exact step_ret hS k1 k3 k4 (hnd rfl) hr2
      rcases key.2 _ _ _ e hAT with hpan | ⟨s, g', w', es', e', h1, h2, h3, h4⟩
      · exact absurd hpan ((hwx τ).calm hH)
      · have hnew : ∀ b c, s b c → (M c ∨ (w1.heap.size ≤ c ∧ ∃ b, s b c)) ∨ ro c := fun b c x => by
          rcases h2.fresh b c x with y | ⟨_, y⟩
          · exact (hMr b c y).imp .inl id
          · exact .inl (.inr ⟨y, b, x⟩)
        have hkeep : ∀ c, c < w1.heap.size → ¬ M c → w'.heap[c]? = w1.heap[c]? := fun c hc hn => h2.keep c hc (by
          by_cases hx : ∃ b, r b c
          · obtain ⟨b, hb⟩ := hx
            exact .inl ((hMr b c hb).resolve_left hn)
          · exact .inr fun b hb => hx ⟨b, hb⟩)
        refine ⟨g', w', es', fun c => M c ∨ (w1.heap.size ≤ c ∧ ∃ b, s b c), e', ⟨fun c x => .inl x, fun c x => x.imp id fun ⟨y, b, z⟩ => ⟨y, (h1.lt z).2⟩, hkeep, h2.size, h2.tape, h2.os, h2.out⟩, fun e he => ?_, ?_⟩
        · rcases h4 e he with ⟨ad, wr, rfl, ⟨b, hb⟩, hnr⟩ | rfl | ⟨f, rfl⟩ | ⟨c, rfl, b, hb⟩
          · refine ⟨fun x hx => ?_, by simp, by simp, by simp, (h1.lt hb).2⟩
            rw [ofEvent_cell0] at hx
            cases hx
            refine .inr ⟨by simp, ad.block, .inl ⟨ad, rfl, rfl⟩, ?_⟩
            rcases hnew b _ hb with y | y
            · exact .inl y
            · refine .inr ⟨hro _ y, ?_⟩
              cases wr with
              | false => rfl
              | true => exact absurd y (hnr rfl)
          · exact ⟨fun x hx => (by cases hx), (by simp), (by simp), (by simp), trivial⟩
          · exact ⟨fun x hx => (by cases hx), (by simp), (by simp), (by simp), trivial⟩
          · refine ⟨fun x hx => ?_, by simp, by simp, by simp, (h1.lt hb).2⟩
            have e1 : (MemAct.ofEvent ⟨.obj c, false, false⟩).touch? = some ⟨.obj c, false, .plain⟩ := rfl
            rw [e1] at hx
            cases hx
            refine .inr ⟨by simp, c, .inr rfl, ?_⟩
            rcases hnew b _ hb with y | y
            · exact .inl y
            · exact .inr ⟨hro _ y, rfl⟩
        · have hZk : Still m Z w w' := by
            refine ⟨Nat.le_trans hs.size h2.size, fun c hc => ?_, h2.tape.trans hs.tape, h2.os.trans hs.os, h2.out.trans hs.output, fun hl => ?_⟩
            · obtain ⟨z1, z2⟩ := hZ c hc
              refine (h2.keep c (Nat.lt_of_lt_of_le z1 hs.size) ?_).trans (hs.keep c z2)
              by_cases hx : ∃ b, r b c
              · obtain ⟨b, hb⟩ := hx
                exact .inl (hZr b c hb hc)
              · exact .inr fun b hb => hx ⟨b, hb⟩
            · obtain ⟨st, sm, x⟩ := hs.live hl
              exact ⟨st, sm, (hkeep m.Wg (Nat.lt_of_lt_of_le hWg hs.size) hMw).trans x⟩
          refine ih τ _ _ es _ _ hst e .self s _ g' w' h1 hnew (fun c hc => ⟨Nat.lt_of_lt_of_le (hZ c hc).1 hZk.size, (hZ c hc).2.imp .inl id⟩) (fun b c x hc => ?_) (Nat.lt_of_lt_of_le hWg hZk.size) (fun x => x.elim hMw fun y => by have := y.1; have := hs.size; omega) h3 fun gl' u' s' M' g2 w2 x1 x2 x3 x4 x5 => hnext gl' u' s' M' g2 w2 x1 x2 (fun c hc => x3 c (.inl hc)) x4 (hZk.trans x5)
          rcases h2.fresh b c x with y | ⟨_, y⟩
          · exact hZr b c y hc
          · have := (hZ c hc).1
            have := hs.size
            omega
  · exact (kid_never k1 (let ⟨fn, x, _⟩ := k0; ⟨fn, x⟩) hW hst).elim
end
end Go.Proofs.Ythifdfbdekkmgaa

/- To the release of one that says Done: nothing is touched. -/
namespace Go.Proofs.Ythifdfbdekkmgaa
open Go.Conc Go.ConcN Go.RowKit Go.Conc.Lib Go.ConcR.Gen Go.ConcN.Gen
open Go.ConcR (KK wgBlock WgAt stA smA rd wr mk Payload Aside2 DC0)
set_option linter.unusedVariables false
set_option linter.unusedSectionVars false
theorem goes_to {P : Program} {main : Bool} {R : World → World → Prop} {D : World → World → Array Event → Prop} {Q Q' : Goroutine → World → Prop} (hq : ∀ g w, Q g w → Q' g w) : ∀ (k : Nat) (g : Goroutine) (w : World), Goes P main R D Q k g w → Goes P main R D Q' k g w
  | 0, g, w, h => fun w1 r => hq _ _ (h w1 r)
  | k + 1, g, w, h => by
    rcases h with h | ⟨hs, h⟩
    · exact .inl fun w1 r => hq _ _ (h w1 r)
    · refine .inr ⟨hs, fun w1 r => ?_⟩
      obtain ⟨g', w', es, e, hd, hg⟩ := goes_elim (h w1 r)
      rw [e]
      exact ⟨hd, goes_to hq k _ _ hg⟩
variable [Payload] {P : Program} {L : WgLink}
def AtDis (P : Program) (g : Goroutine) (w : World) : Prop := ∃ g', stepG P false g w = .go g' w #[mk .disable]
def AtRel (P : Program) (L : WgLink) (Wg C : Nat) (g : Goroutine) (w : World) : Prop := ∃ g', stepG P false g w = .go g' w #[mk (.releaseMerge (stA Wg))] ∧ ∃ k, Goes P false (RW L.tWg Wg C 1 0 0) DC0 (AtDis P) k g' w
set_option maxRecDepth 100000 in
set_option maxHeartbeats 4000000 in
theorem done_walk (H : WgLib P L) {Wg C : Nat} {val : Value} {c : Frame} {cs : List Frame} (w : World) (hK : WgLive L.tWg Wg w ∧ Has C 0 val w) :
    ∃ n, Goes P false (RW L.tWg Wg C 1 0 0) DC0 (AtRel P L Wg C) n (G ((baseD L.done).at ⟨#[.pointer (some ⟨Wg, 0, none⟩), undef, undef, undef], []⟩ [.code (body_done L)]) (c :: cs)) w := by
  lib_facts
  simp only [body_done, doneFn, Option.getD_some]
  refine ⟨60, ?_⟩
  repeat (first | u_c stepG_seq kn_rely hK | u_c stepG_region_end kn_rely hK | u_reg kn_rely hK | u_cond true kn_rely hK | u_cond false kn_rely hK | u_call H.f_add (nm_add L) addFn kn_rely hK | u_op kn_rely hK | u_conv H.underlying_tWgP H.room_tWg (WgLive.cell0 hK.1).choose_spec kn_rely hK)
  refine Goes.stop (fun w₁ h₁ => ?_)
  replace hK := kn_rely hK h₁
  clear h₁
  refine ⟨_, stepG_markAt .releaseMerge (by simp) rfl rfl (by k_ne) rfl H.f_relMerge (x_relMerge_n L) (x_relMerge_b L) (x_relMerge_x L) (x_relMerge_f L) (by simp [Act.eval, stA]), 20, ?_⟩
  walk_nrm
  repeat (first | u_c stepG_seq kn_rely hK | u_c stepG_region_end kn_rely hK | u_reg kn_rely hK)
  refine Goes.stop (fun w₁ h₁ => ?_)
  exact ⟨_, stepG_mark0 .disable (by simp) rfl rfl (by k_ne) rfl H.f_disable (x_disable_n L) (x_disable_b L) (x_disable_x L) (x_disable_f L)⟩
theorem done_c (H : WgLib P L) {Wg C : Nat} {val : Value} {c : Frame} {cs : List Frame} {qt : Nat} (hcm : c.mode = .returning) (hT : QuitsD P qt 0 (G c cs)) (w : World) (hK : WgLive L.tWg Wg w ∧ Has C 0 val w) :
    ∃ n, Goes P false (RW L.tWg Wg C 1 0 0) DC0 (AtR0 P L.tWg Wg C 1 0 1 val) n (G ((baseD L.done).at ⟨#[.pointer (some ⟨Wg, 0, none⟩), undef, undef, undef], []⟩ [.code (body_done L)]) (c :: cs)) w := by
  have refl : ∀ w, RW L.tWg Wg C 1 0 0 w w := fun w => RW.refl w
  have trans : ∀ a b c, RW L.tWg Wg C 1 0 0 a b → RW L.tWg Wg C 1 0 0 b c → RW L.tWg Wg C 1 0 0 a c := fun _ _ _ h1 h2 => h1.trans h2
  have hx : ∀ g w g' w', AtR0 P L.tWg Wg C 1 0 1 val g w → stepG P false g w ≠ .go g' w' #[] := by
    rintro g w g' w' ⟨_, _, g2, e, _⟩ e2
    rw [e] at e2
    simp at e2
  obtain ⟨k, h2⟩ := done_walk (c := c) (cs := cs) H w hK
  have h1 := doneN (Own := NoL) (Rd := NoL) (Wg := Wg) (C := C) (n := 1) (Low := 0) (k := 1) (val := val) H hcm hT w hK
  refine ⟨k, goes_to ?_ k _ _ (goes_both refl trans hx k _ _ w h1 h2)⟩
  rintro g w ⟨⟨g', e, k2, h3⟩, n, h4⟩
  rcases Goes.cases h4 with h5 | ⟨n', rfl, h5⟩
  · exact h5 w (refl w)
  · exfalso
    obtain ⟨g2, w2, es2, e2, _, h6⟩ := h5 w (refl w)
    rw [e] at e2
    cases e2
    obtain ⟨g3, w3, ⟨g4, e4⟩, n3, h7⟩ := goes_reach refl k2 _ _ (goes_both refl trans hx k2 _ _ _ h6 h3)
    rcases Goes.cases h7 with h8 | ⟨n4, rfl, h8⟩
    · obtain ⟨_, _, g5, e5, _⟩ := h8 w3 (refl w3)
      rw [e4] at e5
      have := (GStep.go.inj e5).2.2
      simp [mk] at this
    · obtain ⟨g5, w5, es5, e5, ⟨_, hev⟩, _⟩ := h8 w3 (refl w3)
      rw [e4] at e5
      cases e5
      exact (hev (mk .disable) (by simp)).2.1 rfl
end Go.Proofs.Ythifdfbdekkmgaa

/- What the one that starts is about to do, out of its walk. -/
namespace Go.Proofs.Ythifdfbdekkmgaa
open Go.Conc Go.ConcN Go.RowKit Go.Conc.Lib Go.ConcR.Gen Go.ConcN.Gen
open Go.ConcR (KK wgBlock WgAt stA smA rd wr mk Payload Aside2 DC0)
set_option linter.unusedVariables false
set_option linter.unusedSectionVars false
variable [Payload]
abbrev PhiT := PT → Nat → Nat → (Nat → Prop) → (Nat → Prop) → Goroutine → World → Prop
def PWF (m : Mill) (P : Program) (Φ : PhiT) (pt : PT) (j d : Nat) (K X : Nat → Prop) (g : Goroutine) (w1 : World) : Prop :=
      (pt ≠ .ret ∧ ∃ g' w' es K' X', stepG P true g w1 = .go g' w' es ∧ Mine X X' w1 w' ∧ (∀ c, K c → K' c) ∧ (∀ c, K' c → K c ∨ (w1.heap.size ≤ c ∧ c < w'.heap.size)) ∧ (∀ c, X' c → K' c) ∧ (∀ e ∈ es, EvP m K' X' w'.heap.size e) ∧ g'.status = .running ∧ Φ pt j d K' X' g' w') ∨
      (d = 0 ∧ ∃ g' pt', (pt' = pt ∧ (pt = .sp ∨ pt = .pd) ∨ pt = .sp ∧ pt' = .wt j) ∧ stepG P true g w1 = .go g' w1 #[mk .disable] ∧ Φ pt' j 1 K X g' w1) ∨
      (d = 1 ∧ (pt = .sp ∨ pt = .pd ∨ pt = .fin) ∧ ∃ g', stepG P true g w1 = .go g' w1 #[mk .enable] ∧ Φ pt j 0 K X g' w1) ∨
      (pt = .sp ∧ d = 1 ∧ j < m.n ∧ ∀ v : Nat, v ≤ j → WgAt m.ty m.Wg w1 (v * KK) 0 → ∃ g', stepG P true g w1 = .go g' (w1.setCell (stA m.Wg) (.int .u64 ((v + 1) * KK))) #[rd (stA m.Wg), wr (stA m.Wg)] ∧ Φ .pd j 1 K X g' (w1.setCell (stA m.Wg) (.int .u64 ((v + 1) * KK)))) ∨
      (pt = .pd ∧ d = 0 ∧ ∃ g' child C, stepG P true g w1 = .spawn g' child w1 #[] ∧ X C ∧ (∃ ρ, CW m j C (fun c => K c ∧ c ≠ C) ρ false (fun c => c = C) child w1) ∧ Φ .sp (j + 1) 0 (fun c => K c ∧ c ≠ C) (fun _ => False) g' w1) ∨
      (d = 1 ∧ ∃ b, pt = .wt b ∧ ∀ v : Nat, v ≤ b → WgAt m.ty m.Wg w1 (v * KK) 0 → ∃ g', stepG P true g w1 = .go g' w1 #[rd (stA m.Wg)] ∧ Φ (if v = 0 then .fin else .w2 v) j 1 K X g' w1) ∨
      (d = 1 ∧ ∃ vs, pt = .w2 vs ∧ ∀ v : Nat, v ≤ vs → WgAt m.ty m.Wg w1 (v * KK) 0 →
        (v = vs ∧ ∃ g', stepG P true g w1 = .go g' (w1.setCell (stA m.Wg) (.int .u64 (v * KK + 1))) #[rd (stA m.Wg), wr (stA m.Wg)] ∧ Φ .w3 j 1 K X g' (w1.setCell (stA m.Wg) (.int .u64 (v * KK + 1)))) ∨
        (v ≠ vs ∧ ∃ g', stepG P true g w1 = .go g' w1 #[rd (stA m.Wg)] ∧ Φ (.wt v) j 1 K X g' w1)) ∨
      (d = 1 ∧ pt = .w3 ∧ g.offers = none ∧ ((∃ st, WgAt m.ty m.Wg w1 st 0) → stepG P true g w1 = .go { g with status := .blocked } w1 #[]) ∧
        (WgAt m.ty m.Wg w1 0 1 → ∃ g', stepG P true g w1 = .go g' (w1.setCell (smA m.Wg) (.int .u32 0)) (semEvents (smA m.Wg)) ∧ Φ .w4 j 1 K X g' (w1.setCell (smA m.Wg) (.int .u32 0)))) ∨
      (d = 1 ∧ pt = .w4 ∧ (WgAt m.ty m.Wg w1 0 0 → ∃ g', stepG P true g w1 = .go g' w1 #[rd (stA m.Wg)] ∧ Φ .fin j 1 K X g' w1)) ∨
      (d = 0 ∧ pt = .fin ∧ ∃ g', stepG P true g w1 = .go g' w1 #[mk (.acquire (stA m.Wg))] ∧ Φ .ret j 0 K X g' w1) ∨
      (d = 0 ∧ pt = .ret ∧ m.Stop j K g w1)
abbrev Tup := PT × Nat × Nat × (Nat → Prop) × (Nat → Prop) × Goroutine × World
def SomePW (m : Mill) : PhiT := fun pt j d K X g w => ∃ ρ, PW m ρ pt j d K X g w
noncomputable def pickPW (m : Mill) (t : Tup) : Rk := open Classical in if h : SomePW m t.1 t.2.1 t.2.2.1 t.2.2.2.1 t.2.2.2.2.1 t.2.2.2.2.2.1 t.2.2.2.2.2.2 then Classical.choose h else .node Empty (fun x => nomatch x)
theorem pickPW_is {m : Mill} {pt : PT} {j d : Nat} {K X : Nat → Prop} {g : Goroutine} {w : World} (h : SomePW m pt j d K X g w) : PW m (pickPW m (pt, j, d, K, X, g, w)) pt j d K X g w := by
  unfold pickPW
  rw [dif_pos h]
  exact Classical.choose_spec h
section
variable {m : Mill} {P : Program} {pt : PT} {j d : Nat} {K X : Nat → Prop} {g : Goroutine} {w : World}
theorem PW.mk' (hP : m.P = P) (hr : g.status = .running) (h : ∀ w1, Still m K w w1 → WgLive m.ty m.Wg w1 → PWF m P (SomePW m) pt j d K X g w1) : SomePW m pt j d K X g w := by
  subst hP
  refine ⟨.node Tup (pickPW m), ?_⟩
  unfold PW
  refine ⟨hr, fun w1 hs hl => ?_⟩
  rcases h w1 hs hl with ⟨h0, g', w', es, K', X', h1, h2, h3, h4, h5, h6, h7, h8⟩ | ⟨h0, g', pt', h1, h2, h3⟩ | ⟨h0, h1, g', h2, h3⟩ | ⟨h0, h1, h2, h3⟩ | ⟨h0, h1, g', child, C, h2, h3, h4, h5⟩ | ⟨h0, b, h1, h2⟩ | ⟨h0, vs, h1, h2⟩ | ⟨h0, h1, h2, h3, h4⟩ | ⟨h0, h1, h2⟩ | ⟨h0, h1, g', h2, h3⟩ | h0
  · exact .inl ⟨h0, _, g', w', es, K', X', h1, h2, h3, h4, h5, h6, h7, pickPW_is h8⟩
  · exact .inr (.inl ⟨h0, _, g', pt', h1, h2, pickPW_is h3⟩)
  · exact .inr (.inr (.inl ⟨h0, h1, _, g', h2, pickPW_is h3⟩))
  · exact .inr (.inr (.inr (.inl ⟨h0, h1, h2, fun v a b => let ⟨g', h4, h5⟩ := h3 v a b; ⟨_, g', h4, pickPW_is h5⟩⟩)))
  · exact .inr (.inr (.inr (.inr (.inl ⟨h0, h1, _, g', child, C, h2, h3, h4, pickPW_is h5⟩))))
  · exact .inr (.inr (.inr (.inr (.inr (.inl ⟨h0, b, h1, fun v a b => let ⟨g', h4, h5⟩ := h2 v a b; ⟨_, g', h4, pickPW_is h5⟩⟩)))))
  · exact .inr (.inr (.inr (.inr (.inr (.inr (.inl ⟨h0, vs, h1, fun v a b => (h2 v a b).imp (fun ⟨e, g', h4, h5⟩ => ⟨e, _, g', h4, pickPW_is h5⟩) (fun ⟨e, g', h4, h5⟩ => ⟨e, _, g', h4, pickPW_is h5⟩)⟩))))))
  · exact .inr (.inr (.inr (.inr (.inr (.inr (.inr (.inl ⟨h0, h1, h2, h3, fun a => let ⟨g', h5, h6⟩ := h4 a; ⟨_, g', h5, pickPW_is h6⟩⟩)))))))
  · exact .inr (.inr (.inr (.inr (.inr (.inr (.inr (.inr (.inl ⟨h0, h1, fun a => let ⟨g', h5, h6⟩ := h2 a; ⟨_, g', h5, pickPW_is h6⟩⟩))))))))
  · exact .inr (.inr (.inr (.inr (.inr (.inr (.inr (.inr (.inr (.inl ⟨h0, h1, _, g', h2, pickPW_is h3⟩)))))))))
  · exact .inr (.inr (.inr (.inr (.inr (.inr (.inr (.inr (.inr (.inr h0)))))))))
theorem SomePW.running (h : SomePW m pt j d K X g w) : g.status = .running := let ⟨_, h⟩ := h; h.running
/-- Steps that touch nothing. -/
theorem PW.goes (hP : m.P = P) (hpt : pt ≠ .ret) (hXK : ∀ c, X c → K c) : ∀ {n : Nat} {g : Goroutine} {w : World}, Goes P true (Still m K) DC0 (SomePW m pt j d K X) n g w → SomePW m pt j d K X g w
  | 0, g, w, h => h w (.refl _ w)
  | n + 1, g, w, h => by
    rcases h with h | ⟨hs, h⟩
    · exact h w (.refl _ w)
    · refine PW.mk' hP hs fun w1 h1 _ => .inl ⟨hpt, ?_⟩
      obtain ⟨g', w', es, e, ⟨rfl, rfl⟩, hg⟩ := goes_elim (h w1 h1)
      have hg2 := PW.goes hP hpt hXK hg
      exact ⟨g', w', #[], K, X, e, .refl X w', fun _ h => h, fun _ h => .inl h, hXK, fun e he => by simp at he, hg2.running, hg2⟩
/-- What is said of a cell of the group's. -/
theorem PW.said (hP : m.P = P) (hpt : pt ≠ .ret) (hXK : ∀ c, X c → K c) (hr : g.status = .running) (h : ∀ w1, Still m K w w1 → WgLive m.ty m.Wg w1 → ∃ g', (stepG P true g w1 = .go g' w1 #[mk (.read (smA m.Wg))] ∨ stepG P true g w1 = .go g' w1 #[mk (.write (smA m.Wg))]) ∧ SomePW m pt j d K X g' w1) : SomePW m pt j d K X g w := by
  refine PW.mk' hP hr fun w1 h1 hl => .inl ⟨hpt, ?_⟩
  obtain ⟨g', e, hg⟩ := h w1 h1 hl
  have hwl : m.Wg < w1.heap.size := by
    obtain ⟨st, sm, x⟩ := hl
    exact (Array.getElem?_eq_some_iff.1 x).1
  rcases e with e | e
  · refine ⟨g', w1, _, K, X, e, .refl X w1, fun _ h => h, fun _ h => .inl h, hXK, fun e he => ?_, hg.running, hg⟩
    rw [Array.mem_singleton] at he
    subst he
    refine ⟨fun x hx => ?_, by simp [mk], by simp [mk], by simp [mk], hwl⟩
    cases hx
    exact .inl ⟨⟨_, rfl, rfl⟩, by simp⟩
  · refine ⟨g', w1, _, K, X, e, .refl X w1, fun _ h => h, fun _ h => .inl h, hXK, fun e he => ?_, hg.running, hg⟩
    rw [Array.mem_singleton] at he
    subst he
    refine ⟨fun x hx => ?_, by simp [mk], by simp [mk], by simp [mk], hwl⟩
    cases hx
    exact .inl ⟨⟨_, rfl, rfl⟩, by simp⟩
end
end Go.Proofs.Ythifdfbdekkmgaa

/- Add(1), beside those that were started. -/
namespace Go.Proofs.Ythifdfbdekkmgaa
open Go.Conc Go.ConcN Go.RowKit Go.Conc.Lib Go.ConcR.Gen Go.ConcN.Gen
open Go.ConcR (KK wgBlock WgAt stA smA rd wr mk Payload Aside2 DC0)
set_option linter.unusedVariables false
set_option linter.unusedSectionVars false
variable [Payload] {L : WgLink}
theorem fl {m : Mill} {K : Nat → Prop} {F : World → Prop} (hty : m.ty = L.tWg) (hF2 : ∀ w w1, Still m K w w1 → F w → F w1) {w w₁ : World} (h : F w ∧ WgLive L.tWg m.Wg w) (r : Still m K w w₁) : F w₁ ∧ WgLive L.tWg m.Wg w₁ := ⟨hF2 _ _ r h.1, by rw [← hty] at *; exact r.live h.2⟩
theorem still_set {m : Mill} {K : Nat → Prop} (hK : ¬ K m.Wg) {w : World} {a : Addr} (ha : a.block = m.Wg) {v : Value} (hl : WgLive m.ty m.Wg (w.setCell a v)) : Still m K w (w.setCell a v) :=
  .aside (b := m.Wg) (ha ▸ aside_setCell w a v) hK fun _ => hl
set_option maxRecDepth 100000 in
set_option maxHeartbeats 8000000 in
theorem par_add {m : Mill} {P : Program} (hP : m.P = P) (hty : m.ty = L.tWg) (H : WgLib P L) {j : Nat} {K X : Nat → Prop} (hXK : ∀ c, X c → K c) (hKw : ¬ K m.Wg) (hj : j < m.n) (hn : m.n < 2147483647) {F : World → Prop} (hF2 : ∀ w w1, Still m K w w1 → F w → F w1)
    {b₀ : Frame} {a₀ : Act} {ops₀ : Array Oper} {i₀ : Nat} {rest₀ : List Nat} {k₀ : List Item} {cs : List Frame}
    (hT : ∀ w, F w ∧ WgLive L.tWg m.Wg w → SomePW m .pd j 0 K X (G (b₀.at (a₀.put ((ops₀[i₀]?).bind (·.dst)) (.tuple #[])) (.inRegion ops₀ rest₀ :: k₀)) cs) w)
    (w : World) (hF : F w ∧ WgLive L.tWg m.Wg w) :
    SomePW m .sp j 0 K X (G ((base L.add).at ⟨#[.pointer (some ⟨m.Wg, 0, none⟩), .int .i64 1] ++ Array.replicate 115 undef, []⟩ [.code (body_add L)]) (b₀.at a₀ (.inRegion ops₀ (i₀ :: rest₀) :: k₀) :: cs)) w := by
  have rl := @fl _ L m K F hty hF2
  lib_facts
  simp only [body_add, addFn, Option.getD_some]
  walk_nrm
  refine PW.goes hP (by simp) hXK (n := 40) ?_
  repeat (first | u_c stepG_seq rl hF | u_c stepG_region_end rl hF | u_c stepG_skip rl hF | u_reg rl hF | u_cond true rl hF | u_cond false rl hF | u_op rl hF)
  refine Goes.stop (fun w₁ h₁ => ?_)
  replace hF := rl hF h₁
  clear h₁
  refine PW.mk' hP rfl (fun w₂ h₂ hl => .inr (.inl ⟨rfl, _, .sp, .inl ⟨rfl, .inl rfl⟩, stepG_mark0 .disable (by simp) rfl rfl (by k_ne) rfl H.f_disable (x_disable_n L) (x_disable_b L) (x_disable_x L) (x_disable_f L), ?_⟩))
  replace hF := rl hF h₂
  clear h₂ hl
  walk_nrm
  refine PW.goes hP (by simp) hXK (n := 100) ?_
  repeat (first | u_c stepG_seq rl hF | u_c stepG_region_end rl hF | u_c stepG_skip rl hF | u_reg rl hF | u_cond true rl hF | u_cond false rl hF | u_defer rl hF | u_bub rl hF | u_op rl hF | u_call H.f_uAdd (nm_uAdd L) uAddFn rl hF)
  refine Goes.stop (fun w₁ h₁ => ?_)
  replace hF := rl hF h₁
  clear h₁
  refine PW.mk' hP rfl (fun w₂ h₂ hl => .inr (.inr (.inr (.inl ⟨rfl, rfl, hj, fun v hv hw => ?_⟩))))
  replace hF := rl hF h₂
  clear h₂ hl
  rw [hty] at hw
  rcases Nat.eq_zero_or_pos v with rfl | hvp
  · replace hw : WgAt L.tWg m.Wg w₂ 0 0 := by simpa using hw
    have z : (((0 : Nat) : Int) + 1) * KK = KK := by simp
    rw [z]
    have e0 : IntKind.u64.wrap (0 + 4294967296) = KK := by decide
    refine ⟨_, (stepG_add_atomic rfl rfl (by k_ne) rfl H.f_addU64 (x_addU64_n L) (x_addU64_b L) (x_addU64_x L) .u64 (x_addU64_f L) rfl rfl hw.cellSt (hw.thaw 0)).trans (by rw [e0]; rfl), ?_⟩
    replace hF := rl hF (still_set hKw (a := stA m.Wg) rfl (v := .int .u64 KK) (by rw [hty]; exact ⟨_, _, hw.setSt _⟩))
    clear hw
    simp only [KK] at hF ⊢
    walk_nrm
    refine PW.goes hP (by simp) hXK (n := 200) ?_
    repeat (first | u_c stepG_seq rl hF | u_c stepG_region_end rl hF | u_c stepG_skip rl hF | u_c stepG_ret' rl hF | u_reg rl hF | u_cond true rl hF | u_cond false rl hF | u_op rl hF | u_skip rl hF | u_leave1 H.f_uAdd rl hF | u_conv H.underlying_tPU32 H.room_tU32 (WgLive.cell1 hF.2).choose_spec rl hF)
    refine Goes.stop (fun w₃ h₃ => ?_)
    replace hF := rl hF h₃
    clear h₃
    refine PW.said hP (by simp) hXK rfl (fun w₄ h₄ hl => ⟨_, .inl (stepG_markAt .read (by simp) rfl rfl (by k_ne) rfl H.f_raceRead (x_raceRead_n L) (x_raceRead_b L) (x_raceRead_x L) (x_raceRead_f L) (ad := ⟨m.Wg, 1, none⟩) (by simp [Act.eval])), ?_⟩)
    replace hF := rl hF h₄
    clear h₄ hl
    walk_nrm
    refine PW.goes hP (by simp) hXK (n := 200) ?_
    repeat (first | u_c stepG_seq rl hF | u_c stepG_region_end rl hF | u_c stepG_skip rl hF | u_c stepG_ret' rl hF | u_reg rl hF | u_cond true rl hF | u_cond false rl hF | u_op rl hF | u_skip rl hF)
    refine Goes.stop (fun w₃ h₃ => ?_)
    replace hF := rl hF h₃
    clear h₃
    refine PW.mk' hP rfl (fun w₄ h₄ hl => .inr (.inr (.inl ⟨rfl, .inr (.inl rfl), _, stepG_unwind_entry (v := .tuple #[]) (evs := #[mk .enable]) rfl H.f_enable (x_enable_n L) (x_enable_b L) (x_enable_x L) (x_enable_f L) (by simp [Extern.Race.none_]) (by simp [mk]) (by simp [mk]), ?_⟩)))
    replace hF := rl hF h₄
    clear h₄ hl
    refine PW.goes hP (by simp) hXK (n := 5) ?_
    u_leave0 H.f_add rl hF
    exact Goes.stop (fun w₅ h₅ => hT _ (rl hF h₅))
  · obtain ⟨V, hV⟩ : ∃ V : Int, V = (v : Int) + 1 := ⟨_, rfl⟩
    obtain ⟨T, hTT⟩ : ∃ T : Int, T = V * KK := ⟨_, rfl⟩
    have eT : IntKind.u64.wrap ((v : Int) * KK + 4294967296) = T := by rw [IntKind.wrap_u64, hTT, hV]; simp only [KK]; omega
    rw [← hV, ← hTT]
    have a1 : T / 4294967296 = V := by rw [hTT]; simp only [KK]; omega
    have b1 : bits .and .u64 T 2147483648 = 0 := by rw [hTT, hV]; have := st_flag (v + 1) 0 (by omega) (by omega); simpa [KK] using this
    have b2 : bits .and .u64 T 2147483647 = 0 := by rw [hTT, hV]; have := st_waiters (v + 1) 0 (by omega) (by omega); simpa [KK] using this
    have c1 : IntKind.i32.wrap V = V := by rw [IntKind.wrap_i32]; omega
    have d1 : 1 < V := by omega
    have d2 : V < 2147483648 := by omega
    have q1 : (V == 1) = false := by simp; omega
    have q2 : decide (V = 1) = false := decide_eq_false (by omega)
    have q3 : decide (V < 0) = false := decide_eq_false (by omega)
    have q4 : decide (0 < V) = true := decide_eq_true (by omega)
    have q5 : (V == 0) = false := by simp; omega
    have q6 : decide (V = 0) = false := decide_eq_false (by omega)
    refine ⟨_, (stepG_add_atomic rfl rfl (by k_ne) rfl H.f_addU64 (x_addU64_n L) (x_addU64_b L) (x_addU64_x L) .u64 (x_addU64_f L) rfl rfl hw.cellSt (hw.thaw 0)).trans (by rw [eT]; rfl), ?_⟩
    replace hF := rl hF (still_set hKw (a := stA m.Wg) rfl (v := .int .u64 T) (by rw [hty]; exact ⟨_, _, hw.setSt _⟩))
    clear hw hTT hV eT
    walk_nrm
    refine PW.goes hP (by simp) hXK (n := 250) ?_
    repeat (first | u_c stepG_seq rl hF | u_c stepG_region_end rl hF | u_c stepG_skip rl hF | u_c stepG_ret' rl hF | u_reg rl hF | u_cond true rl hF | u_cond false rl hF | u_op rl hF | u_skip rl hF | u_leave1 H.f_uAdd rl hF | u_cnd true rl hF | u_cnd false rl hF)
    refine Goes.stop (fun w₃ h₃ => ?_)
    replace hF := rl hF h₃
    clear h₃
    refine PW.mk' hP rfl (fun w₄ h₄ hl => .inr (.inr (.inl ⟨rfl, .inr (.inl rfl), _, stepG_unwind_entry (v := .tuple #[]) (evs := #[mk .enable]) rfl H.f_enable (x_enable_n L) (x_enable_b L) (x_enable_x L) (x_enable_f L) (by simp [Extern.Race.none_]) (by simp [mk]) (by simp [mk]), ?_⟩)))
    replace hF := rl hF h₄
    clear h₄ hl
    refine PW.goes hP (by simp) hXK (n := 5) ?_
    u_leave0 H.f_add rl hF
    exact Goes.stop (fun w₅ h₅ => hT _ (rl hF h₅))
end Go.Proofs.Ythifdfbdekkmgaa

/- Wait, beside those that were started. -/
namespace Go.Proofs.Ythifdfbdekkmgaa
open Go.Conc Go.ConcN Go.RowKit Go.Conc.Lib Go.ConcR.Gen Go.ConcN.Gen
open Go.ConcR (KK wgBlock WgAt stA smA rd wr mk Payload Aside2 DC0)
set_option linter.unusedVariables false
set_option linter.unusedSectionVars false
variable [Payload] {L : WgLink}
/-- At the head of Wait's loop. -/
def AtHead (L : WgLink) (Wg : Nat) (c : Frame) (cs : List Frame) (g : Goroutine) : Prop :=
  ∃ T : Array Value, g = G ((base L.wait).at ⟨T, []⟩ [.code (L7 L), .inLoop (L7 L), .inBlock 0]) (c :: cs) ∧ T.size = 84 ∧ T[0]? = some (.pointer (some ⟨Wg, 0, none⟩))
theorem arr84 {T : Array Value} (h : T.size = 84) {v : Value} (t0 : T[0]? = some v) : ∃ l : List Value, l.length = 83 ∧ T = (v :: l).toArray := by
  obtain ⟨l⟩ := T
  cases l with
  | nil => simp at h
  | cons x l => simp at h t0; exact ⟨l, h, by rw [t0]⟩
theorem list_cons {n : Nat} {l : List Value} (h : l.length = n + 1) : ∃ x l', l = x :: l' ∧ l'.length = n := by
  cases l with
  | nil => simp at h
  | cons x l => exact ⟨x, l, rfl, by simpa using h⟩
set_option maxRecDepth 100000 in
set_option maxHeartbeats 8000000 in
theorem wait_start {m : Mill} {P : Program} (hP : m.P = P) (hty : m.ty = L.tWg) (H : WgLib P L) {j : Nat} {K X : Nat → Prop} (hXK : ∀ c, X c → K c) {F : World → Prop} (hF2 : ∀ w w1, Still m K w w1 → F w → F w1) {c : Frame} {cs : List Frame}
    (hA : ∀ g w, AtHead L m.Wg c cs g → F w ∧ WgLive L.tWg m.Wg w → SomePW m (.wt j) j 1 K X g w) (w : World) (hF : F w ∧ WgLive L.tWg m.Wg w) :
    SomePW m .sp j 0 K X (G ((base L.wait).at ⟨#[.pointer (some ⟨m.Wg, 0, none⟩)] ++ Array.replicate 83 undef, []⟩ [.code (body_wait L)]) (c :: cs)) w := by
  have rl := @fl _ L m K F hty hF2
  lib_facts
  simp only [body_wait, waitFn, Option.getD_some]
  walk_nrm
  refine PW.goes hP (by simp) hXK (n := 20) ?_
  repeat (first | u_c stepG_seq rl hF | u_c stepG_region_end rl hF | u_c stepG_skip rl hF | u_reg rl hF | u_cond true rl hF | u_cond false rl hF | u_op rl hF)
  refine Goes.stop (fun w₁ h₁ => ?_)
  replace hF := rl hF h₁
  clear h₁
  refine PW.mk' hP rfl (fun w₂ h₂ hl => .inr (.inl ⟨rfl, _, .wt j, .inr ⟨rfl, rfl⟩, stepG_mark0 .disable (by simp) rfl rfl (by k_ne) rfl H.f_disable (x_disable_n L) (x_disable_b L) (x_disable_x L) (x_disable_f L), ?_⟩))
  replace hF := rl hF h₂
  clear h₂ hl
  walk_nrm
  refine PW.goes hP (by simp) hXK (n := 10) ?_
  u_c stepG_region_end rl hF
  u_c stepG_block rl hF
  u_c stepG_loop rl hF
  refine Goes.stop (fun w₂ h₂ => ?_)
  refine hA _ _ ?_ (rl hF h₂)
  exact ⟨_, rfl, by simp, by simp⟩
end Go.Proofs.Ythifdfbdekkmgaa

/- The one alone beside itself; a world of which nothing old is written. -/
namespace Go.Proofs.Ythifdfbdekkmgaa
open Go.Conc
set_option linter.unusedVariables false
set_option linter.unusedSectionVars false
/-- What is named, beside itself. -/
def selfR (r : Ren) : Ren := fun b c => b = c ∧ ∃ d, r b d
theorem VR.self {r : Ren} {v v' : Value} (k : VR r v v') : VR (selfR r) v v := by
  induction k with
  | ptr x => exact .ptr ⟨rfl, _, x⟩
  | slice l m x => exact .slice l m ⟨rfl, _, x⟩
  | map x => exact .map ⟨rfl, _, x⟩
  | chan x => exact .chan ⟨rfl, _, x⟩
  | @func f a a' d d' e1 k1 e2 k2 ih1 ih2 =>
    refine .func rfl (fun i v v' h h' => ?_) rfl (fun i v v' h h' => ?_)
    · rw [h] at h'; cases h'
      have hi : i < a'.size := by rw [← e1]; exact (Array.getElem?_eq_some_iff.1 h).1
      exact ih1 i _ _ h (Array.getElem?_eq_getElem hi)
    · rw [h] at h'; cases h'
      have hi : i < d'.size := by rw [← e2]; exact (Array.getElem?_eq_some_iff.1 h).1
      exact ih2 i _ _ h (Array.getElem?_eq_getElem hi)
  | iface _ ih => exact .iface ih
  | @agg a a' e k ih =>
    refine .agg rfl (fun i v v' h h' => ?_)
    rw [h] at h'; cases h'
    have hi : i < a'.size := by rw [← e]; exact (Array.getElem?_eq_some_iff.1 h).1
    exact ih i _ _ h (Array.getElem?_eq_getElem hi)
  | @tuple a a' e k ih =>
    refine .tuple rfl (fun i v v' h h' => ?_)
    rw [h] at h'; cases h'
    have hi : i < a'.size := by rw [← e]; exact (Array.getElem?_eq_some_iff.1 h).1
    exact ih i _ _ h (Array.getElem?_eq_getElem hi)
  | _ => constructor
theorem AR.self {r : Ren} {a a' : Array Value} (h : AR r a a') : AR (selfR r) a a := by
  refine ⟨rfl, fun i v v' e e' => ?_⟩
  rw [e] at e'; cases e'
  obtain ⟨v2, _, k⟩ := h.get e
  exact k.self
theorem HR.self {P : Program} {F : Array Func} {ro : Nat → Prop} {r : Ren} {u w : World} (h : HR P ro r u w) : HR (Wi P F) (fun _ => False) (selfR r) u u := by
  refine ⟨fun b c x => ?_, fun b c d x y => x.1.symm.trans y.1, fun b c d x y => x.1.trans y.1.symm, fun _ h => h.elim, fun b c x => ?_, h.ug, h.ug⟩
  · obtain ⟨rfl, d, hd⟩ := x
    obtain ⟨o, o', e1, e2, e3⟩ := h.obj _ _ hd
    refine ⟨o, o, e1, e1, ?_⟩
    cases e3 with
    | cells x _ _ => exact .cells x.self (fun _ => rfl) False.elim
    | view x => exact .view ⟨⟨rfl, _, x.1⟩, rfl, rfl⟩
    | number x => exact .number ⟨⟨rfl, _, x.1⟩, rfl, rfl⟩
  · obtain ⟨rfl, d, hd⟩ := x
    exact ⟨(h.glo _ _ hd).1, (h.glo _ _ hd).1⟩
/-- Nothing that is there is written any more. -/
def stony (u : World) : World := { u with heap := u.heap.map fun | .cells x t _ => .cells x t (0, x.size) | o => o }
theorem stony_size (u : World) : (stony u).heap.size = u.heap.size := by simp [stony]
theorem stony_cell (u : World) (a : Addr) : (stony u).cell? a = u.cell? a := by
  unfold World.cell? stony
  simp only [Array.getElem?_map]
  cases u.heap[a.block]? with
  | none => rfl
  | some o => cases o <;> rfl
theorem HR.stony {P : Program} {r : Ren} {u w : World} (h : HR P (fun _ => False) r u w) : HR P (fun c => ∃ b, r b c) r (stony u) w := by
  refine ⟨fun b c x => ?_, h.one, h.inj, fun c ⟨b, hb⟩ => ?_, h.glo, by rw [stony_size]; exact h.ug, h.wg⟩
  · obtain ⟨o, o', e1, e2, e3⟩ := h.obj _ _ x
    cases e3 with
    | cells y _ _ => exact ⟨_, _, by simp only [Go.Proofs.Ythifdfbdekkmgaa.stony, Array.getElem?_map, e1]; rfl, e2, .cells y (fun hn => absurd ⟨b, x⟩ hn) (fun _ => rfl)⟩
    | view y => exact ⟨_, _, by simp only [Go.Proofs.Ythifdfbdekkmgaa.stony, Array.getElem?_map, e1]; rfl, e2, .view y⟩
    | number y => exact ⟨_, _, by simp only [Go.Proofs.Ythifdfbdekkmgaa.stony, Array.getElem?_map, e1]; rfl, e2, .number y⟩
  · obtain ⟨_, _, _, e2, _⟩ := h.obj _ _ hb
    exact (Array.getElem?_eq_some_iff.1 e2).1
/-- The other's world is turned elsewhere. -/
theorem HR.turned {P : Program} {ro : Nat → Prop} {r : Ren} {u w w1 : World} (h : HR P ro r u w) (hk : ∀ b c, r b c → w1.heap[c]? = w.heap[c]?) (hz : w.heap.size ≤ w1.heap.size) : HR P ro r u w1 := by
  refine ⟨fun b c x => ?_, h.one, h.inj, fun c x => Nat.lt_of_lt_of_le (h.old c x) hz, h.glo, h.ug, Nat.le_trans h.wg hz⟩
  obtain ⟨o, o', e1, e2, e3⟩ := h.obj _ _ x
  exact ⟨o, o', e1, (hk b c x).trans e2, e3⟩
end Go.Proofs.Ythifdfbdekkmgaa

/- The program of one that was started. -/
namespace Go.Proofs.Ythifdfbdekkmgaa
open Go.Conc
set_option linter.unusedVariables false
noncomputable def Kid.prog : Program := Wi Try.prog (kidF Try.prog)
end Go.Proofs.Ythifdfbdekkmgaa

