/- RenExec, RenStep, RenTape, RenWill, RenChain. -/
import Derived.Test.YthifdfbdekkmgaaPart1
import Derived.Conc.Own3
import Derived.Conc.Listed
set_option linter.unusedVariables false
set_option linter.unusedSimpArgs false
set_option linter.unusedSectionVars false
set_option linter.unnecessarySimpa false
set_option linter.deprecated false
/- Which operations are alike, and that they are. -/
namespace Go.Proofs.Ythifdfbdekkmgaa
set_option linter.unusedVariables false
/-- What comes next, alike. -/
inductive NR (F : Array Func) (r : Ren) : Next → Next → Prop
  | value {v v' : Value} : VR r v v' → NR F r (.value v) (.value v')
  | skip : NR F r .skip .skip
  | enter {f : FuncId} {a a' : Array Value} {fn : Func} {c : Code} : F[f]? = some fn → fn.body = some c → fn.params.size = a.size → AR r a a' → NR F r (.enter f a) (.enter f a')
/-- A value that names no memory, as far as is looked. -/
def plainV : Value → Bool
  | .bool _ | .int _ _ | .float _ _ | .string _ | .pointer none | .slice none _ _ | .map none | .chan none | .nilFunc | .nilIface => true
  | .iface _ v => plainV v
  | .func (.func _) a d => a.isEmpty && d.isEmpty
  | .tuple a | .agg a => a.isEmpty
  | _ => false
theorem plainV_alike (r : Ren) : ∀ {v : Value}, plainV v = true → VR r v v
  | .bool b, _ => .bool b
  | .int k n, _ => .int k n
  | .float k n, _ => .float k n
  | .string s, _ => .string s
  | .pointer none, _ => .nilPtr
  | .slice none l m, _ => .nilSlice l m
  | .map none, _ => .nilMap
  | .chan none, _ => .nilChan
  | .nilFunc, _ => .nilFunc
  | .nilIface, _ => .nilIface
  | .iface t v, h => .iface (plainV_alike r (v := v) h)
  | .func (.func fn) a d, h => by
    simp only [plainV, Bool.and_eq_true, Array.isEmpty_iff] at h
    obtain ⟨rfl, rfl⟩ := h
    exact .func rfl (fun i v v' e _ => by simp at e) rfl (fun i v v' e _ => by simp at e)
  | .tuple a, h => by
    simp only [plainV, Array.isEmpty_iff] at h
    subst h
    exact .tuple rfl (fun i v v' e _ => by simp at e)
  | .agg a, h => by
    simp only [plainV, Array.isEmpty_iff] at h
    subst h
    exact .agg rfl (fun i v v' e _ => by simp at e)
  | .pointer (some _), h => by cases h
  | .func (.method _) _ _, h => by cases h
  | .func (.methodOf _ _) _ _, h => by cases h
  | .func (.via _ _ _ _) _ _, h => by cases h
  | .func (.yield _) _ _, h => by cases h
  | .slice (some _) _ _, h => by cases h
  | .map (some _), h => by cases h
  | .chan (some _), h => by cases h
def plainO : Operand → Bool
  | .tmp _ | .func _ => true
  | .const v => plainV v
  | .global _ => false
theorem VR.undef (r : Ren) : VR r Go.undef Go.undef := .tuple rfl fun i v v' e _ => by simp at e
theorem plainO_alike {r : Ren} {a a' : Array Value} {d d' : List Deferred} (h : AR r a a') : ∀ {x : Operand}, plainO x = true → VR r ((⟨a, d⟩ : Act).eval x) ((⟨a', d'⟩ : Act).eval x)
  | .tmp t, _ => h.getD t (.undef r)
  | .const v, e => plainV_alike r e
  | .func f, _ => .func rfl (fun i v v' e _ => by simp at e) rfl (fun i v v' e _ => by simp at e)
section
variable {P : Program} [NoCx P] {F : Array Func} {ro : Nat → Prop} {r : Ren} {v v' x x' i i' : Value}
/-- An operation that yields a value. -/
theorem RS.val {t t' : Sem Value} (h : RS (Wi P F) P ro r (fun s a b => VR s a b) t t') : RS (Wi P F) P ro r (NR F) (do Pure.pure (.value (← t))) (do Pure.pure (.value (← t'))) :=
  h.bind fun s le a b k => RS.pure (.value k)
theorem RS.unit {t t' : Sem Unit} (h : RS (Wi P F) P ro r (fun _ _ _ => True) t t') : RS (Wi P F) P ro r (NR F) (do t; Pure.pure .skip) (do t'; Pure.pure .skip) :=
  h.bind fun s le a b k => RS.pure .skip
/-- Functions without a body that are looked at. -/
def isExt (fn : Func) : Bool := fn.body.isNone && fn.origin == "" && (fn.name == "internal/abi.NoEscape" || fn.name == "internal/bytealg.MakeNoZero")
/-- The functions of the one are called as those of the other. -/
structure FR (P : Program) (F : Array Func) : Prop where
  ext : ∀ (f : FuncId) (fn : Func), F[f]? = some fn → isExt fn = true → P.funcs[f]? = some fn ∧ (fn.name == "runtime.NumGoroutine") = false ∧ Extern.findNext fn = none ∧
    ∃ e, Extern.find fn = some e ∧ ∀ (ro : Nat → Prop) (r : Ren) (a a' : Array Value), AR r a a' → RS (Wi P F) P ro r (fun s x y => VR s x y) (e a) (e a')
  name : ∀ (f : FuncId) (fn : Func), F[f]? = some fn → ∃ fn', P.funcs[f]? = some fn' ∧ (fn.name == "runtime.NumGoroutine") = (fn'.name == "runtime.NumGoroutine") ∧ (fn.body.isSome = true → fn'.body.isSome = true)
/-- A call of a Go function. -/
theorem RS.callFunc (hF : FR P F) (f : FuncId) {a a' : Array Value} (ha : AR r a a') (hb : (F[f]?).any (·.body.isSome) = true) (hn : (F[f]?).any (·.name == "runtime.NumGoroutine") = false) (hz : (F[f]?).all (·.params.size == a.size) = true) :
    RS (Wi P F) P ro r (NR F) (callFunc f a) (callFunc f a') := by
  unfold Go.callFunc
  refine RS.program ?_
  have e : (Wi P F).funcs[f]? = F[f]? := rfl
  simp only [e]
  cases h : F[f]? with
  | none => rw [h] at hb; cases hb
  | some fn =>
    obtain ⟨fn', h1, h2, h3⟩ := hF.name f fn h
    rw [h1]
    rw [h] at hb hn
    simp only [Option.any_some] at hb hn
    have h4 := h3 hb
    simp only [← h2, hn, Option.isNone_iff_eq_none]
    cases hbn : fn.body with
    | none => rw [hbn] at hb; cases hb
    | some c =>
      cases hbn' : fn'.body with
      | none => rw [hbn'] at h4; cases h4
      | some c' =>
        simp only [Bool.false_eq_true, ↓reduceIte, Option.isNone_some, reduceCtorEq]
        exact RS.pure (.enter h hbn (by simpa [h] using hz) ha)
theorem RS.mark (f : FuncId) : RS (Wi P F) P ro r (fun _ _ _ => True) (Go.mark (.extern f)) (Go.mark (.extern f)) := by
  intro u w hr
  refine ⟨fun a u' e al => ?_, fun h u' e => (by cases e), trivial⟩
  cases e
  refine ⟨r, (), w, hr, .refl .., trivial, rfl, fun es z hz => ?_⟩
  rcases Array.mem_push.1 hz with y | rfl
  · exact .inl y
  · exact .inr (.inr (.inr (.inl ⟨f, rfl⟩)))
theorem RS.callExt (hF : FR P F) (f : FuncId) {a a' : Array Value} (ha : AR r a a') (hb : (F[f]?).any isExt = true) : RS (Wi P F) P ro r (NR F) (Go.callFunc f a) (Go.callFunc f a') := by
  unfold Go.callFunc
  refine RS.program ?_
  have e : (Wi P F).funcs[f]? = F[f]? := rfl
  simp only [e]
  cases h : F[f]? with
  | none => rw [h] at hb; cases hb
  | some fn =>
    rw [h] at hb
    simp only [Option.any_some] at hb
    obtain ⟨h1, hn, h2, ex, h3, h4⟩ := hF.ext f fn h hb
    rw [h1]
    have hbn : fn.body.isNone = true := by
      unfold isExt at hb
      simp only [Bool.and_eq_true] at hb
      exact hb.1.1
    simp only [hn, hbn, Bool.false_eq_true, ↓reduceIte, h2, h3]
    refine (RS.mark _).bind fun s le _ _ _ => ?_
    exact RS.val (h4 ro s a a' (ha.mono le))
/-- What is alike, as far as is looked. -/
def white (P : Program) (b : Bool) (F : Array Func) : Op → Bool
  | .nilCheck x | .unOp _ _ x | .makeInterface _ x | .panic x => plainO x
  | .binOp op t x y _ => plainO x && plainO y && plainB P op t && (b || !ptrT P t)
  | .convert t u x => plainO x && plainC P b t u
  | .move x | .assign x | .box _ x | .load _ x | .fieldAddr _ x _ | .field _ x _ | .extract x _ => plainO x
  | .alloc _ => true
  | .pick c a b => plainO c && plainO a && plainO b
  | .build _ ps | .buildSlice _ _ ps => ps.all fun p => plainO p.2
  | .store _ a b | .makeSlice _ a b | .indexAddr _ a b | .index _ a b => plainO a && plainO b
  | .slice _ x l h m => plainO x && l.all plainO && h.all plainO && m.all plainO
  | .call c => c.args.all plainO && match c.callee with
    | .value (.func f) => (F[f]?).any isExt || (F[f]?).any (·.body.isSome) && !(F[f]?).any (·.name == "runtime.NumGoroutine") && (F[f]?).all (·.params.size == c.args.size)
    | .builtin .append | .builtin .len | .builtin .cap | .builtin .copy | .builtin .min | .builtin .unsafeSliceData => true
    | .builtin .unsafeString => b
    | _ => false
  | _ => false
theorem MR.ofMap {a a' : Array Value} {d d' : List Deferred} (h : AR r a a') : ∀ {o : Option Operand}, o.all plainO = true → MR r (o.map (⟨a, d⟩ : Act).eval) (o.map (⟨a', d'⟩ : Act).eval)
  | none, _ => trivial
  | some x, e => plainO_alike h (by simpa using e)
theorem PR.ofMap {a a' : Array Value} {d d' : List Deferred} (h : AR r a a') : ∀ {l : List (Nat × Operand)}, (∀ p ∈ l, plainO p.2 = true) → PR r (l.map fun (i, x) => (i, (⟨a, d⟩ : Act).eval x)) (l.map fun (i, x) => (i, (⟨a', d'⟩ : Act).eval x))
  | [], _ => trivial
  | (n, x) :: l, e => ⟨rfl, plainO_alike h (e (n, x) (by simp)), PR.ofMap h fun p hp => e p (by simp [hp])⟩
theorem AR.ofMap {a a' : Array Value} {d d' : List Deferred} (h : AR r a a') (l : Array Operand) (e : l.all plainO = true) : AR r (l.map (⟨a, d⟩ : Act).eval) (l.map (⟨a', d'⟩ : Act).eval) := by
  refine ⟨by simp, fun n x x' e1 e2 => ?_⟩
  rw [Array.getElem?_map] at e1 e2
  cases h0 : l[n]? with
  | none => rw [h0] at e1; cases e1
  | some y =>
    rw [h0] at e1 e2
    cases e1; cases e2
    rw [Array.all_eq_true_iff_forall_mem] at e
    exact plainO_alike h (e y (Array.mem_of_getElem? h0))
theorem RS.execOp {b : Bool} (hro : b = true → ∀ c, ¬ ro c) (hz : Zs P) (hF : FR P F) {a a' : Array Value} {d d' : List Deferred} (h : AR r a a') (o : Oper) (hw : white P b F o.op = true) :
    RS (Wi P F) P ro r (NR F) (execOp (⟨a, d⟩ : Act).eval o) (execOp (⟨a', d'⟩ : Act).eval o) := by
  unfold Go.execOp
  cases ho : o.op <;> rw [ho] at hw <;> simp only [white, Bool.and_eq_true] at hw <;> dsimp only
  all_goals first | (cases hw; done) | skip
  case move x => exact RS.pure (.value (plainO_alike h hw))
  case assign x => exact RS.pure (.value (plainO_alike h hw))
  case pick c x y =>
    refine (RS.asBool (plainO_alike h hw.1.1)).bind fun s le p q e => ?_
    cases e
    cases p
    · exact RS.pure (.value ((plainO_alike h hw.2).mono le))
    · exact RS.pure (.value ((plainO_alike h hw.1.2).mono le))
  case alloc t => exact RS.val (RS.alloc hz t)
  case box t x => exact RS.val (RS.box (plainO_alike h hw) t)
  case build t ps =>
    refine RS.val (RS.build hz t ?_)
    simp only [Array.toList_map]
    exact PR.ofMap h fun p hp => by
      rw [Array.all_eq_true_iff_forall_mem] at hw
      exact hw p (by simpa using hp)
  case buildSlice t n ps =>
    refine RS.val (RS.buildSlice hz t n ?_)
    simp only [Array.toList_map]
    exact PR.ofMap h fun p hp => by
      rw [Array.all_eq_true_iff_forall_mem] at hw
      exact hw p (by simpa using hp)
  case load t x => exact RS.val (RS.loadAt (plainO_alike h hw) t)
  case store t x y => exact RS.unit (RS.storeAt (plainO_alike h hw.1) (plainO_alike h hw.2) t)
  case makeSlice t x y => exact RS.val (RS.makeSlice hz (plainO_alike h hw.1) (plainO_alike h hw.2) t)
  case slice t x l y m => exact RS.val (RS.sliceAt (plainO_alike h hw.1.1.1) t (MR.ofMap h hw.1.1.2) (MR.ofMap h hw.1.2) (MR.ofMap h hw.2))
  case fieldAddr t x n => exact RS.val (RS.fieldAt (plainO_alike h hw) t n)
  case field t x n => exact RS.val (RS.field (plainO_alike h hw) t n)
  case indexAddr t x y => exact RS.val (RS.indexAt (plainO_alike h hw.1) (plainO_alike h hw.2) t)
  case index t x y => exact RS.val (RS.index (plainO_alike h hw.1) (plainO_alike h hw.2) t)
  case extract x n => exact RS.val (RS.extract (plainO_alike h hw) n)
  case nilCheck x =>
    have hx := plainO_alike (d := d) (d' := d') h hw
    revert hx
    generalize (⟨a, d⟩ : Act).eval x = v
    generalize (⟨a', d'⟩ : Act).eval x = v'
    intro hx
    have hx0 := hx
    cases hx <;> first | exact RS.dead (Dies.runtimePanic _) | exact RS.pure (.value hx0)
  case unOp op t x => exact RS.val (RS.unary op (plainO_alike h hw))
  case makeInterface t x => exact RS.val (RS.makeInterface (plainO_alike h hw) t)
  case panic x => exact RS.val (RS.panic (plainO_alike h hw))
  case convert t u x => exact RS.val (RS.convert hw.2 hro (plainO_alike h hw.1))
  case binOp op t x y _ =>
    have hx := plainO_alike (d := d) (d' := d') h hw.1.1.1
    have hy := plainO_alike (d := d) (d' := d') h hw.1.1.2
    have hp : ptrT P t = true → ∀ c, ¬ ro c := fun e => hro (by
      have := hw.2
      rw [e] at this
      simpa using this)
    have hg : RS (Wi P F) P ro r (fun _ _ _ => True) (Go.eqGuard op t x y ((⟨a, d⟩ : Act).eval x) ((⟨a, d⟩ : Act).eval y)) (Go.eqGuard op t x y ((⟨a', d'⟩ : Act).eval x) ((⟨a', d'⟩ : Act).eval y)) := by
      have ht := hw.1.2
      cases op <;> first | exact RS.eqGuard _ ht _ _ hx hy | (unfold Go.eqGuard; exact RS.ite (fun _ => RS.pure trivial) fun h => absurd rfl h)
    exact RS.val (hg.bind fun s le _ _ _ => RS.binOp hw.1.2 hp (hx.mono le) (hy.mono le))
  case call c =>
    obtain ⟨hw1, hw2⟩ := hw
    have hargs := AR.ofMap (d := d) (d' := d') h c.args hw1
    unfold Go.resolve
    cases hc : c.callee with
    | value f =>
      rw [hc] at hw2
      cases f with
      | func f =>
        simp only [Bool.or_eq_true, Bool.and_eq_true, Bool.not_eq_true'] at hw2
        have : AR r (((#[] : Array Value) ++ c.args.map (⟨a, d⟩ : Act).eval) ++ (#[] : Array Value)) ((#[] ++ c.args.map (⟨a', d'⟩ : Act).eval) ++ #[]) := ((AR.empty r).append hargs).append (AR.empty r)
        rcases hw2 with hw2 | hw2
        · exact RS.callExt hF f this hw2
        · exact RS.callFunc hF f this hw2.1.1 hw2.1.2 (by simpa using hw2.2)
      | _ => cases hw2
    | invoke _ _ => rw [hc] at hw2; cases hw2
    | builtin b =>
      rw [hc] at hw2
      cases b with
      | append => exact RS.val (RS.append hz _ _ hargs)
      | len => exact RS.val (RS.len _ _ hargs)
      | cap => exact RS.val (RS.cap _ _ hargs)
      | copy => exact RS.val (RS.copy _ _ hargs)
      | min => exact RS.val (RS.min _ _ hargs)
      | unsafeSliceData => exact RS.val (RS.unsafeSliceData _ _ hargs)
      | unsafeString => exact RS.val (RS.unsafeString (hro hw2) _ _ hargs)
      | _ => cases hw2
end
end Go.Proofs.Ythifdfbdekkmgaa

/- A step of the one's is a step of the other's. -/
namespace Go.Proofs.Ythifdfbdekkmgaa
open Go.Conc
set_option linter.unusedVariables false
/-- Code of which each operation is alike. -/
def codeW (P : Program) (bq : Bool) (F : Array Func) : Code → Bool
  | .skip | .exit _ | .label _ | .ret | .refuse _ => true
  | .region _ ops _ => ops.all fun o => white P bq F o.op
  | .seq a b => codeW P bq F a && codeW P bq F b
  | .cond c a b => plainO c && codeW P bq F a && codeW P bq F b
  | .block _ c | .loop c | .scope c => codeW P bq F c
  | .goto _ | .rangeFunc _ _ _ _ => false
def itemW (P : Program) (bq : Bool) (F : Array Func) : Item → Bool
  | .code c | .inLoop c => codeW P bq F c
  | .inBlock _ | .inScope _ => true
  | .inRegion ops _ => ops.all fun o => white P bq F o.op
  | _ => false
/-- An activation without deferred calls. -/
def fz (f : FuncId) (tmps : Array Value) (todo : List Item) (back : Bool) : Frame := { fn := f, tmps, todo, defers := [], mode := if back then .returning else .run, kind := .normal }
/-- A function that both have. -/
def good (F : Array Func) (sp : FuncId → Bool) (f : FuncId) : Prop := sp f = false ∧ ∃ fn, F[f]? = some fn
/-- Activations alike. -/
inductive SR (P : Program) (bq : Bool) (F : Array Func) (sp : FuncId → Bool) (r : Ren) : List Frame → List Frame → Prop
  | nil : SR P bq F sp r [] []
  | cons {f : FuncId} {a a' : Array Value} {todo : List Item} {l l' : List Frame} : good F sp f → todo.all (itemW P bq F) = true → AR r a a' → SR P bq F sp r l l' → SR P bq F sp r (fz f a todo false :: l) (fz f a' todo false :: l')
theorem SR.mono {P : Program} {bq : Bool} {F : Array Func} {sp : FuncId → Bool} {r s : Ren} (h : RLe r s) {l l' : List Frame} (k : SR P bq F sp r l l') : SR P bq F sp s l l' := by
  induction k with
  | nil => exact .nil
  | cons h1 h2 h3 _ ih => exact .cons h1 h2 (h3.mono h) ih
/-- The functions of the one: but for special ones they are the other's; all their operations are alike. -/
structure Fits (P : Program) (bq : Bool) (F : Array Func) (ro : Nat → Prop) (sp : FuncId → Bool) : Prop where
  quiet : bq = true → ∀ c, ¬ ro c
  names : FR P F
  same : ∀ f fn, sp f = false → F[f]? = some fn → P.funcs[f]? = some fn
  code : ∀ f fn c, sp f = false → F[f]? = some fn → fn.body = some c → codeW P bq F c = true
/-- What a step of the one's that goes on is of the other's. -/
inductive Out (P : Program) (bq : Bool) (F : Array Func) (sp : FuncId → Bool) (s : Ren) (bl br : List Frame) : Goroutine → Goroutine → Prop
  | go {f : FuncId} {a a' : Array Value} {todo : List Item} {back : Bool} {l l' : List Frame} : good F sp f → todo.all (itemW P bq F) = true → AR s a a' → SR P bq F sp s l l' → Out P bq F sp s bl br (G (fz f a todo back) (l ++ bl)) (G (fz f a' todo back) (l' ++ br))
  | special {f : FuncId} {a a' : Array Value} {l l' : List Frame} : sp f = true → (∃ fn, F[f]? = some fn ∧ fn.params.size = a.size) → AR s a a' → SR P bq F sp s l l' → l ≠ [] → Out P bq F sp s bl br (G (Frame.enter (Wi P F) f a .normal) (l ++ bl)) (G (Frame.enter P f a' .normal) (l' ++ br))
theorem Out.inv {P : Program} {bq : Bool} {F : Array Func} {sp : FuncId → Bool} {s : Ren} {bl br : List Frame} {x y : Goroutine} (h : Out P bq F sp s bl br x y) :
    (∃ f a a' todo back l l', good F sp f ∧ todo.all (itemW P bq F) = true ∧ AR s a a' ∧ SR P bq F sp s l l' ∧ x = G (fz f a todo back) (l ++ bl) ∧ y = G (fz f a' todo back) (l' ++ br)) ∨
    ∃ f a a' l l', sp f = true ∧ (∃ fn, F[f]? = some fn ∧ fn.params.size = a.size) ∧ AR s a a' ∧ SR P bq F sp s l l' ∧ l ≠ [] ∧ x = G (Frame.enter (Wi P F) f a .normal) (l ++ bl) ∧ y = G (Frame.enter P f a' .normal) (l' ++ br) := by
  cases h with
  | go h1 h2 h3 h4 => exact .inl ⟨_, _, _, _, _, _, _, h1, h2, h3, h4, rfl, rfl⟩
  | special h1 h0 h2 h3 h4 => exact .inr ⟨_, _, _, _, _, h1, h0, h2, h3, h4, rfl, rfl⟩
/-- It panics, and nobody down to 'bl' recovers. -/
def panics (F : Array Func) (bl : List Frame) (g : Goroutine) : Prop := ∃ c fr l, g = G fr (l ++ bl) ∧ fr.mode = .panicking c ∧ fr.defers = [] ∧ (∃ fn, F[fr.fn]? = some fn) ∧ ∀ x ∈ l, x.defers = [] ∧ ∃ fn, F[x.fn]? = some fn
theorem SR.plain {P : Program} {bq : Bool} {F : Array Func} {sp : FuncId → Bool} {r : Ren} {l l' : List Frame} (h : SR P bq F sp r l l') : ∀ x ∈ l, x.defers = [] ∧ ∃ fn, F[x.fn]? = some fn := by
  induction h with
  | nil => intro x hx; cases hx
  | cons h1 _ _ _ ih =>
    intro x hx
    rcases List.mem_cons.1 hx with rfl | hx
    · exact ⟨rfl, h1.2⟩
    · exact ih x hx
section
variable {P : Program} [NoCx P] {bq : Bool} {F : Array Func} {ro : Nat → Prop} {sp : FuncId → Bool} {r : Ren}
theorem exitTo_white {id : Nat} : ∀ {k k' : List Item}, exitTo id k = some k' → k.all (itemW P bq F) = true → k'.all (itemW P bq F) = true
  | [], k', h, _ => by cases h
  | x :: k, k', h, e => by
    simp only [List.all_cons, Bool.and_eq_true] at e
    unfold exitTo at h
    split at h
    · rename_i id' k1 heq
      cases heq
      split at h
      · cases h; exact e.2
      · exact exitTo_white h e.2
    · rename_i heq1 heq2
      cases heq2
      exact exitTo_white h e.2
    · cases h
/-- What the step is asked. -/
def Step1 (P : Program) (bq : Bool) (F : Array Func) (ro : Nat → Prop) (sp : FuncId → Bool) (r : Ren) (bl br : List Frame) (u w : World) (main : Bool) (x : GStep) (y : GStep) : Prop :=
  ((∃ o u' es, x = .ended o u' es) ∨ ∃ g u' es, x = .go g u' es) ∧ ∀ gl u' es, x = .go gl u' es → AT u w u'.drawn → panics F bl gl ∨ ∃ s g w' es', y = .go g w' es' ∧ HR P ro s u' w' ∧ Adv ro r s u w u' w' ∧ Out P bq F sp s bl br gl g ∧ ∀ e ∈ es', EvK ro s e
theorem Step1.still {bl br : List Frame} {u w : World} {main : Bool} (hr : HR P ro r u w) {gl g : Goroutine} (h : Out P bq F sp r bl br gl g) : Step1 P bq F ro sp r bl br u w main (.go gl u) (.go g w) := by
  refine ⟨.inr ⟨_, _, _, rfl⟩, fun gl' u' es e _ => ?_⟩
  cases e
  exact .inr ⟨r, g, w, #[], rfl, hr, .refl .., h, by simp⟩
theorem Step1.ended {bl br : List Frame} {u w u' : World} {main : Bool} {o : Outcome} {es : Array Event} {y : GStep} : Step1 P bq F ro sp r bl br u w main (.ended o u' es) y := by
  refine ⟨.inl ⟨_, _, _, rfl⟩, fun gl' u' es e => ?_⟩
  cases e
theorem yielded_alike {a a' : Array Value} (h : AR r a a') (ops : Array Oper) : yielded ops a = yielded ops a' := by
  funext j
  unfold yielded
  cases (ops[j]?).bind (·.dst) with
  | none => rfl
  | some t =>
    simp only [Option.bind_some]
    rcases h.cases t with ⟨e, e'⟩ | ⟨v, v', e, e', hv⟩
    · rw [e, e']
    · rw [e, e']
      cases hv <;> rfl
theorem put_alike {a a' : Array Value} (h : AR r a a') (d : Option Tmp) {v v' : Value} (hv : VR r v v') : AR r ((⟨a, []⟩ : Act).put d v).tmps ((⟨a', []⟩ : Act).put d v').tmps := by
  cases d with
  | none => exact h
  | some t => exact h.set t hv
theorem put_rest (a : Array Value) (d : Option Tmp) (v : Value) : ((⟨a, []⟩ : Act).put d v) = ⟨((⟨a, []⟩ : Act).put d v).tmps, []⟩ := by cases d <;> rfl
variable {bl br : List Frame} {u w : World} {f : FuncId} {a a' : Array Value} {l l' : List Frame} {m1 m2 : Bool}
/-- An operation. -/
theorem step_op (hz : Zs P) (hS : Fits P bq F ro sp) (hf : good F sp f) {ops : Array Oper} {i : Nat} {rest : List Nat} {k : List Item} (hops : (ops.all fun o => white P bq F o.op) = true) (hk : k.all (itemW P bq F) = true) (ha : AR r a a') (hl : SR P bq F sp r l l') (hr : HR P ro r u w) :
    Step1 P bq F ro sp r bl br u w m1 (stepG (Wi P F) m1 (G ((base f).at ⟨a, []⟩ (.inRegion ops (i :: rest) :: k)) (l ++ bl)) u) (stepG P m2 (G ((base f).at ⟨a', []⟩ (.inRegion ops (i :: rest) :: k)) (l' ++ br)) w) := by
  have hit : ∀ t, (Item.inRegion ops t :: k).all (itemW P bq F) = true := fun t => by
    simp only [List.all_cons, Bool.and_eq_true]
    exact ⟨hops, hk⟩
  have hkind : (base f).kind ≠ .early := by simp [base]
  cases ho : ops[i]? with
  | none =>
    have e1 : ∀ (Q : Program) (m : Bool) (a : Array Value) (cs : List Frame) (x : World), stepG Q m (G ((base f).at ⟨a, []⟩ (.inRegion ops (i :: rest) :: k)) cs) x = .go (G (fz f a (.inRegion ops rest :: k) false) cs) x := by
      intro Q m a cs x
      simp [G, stepG, stepG.exec, Frame.at, ho, Frame.finish, fz, base]
    rw [e1, e1]
    exact .still hr (.go hf (hit _) ha hl)
  | some o =>
    by_cases hw : Region.wanted o (yielded ops a) = true
    · have hw' : Region.wanted o (yielded ops a') = true := by rw [← yielded_alike ha]; exact hw
      have hwo : white P bq F o.op = true := by
        rw [Array.all_eq_true_iff_forall_mem] at hops
        exact hops o (Array.mem_of_getElem? ho)
      have key := RS.execOp (ro := ro) hS.quiet hz hS.names (d := []) (d' := []) ha o hwo u w hr
      refine ⟨?_, fun gl u' es e al => ?_⟩
      · have hr2 : HR P ro r u { w with tape := u.tape, drawn := u.drawn } := ⟨hr.obj, hr.one, hr.inj, hr.old, hr.glo, hr.ug, hr.wg⟩
        cases hrun : (execOp (⟨a, []⟩ : Act).eval o).run (Wi P F) u with
        | halt h x =>
          have kh := key.2.1 h x hrun
          have hkind' : ((base f).kind == CallKind.early) = false := by simpa using hkind
          rw [stepG_oper ho hw]
          simp only [stepG.apply, Sem.runT_eq, hrun, ↓reduceIte, Frame.at, hkind']
          cases h with
          | panic v => exact .inr ⟨_, _, _, rfl⟩
          | stuck s => exact .inl ⟨_, _, _, rfl⟩
          | unsupported q =>
            cases q with
            | initOrder g => exact kh.elim
            | _ => exact .inl ⟨_, _, _, rfl⟩
          | _ => exact kh.elim
        | ok n x =>
          obtain ⟨_, n', _, _, _, hn, _⟩ := (RS.execOp (ro := ro) hS.quiet hz hS.names (d := []) (d' := []) ha o hwo u _ hr2).1 n x hrun (fun i q _ => rfl)
          right
          cases hn with
          | value hv => exact ⟨_, _, _, stepG_value ho hw hkind hrun⟩
          | skip => exact ⟨_, _, _, stepG_none ho hw hkind hrun⟩
          | enter _ _ _ _ => exact ⟨_, _, _, stepG_enter ho hw hkind hrun⟩
      rw [stepG_oper ho hw] at e
      cases hrun : (execOp (⟨a, []⟩ : Act).eval o).run (Wi P F) u with
      | halt h x =>
        have hkind' : ((base f).kind == CallKind.early) = false := by simpa using hkind
        left
        have kh := key.2.1 h x hrun
        revert e
        simp only [stepG.apply, Sem.runT_eq, hrun, ↓reduceIte, Frame.at, hkind']
        cases h with
        | panic v => intro e; cases e; exact ⟨_, _, l, rfl, rfl, rfl, hf.2, hl.plain⟩
        | stuck s => intro e; cases e
        | unsupported q =>
          cases q with
          | initOrder g => exact kh.elim
          | _ => intro e; cases e
        | _ => exact kh.elim
      | ok n x =>
        right
        have hx : x = u' := by
          have hkind' : ((base f).kind == CallKind.early) = false := by simpa using hkind
          revert e
          simp only [stepG.apply, Sem.runT_eq, hrun, ↓reduceIte, Frame.at, hkind', Bool.false_eq_true]
          have hr2 : HR P ro r u { w with tape := u.tape, drawn := u.drawn } := ⟨hr.obj, hr.one, hr.inj, hr.old, hr.glo, hr.ug, hr.wg⟩
          obtain ⟨_, n', _, _, _, hn, _⟩ := (RS.execOp (ro := ro) hS.quiet hz hS.names (d := []) (d' := []) ha o hwo u _ hr2).1 n x hrun (fun i q _ => rfl)
          cases hn <;> (intro e; cases e; rfl)
        rw [← stepG_oper (P := Wi P F) (main := m1) (b := base f) (a := ⟨a, []⟩) (cs := l ++ bl) (w := u) (k := k) ho hw] at e
        obtain ⟨s, n', w', h1, h3, h4, h5, h6⟩ := key.1 n x hrun (by rw [hx]; exact al)
        have evs : ∀ e ∈ listed P (base f).fn ⟨a', []⟩ o w, EvK ro s e := fun e he => (h6 #[] e (mem_listed he)).resolve_left (by simp)
        cases h4 with
        | value hv =>
          rw [stepG_value ho hw hkind hrun] at e
          cases e
          refine ⟨s, _, w', _, stepG_value ho hw' hkind h5, h1, h3, ?_, evs⟩
          rw [put_rest a, put_rest a']
          exact Out.go (f := f) (back := false) (todo := .inRegion ops rest :: k) hf (hit rest) (put_alike (ha.mono h3.le) o.dst hv) (hl.mono h3.le)
        | skip =>
          rw [stepG_none ho hw hkind hrun] at e
          cases e
          refine ⟨s, _, w', _, stepG_none ho hw' hkind h5, h1, h3, ?_, evs⟩
          rw [put_rest a, put_rest a']
          exact Out.go (f := f) (back := false) (todo := .inRegion ops rest :: k) hf (hit rest) (put_alike (ha.mono h3.le) o.dst (.undef s)) (hl.mono h3.le)
        | enter hfn hbody hpz hargs =>
          rename_i f2 b b' fn c
          rw [stepG_enter ho hw hkind hrun] at e
          cases e
          refine ⟨s, _, w', _, stepG_enter ho hw' hkind h5, h1, h3, ?_, evs⟩
          have hl2 : SR P bq F sp s (fz f a (.inRegion ops (i :: rest) :: k) false :: l) (fz f a' (.inRegion ops (i :: rest) :: k) false :: l') := .cons hf (hit _) (ha.mono h3.le) (hl.mono h3.le)
          cases hs2 : sp f2 with
          | true => exact .special (l := _ :: l) (l' := _ :: l') hs2 ⟨fn, hfn, hpz⟩ hargs hl2 (by simp)
          | false =>
            have hq : (Wi P F).funcs[f2]? = some fn := hfn
            have hp := hS.same f2 fn hs2 hfn
            rw [enter_at b hq hbody, enter_at b' hp hbody]
            have hpad : AR s (b ++ Array.replicate (fn.ntmps - b.size) undef) (b' ++ Array.replicate (fn.ntmps - b'.size) undef) := by
              rw [← hargs.1]
              refine hargs.append ⟨by simp, fun j x x' e e' => ?_⟩
              rw [Array.getElem?_replicate] at e e'
              split at e
              · rw [if_pos ‹_›] at e'
                cases e; cases e'; exact .undef s
              · cases e
            exact Out.go (f := f2) (back := false) (todo := [.code c]) (l := _ :: l) (l' := _ :: l') ⟨hs2, fn, hfn⟩ (by simp [itemW, hS.code f2 fn c hs2 hfn hbody]) hpad hl2
    · have hw0 : Region.wanted o (yielded ops a) = false := by simpa using hw
      have hw' : Region.wanted o (yielded ops a') = false := by rw [← yielded_alike ha]; exact hw0
      have e1 : ∀ (Q : Program) (m : Bool) (a : Array Value) (cs : List Frame) (x : World), Region.wanted o (yielded ops a) = false → stepG Q m (G ((base f).at ⟨a, []⟩ (.inRegion ops (i :: rest) :: k)) cs) x = .go (G (fz f ((⟨a, []⟩ : Act).put o.dst undef).tmps (.inRegion ops rest :: k) false) cs) x := by
        intro Q m a cs x h
        cases hd : o.dst <;> simp [G, stepG, stepG.exec, Frame.at, ho, h, Frame.finish, fz, base, Act.put, hd]
      rw [e1 _ _ _ _ _ hw0, e1 _ _ _ _ _ hw']
      exact .still hr (.go hf (hit _) (put_alike ha _ (.undef r)) hl)
/-- Whatever an activation does that runs. -/
theorem step_run (hz : Zs P) (hS : Fits P bq F ro sp) (hf : good F sp f) {todo : List Item} (hk : todo.all (itemW P bq F) = true) (ha : AR r a a') (hl : SR P bq F sp r l l') (hr : HR P ro r u w) :
    Step1 P bq F ro sp r bl br u w m1 (stepG (Wi P F) m1 (G (fz f a todo false) (l ++ bl)) u) (stepG P m2 (G (fz f a' todo false) (l' ++ br)) w) := by
  have hfz : ∀ (a : Array Value) (t : List Item), fz f a t false = (base f).at ⟨a, []⟩ t := fun _ _ => rfl
  have still : ∀ {t : List Item} {b : Bool}, t.all (itemW P bq F) = true → Step1 P bq F ro sp r bl br u w m1 (.go (G (fz f a t b) (l ++ bl)) u) (.go (G (fz f a' t b) (l' ++ br)) w) := fun ht => .still hr (.go hf ht ha hl)
  have on : ∀ {t : List Item}, t.all (itemW P bq F) = true → Step1 P bq F ro sp r bl br u w m1 (.go (G ((base f).at ⟨a, []⟩ t) (l ++ bl)) u) (.go (G ((base f).at ⟨a', []⟩ t) (l' ++ br)) w) := fun ht => still (b := false) ht
  cases todo with
  | nil =>
    rw [hfz, hfz, stepG_end, stepG_end]
    exact still (t := []) (b := true) rfl
  | cons x k =>
    simp only [List.all_cons, Bool.and_eq_true] at hk
    obtain ⟨hx, hk⟩ := hk
    cases x with
    | code c =>
      cases c with
      | skip => rw [hfz, hfz, stepG_skip, stepG_skip]; exact on hk
      | label n => rw [hfz, hfz, stepG_label, stepG_label]; exact on hk
      | seq x y =>
        rw [hfz, hfz, stepG_seq, stepG_seq]
        simp only [itemW, codeW, Bool.and_eq_true] at hx
        exact on (by simp only [List.all_cons, Bool.and_eq_true]; exact ⟨hx.1, hx.2, hk⟩)
      | cond c x y =>
        simp only [itemW, codeW, Bool.and_eq_true] at hx
        have hc := plainO_alike (d := []) (d' := []) ha hx.1.1
        have hb : ∀ (Q : Program) (m : Bool) (a : Array Value) (cs : List Frame) (z : World), (∀ b, (⟨a, []⟩ : Act).eval c ≠ .bool b) → ∃ o z', stepG Q m (G (fz f a (.code (.cond c x y) :: k) false) cs) z = .ended o z' := by
          intro Q m a cs z h
          have h' : ∀ b, (fz f a (.code (.cond c x y) :: k) false).eval c ≠ .bool b := fun b => by rw [hfz, Frame.eval_at]; exact h b
          simp only [fz] at h'
          cases hv : Frame.eval { fn := f, tmps := a, todo := .code (.cond c x y) :: k, defers := [], mode := if false = true then .returning else .run, kind := .normal } c with
          | bool b => exact absurd hv (h' b)
          | _ => exact ⟨_, _, by simp only [Bool.false_eq_true, ↓reduceIte] at hv; simp [G, stepG, stepG.exec, fz, hv]; exact ⟨rfl, rfl⟩⟩
        cases he : (⟨a, []⟩ : Act).eval c with
        | bool b =>
          have he' : (⟨a', []⟩ : Act).eval c = .bool b := by
            rw [he] at hc
            generalize (⟨a', []⟩ : Act).eval c = z at hc
            cases hc; rfl
          rw [hfz, hfz, stepG_cond he, stepG_cond he']
          refine on ?_
          simp only [List.all_cons, Bool.and_eq_true]
          cases b
          · exact ⟨hx.2, hk⟩
          · exact ⟨hx.1.2, hk⟩
        | _ =>
          obtain ⟨o, z', e⟩ := hb (Wi P F) m1 a (l ++ bl) u (by rw [he]; intro b; simp)
          rw [e]
          exact .ended
      | block id c =>
        rw [hfz, hfz, stepG_block, stepG_block]
        exact on (by simp only [List.all_cons, Bool.and_eq_true]; exact ⟨hx, rfl, hk⟩)
      | loop c =>
        rw [hfz, hfz, stepG_loop, stepG_loop]
        exact on (by simp only [List.all_cons, Bool.and_eq_true]; exact ⟨hx, hx, hk⟩)
      | exit id =>
        cases he : exitTo id k with
        | none =>
          have e1 : ∃ o z', stepG (Wi P F) m1 (G (fz f a (.code (.exit id) :: k) false) (l ++ bl)) u = .ended o z' := ⟨_, _, by simp [G, stepG, stepG.exec, fz, he]; exact ⟨rfl, rfl⟩⟩
          obtain ⟨o, z', e⟩ := e1
          rw [e]
          exact .ended
        | some k' =>
          rw [hfz, hfz, stepG_exit he, stepG_exit he]
          exact on (exitTo_white he hk)
      | ret =>
        have e1 : ∀ (Q : Program) (m : Bool) (a : Array Value) (cs : List Frame) (z : World), stepG Q m (G (fz f a (.code .ret :: k) false) cs) z = .go (G (fz f a (.code .ret :: k) true) cs) z := by
          intro Q m a cs z
          simp [G, stepG, stepG.exec, fz]
        rw [e1, e1]
        exact still (b := true) (by simp only [List.all_cons, Bool.and_eq_true]; exact ⟨rfl, hk⟩)
      | refuse why =>
        have e1 : ∃ o z', stepG (Wi P F) m1 (G (fz f a (.code (.refuse why) :: k) false) (l ++ bl)) u = .ended o z' := ⟨_, _, by simp [G, stepG, stepG.exec, fz]; exact ⟨rfl, rfl⟩⟩
        obtain ⟨o, z', e⟩ := e1
        rw [e]
        exact .ended
      | region id ops draw =>
        cases draw with
        | false =>
          rw [hfz, hfz, stepG_region, stepG_region]
          exact on (by simp only [List.all_cons, Bool.and_eq_true]; exact ⟨hx, hk⟩)
        | true =>
          have e1 : ∀ (Q : Program) (m : Bool) (a : Array Value) (cs : List Frame) (z : World), stepG Q m (G (fz f a (.code (.region id ops true) :: k) false) cs) z =
              .go (G (fz f a (.inRegion ops (Region.schedule (Q.follows .mixedOrders) ops (z.tape z.drawn (.order f id))) :: k) false) cs) { z with drawn := z.drawn + 1 } := by
            intro Q m a cs z
            simp [G, stepG, stepG.exec, fz, choose, Sem.run, Question.forced, Question.cut]
          rw [e1, e1]
          refine ⟨.inr ⟨_, _, _, rfl⟩, fun gl u' es e al => ?_⟩
          cases e
          have ht := al 0 (.order f id) (by simp)
          simp only [Nat.add_zero] at ht
          refine .inr ⟨r, _, _, _, rfl, ⟨hr.obj, hr.one, hr.inj, hr.old, hr.glo, hr.ug, hr.wg⟩, ⟨.refl r, fun _ _ h => .inl h, fun _ _ _ => rfl, Nat.le_refl _, Nat.le_refl _, rfl, rfl, rfl, rfl, by simp; omega, by simp⟩, ?_, by simp⟩
          · rw [ht]
            exact Out.go (back := false) hf (by simp only [List.all_cons, Bool.and_eq_true]; exact ⟨hx, hk⟩) ha hl
      | scope c =>
        have e1 : ∀ (Q : Program) (m : Bool) (a : Array Value) (cs : List Frame) (z : World), stepG Q m (G (fz f a (.code (.scope c) :: k) false) cs) z = .go (G (fz f a (.code c :: .inScope c :: k) false) cs) z := by
          intro Q m a cs z
          simp [G, stepG, stepG.exec, fz]
        rw [e1, e1]
        exact still (b := false) (by simp only [List.all_cons, Bool.and_eq_true]; exact ⟨hx, rfl, hk⟩)
      | goto n => simp [itemW, codeW] at hx
      | rangeFunc _ _ _ _ => simp [itemW, codeW] at hx
    | inBlock id => rw [hfz, hfz, stepG_inBlock, stepG_inBlock]; exact on hk
    | inScope c =>
      have e1 : ∀ (Q : Program) (m : Bool) (a : Array Value) (cs : List Frame) (z : World), stepG Q m (G (fz f a (.inScope c :: k) false) cs) z = .go (G (fz f a k false) cs) z := by
        intro Q m a cs z
        simp [G, stepG, stepG.exec, fz]
      rw [e1, e1]
      exact still (b := false) hk
    | inLoop c =>
      rw [hfz, hfz, stepG_inLoop, stepG_inLoop]
      exact on (by simp only [List.all_cons, Bool.and_eq_true]; exact ⟨hx, hx, hk⟩)
    | inRegion ops t =>
      cases t with
      | nil => rw [hfz, hfz, stepG_region_end, stepG_region_end]; exact on hk
      | cons i rest =>
        rw [hfz, hfz]
        exact step_op hz hS hf hx hk ha hl hr
    | _ => simp [itemW] at hx
/-- What a function hands back. -/
theorem results_alike (ha : AR r a a') : ∀ (rs : List ResultVar), RS (Wi P F) P ro r (fun s x y => LR s x y)
    (rs.mapM fun x => match x with
      | .tmp t => (Pure.pure (a.getD t undef) : Sem Value)
      | .cell p t => do loadVar t (← asAddr (a.getD p undef)))
    (rs.mapM fun x => match x with
      | .tmp t => (Pure.pure (a'.getD t undef) : Sem Value)
      | .cell p t => do loadVar t (← asAddr (a'.getD p undef))) := by
  intro rs
  induction rs generalizing r with
  | nil => exact RS.pure trivial
  | cons x rs ih =>
    rw [List.mapM_cons, List.mapM_cons]
    refine RS.bind (A := fun s x y => VR s x y) ?_ fun s le v v' hv => ?_
    · cases x with
      | tmp t => exact RS.pure (ha.getD t (.undef r))
      | cell p t => exact (RS.asAddr (ha.getD p (.undef r))).bind fun s le b b' hb => RS.loadVar hb t
    · refine (ih (ha.mono le)).bind fun s2 l2 vs vs' h => ?_
      exact RS.pure ⟨hv.mono l2, h⟩
theorem LR.arr {r : Ren} : ∀ {x y : List Value}, LR r x y → AR r x.toArray y.toArray
  | [], [], _ => AR.empty r
  | v :: x, v' :: y, h => by
    have := (AR.one h.1).append (LR.arr h.2)
    simpa using this
  | [], _ :: _, h => h.elim
  | _ :: _, [], h => h.elim
theorem RS.results (ha : AR r a a') (fn : Func) : RS (Wi P F) P ro r (fun s x y => VR s x y) (Go.results fn a) (Go.results fn a') := by
  unfold Go.results
  refine RS.bind (A := fun s x y => AR s x y) ?_ fun s le vs vs' h => ?_
  · rw [Array.mapM_eq_mapM_toList, Array.mapM_eq_mapM_toList]
    exact RS.bind (results_alike (P := P) (F := F) (ro := ro) ha fn.results.toList) fun s le x y h => RS.pure h.arr
  · refine RS.pure ?_
    by_cases hs : vs.size = 1
    · have hs' : vs'.size = 1 := by rw [← h.1]; exact hs
      rw [dif_pos hs, dif_pos hs']
      exact h.2 0 _ _ (Array.getElem?_eq_getElem (by omega)) (Array.getElem?_eq_getElem (by omega))
    · have hs' : ¬ vs'.size = 1 := by rw [← h.1]; exact hs
      rw [dif_neg hs, dif_neg hs']
      exact .tuple h.1 h.2
/-- The step by which a frame leaves. -/
theorem step_back {Q : Program} {m : Bool} {f : FuncId} {a : Array Value} {todo : List Item} {c : Frame} {cs : List Frame} {z : World} {fn : Func} (hf : Q.funcs[f]? = some fn) :
    stepG Q m (G (fz f a todo true) (c :: cs)) z = match (Go.results fn a).run Q z with
      | .ok v z' => .go (G (c.finish v) cs) z' (seen Q f ((Go.results fn a).events Q z #[]))
      | .halt (.stuck s) z' => .ended (.stuck s ((fz f a todo true).pos Q)) z' (seen Q f ((Go.results fn a).events Q z #[]))
      | .halt _ z' => .ended (.stuck "return: the result variables cannot be read" ((fz f a todo true).pos Q)) z' (seen Q f ((Go.results fn a).events Q z #[])) := by
  simp only [G, stepG, fz, ↓reduceIte, unwind, hf, Sem.runT_eq]
  cases (Go.results fn a).run Q z with
  | ok v z' => simp [GStep.after, doReturn]
  | halt h z' => cases h <;> simp [GStep.after]
theorem finish_alike (f : FuncId) {t : List Item} (ht : t.all (itemW P bq F) = true) {b b' : Array Value} (hb : AR r b b') {v v' : Value} (hv : VR r v v') :
    ∃ c c' t', (fz f b t false).finish v = fz f c t' false ∧ (fz f b' t false).finish v' = fz f c' t' false ∧ AR r c c' ∧ t'.all (itemW P bq F) = true := by
  cases t with
  | nil => exact ⟨b, b', [], rfl, rfl, hb, rfl⟩
  | cons x t =>
    have ht0 := ht
    simp only [List.all_cons, Bool.and_eq_true] at ht
    cases x with
    | inRegion ops todo =>
      cases todo with
      | nil => exact ⟨b, b', _, rfl, rfl, hb, ht0⟩
      | cons i rest =>
        refine ⟨((⟨b, []⟩ : Act).put ((ops[i]?).bind (·.dst)) v).tmps, ((⟨b', []⟩ : Act).put ((ops[i]?).bind (·.dst)) v').tmps, .inRegion ops rest :: t, ?_, ?_, put_alike hb _ hv, ?_⟩
        · cases hd : (ops[i]?).bind (·.dst) <;> simp [Frame.finish, fz, Act.put, hd]
        · cases hd : (ops[i]?).bind (·.dst) <;> simp [Frame.finish, fz, Act.put, hd]
        · simp only [List.all_cons, Bool.and_eq_true]
          exact ht
    | code c => exact ⟨b, b', _, rfl, rfl, hb, ht0⟩
    | inBlock id => exact ⟨b, b', _, rfl, rfl, hb, ht0⟩
    | inLoop c => exact ⟨b, b', _, rfl, rfl, hb, ht0⟩
    | inScope c => exact ⟨b, b', _, rfl, rfl, hb, ht0⟩
    | _ => exact absurd ht.1 (by simp [itemW])
/-- Back into the caller. -/
theorem step_ret (hS : Fits P bq F ro sp) (hf : good F sp f) {todo : List Item} (ha : AR r a a') (hl : SR P bq F sp r l l') (hne : l ≠ []) (hr : HR P ro r u w) :
    Step1 P bq F ro sp r bl br u w m1 (stepG (Wi P F) m1 (G (fz f a todo true) (l ++ bl)) u) (stepG P m2 (G (fz f a' todo true) (l' ++ br)) w) := by
  cases hl with
  | nil => exact absurd rfl hne
  | cons h1 h2 h3 h4 =>
    rename_i f2 b b' t2 l l'
    obtain ⟨hsp, fn, hfn⟩ := hf
    have hq : (Wi P F).funcs[f]? = some fn := hfn
    have hp := hS.same f fn hsp hfn
    simp only [List.cons_append]
    rw [step_back hq, step_back hp]
    have key := RS.results (P := P) (F := F) (ro := ro) ha fn u w hr
    cases hrun : (Go.results fn a).run (Wi P F) u with
    | halt h x => cases h <;> exact .ended
    | ok v x =>
      refine ⟨.inr ⟨_, _, _, rfl⟩, fun gl u' es e al => ?_⟩
      cases e
      obtain ⟨s, v', w', k1, k3, k4, k5, k6⟩ := key.1 v _ hrun al
      rw [k5]
      refine .inr ⟨s, _, w', _, rfl, k1, k3, ?_, fun e he => (k6 #[] e (mem_seen he)).resolve_left (by simp)⟩
      obtain ⟨c, c', t, e1, e2, e3, e4⟩ := finish_alike f2 h2 (h3.mono k3.le) k4
      rw [e1, e2]
      exact .go h1 e4 e3 (h4.mono k3.le)
end
end Go.Proofs.Ythifdfbdekkmgaa

/- A run hangs on the answers that it reads, and on no other ones. -/
namespace Go.Proofs.Ythifdfbdekkmgaa
open Go.Conc
set_option linter.unusedVariables false
abbrev Tape := Nat → Question → Nat
/-- The world with other answers ahead. -/
def W2 (x : World) (T : Tape) (n : Nat) : World := { x with tape := T, drawn := n }
def mapW {α : Type} (f : World → World) : Result α → Result α
  | .ok a w => .ok a (f w)
  | .halt h w => .halt h (f w)
/-- The answers from u's next one on, till n, are those of T from D on. -/
def TT (u : World) (n : Nat) (T : Tape) (D : Nat) : Prop := ∀ i q, u.drawn + i < n → u.tape (u.drawn + i) q = T (D + i) q
theorem W2_self (u : World) (T : Tape) (D : Nat) : W2 u T (D + (u.drawn - u.drawn)) = W2 u T D := by simp
theorem far_tape (Q : Program) (u : World) (T : Tape) (D : Nat) (a : Addr) (m : Bool) : (W2 u T D).farLoad Q a m = u.farLoad Q a m := rfl
theorem view_tape (Q : Program) (u : World) (T : Tape) (D : Nat) (at_ : Addr) (t : TypeId) (k : Addr) (v : Value) (m : Bool) : (W2 u T D).viewStore Q at_ t k v m = match u.viewStore Q at_ t k v m with
    | .ok (w, l) => .ok (W2 w T D, l)
    | .error h => .error h := by
  unfold World.viewStore
  simp only [bind, Except.bind, pure, Except.pure]
  rw [show (W2 u T D).seen Q at_ t k m = u.seen Q at_ t k m from rfl]
  by_cases h1 : (!tight Q Q.depth t) = true
  · simp only [if_pos h1]; rfl
  · simp only [if_neg h1]
    cases u.seen Q at_ t k m with
    | error e => rfl
    | ok x =>
      obtain ⟨c, e, fr, first, like, cells⟩ := x
      dsimp only
      cases v.bytes? with
      | none => rfl
      | some bytes =>
        dsimp only
        by_cases h2 : some bytes.length ≠ Option.map (fun x => x.length) like.bytes?
        · simp only [if_pos h2]; rfl
        · simp only [if_neg h2]
          split
          · rfl
          · rfl
theorem far_tapeS (Q : Program) (u : World) (T : Tape) (D : Nat) (a : Addr) (v : Value) (m : Bool) : (W2 u T D).farStore Q a v m = match u.farStore Q a v m with
    | .ok (w, l) => .ok (W2 w T D, l)
    | .error h => .error h := by
  unfold World.farStore
  rw [show (W2 u T D).heap = u.heap from rfl]
  split
  · rw [view_tape]
    cases u.viewStore Q _ _ a v m <;> rfl
  · rfl
theorem far_tape2 {Q : Program} {w w' : World} {a : Addr} {v : Value} {m : Bool} {l : List Addr} (e : w.farStore Q a v m = .ok (w', l)) : w'.tape = w.tape := by
  unfold World.farStore at e
  split at e
  · split at e
    · cases e
      rename_i h
      unfold World.viewStore at h
      simp only [bind, Except.bind, pure, Except.pure] at h
      repeat' (first | (cases h; done) | split at h | (cases h; rfl))
    · cases e
  · cases e
theorem run_tape {α : Type} (Q : Program) (t : Sem α) : ∀ (u : World) (T : Tape) (D : Nat), NS Q t u → TT u (endW (t.run Q u)).drawn T D →
    t.run Q (W2 u T D) = mapW (fun x => W2 x T (D + (x.drawn - u.drawn))) (t.run Q u) := by
  induction t with
  | pure a => intro u T D _ _; simp only [Sem.run, mapW, W2_self]
  | load m a k ih =>
    intro u T D h1 h2
    simp only [Sem.run] at h2 ⊢
    rw [show (W2 u T D).cell? a = u.cell? a from rfl, far_tape]
    cases e : u.cell? a with
    | some v =>
      rw [e] at h2
      exact ih v u T D (h1 v u (by simp only [Sem.run, e])) h2
    | none =>
      rw [e] at h2
      cases e2 : u.farLoad Q a (m == Mode.atomic) with
      | ok x =>
        rw [e2] at h2
        exact ih x.1 u T D (h1 x.1 u (by simp only [Sem.run, e, e2])) h2
      | error h => simp only [mapW, W2_self]
  | store m a v k ih =>
    intro u T D h1 h2
    have key : ∀ (x : World), (∀ c, v ≠ .agg c) → (∀ c, v ≠ .tuple c) → (Sem.store m a v k).run Q x = (match x.cell? a with
      | some _ => if x.frozen? a then (Result.halt (.unsupported (.unsafePointer "a write to bytes that a string shares")) x : Result α) else k.run Q (x.setCell a v)
      | none => match x.farStore Q a v (m == Mode.atomic) with
        | .ok (w, _) => k.run Q w
        | .error h => .halt h x) := by
      intro x n1 n2
      cases v <;> first | rfl | exact absurd rfl (n1 _) | exact absurd rfl (n2 _)
    have key1 : ∀ (x : World), (∀ c, v ≠ .agg c) → (∀ c, v ≠ .tuple c) → (Sem.store m a v (.pure ())).run Q x = (match x.cell? a with
      | some _ => if x.frozen? a then (Result.halt (.unsupported (.unsafePointer "a write to bytes that a string shares")) x : Result Unit) else .ok () (x.setCell a v)
      | none => match x.farStore Q a v (m == Mode.atomic) with
        | .ok (w, _) => .ok () w
        | .error h => .halt h x) := by
      intro x n1 n2
      cases v <;> first | rfl | exact absurd rfl (n1 _) | exact absurd rfl (n2 _)
    by_cases n1 : ∃ c, v = .agg c
    · obtain ⟨c, rfl⟩ := n1
      simp only [Sem.run, mapW, W2_self]
    by_cases n2 : ∃ c, v = .tuple c
    · obtain ⟨c, rfl⟩ := n2
      simp only [Sem.run, mapW, W2_self]
    have n1' : ∀ c, v ≠ .agg c := fun c e => n1 ⟨c, e⟩
    have n2' : ∀ c, v ≠ .tuple c := fun c e => n2 ⟨c, e⟩
    rw [key _ n1' n2'] at h2
    rw [key _ n1' n2', key _ n1' n2']
    have h1' := fun x w' => h1 x w'
    rw [key1 _ n1' n2'] at h1'
    rw [show (W2 u T D).cell? a = u.cell? a from rfl, show (W2 u T D).frozen? a = u.frozen? a from rfl, far_tapeS]
    cases e : u.cell? a with
    | some x =>
      rw [e] at h1' h2
      simp only at h1' h2 ⊢
      by_cases hf : u.frozen? a = true
      · simp only [if_pos hf, mapW, W2_self]
      · simp only [if_neg hf] at h1' h2 ⊢
        exact ih (u.setCell a v) T D (h1' () _ rfl) h2
    | none =>
      rw [e] at h1' h2
      simp only at h1' h2 ⊢
      cases e2 : u.farStore Q a v (m == Mode.atomic) with
      | error h => simp only [mapW, W2_self]
      | ok x =>
        obtain ⟨w, l⟩ := x
        rw [e2] at h1' h2
        simp only at h1' h2 ⊢
        have hd := far_more e2
        have ht : w.tape = u.tape := far_tape2 e2
        have := ih w T D (h1' () w rfl) (fun i q hi => by rw [hd, ht]; rw [hd] at hi; exact h2 i q hi)
        rw [hd] at this
        exact this
  | new o k ih => intro u T D h1 h2; exact ih u.heap.size { u with heap := u.heap.push o } T D h1 h2
  | shape r k ih => intro u T D h1 h2; exact ih _ u T D h1 h2
  | freeze a n k ih =>
    intro u T D h1 h2
    have e1 : (u.freeze a n).drawn = u.drawn := by unfold World.freeze; split <;> rfl
    have e2 : (u.freeze a n).tape = u.tape := by unfold World.freeze; split <;> rfl
    have e3 : (W2 u T D).freeze a n = W2 (u.freeze a n) T D := by unfold World.freeze; split <;> rfl
    have := ih (u.freeze a n) T D h1 (fun i q hi => by rw [e1, e2]; exact h2 i q (by rw [e1] at hi; exact hi))
    rw [e1] at this
    simp only [Sem.run, e3]
    exact this
  | frozen a k ih => intro u T D h1 h2; exact ih _ u T D h1 h2
  | getObj r k ih =>
    intro u T D h1 h2
    simp only [Sem.run] at h2 ⊢
    rw [show (W2 u T D).heap = u.heap from rfl]
    cases e : u.heap[r]? with
    | none => simp only [mapW, W2_self]
    | some o =>
      rw [e] at h2
      cases o <;> first
      | (simp only [mapW, W2_self]; done)
      | exact ih _ u T D (h1 _ u (by simp only [Sem.run, e])) h2
  | setObj r o k ih =>
    intro u T D h1 h2
    simp only [Sem.run] at h2 ⊢
    rw [show (W2 u T D).heap = u.heap from rfl]
    cases e : u.heap[r]? with
    | none => simp only [mapW, W2_self]
    | some x =>
      rw [e] at h2
      cases x <;> first
      | (simp only [mapW, W2_self]; done)
      | exact ih { u with heap := u.heap.setIfInBounds r o } T D (h1 () _ (by simp only [Sem.run, e])) h2
  | choose q k ih =>
    intro u T D h1 h2
    simp only [Sem.run, NS] at h1 h2 ⊢
    by_cases hq : q.forced
    · simp only [if_pos hq] at h1 h2 ⊢
      exact ih 0 u T D h1 h2
    · simp only [if_neg hq] at h1 h2 ⊢
      have hm : u.drawn + 1 ≤ _ := end_more Q (k (q.cut (u.tape u.drawn q))) { u with drawn := u.drawn + 1 }
      have h0 := h2 0 q hm
      simp only [Nat.add_zero] at h0
      have e : (W2 u T D).tape (W2 u T D).drawn q = u.tape u.drawn q := h0.symm
      rw [e]
      have := ih (q.cut (u.tape u.drawn q)) { u with drawn := u.drawn + 1 } T (D + 1) h1 (fun i q hi => by
        have h3 : u.drawn + 1 + i < _ := hi
        have := h2 (i + 1) q (by omega)
        simpa [Nat.add_assoc, Nat.add_comm 1 i] using this)
      have e2 : ({ W2 u T D with drawn := (W2 u T D).drawn + 1 } : World) = W2 { u with drawn := u.drawn + 1 } T (D + 1) := rfl
      rw [e2, this]
      have fix : ∀ (R : Result α), u.drawn + 1 ≤ (endW R).drawn → mapW (fun x => W2 x T (D + 1 + (x.drawn - (u.drawn + 1)))) R = mapW (fun x => W2 x T (D + (x.drawn - u.drawn))) R := by
        intro R hR
        cases R with
        | ok a w => have hR' : u.drawn + 1 ≤ w.drawn := hR; simp only [mapW]; rw [show D + 1 + (w.drawn - (u.drawn + 1)) = D + (w.drawn - u.drawn) by omega]
        | halt a w => have hR' : u.drawn + 1 ≤ w.drawn := hR; simp only [mapW]; rw [show D + 1 + (w.drawn - (u.drawn + 1)) = D + (w.drawn - u.drawn) by omega]
      exact fix _ hm
  | sys c k ih =>
    intro u T D h1 h2
    obtain ⟨rfl, h1⟩ := h1
    exact ih (.strings u.os.env) u T D h1 h2
  | program k ih => intro u T D h1 h2; exact ih Q u T D h1 h2
  | mark m k ih => intro u T D h1 h2; exact ih u T D h1 h2
  | halt h => intro u T D _ _; simp only [Sem.run, mapW, W2_self]
end Go.Proofs.Ythifdfbdekkmgaa

/- What comes to its end whatever is answered comes to it, answer by answer. -/
namespace Go.Proofs.Ythifdfbdekkmgaa
open Go.Conc
set_option linter.unusedVariables false
section
variable {Q : Program} [NoCx Q]
/-- A state of the one alone: its activations' code is known, its memory is whole. -/
def LI (Q : Program) (bl : List Frame) (g : Goroutine) (u : World) : Prop :=
  ∃ (r : Ren) (f : FuncId) (a : Array Value) (todo : List Item) (back : Bool) (l : List Frame), g = G (fz f a todo back) (l ++ bl) ∧ HR Q (fun _ => False) r u u ∧ good Q.funcs (fun _ => false) f ∧ todo.all (itemW Q true Q.funcs) = true ∧ AR r a a ∧ SR Q true Q.funcs (fun _ => false) r l l
/-- It is on its way out of its first activation. -/
def Done (bl : List Frame) (g : Goroutine) : Prop := ∃ f a todo, g = G (fz f a todo true) bl
theorem step_same (hz : Zs Q) (hS : Fits Q true Q.funcs (fun _ => False) (fun _ => false)) {bl : List Frame} {g : Goroutine} {u : World} (h : LI Q bl g u) (hd : ¬ Done bl g) :
    (∃ o u' es, stepG Q true g u = .ended o u' es) ∨ ∃ g' u' es, stepG Q true g u = .go g' u' es ∧ (panics Q.funcs bl g' ∨ (LI Q bl g' u' ∧ u.drawn ≤ u'.drawn ∧ u'.tape = u.tape)) := by
  obtain ⟨r, f, a, todo, back, l, rfl, hr, hf, hk, ha, hl⟩ := h
  have key : Step1 Q true Q.funcs (fun _ => False) (fun _ => false) r bl bl u u true (stepG Q true (G (fz f a todo back) (l ++ bl)) u) (stepG Q true (G (fz f a todo back) (l ++ bl)) u) := by
    cases back with
    | false => exact step_run (P := Q) (F := Q.funcs) hz hS hf hk ha hl hr
    | true =>
      refine step_ret (P := Q) (F := Q.funcs) hS hf ha hl ?_ hr
      rintro rfl
      exact hd ⟨f, a, todo, rfl⟩
  rcases key.1 with h1 | ⟨g', u', es, h1⟩
  · exact .inl h1
  · refine .inr ⟨g', u', es, h1, ?_⟩
    rcases key.2 g' u' es h1 (fun i q _ => rfl) with h2 | ⟨s, g2, w', es', h2, h3, h4, h5, h6⟩
    · exact .inl h2
    · right
      rw [h1] at h2
      cases h2
      rcases h5.inv with ⟨f', a1, a2, t', b', l1, l2, k1, k2, k3, k4, e1, e2⟩ | ⟨_, _, _, _, _, k1, _⟩
      · rw [e1] at e2
        unfold G fz at e2
        simp only [Goroutine.mk.injEq, Frame.mk.injEq, true_and, and_true] at e2
        obtain ⟨rfl, e2⟩ := e2
        obtain rfl := List.append_cancel_right e2
        exact ⟨⟨s, f', a1, t', b', l1, e1, h3, k1, k2, k3, k4⟩, h4.more, h4.utape⟩
      · cases k1
/-- The step hangs on the answers that it reads alone. -/
def Nat1 (Q : Program) (bl : List Frame) (m : Bool) (g : Goroutine) (u : World) : Prop :=
  ∀ g' u' es, stepG Q m g u = .go g' u' es → ¬ panics Q.funcs bl g' → ∀ (T : Tape) (D : Nat), TT u u'.drawn T D → ∃ es', stepG Q m g (W2 u T D) = .go g' (W2 u' T (D + (u'.drawn - u.drawn))) es'
theorem Nat1.ctl {bl : List Frame} {m : Bool} {g x : Goroutine} {u : World} (h : ∀ z, stepG Q m g z = .go x z) : Nat1 Q bl m g u := by
  intro g' u' es e _ T D _
  rw [h] at e
  cases e
  exact ⟨#[], by rw [h, W2_self]⟩
theorem Nat1.ended {bl : List Frame} {m : Bool} {g : Goroutine} {u : World} (h : ∃ o z es, stepG Q m g u = .ended o z es) : Nat1 Q bl m g u := by
  intro g' u' es e
  obtain ⟨o, z, es', h⟩ := h
  rw [h] at e
  cases e
theorem step_nat (hz : Zs Q) (hS : Fits Q true Q.funcs (fun _ => False) (fun _ => false)) {bl : List Frame} {g : Goroutine} {u : World} (h : LI Q bl g u) (hd : ¬ Done bl g) : Nat1 Q bl true g u := by
  obtain ⟨r, f, a, todo, back, l, rfl, hr, hf, hk, ha, hl⟩ := h
  cases back with
  | true =>
    have hne : l ≠ [] := by rintro rfl; exact hd ⟨f, a, todo, rfl⟩
    cases l with
    | nil => exact absurd rfl hne
    | cons c cs =>
      obtain ⟨_, fn, hfn⟩ := hf
      have key := RS.results (P := Q) (F := Q.funcs) (ro := fun _ => False) ha fn u u hr
      intro g' u' es e _ T D ht
      rw [List.cons_append, step_back hfn] at e
      rw [List.cons_append, step_back hfn]
      cases hrun : (Go.results fn a).run Q u with
      | halt h x => rw [hrun] at e; cases h <;> cases e
      | ok v x =>
        rw [hrun] at e
        cases e
        have := run_tape Q (Go.results fn a) u T D key.2.2 (by rw [hrun]; exact ht)
        rw [hrun] at this
        rw [this]
        exact ⟨_, rfl⟩
  | false =>
    have hfz : ∀ (a : Array Value) (t : List Item), fz f a t false = (base f).at ⟨a, []⟩ t := fun _ _ => rfl
    cases todo with
    | nil => rw [hfz]; exact .ctl fun z => stepG_end
    | cons x k =>
      simp only [List.all_cons, Bool.and_eq_true] at hk
      obtain ⟨hx, hk⟩ := hk
      cases x with
      | code c =>
        cases c with
        | skip => rw [hfz]; exact .ctl fun z => stepG_skip
        | label n => rw [hfz]; exact .ctl fun z => stepG_label
        | seq x y => rw [hfz]; exact .ctl fun z => stepG_seq
        | cond c x y =>
          cases he : (⟨a, []⟩ : Act).eval c with
          | bool b => rw [hfz]; exact .ctl fun z => stepG_cond he
          | _ =>
            have hev : (fz f a (.code (.cond c x y) :: k) false).eval c = (⟨a, []⟩ : Act).eval c := by rw [hfz, Frame.eval_at]
            rw [he] at hev
            simp only [fz, Bool.false_eq_true, ↓reduceIte] at hev
            exact .ended ⟨_, _, _, by simp [G, stepG, stepG.exec, fz, hev]; exact ⟨rfl, rfl, rfl⟩⟩
        | block id c => rw [hfz]; exact .ctl fun z => stepG_block
        | loop c => rw [hfz]; exact .ctl fun z => stepG_loop
        | exit id =>
          cases he : exitTo id k with
          | none => exact .ended ⟨_, _, _, by simp [G, stepG, stepG.exec, fz, he]; exact ⟨rfl, rfl, rfl⟩⟩
          | some k' => rw [hfz]; exact .ctl fun z => stepG_exit he
        | ret => exact .ctl (x := G (fz f a (.code .ret :: k) true) (l ++ bl)) fun z => by simp [G, stepG, stepG.exec, fz]
        | refuse why => exact .ended ⟨_, _, _, by simp [G, stepG, stepG.exec, fz]; exact ⟨rfl, rfl, rfl⟩⟩
        | region id ops draw =>
          cases draw with
          | false => rw [hfz]; exact .ctl fun z => stepG_region
          | true =>
            have e1 : ∀ (z : World), stepG Q true (G (fz f a (.code (.region id ops true) :: k) false) (l ++ bl)) z =
                .go (G (fz f a (.inRegion ops (Region.schedule (Q.follows .mixedOrders) ops (z.tape z.drawn (.order f id))) :: k) false) (l ++ bl)) { z with drawn := z.drawn + 1 } := by
              intro z
              simp [G, stepG, stepG.exec, fz, choose, Sem.run, Question.forced, Question.cut]
            intro g' u' es e _ T D ht
            rw [e1] at e
            cases e
            refine ⟨#[], ?_⟩
            rw [e1]
            have h0 := ht 0 (.order f id) (by simp)
            simp only [Nat.add_zero] at h0
            rw [show (W2 u T D).tape (W2 u T D).drawn (.order f id) = u.tape u.drawn (.order f id) from h0.symm]
            have : u.drawn + 1 - u.drawn = 1 := by omega
            simp [W2, this]
        | scope c => exact .ctl (x := G (fz f a (.code c :: .inScope c :: k) false) (l ++ bl)) fun z => by simp [G, stepG, stepG.exec, fz]
        | goto n => simp [itemW, codeW] at hx
        | rangeFunc _ _ _ _ => simp [itemW, codeW] at hx
      | inBlock id => rw [hfz]; exact .ctl fun z => stepG_inBlock
      | inScope c => exact .ctl (x := G (fz f a k false) (l ++ bl)) fun z => by simp [G, stepG, stepG.exec, fz]
      | inLoop c => rw [hfz]; exact .ctl fun z => stepG_inLoop
      | inRegion ops t =>
        cases t with
        | nil => rw [hfz]; exact .ctl fun z => stepG_region_end
        | cons i rest =>
          rw [hfz]
          have hkind : (base f).kind ≠ .early := by simp [base]
          cases ho : ops[i]? with
          | none => exact .ctl (x := G (fz f a (.inRegion ops rest :: k) false) (l ++ bl)) fun z => by simp [G, stepG, stepG.exec, Frame.at, ho, Frame.finish, fz, base]
          | some o =>
            by_cases hw : Region.wanted o (yielded ops a) = true
            · have hwo : white Q true Q.funcs o.op = true := by
                have hx' : (ops.all fun o => white Q true Q.funcs o.op) = true := hx
                rw [Array.all_eq_true_iff_forall_mem] at hx'
                exact hx' o (Array.mem_of_getElem? ho)
              have key := RS.execOp (P := Q) (F := Q.funcs) (ro := fun _ => False) hS.quiet hz hS.names (d := []) (d' := []) ha o hwo u u hr
              intro g' u' es e hnp T D ht
              cases hrun : (execOp (⟨a, []⟩ : Act).eval o).run Q u with
              | halt h x =>
                exfalso
                have kh := key.2.1 h x hrun
                have hkind' : ((base f).kind == CallKind.early) = false := by simpa using hkind
                rw [stepG_oper ho hw] at e
                simp only [stepG.apply, Sem.runT_eq, hrun, ↓reduceIte, Frame.at, hkind'] at e
                cases h with
                | panic v => cases e; exact hnp ⟨_, _, l, rfl, rfl, rfl, hf.2, hl.plain⟩
                | stuck s => cases e
                | unsupported q =>
                  cases q with
                  | initOrder g => exact kh.elim
                  | _ => cases e
                | _ => exact kh.elim
              | ok n x =>
                obtain ⟨_, n', _, _, _, hn, _⟩ := key.1 n x hrun (fun i q _ => rfl)
                have hxu : x = u' := by
                  cases hn with
                  | value hv => rw [stepG_value ho hw hkind hrun] at e; cases e; rfl
                  | skip => rw [stepG_none ho hw hkind hrun] at e; cases e; rfl
                  | enter _ _ _ _ => rw [stepG_enter ho hw hkind hrun] at e; cases e; rfl
                subst hxu
                have hT := run_tape Q (execOp (⟨a, []⟩ : Act).eval o) u T D key.2.2 (by rw [hrun]; exact ht)
                rw [hrun] at hT
                cases hn with
                | value hv => rw [stepG_value ho hw hkind hrun] at e; cases e; exact ⟨_, stepG_value ho hw hkind hT⟩
                | skip => rw [stepG_none ho hw hkind hrun] at e; cases e; exact ⟨_, stepG_none ho hw hkind hT⟩
                | enter _ _ _ _ => rw [stepG_enter ho hw hkind hrun] at e; cases e; exact ⟨_, stepG_enter ho hw hkind hT⟩
            · have hw0 : Region.wanted o (yielded ops a) = false := by simpa using hw
              exact .ctl (x := G (fz f ((⟨a, []⟩ : Act).put o.dst undef).tmps (.inRegion ops rest :: k) false) (l ++ bl)) fun z => by
                cases hd : o.dst <;> simp [G, stepG, stepG.exec, Frame.at, ho, hw0, Frame.finish, fz, base, Act.put, hd]
      | _ => simp [itemW] at hx
/-- The frame below which the one alone ends whatever comes to it. -/
def trap (Q : Program) : Frame := { fn := Q.funcs.size, tmps := #[], todo := [.call default false "fmt's door" #[]], defers := [], mode := .run, kind := .normal }
/-- n own steps. -/
inductive Runs (Q : Program) : Nat → Goroutine → World → Goroutine → World → Prop
  | nil {g : Goroutine} {u : World} : Runs Q 0 g u g u
  | cons {n : Nat} {g g1 g' : Goroutine} {u u1 u' : World} {es : Array Event} : stepG Q true g u = .go g1 u1 es → Runs Q n g1 u1 g' u' → Runs Q (n + 1) g u g' u'
theorem Runs.same {n : Nat} {g g1 g2 : Goroutine} {u u1 u2 : World} (h : Runs Q n g u g1 u1) (k : Runs Q n g u g2 u2) : g1 = g2 ∧ u1 = u2 := by
  induction h with
  | nil => cases k; exact ⟨rfl, rfl⟩
  | cons e _ ih =>
    cases k with
    | cons e' k => rw [e] at e'; cases e'; exact ih k
theorem Runs.snoc {n : Nat} {g g1 g2 : Goroutine} {u u1 u2 : World} {es : Array Event} (h : Runs Q n g u g1 u1) (e : stepG Q true g1 u1 = .go g2 u2 es) : Runs Q (n + 1) g u g2 u2 := by
  induction h with
  | nil => exact .cons e .nil
  | cons e' _ ih => exact .cons e' (ih e)
/-- A place to stop: on the way out, above the trap; whatever answers lie ahead. -/
structure Halts (Q : Program) (Stop : Goroutine → World → Prop) : Prop where
  out : ∀ g u, Stop g u → Done [trap Q] g
  blind : ∀ g u T D, Stop g u → Stop g (W2 u T D)
theorem trap_next (v : Value) (z : World) : ∃ o z' es, stepG Q true (G ((trap Q).finish v) []) z = .ended o z' es := by
  simp only [G, trap, Frame.finish, stepG, stepG.exec, show Extern.next "fmt's door" = none from rfl, Option.elim]
  exact ⟨_, _, _, rfl⟩
theorem trap_panic (c : List PanicEntry) (z : World) : ∃ o z' es, stepG Q true (G ((trap Q).raise c) []) z = .ended o z' es := by
  have : Frame.catches Q ((trap Q).raise c) = true := by
    simp [Frame.catches, trap, Frame.raise]
  simp only [Frame.raise, trap] at this
  simp only [G, trap, Frame.raise, stepG, unwind, this, ↓reduceIte]
  exact ⟨_, _, _, rfl⟩
end
end Go.Proofs.Ythifdfbdekkmgaa

/- Whatever is answered it comes to its end: so it does answer by answer (by a chain that would never end). -/
namespace Go.Proofs.Ythifdfbdekkmgaa
open Go.Conc
set_option linter.unusedVariables false
/-- Answer by answer it comes to a stop. -/
inductive Will (Q : Program) (Stop : Goroutine → World → Prop) : Goroutine → World → Prop
  | stop {g : Goroutine} {u : World} : Stop g u → Will Q Stop g u
  | step {g : Goroutine} {u : World} (nx : Tape → Goroutine) (nw : Tape → World) : (∀ τ, ∃ es, stepG Q true g (W2 u τ 0) = .go (nx τ) (nw τ) es) → (∀ τ, Will Q Stop (nx τ) (nw τ)) → Will Q Stop g u
section
variable {Q : Program} [NoCx Q] {Stop : Goroutine → World → Prop}
/-- Whatever is answered it comes to a stop. -/
def Comes1 (Q : Program) (Stop : Goroutine → World → Prop) (g : Goroutine) (u : World) : Prop := ∀ τ, ∃ n g' u', Runs Q n g (W2 u τ 0) g' u' ∧ Stop g' u'
theorem LI.tape {bl : List Frame} {g : Goroutine} {u : World} (h : LI Q bl g u) (T : Tape) (D : Nat) : LI Q bl g (W2 u T D) := by
  obtain ⟨r, f, a, todo, back, l, h1, h2, h3⟩ := h
  exact ⟨r, f, a, todo, back, l, h1, ⟨h2.obj, h2.one, h2.inj, h2.old, h2.glo, h2.ug, h2.wg⟩, h3⟩
theorem raise_at (x : Frame) (c : List PanicEntry) : (∃ c', (x.raise c).mode = .panicking c') ∧ (x.raise c).defers = x.defers ∧ (x.raise c).fn = x.fn := by
  unfold Frame.raise
  split
  · exact ⟨⟨_, rfl⟩, rfl, rfl⟩
  · exact ⟨⟨_, rfl⟩, rfl, rfl⟩
/-- Who panics never stops. -/
theorem panic_never (hH : Halts Q Stop) : ∀ (n : Nat) (g : Goroutine) (u : World) (g' : Goroutine) (u' : World), panics Q.funcs [trap Q] g → Runs Q n g u g' u' → ¬ Stop g' u' := by
  intro n
  induction n with
  | zero =>
    rintro g u g' u' ⟨c, fr, l, rfl, hm, hd, _⟩ h hs
    cases h
    obtain ⟨f, a, todo, e⟩ := hH.out _ _ hs
    unfold G fz at e
    simp only [Goroutine.mk.injEq] at e
    rw [e.1] at hm
    cases hm
  | succ n ih =>
    rintro g u g' u' ⟨c, fr, l, rfl, hm, hd, ⟨fn, hf⟩, hl⟩ h hs
    have hcat : Frame.catches Q fr = false := by
      simp [Frame.catches, hf]
    cases h with
    | cons e h =>
      have e1 : ∀ (x : Frame) (cs : List Frame) (z : World), stepG Q true (G fr (x :: cs)) z = .go (G (x.raise c) cs) z := by
        intro x cs z
        obtain ⟨f1, f2, f3, f4, f5, f6, f7⟩ := fr
        simp only at hm hd
        subst hm hd
        simp [G, stepG, unwind, hcat]
      cases l with
      | nil =>
        rw [List.nil_append, e1] at e
        cases e
        cases h with
        | nil =>
          obtain ⟨f, a, todo, e⟩ := hH.out _ _ hs
          unfold G fz at e
          simp only [Goroutine.mk.injEq] at e
          have := e.1
          simp [Frame.raise, trap] at this
        | cons e2 _ =>
          obtain ⟨o, z', es', e3⟩ := trap_panic (Q := Q) c u
          rw [e3] at e2
          cases e2
      | cons x l =>
        rw [List.cons_append, e1] at e
        cases e
        have hx := hl x (by simp)
        obtain ⟨⟨c', k1⟩, k2, k3⟩ := raise_at x c
        exact ih _ _ _ _ ⟨c', x.raise c, l, rfl, k1, by rw [k2]; exact hx.1, by rw [k3]; exact hx.2, fun y hy => hl y (by simp [hy])⟩ h hs
/-- Who is out without having stopped never stops. -/
theorem done_never (hH : Halts Q Stop) {g : Goroutine} {u : World} {n : Nat} {g' : Goroutine} {u' : World} (hd : Done [trap Q] g) (hgood : LI Q [trap Q] g u) (h : Runs Q (n + 1) g u g' u') : ¬ Stop g' u' := by
  intro hs
  obtain ⟨f, a, todo, rfl⟩ := hd
  obtain ⟨r, f2, a2, todo2, back, l, e0, _, ⟨_, fn, hfn⟩, _⟩ := hgood
  have ef : f2 = f := by
    unfold G fz at e0
    simp only [Goroutine.mk.injEq, Frame.mk.injEq] at e0
    exact e0.1.1.symm
  subst ef
  cases h with
  | cons e h =>
    rw [step_back hfn] at e
    cases hrun : (Go.results fn a).run Q u with
    | halt x y => rw [hrun] at e; cases x <;> cases e
    | ok v u1 =>
      rw [hrun] at e
      cases e
      cases h with
      | nil =>
        obtain ⟨f', a', todo', e⟩ := hH.out _ _ hs
        unfold G at e
        simp only [Goroutine.mk.injEq] at e
        cases e.2.1
      | cons e2 _ =>
        obtain ⟨o, z', es', e3⟩ := trap_next (Q := Q) v _
        rw [e3] at e2
        cases e2
/-- On its way to a stop each state is sound. -/
theorem way_next (hz : Zs Q) (hS : Fits Q true Q.funcs (fun _ => False) (fun _ => false)) (hH : Halts Q Stop) {g : Goroutine} {u : World} {n : Nat} {g' : Goroutine} {u' : World} (hL : LI Q [trap Q] g u) (h : Runs Q (n + 1) g u g' u') (hs : Stop g' u') :
    ¬ Done [trap Q] g ∧ ∃ g1 u1 es, stepG Q true g u = .go g1 u1 es ∧ (LI Q [trap Q] g1 u1 ∧ u.drawn ≤ u1.drawn ∧ u1.tape = u.tape) ∧ ¬ panics Q.funcs [trap Q] g1 ∧ Runs Q n g1 u1 g' u' := by
  have hd : ¬ Done [trap Q] g := fun hd => done_never hH hd hL h hs
  refine ⟨hd, ?_⟩
  cases h with
  | cons e h =>
    have hnp := fun hp => panic_never hH _ _ _ _ _ hp h hs
    rcases step_same hz hS hL hd with ⟨o, z, es', e'⟩ | ⟨g2, u2, es2, e', h2⟩
    · rw [e'] at e; cases e
    · rw [e'] at e
      cases e
      exact ⟨_, _, _, e', h2.resolve_left hnp, hnp, h⟩
theorem W2_W2 (u : World) (T T' : Tape) (D D' : Nat) : W2 (W2 u T D) T' D' = W2 u T' D' := rfl
/-- Other answers, the same from here on. -/
theorem runs_tape (hz : Zs Q) (hS : Fits Q true Q.funcs (fun _ => False) (fun _ => false)) (hH : Halts Q Stop) : ∀ (n : Nat) (g : Goroutine) (u : World) (g' : Goroutine) (u' : World) (T : Tape) (D : Nat), LI Q [trap Q] g u → Runs Q n g u g' u' → Stop g' u' →
    (∀ i q, u.tape (u.drawn + i) q = T (D + i) q) → ∃ D', Runs Q n g (W2 u T D) g' (W2 u' T D') := by
  intro n
  induction n with
  | zero =>
    intro g u g' u' T D _ h _ _
    cases h
    exact ⟨D, .nil⟩
  | succ n ih =>
    intro g u g' u' T D hL h hs ht
    obtain ⟨hd, g1, u1, es, e, ⟨hL1, hm⟩, hnp, h1⟩ := way_next hz hS hH hL h hs
    obtain ⟨es', e'⟩ := step_nat hz hS hL hd g1 u1 es e hnp T D (fun i q _ => ht i q)
    obtain ⟨D', h'⟩ := ih g1 u1 g' u' T (D + (u1.drawn - u.drawn)) hL1 h1 hs (fun i q => by
      have := ht (u1.drawn - u.drawn + i) q
      rw [show u.drawn + (u1.drawn - u.drawn + i) = u1.drawn + i by omega, ← Nat.add_assoc] at this
      rw [hm.2]
      exact this)
    exact ⟨D', .cons e' h'⟩
/-- A state on its way whose next is not sound. -/
def Bad (Q : Program) (Stop : Goroutine → World → Prop) (g : Goroutine) (u : World) : Prop := LI Q [trap Q] g u ∧ Comes1 Q Stop g u ∧ ¬ Will Q Stop g u
theorem bad_next (hz : Zs Q) (hS : Fits Q true Q.funcs (fun _ => False) (fun _ => false)) (hH : Halts Q Stop) {g : Goroutine} {u : World} (h : Bad Q Stop g u) : ∃ τ g1 u1 es, stepG Q true g (W2 u τ 0) = .go g1 u1 es ∧ Bad Q Stop g1 u1 ∧ ¬ Done [trap Q] g ∧ ¬ panics Q.funcs [trap Q] g1 ∧ u1.tape = τ := by
  obtain ⟨hL, hC, hW⟩ := h
  have hns : ∀ T D, ¬ Stop g (W2 u T D) := fun T D hs => hW (.stop (by have := hH.blind _ _ u.tape u.drawn hs; exact this))
  -- each answer leads on
  have on : ∀ τ, ∃ g1 u1 es, stepG Q true g (W2 u τ 0) = .go g1 u1 es ∧ (LI Q [trap Q] g1 u1 ∧ (W2 u τ 0).drawn ≤ u1.drawn ∧ u1.tape = (W2 u τ 0).tape) ∧ ¬ panics Q.funcs [trap Q] g1 ∧ ¬ Done [trap Q] g := by
    intro τ
    obtain ⟨n, g', u', hr, hs⟩ := hC τ
    cases n with
    | zero => cases hr; exact absurd hs (hns _ _)
    | succ n =>
      obtain ⟨hd, g1, u1, es, e, h1, h2, _⟩ := way_next hz hS hH (hL.tape τ 0) hr hs
      exact ⟨g1, u1, es, e, h1, h2, hd⟩
  have comes : ∀ τ g1 u1 es, stepG Q true g (W2 u τ 0) = .go g1 u1 es → LI Q [trap Q] g1 u1 → ¬ panics Q.funcs [trap Q] g1 → u1.tape = τ → ¬ Done [trap Q] g → Comes1 Q Stop g1 u1 := by
    intro τ g1 u1 es e hL1 hnp ht hd τ'
    let T : Tape := fun i q => if i < u1.drawn then τ i q else τ' (i - u1.drawn) q
    obtain ⟨es', e'⟩ := step_nat hz hS (hL.tape τ 0) hd g1 u1 es e hnp T 0 (fun i q hi => by
      simp only [T]
      have : (W2 u τ 0).drawn = 0 := rfl
      rw [this] at hi ⊢
      rw [if_pos hi]
      rfl)
    have e0 : (0 + (u1.drawn - (W2 u τ 0).drawn)) = u1.drawn := by show 0 + (u1.drawn - 0) = u1.drawn; omega
    rw [e0, W2_W2] at e'
    obtain ⟨n, g', u', hr, hs⟩ := hC T
    cases n with
    | zero => cases hr; exact absurd hs (hns _ _)
    | succ n =>
      cases hr with
      | cons e2 hr =>
        rw [e'] at e2
        cases e2
        obtain ⟨D', h'⟩ := runs_tape hz hS hH n _ _ _ _ τ' 0 (hL1.tape T u1.drawn) hr hs (fun i q => by
          show T (u1.drawn + i) q = τ' (0 + i) q
          simp only [T]
          rw [if_neg (by omega)]
          congr 1
          omega)
        exact ⟨n, g', _, h', hH.blind _ _ _ _ hs⟩
  refine Classical.byContradiction fun hno => hW ?_
  refine .step (fun τ => Classical.choose (on τ)) (fun τ => Classical.choose (Classical.choose_spec (on τ))) (fun τ => ?_) (fun τ => ?_)
  · obtain ⟨es, e, _⟩ := Classical.choose_spec (Classical.choose_spec (on τ))
    exact ⟨es, e⟩
  · obtain ⟨es, e, ⟨h1, h2, h3⟩, h4, h5⟩ := Classical.choose_spec (Classical.choose_spec (on τ))
    refine Classical.byContradiction fun hw => hno ?_
    exact ⟨τ, _, _, es, e, ⟨h1, comes τ _ _ es e h1 h4 h3 h5, hw⟩, h5, h4, h3⟩
/-- ████ What comes to a stop whatever is answered, comes to it answer by answer. -/
theorem will_of (hz : Zs Q) (hS : Fits Q true Q.funcs (fun _ => False) (fun _ => false)) (hH : Halts Q Stop) {g : Goroutine} {u : World} (hL : LI Q [trap Q] g u) (hC : Comes1 Q Stop g u) : Will Q Stop g u := by
  refine Classical.byContradiction fun hW => ?_
  let St := { p : Goroutine × World // Bad Q Stop p.1 p.2 }
  have nxt : ∀ x : St, ∃ (τ : Tape) (y : St), (∃ es, stepG Q true x.1.1 (W2 x.1.2 τ 0) = .go y.1.1 y.1.2 es) ∧ ¬ Done [trap Q] x.1.1 ∧ ¬ panics Q.funcs [trap Q] y.1.1 := by
    intro x
    obtain ⟨τ, g1, u1, es, e, hb, h1, h2, _⟩ := bad_next hz hS hH x.2
    exact ⟨τ, ⟨(g1, u1), hb⟩, ⟨es, e⟩, h1, h2⟩
  let τf : St → Tape := fun x => Classical.choose (nxt x)
  let nf : St → St := fun x => Classical.choose (Classical.choose_spec (nxt x))
  have hf : ∀ x : St, (∃ es, stepG Q true x.1.1 (W2 x.1.2 (τf x) 0) = .go (nf x).1.1 (nf x).1.2 es) ∧ ¬ Done [trap Q] x.1.1 ∧ ¬ panics Q.funcs [trap Q] (nf x).1.1 := fun x => Classical.choose_spec (Classical.choose_spec (nxt x))
  let X : Nat → St := fun k => Nat.rec ⟨(g, u), hL, hC, hW⟩ (fun _ x => nf x) k
  have hX : ∀ k, X (k + 1) = nf (X k) := fun k => rfl
  let D : Nat → Nat := fun k => Nat.rec 0 (fun k d => d + (X (k + 1)).1.2.drawn) k
  have hD : ∀ k, D (k + 1) = D k + (X (k + 1)).1.2.drawn := fun k => rfl
  have mono : ∀ j k, j ≤ k → D j ≤ D k := by
    intro j k h
    induction k with
    | zero => obtain rfl : j = 0 := by omega
              exact Nat.le_refl _
    | succ k ih =>
      rcases Nat.lt_or_ge k j with h1 | h1
      · obtain rfl : j = k + 1 := by omega
        exact Nat.le_refl _
      · rw [hD]; exact Nat.le_trans (ih h1) (Nat.le_add_right _ _)
  let T : Tape := fun i q => open Classical in if h : ∃ k, D k ≤ i ∧ i < D (k + 1) then τf (X (Classical.choose h)) (i - D (Classical.choose h)) q else 0
  have hT : ∀ k i q, i < (X (k + 1)).1.2.drawn → T (D k + i) q = τf (X k) i q := by
    intro k i q hi
    have h : ∃ k', D k' ≤ D k + i ∧ D k + i < D (k' + 1) := ⟨k, by omega, by rw [hD]; omega⟩
    have hk := Classical.choose_spec h
    have e : Classical.choose h = k := by
      generalize Classical.choose h = k' at hk
      rcases Nat.lt_trichotomy k' k with h1 | h1 | h1
      · have := mono (k' + 1) k h1; omega
      · exact h1
      · have := mono (k + 1) k' h1
        have := hD k
        omega
    simp only [T]
    rw [dif_pos h, e]
    congr 1
    omega
  have runs : ∀ k, Runs Q k g (W2 u T 0) (X k).1.1 (W2 (X k).1.2 T (D k)) := by
    intro k
    induction k with
    | zero => exact .nil
    | succ k ih =>
      obtain ⟨⟨es, e⟩, h1, h2⟩ := hf (X k)
      obtain ⟨es', e'⟩ := step_nat hz hS ((X k).2.1.tape (τf (X k)) 0) h1 _ _ es e h2 T (D k) (fun i q hi => by
        have : (W2 (X k).1.2 (τf (X k)) 0).drawn = 0 := rfl
        rw [this] at hi ⊢
        rw [hT k i q (by simpa using hi)]
        show τf (X k) (0 + i) q = _
        rw [Nat.zero_add])
      have e0 : D k + ((nf (X k)).1.2.drawn - (W2 (X k).1.2 (τf (X k)) 0).drawn) = D (k + 1) := by
        rw [hD, hX]
        show D k + ((nf (X k)).1.2.drawn - 0) = _
        omega
      rw [e0, W2_W2] at e'
      rw [hX]
      exact ih.snoc e'
  obtain ⟨n, g', u', hr, hs⟩ := hC T
  obtain ⟨rfl, rfl⟩ := hr.same (runs n)
  have := hH.blind _ _ (X n).1.2.tape (X n).1.2.drawn hs
  rw [W2_W2] at this
  exact (X n).2.2.2 (.stop this)
end
end Go.Proofs.Ythifdfbdekkmgaa

