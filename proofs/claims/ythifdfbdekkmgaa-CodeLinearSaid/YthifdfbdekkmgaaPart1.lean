/- Ren, RenMem, RenView, RenTab, RenOps, RenOps2, RenOps3, RenOps4, RenOps5, RenOps6, RenOps7. -/
import Derived.Test.YthifdfbdekkmgaaChecked
import Derived.Laws.Sem
import Derived.Room.Entries
import Derived.RunT
set_option linter.unusedVariables false
set_option linter.unusedSimpArgs false
set_option linter.unusedSectionVars false
set_option linter.unnecessarySimpa false
set_option linter.deprecated false
/- Two machines' memories alike but for the blocks' numbers: values, rows and worlds alike; operations that keep them alike. -/
namespace Go.Proofs.Ythifdfbdekkmgaa
set_option linter.unusedVariables false
/-- Which block of the one is which block of the other. -/
abbrev Ren := Nat → Nat → Prop
def RLe (r s : Ren) : Prop := ∀ b c, r b c → s b c
theorem RLe.refl (r : Ren) : RLe r r := fun _ _ h => h
theorem RLe.trans {r s t : Ren} (h : RLe r s) (k : RLe s t) : RLe r t := fun _ _ x => k _ _ (h _ _ x)
/-- Values alike. -/
inductive VR (r : Ren) : Value → Value → Prop
  | bool (b : Bool) : VR r (.bool b) (.bool b)
  | int (k : IntKind) (n : Int) : VR r (.int k n) (.int k n)
  | float (k : FloatKind) (n : Nat) : VR r (.float k n) (.float k n)
  | string (s : ByteArray) : VR r (.string s) (.string s)
  | nilPtr : VR r (.pointer none) (.pointer none)
  | ptr {b c o : Nat} {s : Option Nat} : r b c → VR r (.pointer (some ⟨b, o, s⟩)) (.pointer (some ⟨c, o, s⟩))
  | nilSlice (l m : Nat) : VR r (.slice none l m) (.slice none l m)
  | slice {b c o : Nat} {s : Option Nat} (l m : Nat) : r b c → VR r (.slice (some ⟨b, o, s⟩) l m) (.slice (some ⟨c, o, s⟩) l m)
  | nilMap : VR r (.map none) (.map none)
  | map {b c : Nat} : r b c → VR r (.map (some b)) (.map (some c))
  | nilChan : VR r (.chan none) (.chan none)
  | chan {b c : Nat} : r b c → VR r (.chan (some b)) (.chan (some c))
  | func {f : FuncId} {a a' d d' : Array Value} : a.size = a'.size → (∀ (i : Nat) v v', a[i]? = some v → a'[i]? = some v' → VR r v v') →
      d.size = d'.size → (∀ (i : Nat) v v', d[i]? = some v → d'[i]? = some v' → VR r v v') → VR r (.func (.func f) a d) (.func (.func f) a' d')
  | nilFunc : VR r .nilFunc .nilFunc
  | iface {t : TypeId} {v v' : Value} : VR r v v' → VR r (.iface t v) (.iface t v')
  | nilIface : VR r .nilIface .nilIface
  | agg {a a' : Array Value} : a.size = a'.size → (∀ (i : Nat) v v', a[i]? = some v → a'[i]? = some v' → VR r v v') → VR r (.agg a) (.agg a')
  | tuple {a a' : Array Value} : a.size = a'.size → (∀ (i : Nat) v v', a[i]? = some v → a'[i]? = some v' → VR r v v') → VR r (.tuple a) (.tuple a')
/-- Rows of values alike. -/
def AR (r : Ren) (a a' : Array Value) : Prop := a.size = a'.size ∧ ∀ (i : Nat) v v', a[i]? = some v → a'[i]? = some v' → VR r v v'
theorem VR.mono {r s : Ren} (h : RLe r s) {v v' : Value} (k : VR r v v') : VR s v v' := by
  induction k with
  | ptr x => exact .ptr (h _ _ x)
  | slice l m x => exact .slice l m (h _ _ x)
  | map x => exact .map (h _ _ x)
  | chan x => exact .chan (h _ _ x)
  | func e1 _ e2 _ ih1 ih2 => exact .func e1 ih1 e2 ih2
  | iface _ ih => exact .iface ih
  | agg e _ ih => exact .agg e ih
  | tuple e _ ih => exact .tuple e ih
  | _ => constructor
theorem AR.mono {r s : Ren} (h : RLe r s) {a a' : Array Value} (k : AR r a a') : AR s a a' := ⟨k.1, fun i v v' x y => (k.2 i v v' x y).mono h⟩
/-- Addresses alike. -/
def DR (r : Ren) (a a' : Addr) : Prop := r a.block a'.block ∧ a'.off = a.off ∧ a'.spot = a.spot
theorem DR.of {r : Ren} {b c o : Nat} {s : Option Nat} (h : r b c) : DR r ⟨b, o, s⟩ ⟨c, o, s⟩ := ⟨h, rfl, rfl⟩
theorem DR.mono {r s : Ren} (h : RLe r s) {a a' : Addr} (k : DR r a a') : DR s a a' := ⟨h _ _ k.1, k.2⟩
theorem VR.ofAddr {r : Ren} {a a' : Addr} (h : DR r a a') : VR r (.pointer (some a)) (.pointer (some a')) := by
  obtain ⟨b, o, s⟩ := a
  obtain ⟨c, o', s'⟩ := a'
  obtain ⟨h1, h2, h3⟩ := h
  cases h2; cases h3
  exact .ptr h1
theorem VR.ofSlice {r : Ren} {a a' : Addr} (l m : Nat) (h : DR r a a') : VR r (.slice (some a) l m) (.slice (some a') l m) := by
  obtain ⟨b, o, s⟩ := a
  obtain ⟨c, o', s'⟩ := a'
  obtain ⟨h1, h2, h3⟩ := h
  cases h2; cases h3
  exact .slice l m h1
theorem DR.add {r : Ren} {a a' : Addr} (h : DR r a a') (n : Nat) : DR r (a.add n) (a'.add n) := by
  unfold Addr.add
  split
  · exact h
  · exact ⟨h.1, by simp [h.2.1], rfl⟩
theorem AR.get {r : Ren} {a a' : Array Value} (h : AR r a a') {i : Nat} {v : Value} (e : a[i]? = some v) : ∃ v', a'[i]? = some v' ∧ VR r v v' := by
  have hi : i < a'.size := by rw [← h.1]; exact (Array.getElem?_eq_some_iff.1 e).1
  exact ⟨a'[i], Array.getElem?_eq_getElem hi, h.2 i _ _ e (Array.getElem?_eq_getElem hi)⟩
theorem AR.none {r : Ren} {a a' : Array Value} (h : AR r a a') {i : Nat} (e : a[i]? = none) : a'[i]? = none := by
  rw [Array.getElem?_eq_none_iff] at e ⊢
  rw [← h.1]; exact e
theorem AR.empty (r : Ren) : AR r #[] #[] := ⟨rfl, fun i v v' x _ => by simp at x⟩
theorem AR.cases {r : Ren} {a a' : Array Value} (h : AR r a a') (i : Nat) : (a[i]? = .none ∧ a'[i]? = .none) ∨ ∃ v v', a[i]? = some v ∧ a'[i]? = some v' ∧ VR r v v' := by
  cases e : a[i]? with
  | none => exact .inl ⟨rfl, h.none e⟩
  | some v => obtain ⟨v', e', hv⟩ := h.get e; exact .inr ⟨v, v', rfl, e', hv⟩
theorem AR.getD {r : Ren} {a a' : Array Value} (h : AR r a a') (i : Nat) {d d' : Value} (hd : VR r d d') : VR r (a.getD i d) (a'.getD i d') := by
  rw [Array.getD_eq_getD_getElem?, Array.getD_eq_getD_getElem?]
  rcases h.cases i with ⟨e, e'⟩ | ⟨v, v', e, e', hv⟩
  · rw [e, e']; exact hd
  · rw [e, e']; exact hv
theorem AR.set {r : Ren} {a a' : Array Value} (h : AR r a a') (i : Nat) {v v' : Value} (hv : VR r v v') : AR r (a.setIfInBounds i v) (a'.setIfInBounds i v') := by
  refine ⟨by simp [h.1], fun j x x' e e' => ?_⟩
  rw [Array.getElem?_setIfInBounds] at e e'
  rw [h.1] at e
  split at e
  · rw [if_pos ‹_›] at e'
    split at e
    · rw [if_pos ‹_›] at e'; cases e; cases e'; exact hv
    · cases e
  · rw [if_neg ‹_›] at e'
    exact h.2 j _ _ e e'
theorem AR.push {r : Ren} {a a' : Array Value} (h : AR r a a') {v v' : Value} (hv : VR r v v') : AR r (a.push v) (a'.push v') := by
  refine ⟨by simp [h.1], fun j x x' e e' => ?_⟩
  rw [Array.getElem?_push] at e e'
  rw [h.1] at e
  split at e
  · rw [if_pos ‹_›] at e'; cases e; cases e'; exact hv
  · rw [if_neg ‹_›] at e'
    exact h.2 j _ _ e e'
theorem AR.append {r : Ren} {a a' b b' : Array Value} (h : AR r a a') (k : AR r b b') : AR r (a ++ b) (a' ++ b') := by
  refine ⟨by simp [h.1, k.1], fun j x x' e e' => ?_⟩
  rw [Array.getElem?_append] at e e'
  rw [h.1] at e
  split at e
  · rw [if_pos ‹_›] at e'
    exact h.2 j _ _ e e'
  · rw [if_neg ‹_›] at e'
    exact k.2 _ _ _ e e'
theorem AR.extract {r : Ren} {a a' : Array Value} (h : AR r a a') (i j : Nat) : AR r (a.extract i j) (a'.extract i j) := by
  refine ⟨by simp [h.1], fun n x x' e e' => ?_⟩
  rw [Array.getElem?_extract] at e e'
  rw [h.1] at e
  split at e
  · rw [if_pos ‹_›] at e'
    exact h.2 _ _ _ e e'
  · cases e
theorem AR.ofFn {r : Ren} {α : Type} (a : Array α) (f g : α → Value) (h : ∀ x, VR r (f x) (g x)) : AR r (a.map f) (a.map g) := by
  refine ⟨by simp, fun n x x' e e' => ?_⟩
  rw [Array.getElem?_map] at e e'
  cases e0 : a[n]? with
  | none => rw [e0] at e; cases e
  | some y => rw [e0] at e e'; cases e; cases e'; exact h y
theorem AR.one {r : Ren} {v v' : Value} (h : VR r v v') : AR r #[v] #[v'] := (AR.empty r).push h
theorem VR.cells {r : Ren} {v v' : Value} (h : VR r v v') : AR r v.cells v'.cells := by
  cases h with
  | agg e k => exact ⟨e, k⟩
  | bool | int | float | string | nilPtr | nilSlice | nilMap | nilChan | nilFunc | nilIface => exact AR.one (by constructor)
  | ptr x => exact AR.one (.ptr x)
  | slice l m x => exact AR.one (.slice l m x)
  | map x => exact AR.one (.map x)
  | chan x => exact AR.one (.chan x)
  | func e1 k1 e2 k2 => exact AR.one (.func e1 k1 e2 k2)
  | iface x => exact AR.one (.iface x)
  | tuple e k => exact AR.one (.tuple e k)
/-- Objects alike: a row; what sees a row as another type. -/
inductive OR (roc : Prop) (r : Ren) : Obj → Obj → Prop
  | cells {x x' : Array Value} {e : TypeId} {fr fr' : Nat × Nat} : AR r x x' → (¬ roc → fr = fr') → (roc → fr = (0, x.size)) → OR roc r (.cells x e fr) (.cells x' e fr')
  | view {a a' : Addr} {t : TypeId} : DR r a a' → OR roc r (.view a t) (.view a' t)
  | number {a a' : Addr} {lost : Bool} : DR r a a' → OR roc r (.number a lost) (.number a' lost)
theorem OR.mono {roc : Prop} {r s : Ren} (h : RLe r s) {o o' : Obj} (k : OR roc r o o') : OR roc s o o' := by
  cases k with
  | cells x y z => exact .cells (x.mono h) y z
  | view x => exact .view (x.mono h)
  | number x => exact .number (x.mono h)
/-- Worlds alike: 'ro': the blocks of the other that are only read, which lie frozen here. -/
structure HR (P : Program) (ro : Nat → Prop) (r : Ren) (u w : World) : Prop where
  obj : ∀ b c, r b c → ∃ o o', u.heap[b]? = some o ∧ w.heap[c]? = some o' ∧ OR (ro c) r o o'
  one : ∀ b c d, r b c → r b d → c = d
  inj : ∀ b c d, r c b → r d b → c = d
  old : ∀ c, ro c → c < w.heap.size
  glo : ∀ b c, r b c → P.globals.size ≤ b ∧ P.globals.size ≤ c
  ug : P.globals.size ≤ u.heap.size
  wg : P.globals.size ≤ w.heap.size
/-- The same answers lie ahead of both, as far as the one comes. -/
def AT (u w : World) (n : Nat) : Prop := ∀ i q, u.drawn + i < n → u.tape (u.drawn + i) q = w.tape (w.drawn + i) q
/-- What a step leaves. -/
structure Adv (ro : Nat → Prop) (r s : Ren) (u w u' w' : World) : Prop where
  le : RLe r s
  fresh : ∀ b c, s b c → r b c ∨ (u.heap.size ≤ b ∧ w.heap.size ≤ c)
  keep : ∀ c, c < w.heap.size → (ro c ∨ ∀ b, ¬ r b c) → w'.heap[c]? = w.heap[c]?
  size : w.heap.size ≤ w'.heap.size
  usize : u.heap.size ≤ u'.heap.size
  os : w'.os = w.os
  out : w'.output = w.output
  tape : w'.tape = w.tape
  utape : u'.tape = u.tape
  drawn : w'.drawn + u.drawn = w.drawn + u'.drawn
  more : u.drawn ≤ u'.drawn
theorem Adv.refl (ro : Nat → Prop) (r : Ren) (u w : World) : Adv ro r r u w u w := ⟨.refl r, fun _ _ h => .inl h, fun _ _ _ => rfl, Nat.le_refl _, Nat.le_refl _, rfl, rfl, rfl, rfl, rfl, Nat.le_refl _⟩
theorem Adv.trans {ro : Nat → Prop} {r s t : Ren} {u w u' w' u'' w'' : World} (h : Adv ro r s u w u' w') (k : Adv ro s t u' w' u'' w'') : Adv ro r t u w u'' w'' := by
  refine ⟨h.le.trans k.le, fun b c x => ?_, fun c hc x => ?_, Nat.le_trans h.size k.size, Nat.le_trans h.usize k.usize, k.os.trans h.os, k.out.trans h.out, k.tape.trans h.tape, k.utape.trans h.utape, by have := h.drawn; have := k.drawn; omega, Nat.le_trans h.more k.more⟩
  · rcases k.fresh b c x with y | ⟨y, z⟩
    · exact h.fresh b c y
    · exact .inr ⟨Nat.le_trans h.usize y, Nat.le_trans h.size z⟩
  · rw [k.keep c (Nat.lt_of_lt_of_le hc h.size) ?_, h.keep c hc x]
    rcases x with x | x
    · exact .inl x
    · right
      intro b hb
      rcases h.fresh b c hb with y | ⟨_, z⟩
      · exact x b y
      · omega
/-- What an operation of the other may list. -/
def EvK (ro : Nat → Prop) (s : Ren) (e : Event) : Prop :=
  (∃ a wr, e = ⟨.cell a, wr, false⟩ ∧ (∃ b, s b a.block) ∧ (wr = true → ¬ ro a.block)) ∨ e = ⟨.mark .noRoom, false, true⟩ ∨ (∃ f, e = ⟨.mark (.extern f), false, true⟩) ∨ ∃ c, e = ⟨.obj c, false, false⟩ ∧ ∃ b, s b c
theorem EvK.mono {ro : Nat → Prop} {r s : Ren} (h : RLe r s) {e : Event} (k : EvK ro r e) : EvK ro s e := by
  rcases k with ⟨a, wr, e1, ⟨b, hb⟩, e2⟩ | k
  · exact .inl ⟨a, wr, e1, ⟨b, h _ _ hb⟩, e2⟩
  · rcases k with k | k | ⟨c, e, b, hb⟩
    · exact .inr (.inl k)
    · exact .inr (.inr (.inl k))
    · exact .inr (.inr (.inr ⟨c, e, b, h _ _ hb⟩))
/-- A halt that ends the run, or begins a panic. -/
def KH : Halt → Prop
  | .panic _ | .stuck _ => True
  | .unsupported (.initOrder _) => False
  | .unsupported _ => True
  | _ => False
/-- Its run asks nothing of the world outside but its environment. -/
def NS {α : Type} (Q : Program) : Sem α → World → Prop
  | .pure _, _ | .halt _, _ => True
  | .load m a k, w => ∀ x w', (Sem.load m a .pure).run Q w = .ok x w' → NS Q (k x) w'
  | .store m a v k, w => ∀ x w', (Sem.store m a v (.pure ())).run Q w = .ok x w' → NS Q k w'
  | .new o k, w => NS Q (k w.heap.size) { w with heap := w.heap.push o }
  | .shape r k, w => NS Q (k (w.shape? r)) w
  | .freeze a n k, w => NS Q k (w.freeze a n)
  | .frozen a k, w => NS Q (k (w.frozen? a)) w
  | .getObj r k, w => ∀ x w', (Sem.getObj r .pure).run Q w = .ok x w' → NS Q (k x) w'
  | .setObj r o k, w => ∀ x w', (Sem.setObj r o (.pure ())).run Q w = .ok x w' → NS Q k w'
  | .choose q k, w => if q.forced then NS Q (k 0) w else NS Q (k (q.cut (w.tape w.drawn q))) { w with drawn := w.drawn + 1 }
  | .sys c k, w => c = .env ∧ NS Q (k (w.sys c).1) (w.sys c).2
  | .program k, w => NS Q (k Q) w
  | .mark _ k, w => NS Q k w
theorem run_first {α : Type} (Q : Program) (w : World) :
    (∀ m a (k : Value → Sem α), (Sem.load m a k).run Q w = ((Sem.load m a .pure).run Q w).andThen fun x w' => (k x).run Q w') ∧
    (∀ m a v (k : Sem α), (Sem.store m a v k).run Q w = ((Sem.store m a v (.pure ())).run Q w).andThen fun _ w' => k.run Q w') ∧
    (∀ r (k : Obj → Sem α), (Sem.getObj r k).run Q w = ((Sem.getObj r .pure).run Q w).andThen fun x w' => (k x).run Q w') ∧
    (∀ r o (k : Sem α), (Sem.setObj r o k).run Q w = ((Sem.setObj r o (.pure ())).run Q w).andThen fun _ w' => k.run Q w') :=
  ⟨fun m a k => Sem.run_bind' Q (.load m a .pure) k w, fun m a v k => Sem.run_bind' Q (.store m a v (.pure ())) (fun _ => k) w, fun r k => Sem.run_bind' Q (.getObj r .pure) k w, fun r o k => Sem.run_bind' Q (.setObj r o (.pure ())) (fun _ => k) w⟩
theorem NS.bind' {α β : Type} (Q : Program) (t : Sem α) (f : α → Sem β) : ∀ (w : World), NS Q t w → (∀ a w', t.run Q w = .ok a w' → NS Q (f a) w') → NS Q (t.bind f) w := by
  induction t with
  | pure a => intro w _ h; exact h a w rfl
  | load m a k ih => exact fun w h1 h2 x w' e => ih x w' (h1 x w' e) fun b w'' e2 => h2 b w'' (by rw [(run_first Q w).1, e]; exact e2)
  | store m a v k ih => exact fun w h1 h2 x w' e => ih w' (h1 x w' e) fun b w'' e2 => h2 b w'' (by rw [(run_first Q w).2.1, e]; exact e2)
  | new o k ih => intro w h1 h2; exact ih _ _ h1 h2
  | shape r k ih => intro w h1 h2; exact ih _ _ h1 h2
  | freeze a n k ih => intro w h1 h2; exact ih _ h1 h2
  | frozen a k ih => intro w h1 h2; exact ih _ _ h1 h2
  | getObj r k ih => exact fun w h1 h2 x w' e => ih x w' (h1 x w' e) fun b w'' e2 => h2 b w'' (by rw [(run_first Q w).2.2.1, e]; exact e2)
  | setObj r o k ih => exact fun w h1 h2 x w' e => ih w' (h1 x w' e) fun b w'' e2 => h2 b w'' (by rw [(run_first Q w).2.2.2, e]; exact e2)
  | choose q k ih =>
    intro w h1 h2
    simp only [Sem.bind, NS, Sem.run] at h1 h2 ⊢
    split
    · rename_i e; rw [if_pos e] at h1; simp only [if_pos e] at h2; exact ih _ _ h1 h2
    · rename_i e; rw [if_neg e] at h1; simp only [if_neg e] at h2; exact ih _ _ h1 h2
  | sys c k ih => intro w h1 h2; exact ⟨h1.1, ih _ _ h1.2 h2⟩
  | program k ih => intro w h1 h2; exact ih _ _ h1 h2
  | mark m k ih => intro w h1 h2; exact ih _ h1 h2
  | halt h => intro w _ _; trivial
section
variable (Q P : Program) (ro : Nat → Prop)
/-- The one's work is the other's, alike. -/
def RS {α β : Type} (r : Ren) (A : Ren → α → β → Prop) (t : Sem α) (t' : Sem β) : Prop :=
  ∀ u w, HR P ro r u w → (∀ a u', t.run Q u = .ok a u' → AT u w u'.drawn → ∃ s b w', HR P ro s u' w' ∧ Adv ro r s u w u' w' ∧ A s a b ∧ t'.run P w = .ok b w' ∧
    ∀ es e, e ∈ (t'.runT P w es).2 → e ∈ es ∨ EvK ro s e) ∧ (∀ h u', t.run Q u = .halt h u' → KH h) ∧ NS Q t u
end
section
variable {Q P : Program} {ro : Nat → Prop} {α β γ δ : Type} {r : Ren} {A : Ren → α → β → Prop} {B : Ren → γ → δ → Prop}
theorem RS.pure {a : α} {b : β} (h : A r a b) : RS Q P ro r A (Pure.pure a) (Pure.pure b) := by
  intro u w hr
  refine ⟨fun x u' e al => ?_, fun h u' e => (by cases e), trivial⟩
  cases e
  exact ⟨r, b, w, hr, .refl ro r u w, h, rfl, fun es e he => .inl he⟩
theorem RS.dies {t : Sem α} {t' : Sem β} (h : ∀ u, (∃ k u', t.run Q u = .halt k u' ∧ KH k) ∧ NS Q t u) : RS Q P ro r A t t' := fun u w _ =>
  let ⟨⟨k, u', e, hk⟩, hn⟩ := h u
  ⟨fun a u'' e2 _ => (by rw [e] at e2; cases e2), fun k' u'' e2 => (by rw [e] at e2; cases e2; exact hk), hn⟩
theorem RS.halt {h : Halt} {t' : Sem β} (hk : KH h := by trivial) : RS Q P ro r A (Sem.halt h : Sem α) t' := RS.dies fun u => ⟨⟨h, u, rfl, hk⟩, trivial⟩
theorem runT_then (P : Program) (x : Sem α) (f : α → Sem γ) (w : World) (es : Array Event) : (x >>= f).runT P w es = match x.runT P w es with
      | (.ok a w', es') => (f a).runT P w' es'
      | (.halt h w', es') => (.halt h w', es') := Room.Sem.runT_bind P x f w es
theorem ask_more {α : Type} (k : Ask α) : ∀ (w : World), w.drawn ≤ (w.ask k).2.drawn := by
  induction k with
  | done a => intro w; exact Nat.le_refl _
  | ask what range k ih =>
    intro w
    unfold World.ask
    dsimp only
    split
    · exact ih _ _
    · exact Nat.le_trans (Nat.le_succ _) (ih _ { w with drawn := w.drawn + 1 })
theorem sys_more (w : World) (c : Sys) : w.drawn ≤ (w.sys c).2.drawn := by
  unfold World.sys
  have := ask_more (Kernel.perform c w.os) w
  split
  · exact Nat.le_refl _
  · rename_i heq
    rw [heq] at this
    exact this
theorem far_more {Q : Program} {w w' : World} {a : Addr} {v : Value} {m : Bool} {l : List Addr} (e : w.farStore Q a v m = .ok (w', l)) : w'.drawn = w.drawn := by
  unfold World.farStore at e
  split at e
  · split at e
    · cases e
      rename_i h
      unfold World.viewStore at h
      simp only [bind, Except.bind, pure, Except.pure, throw, throwThe, MonadExceptOf.throw] at h
      repeat' (first | (cases h; done) | split at h | (cases h; rfl))
    · cases e
  · cases e
def endW {α : Type} : Result α → World
  | .ok _ w | .halt _ w => w
theorem end_more {α : Type} (Q : Program) (t : Sem α) : ∀ (u : World), u.drawn ≤ (endW (t.run Q u)).drawn := by
  induction t with
  | pure a => intro u; exact Nat.le_refl _
  | load m a k ih =>
    intro u
    simp only [Sem.run]
    split
    · exact ih _ _
    · split
      · exact ih _ _
      · exact Nat.le_refl _
  | store m a v k ih =>
    intro u
    have key : u.drawn ≤ (endW (match u.cell? a with
      | some _ => if u.frozen? a then (Result.halt (.unsupported (.unsafePointer "a write to bytes that a string shares")) u : Result α) else k.run Q (u.setCell a v)
      | none => match u.farStore Q a v (m == Mode.atomic) with
        | .ok (w, _) => k.run Q w
        | .error h => .halt h u)).drawn := by
      split
      · split
        · exact Nat.le_refl _
        · exact ih (u.setCell a v)
      · split
        · rename_i h
          rw [← far_more h]
          exact ih _
        · exact Nat.le_refl _
    cases v <;> first | exact key | exact Nat.le_refl _
  | new o k ih => intro u; exact ih u.heap.size { u with heap := u.heap.push o }
  | shape r k ih => intro u; exact ih _ _
  | freeze a n k ih =>
    intro u
    have := ih (u.freeze a n)
    rwa [show (u.freeze a n).drawn = u.drawn by unfold World.freeze; split <;> rfl] at this
  | frozen a k ih => intro u; exact ih _ _
  | getObj r k ih =>
    intro u
    simp only [Sem.run]
    split
    · exact Nat.le_refl _
    · exact ih _ _
    · exact Nat.le_refl _
  | setObj r o k ih =>
    intro u
    simp only [Sem.run]
    split
    · exact Nat.le_refl _
    · exact ih { u with heap := u.heap.setIfInBounds r o }
    · exact Nat.le_refl _
  | choose q k ih =>
    intro u
    simp only [Sem.run]
    split
    · exact ih _ _
    · exact Nat.le_trans (Nat.le_succ _) (ih _ { u with drawn := u.drawn + 1 })
  | sys c k ih => intro u; exact Nat.le_trans (sys_more u c) (ih _ _)
  | program k ih => intro u; exact ih _ _
  | mark m k ih => intro u; exact ih _
  | halt h => intro u; exact Nat.le_refl _
theorem run_more {α : Type} (Q : Program) (t : Sem α) (u : World) (a : α) (u' : World) (e : t.run Q u = .ok a u') : u.drawn ≤ u'.drawn := by
  have := end_more Q t u
  rw [e] at this
  exact this
theorem run_more_halt {α : Type} (Q : Program) (t : Sem α) (u : World) (h : Halt) (u' : World) (e : t.run Q u = .halt h u') : u.drawn ≤ u'.drawn := by
  have := end_more Q t u
  rw [e] at this
  exact this
theorem RS.bind {t : Sem α} {t' : Sem β} {f : α → Sem γ} {f' : β → Sem δ} (h : RS Q P ro r A t t') (k : ∀ s, RLe r s → ∀ a b, A s a b → RS Q P ro s B (f a) (f' b)) :
    RS Q P ro r B (t >>= f) (t' >>= f') := by
  intro u w hr
  have hr2 : HR P ro r u { w with tape := u.tape, drawn := u.drawn } := ⟨hr.obj, hr.one, hr.inj, hr.old, hr.glo, hr.ug, hr.wg⟩
  have hns : NS Q (t >>= f) u := NS.bind' Q t f u (h u w hr).2.2 fun a u' e1 =>
    let ⟨s, b, w', hs, ad, ha, _⟩ := (h u _ hr2).1 a u' e1 (fun i q _ => rfl)
    (k s ad.le a b ha u' w' hs).2.2
  rw [Sem.run_bind]
  cases e1 : t.run Q u with
  | halt x y => exact ⟨fun c u'' e _ => (by cases e), fun h' u'' e => (by cases e; exact (h u w hr).2.1 _ _ e1), hns⟩
  | ok a u' =>
    have cut : ∀ n, u'.drawn ≤ n → AT u w n → AT u w u'.drawn := fun n hn al i q hi => al i q (Nat.lt_of_lt_of_le hi hn)
    have on : ∀ {s : Ren} {w' : World} {n : Nat}, AT u w n → Adv ro r s u w u' w' → AT u' w' n := by
      intro s w' n al ad i q hi
      have h1 := ad.drawn
      have h2 := ad.more
      rw [ad.utape, ad.tape]
      have := al (u'.drawn - u.drawn + i) q (by omega)
      rw [show u.drawn + (u'.drawn - u.drawn + i) = u'.drawn + i by omega, show w.drawn + (u'.drawn - u.drawn + i) = w'.drawn + i by omega] at this
      exact this
    refine ⟨fun c u'' e al => ?_, fun h' u'' e => ?_, hns⟩
    · have e' : (f a).run Q u' = .ok c u'' := e
      obtain ⟨s, b, w', hs, ad, ha, er, ev⟩ := (h u w hr).1 a u' e1 (cut _ (run_more Q _ _ _ _ e') al)
      obtain ⟨s2, d, w'', hs2, ad2, hb, er2, ev2⟩ := (k s ad.le a b ha u' w' hs).1 c u'' e (on al ad)
      refine ⟨s2, d, w'', hs2, ad.trans ad2, hb, ?_, fun es x hx => ?_⟩
      · rw [Sem.run_bind, er]; exact er2
      · rw [runT_then] at hx
        have e3 := Sem.runT_fst P t' w es
        rw [er] at e3
        cases e4 : t'.runT P w es with
        | mk p es' =>
          rw [e4] at hx e3
          simp only at e3
          subst e3
          rcases ev2 es' x hx with y | y
          · rcases ev es x (by rw [e4]; exact y) with z | z
            · exact .inl z
            · exact .inr (z.mono ad2.le)
          · exact .inr y
    · have e' : (f a).run Q u' = .halt h' u'' := e
      obtain ⟨s, b, w', hs, ad, ha, er, ev⟩ := (h u _ hr2).1 a u' e1 (fun i q _ => rfl)
      exact (k s ad.le a b ha u' w' hs).2.1 _ _ e'
theorem RS.mono {A' : Ren → α → β → Prop} {t : Sem α} {t' : Sem β} (h : RS Q P ro r A t t') (k : ∀ s, RLe r s → ∀ a b, A s a b → A' s a b) : RS Q P ro r A' t t' := by
  intro u w hr
  refine ⟨fun a u' e al => ?_, (h u w hr).2⟩
  obtain ⟨s, b, w', h1, h3, h4, h5, h6⟩ := (h u w hr).1 a u' e al
  exact ⟨s, b, w', h1, h3, k s h3.le a b h4, h5, h6⟩
theorem RS.ite {c : Prop} [Decidable c] {x y : Sem α} {x' y' : Sem β} (h : c → RS Q P ro r A x x') (k : ¬ c → RS Q P ro r A y y') : RS Q P ro r A (if c then x else y) (if c then x' else y') := by
  by_cases hc : c
  · rw [if_pos hc, if_pos hc]; exact h hc
  · rw [if_neg hc, if_neg hc]; exact k hc
theorem RS.glo {t : Sem α} {t' : Sem β} (h : (∀ b c, r b c → P.globals.size ≤ b ∧ P.globals.size ≤ c) → RS Q P ro r A t t') : RS Q P ro r A t t' := fun u w hr => h hr.glo u w hr
theorem RS.uniq {t : Sem α} {t' : Sem β} (h : (∀ b c d, r b c → r b d → c = d) → (∀ b c d, r c b → r d b → c = d) → RS Q P ro r A t t') : RS Q P ro r A t t' := fun u w hr => h hr.one hr.inj u w hr
theorem RS.program {f : Program → Sem α} {f' : Program → Sem β} (h : RS Q P ro r A (f Q) (f' P)) : RS Q P ro r A (program >>= f) (program >>= f') := h
theorem RS.choose (q : Question) : RS Q P ro r (fun _ a b => a = b) (choose q) (choose q) := by
  intro u w hr
  refine ⟨fun a u' e al => ?_, fun h u' e => (by simp only [Go.choose, Sem.run] at e; split at e <;> cases e), (by simp only [Go.choose, NS]; split <;> trivial)⟩
  simp only [Go.choose, Sem.run] at e
  by_cases hq : q.forced
  · rw [if_pos hq] at e
    cases e
    exact ⟨r, 0, w, hr, .refl .., rfl, by simp [Go.choose, Sem.run, hq], fun es e he => .inl (by simpa [Go.choose, Sem.runT, hq] using he)⟩
  · rw [if_neg hq] at e
    cases e
    have := al 0 q (by simp)
    simp only [Nat.add_zero] at this
    refine ⟨r, q.cut (w.tape w.drawn q), { w with drawn := w.drawn + 1 }, ⟨hr.obj, hr.one, hr.inj, hr.old, hr.glo, hr.ug, hr.wg⟩, ⟨.refl r, fun _ _ h => .inl h, fun _ _ _ => rfl, Nat.le_refl _, Nat.le_refl _, rfl, rfl, rfl, rfl, by simp; omega, by simp⟩, by rw [this], by simp [Go.choose, Sem.run, hq],
      fun es e he => .inl (by simpa [Go.choose, Sem.runT, hq] using he)⟩
theorem RS.askRoom (n : Nat) : RS Q P ro r (fun _ _ _ => True) (askRoom n) (askRoom n) := by
  intro u w hr
  refine ⟨fun a u' e al => ?_, fun h u' e => (by rw [Room.run_askRoom] at e; cases e), (by unfold Go.askRoom; split <;> trivial)⟩
  rw [Room.run_askRoom] at e
  cases e
  refine ⟨r, (), w, hr, .refl .., trivial, Room.run_askRoom .., fun es e he => ?_⟩
  rw [Room.runT_askRoom] at he
  split at he
  · rcases Array.mem_push.1 he with x | rfl
    · exact .inl x
    · exact .inr (.inr (.inl rfl))
  · exact .inl he
/-- Reading a cell. -/
theorem HR.row {u w : World} (h : HR P ro r u w) {a a' : Addr} (ha : DR r a a') {v : Value} (e : u.cell? a = some v) :
    ∃ x t fr x' fr', u.heap[a.block]? = some (.cells x t fr) ∧ w.heap[a'.block]? = some (.cells x' t fr') ∧ AR r x x' ∧ (¬ ro a'.block → fr = fr') ∧ (ro a'.block → fr = (0, x.size)) := by
  obtain ⟨o, o', h1, h2, h3⟩ := h.obj _ _ ha.1
  unfold World.cell? at e
  rw [h1] at e
  cases h3 with
  | cells y z q => exact ⟨_, _, _, _, _, h1, h2, y, z, q⟩
  | view _ => cases e
  | number _ => cases e
theorem HR.cell {u w : World} (h : HR P ro r u w) {a a' : Addr} (ha : DR r a a') {v : Value} (e : u.cell? a = some v) : ∃ v', w.cell? a' = some v' ∧ VR r v v' := by
  obtain ⟨x, t, fr, x', fr', h1, h2, h3, _⟩ := h.row ha e
  unfold World.cell? at e ⊢
  rw [h1] at e
  rw [h2, ha.2.1, ha.2.2]
  simp only at e ⊢
  split at e
  · cases e
  · rw [if_neg ‹_›]
    exact h3.get e
end
end Go.Proofs.Ythifdfbdekkmgaa

/- Writing cells, making rows, looking at tables, alike. -/
namespace Go.Proofs.Ythifdfbdekkmgaa
set_option linter.unusedVariables false
section
variable {Q P : Program} {ro : Nat → Prop} {r : Ren}
theorem setCell_at (w : World) (a : Addr) (v : Value) (b : Nat) : (w.setCell a v).heap[b]? = if a.block = b then (w.heap[b]?).map (fun | .cells c e f => .cells (if a.spot.isSome then c else c.setIfInBounds a.off v) e f | o => o) else w.heap[b]? := by
  unfold World.setCell
  simp only
  rw [Array.getElem?_modify]
  rfl
theorem OR.roc {p : Prop} {o o' : Obj} (h : OR False r o o') (k : p → False) : OR p r o o' := by
  cases h with
  | cells x y z => exact .cells x (fun _ => y id) (fun h => (k h).elim)
  | view x => exact .view x
  | number x => exact .number x
/-- A new object. -/
theorem RS.newObj {o o' : Obj} (ho : OR False r o o') : RS Q P ro r (fun s b c => s b c) (newObj o) (newObj o') := by
  intro u w hr
  refine ⟨fun a u' e al => ?_, fun h u' e => (by cases e), trivial⟩
  cases e
  let s : Ren := fun b c => r b c ∨ (b = u.heap.size ∧ c = w.heap.size)
  have le : RLe r s := fun b c h => .inl h
  have lt : ∀ b c, r b c → b < u.heap.size ∧ c < w.heap.size := fun b c h => by
    obtain ⟨_, _, g1, g2, _⟩ := hr.obj b c h
    exact ⟨(Array.getElem?_eq_some_iff.1 g1).1, (Array.getElem?_eq_some_iff.1 g2).1⟩
  refine ⟨s, w.heap.size, { w with heap := w.heap.push o' }, ⟨fun b c hbc => ?_, fun b c d h1 h2 => ?_, fun b c d h1 h2 => ?_, fun c hc => by have := hr.old c hc; simp; omega, fun b c h => ?_, by have := hr.ug; simp; omega, by have := hr.wg; simp; omega⟩,
    ⟨le, fun b c h => ?_, fun c hc _ => by simp [Array.getElem?_push, Nat.ne_of_lt hc], by simp, by simp, rfl, rfl, rfl, rfl, rfl, Nat.le_refl _⟩, Or.inr ⟨rfl, rfl⟩, rfl, fun es z hz => .inl hz⟩
  · rcases hbc with h | ⟨rfl, rfl⟩
    · obtain ⟨o, o', g1, g2, g3⟩ := hr.obj b c h
      have := lt b c h
      exact ⟨o, o', by simp [Array.getElem?_push, Nat.ne_of_lt this.1, g1], by simp [Array.getElem?_push, Nat.ne_of_lt this.2, g2], g3.mono le⟩
    · exact ⟨_, _, by simp, by simp, (ho.roc (fun h => (Nat.lt_irrefl _ (hr.old _ h)).elim)).mono le⟩
  · rcases h1 with h1 | ⟨rfl, rfl⟩ <;> rcases h2 with h2 | ⟨h2, rfl⟩
    · exact hr.one _ _ _ h1 h2
    · have := lt _ _ h1; omega
    · have := lt _ _ h2; omega
    · rfl
  · rcases h1 with h1 | ⟨rfl, rfl⟩ <;> rcases h2 with h2 | ⟨rfl, h2⟩
    · exact hr.inj _ _ _ h1 h2
    · have := lt _ _ h1; omega
    · have := lt _ _ h2; omega
    · rfl
  · rcases h with h | ⟨rfl, rfl⟩
    · exact hr.glo b c h
    · exact ⟨hr.ug, hr.wg⟩
  · rcases h with h | ⟨rfl, rfl⟩
    · exact .inl h
    · exact .inr ⟨Nat.le_refl _, Nat.le_refl _⟩
theorem RS.newRow {t : TypeId} {x x' : Array Value} (hx : AR r x x') : RS Q P ro r (fun s a a' => DR s a a') (newRow t x) (newRow t x') :=
  (RS.newObj (.cells hx (fun _ => rfl) False.elim)).bind fun s _ b c h => .pure ⟨h, rfl, rfl⟩
theorem RS.newVar {t : TypeId} {v v' : Value} (hv : VR r v v') : RS Q P ro r (fun s a a' => DR s a a') (newVar t v) (newVar t v') := RS.newRow hv.cells
theorem RS.shape {b c : Nat} (h : r b c) : RS Q P ro r (fun _ x y => x = y) (shape b) (shape c) := by
  intro u w hr
  refine ⟨fun a u' e al => ?_, fun h u' e => (by cases e), trivial⟩
  cases e
  obtain ⟨o, o', h1, h2, h3⟩ := hr.obj _ _ h
  refine ⟨r, w.shape? c, w, hr, .refl .., ?_, rfl, fun es z hz => .inl hz⟩
  unfold World.shape?
  rw [h1, h2]
  cases h3 with
  | cells x _ _ => simp only [x.1]
  | view _ => rfl
  | number _ => rfl
theorem RS.getObj {b c : Nat} (h : r b c) : RS Q P ro r (fun s o o' => (∃ a a' t, o = .view a t ∧ o' = .view a' t ∧ DR s a a') ∨ ∃ a a' l, o = .number a l ∧ o' = .number a' l ∧ DR s a a') (getObj b) (getObj c) := by
  intro u w hr
  obtain ⟨x, x', h1, h2, h3⟩ := hr.obj _ _ h
  refine ⟨fun o u' e al => ?_, fun k u' e => (by
    simp only [Go.getObj, Sem.run, h1] at e
    cases h3 with
    | cells _ _ _ => cases e; trivial
    | view _ => cases e
    | number _ => cases e), fun _ _ _ => trivial⟩
  simp only [Go.getObj, Sem.run, h1] at e
  cases h3 with
  | cells _ _ _ => cases e
  | view k =>
    cases e
    refine ⟨r, _, w, hr, .refl .., .inl ⟨_, _, _, rfl, rfl, k⟩, by simp only [Go.getObj, Sem.run, h2], fun es z hz => ?_⟩
    simp only [Go.getObj, Sem.runT, h2] at hz
    rcases Array.mem_push.1 hz with y | rfl
    · exact .inl y
    · exact .inr (.inr (.inr (.inr ⟨c, rfl, b, h⟩)))
  | number k =>
    cases e
    refine ⟨r, _, w, hr, .refl .., .inr ⟨_, _, _, rfl, rfl, k⟩, by simp only [Go.getObj, Sem.run, h2], fun es z hz => ?_⟩
    simp only [Go.getObj, Sem.runT, h2] at hz
    rcases Array.mem_push.1 hz with y | rfl
    · exact .inl y
    · exact .inr (.inr (.inr (.inr ⟨c, rfl, b, h⟩)))
theorem RS.viewAt {b c : Nat} (h : r b c) : RS Q P ro r (fun s o o' => (o = none ∧ o' = none) ∨ ∃ a a' t, o = some (a, t) ∧ o' = some (a', t) ∧ DR s a a') (viewAt b) (viewAt c) := by
  unfold Go.viewAt
  refine (RS.shape h).bind fun s le x y e => ?_
  cases e
  cases x with
  | some z => exact RS.pure (.inl ⟨rfl, rfl⟩)
  | none =>
    refine (RS.getObj (le _ _ h)).bind fun s2 l2 o o' e => ?_
    rcases e with ⟨a, a', t, rfl, rfl, k⟩ | ⟨a, a', l, rfl, rfl, k⟩
    · exact RS.pure (.inr ⟨a, a', t, rfl, rfl, k⟩)
    · exact RS.pure (.inl ⟨rfl, rfl⟩)
theorem RS.numberAt {b c : Nat} (h : r b c) : RS Q P ro r (fun s o o' => (o = none ∧ o' = none) ∨ ∃ a a' t, o = some (a, t) ∧ o' = some (a', t) ∧ DR s a a') (numberAt b) (numberAt c) := by
  unfold Go.numberAt
  refine (RS.shape h).bind fun s le x y e => ?_
  cases e
  cases x with
  | some z => exact RS.pure (.inl ⟨rfl, rfl⟩)
  | none =>
    refine (RS.getObj (le _ _ h)).bind fun s2 l2 o o' e => ?_
    rcases e with ⟨a, a', t, rfl, rfl, k⟩ | ⟨a, a', l, rfl, rfl, k⟩
    · exact RS.pure (.inl ⟨rfl, rfl⟩)
    · exact RS.pure (.inr ⟨a, a', l, rfl, rfl, k⟩)
theorem RS.noView {a a' : Addr} (h : DR r a a') : RS Q P ro r (fun _ _ _ => True) (noView a) (noView a') := by
  unfold Go.noView
  refine (RS.viewAt h.1).bind fun s le o o' e => ?_
  rcases e with ⟨rfl, rfl⟩ | ⟨p, q, t, rfl, rfl, k⟩
  · exact RS.pure trivial
  · exact RS.halt
theorem RS.frozen {a a' : Addr} (h : DR r a a') (hro : ¬ ro a'.block) : RS Q P ro r (fun _ x y => x = y) (frozen a) (frozen a') := by
  intro u w hr
  refine ⟨fun b u' e al => ?_, fun h u' e => (by cases e), trivial⟩
  cases e
  obtain ⟨o, o', h1, h2, h3⟩ := hr.obj _ _ h.1
  refine ⟨r, w.frozen? a', w, hr, .refl .., ?_, rfl, fun es z hz => .inl hz⟩
  unfold World.frozen?
  rw [h1, h2]
  cases h3 with
  | cells _ y _ => cases y hro; rw [h.2.1]
  | view _ => rfl
  | number _ => rfl
theorem freeze_at (w : World) (a : Addr) (n b : Nat) : (w.freeze a n).heap[b]? = if n ≠ 0 ∧ a.block = b then (w.heap[b]?).map (fun
      | .cells c elem (lo, hi) => .cells c elem (if lo == hi then (a.off, a.off + n) else (min lo a.off, max hi (a.off + n)))
      | o => o) else w.heap[b]? := by
  unfold World.freeze
  by_cases hn : n = 0
  · simp [hn]
  · rw [if_neg hn]
    simp only
    rw [Array.getElem?_modify]
    simp only [hn, ne_eq, not_false_eq_true, true_and]
    rfl
theorem freeze_rest (w : World) (a : Addr) (n : Nat) : (w.freeze a n).heap.size = w.heap.size ∧ (w.freeze a n).tape = w.tape ∧ (w.freeze a n).drawn = w.drawn ∧ (w.freeze a n).os = w.os ∧ (w.freeze a n).output = w.output := by
  unfold World.freeze
  split <;> simp
theorem RS.freeze {a a' : Addr} (h : DR r a a') (n : Nat) (hro : ¬ ro a'.block) : RS Q P ro r (fun _ _ _ => True) (freeze a n) (freeze a' n) := by
  intro u w hr
  refine ⟨fun b u' e al => ?_, fun h u' e => (by cases e), trivial⟩
  cases e
  obtain ⟨z1, z2, z3, z4, z5⟩ := freeze_rest u a n
  obtain ⟨y1, y2, y3, y4, y5⟩ := freeze_rest w a' n
  refine ⟨r, (), w.freeze a' n, ⟨fun b c hbc => ?_, hr.one, hr.inj, fun c hc => by rw [y1]; exact hr.old c hc, hr.glo, by rw [z1]; exact hr.ug, by rw [y1]; exact hr.wg⟩, ⟨.refl r, fun _ _ h => .inl h, fun c hc k => ?_, by rw [y1]; exact Nat.le_refl _, by rw [z1]; exact Nat.le_refl _, y4, y5, y2, z2, by rw [z3, y3], by rw [z3]; exact Nat.le_refl _⟩, trivial, rfl, fun es z hz => .inl hz⟩
  · obtain ⟨o, o', g1, g2, g3⟩ := hr.obj b c hbc
    by_cases hb : n ≠ 0 ∧ a.block = b
    · obtain ⟨hn, rfl⟩ := hb
      obtain rfl := hr.one _ _ _ h.1 hbc
      refine ⟨_, _, by rw [freeze_at, if_pos ⟨hn, rfl⟩, g1]; rfl, by rw [freeze_at, if_pos ⟨hn, rfl⟩, g2]; rfl, ?_⟩
      cases g3 with
      | cells x y z =>
        rename_i f f'
        obtain ⟨lo, hi⟩ := f
        cases y hro
        exact .cells x (fun _ => by rw [h.2.1]) (fun k => absurd k hro)
      | view x => exact .view x
      | number x => exact .number x
    · have hc : ¬ (n ≠ 0 ∧ a'.block = c) := by
        rintro ⟨hn, rfl⟩
        exact hb ⟨hn, hr.inj _ _ _ h.1 hbc⟩
      exact ⟨o, o', by rw [freeze_at, if_neg hb, g1], by rw [freeze_at, if_neg hc, g2], g3⟩
  · rw [freeze_at, if_neg]
    rintro ⟨_, rfl⟩
    rcases k with k | k
    · exact hro k
    · exact k _ h.1
end
end Go.Proofs.Ythifdfbdekkmgaa

/- Loads and stores, also through memory seen as another type. -/
namespace Go.Proofs.Ythifdfbdekkmgaa
set_option linter.unusedVariables false
/-- No type of the program's has complex numbers. -/
class NoCx (P : Program) : Prop where
  no : ∀ d t o k x y, plainCell P d t o ≠ some (.complex k x y)
/-- A program with other functions: its tables are the same. -/
abbrev Wi (P : Program) (F : Array Func) : Program := { P with funcs := F }
section
variable (P : Program) (F : Array Func)
theorem wi_under (t : TypeId) : (Wi P F).underlying t = P.underlying t := rfl
theorem wi_info (t : TypeId) : (Wi P F).info? t = P.info? t := rfl
theorem wi_plain (d : Nat) : ∀ t o, plainCell (Wi P F) d t o = plainCell P d t o := by
  induction d with
  | zero => intro t o; rfl
  | succ d ih => intro t o; unfold plainCell; simp only [wi_under, ih]; rfl
theorem wi_byte (d : Nat) : ∀ t o, byteOfCell (Wi P F) d t o = byteOfCell P d t o := by
  induction d with
  | zero => intro t o; rfl
  | succ d ih => intro t o; unfold byteOfCell; simp only [wi_under, ih]; rfl
theorem wi_holding (d : Nat) : ∀ t o, cellHolding (Wi P F) d t o = cellHolding P d t o := by
  induction d with
  | zero => intro t o; rfl
  | succ d ih => intro t o; unfold cellHolding; simp only [wi_under, ih]; rfl
theorem wi_tight (d : Nat) : ∀ t, tight (Wi P F) d t = tight P d t := by
  induction d with
  | zero => intro t; rfl
  | succ d ih => intro t; unfold tight; simp only [wi_under, ih]; rfl
theorem bytes_alike {r : Ren} {v v' : Value} (h : VR r v v') : v.bytes? = v'.bytes? ∧ ∀ b, v.bytes? = some b → v = v' := by
  cases h <;> exact ⟨rfl, fun b e => by first | rfl | cases e⟩
theorem ofBytes_plain {v x : Value} {b : List UInt8} (hc : ∀ k x y, v ≠ .complex k x y) (e : v.ofBytes b = some x) (r : Ren) : VR r x x := by
  unfold Value.ofBytes at e
  split at e
  · split at e
    · cases e; exact .bool _
    · cases e; exact .bool _
    · cases e
  · split at e
    · cases e; exact .int _ _
    · cases e
  · split at e
    · cases e; exact .float _ _
    · cases e
  · exact absurd rfl (hc _ _ _)
  · cases e
theorem VR.noCx {r : Ren} {v v' : Value} (h : VR r v v') : ∀ k x y, v ≠ .complex k x y := by cases h <;> (intro k x y e; cases e)
theorem ofBytes_alike {r : Ren} {v v' : Value} (h : VR r v v') (b : List UInt8) : v.ofBytes b = v'.ofBytes b := by cases h <;> rfl
theorem seenCells_alike {r : Ren} {c c' : Array Value} (h : AR r c c') (e : TypeId) (f : Nat) : ∀ x stop, seenCells (Wi P F) c e f x stop = seenCells P c' e f x stop := by
  induction f with
  | zero => intro x stop; rfl
  | succ f ih =>
    intro x stop
    unfold seenCells
    simp only [wi_holding]
    split
    · rfl
    · have e1 : (Wi P F).bytesOf e = P.bytesOf e := rfl
      have e2 : (Wi P F).cellsOf e = P.cellsOf e := rfl
      have e3 : (Wi P F).depth = P.depth := rfl
      rw [e1, e2, e3]
      split
      · rfl
      · split
        · rfl
        · rename_i i s _
          rcases h.cases i with ⟨g, g'⟩ | ⟨v, v', g, g', hv⟩
          · rw [g, g']
          · rw [g, g']
            simp only
            rw [← (bytes_alike hv).1]
            split
            · rfl
            · rfl
            · rw [ih]
end
instance {P : Program} {F : Array Func} [h : NoCx P] : NoCx (Wi P F) := ⟨fun d t o k x y => by rw [wi_plain]; exact h.no d t o k x y⟩
section
variable {P : Program} [NoCx P] {F : Array Func} {ro : Nat → Prop} {r : Ren}
theorem seen_alike {u w : World} {a a' : Addr} {t : TypeId} {k k' : Addr} (ha : a'.off = a.off ∧ a'.spot = a.spot) (hk : k'.off = k.off ∧ k'.spot = k.spot) (m : Bool) {x x' : Array Value} {e : TypeId} {fr fr' : Nat × Nat}
    (h1 : u.heap[a.block]? = some (.cells x e fr)) (h2 : w.heap[a'.block]? = some (.cells x' e fr')) (hx : AR r x x') :
    (∃ q, u.seen (Wi P F) a t k m = .error q) ∨ ∃ first like cells, (∀ k x y, like ≠ .complex k x y) ∧ u.seen (Wi P F) a t k m = .ok (x, e, fr, first, like, cells) ∧ w.seen P a' t k' m = .ok (x', e, fr', first, like, cells) := by
  unfold World.seen
  simp only [bind, Except.bind, pure, Except.pure]
  rw [ha.1, ha.2, hk.1, hk.2, h1, h2]
  have e1 : (Wi P F).bytesOf = P.bytesOf := rfl
  have e2 : (Wi P F).cellsOf = P.cellsOf := rfl
  have e3 : (Wi P F).depth = P.depth := rfl
  rw [e1, e2, e3]
  by_cases g1 : (k.spot.isSome || a.spot.isSome) = true
  · left; simp only [if_pos g1]; exact ⟨_, rfl⟩
  simp only [if_neg g1, wi_plain, wi_byte]
  cases hpc : plainCell P P.depth t k.off with
  | none => left; exact ⟨_, rfl⟩
  | some like =>
    have hcx : ∀ k x y, like ≠ .complex k x y := fun a b c e => NoCx.no P.depth t k.off a b c (by rw [hpc, e])
    dsimp only
    cases Option.map (fun x => x.length) like.bytes? with
    | none => left; exact ⟨_, rfl⟩
    | some size =>
      dsimp only
      cases byteOfCell P P.depth t k.off with
      | none => left; exact ⟨_, rfl⟩
      | some β =>
        dsimp only
        by_cases g2 : P.cellsOf e = 0
        · left; simp only [if_pos g2]; exact ⟨_, rfl⟩
        simp only [if_neg g2]
        cases byteOfCell P P.depth e (a.off % P.cellsOf e) with
        | none => left; exact ⟨_, rfl⟩
        | some b0 =>
          dsimp only
          rw [seenCells_alike P F hx]
          cases seenCells P x' e (size + 1) (a.off / P.cellsOf e * P.bytesOf e + b0 + β) (a.off / P.cellsOf e * P.bytesOf e + b0 + β + size) with
          | error q => left; exact ⟨_, rfl⟩
          | ok cells =>
            dsimp only
            by_cases g3 : m = true
            · simp only [if_pos g3]
              split
              · rename_i s bs
                by_cases g4 : (decide (s ≠ a.off / P.cellsOf e * P.bytesOf e + b0 + β) || decide (bs.length ≠ size)) = true
                · left; simp only [if_pos g4]; exact ⟨_, rfl⟩
                · right; simp only [if_neg g4]; exact ⟨_, _, _, hcx, rfl, rfl⟩
              · left; exact ⟨_, rfl⟩
            · simp only [if_neg g3]
              right
              exact ⟨_, _, _, hcx, rfl, rfl⟩
/-- Loads through a view. -/
theorem far_load {u w : World} (hr : HR P ro r u w) {a a' : Addr} (ha : DR r a a') (m : Bool) (hn : u.cell? a = none) {v : Value} {l : List Addr} (e : u.farLoad (Wi P F) a m = .ok (v, l)) :
    ∃ v' l', w.cell? a' = none ∧ w.farLoad P a' m = .ok (v', l') ∧ VR r v v' ∧ ∀ x ∈ l', ∃ b, r b x.block := by
  obtain ⟨o, o', h1, h2, h3⟩ := hr.obj _ _ ha.1
  unfold World.farLoad at e ⊢
  rw [h1] at e
  rw [h2]
  cases h3 with
  | cells _ _ _ => unfold World.noCell at e; rw [h1] at e; cases e
  | number _ => unfold World.noCell at e; rw [h1] at e; cases e
  | view hv =>
    rename_i p p' t
    have hc : w.cell? a' = none := by unfold World.cell?; rw [h2]
    simp only at e ⊢
    obtain ⟨q, q', g1, g2, g3⟩ := hr.obj _ _ hv.1
    unfold World.viewLoad at e ⊢
    simp only [bind, Except.bind, pure, Except.pure] at e ⊢
    cases g3 with
    | number _ =>
      exfalso
      have : ∃ q, u.seen (Wi P F) p t a m = .error q := by
        unfold World.seen
        simp only [bind, Except.bind, pure, Except.pure]
        rw [g1]
        repeat' (first | exact ⟨_, rfl⟩ | split)
      obtain ⟨q, hq⟩ := this
      rw [hq] at e
      cases e
    | view _ =>
      exfalso
      have : ∃ q, u.seen (Wi P F) p t a m = .error q := by
        unfold World.seen
        simp only [bind, Except.bind, pure, Except.pure]
        rw [g1]
        repeat' (first | exact ⟨_, rfl⟩ | split)
      obtain ⟨q, hq⟩ := this
      rw [hq] at e
      cases e
    | cells hx _ _ =>
      rcases seen_alike (P := P) (F := F) hv.2 ha.2 m g1 g2 hx (t := t) with ⟨q, hq⟩ | ⟨first, like, cells, hcx, k1, k2⟩
      · rw [hq] at e; cases e
      · rw [k1] at e
        rw [k2]
        dsimp only at e ⊢
        cases hb : like.ofBytes (cells.flatMap fun x => (x.2.2.drop (first - x.2.1)).take (first + (Option.map (fun x => x.length) like.bytes?).getD 0 - max first x.2.1)) with
        | none => rw [hb] at e; cases e
        | some y =>
          rw [hb] at e
          cases e
          refine ⟨_, _, hc, rfl, ?_, fun z hz => ?_⟩
          · exact ofBytes_plain hcx hb r
          · simp only [List.mem_map] at hz
            obtain ⟨z0, _, rfl⟩ := hz
            exact ⟨_, hv.1⟩
theorem fold2 {β : Type} {f f' : Array Value → β → Except String (Array Value)} {n : Nat} {X : Prop} (step : ∀ c c' q d, AR r c c' → c.size = n → f c q = .ok d → X ∧ d.size = n ∧ ∃ d', f' c' q = .ok d' ∧ AR r d d') :
    ∀ (cells : List β) {c c' d : Array Value} {res : Except String (Array Value)}, AR r c c' → c.size = n → cells.foldlM f c = .ok d → cells.foldlM f' c' = res →
      (∃ d', res = .ok d' ∧ AR r d d') ∧ d.size = n ∧ (X ∨ (cells = [] ∧ d = c ∧ res = .ok c')) := by
  intro cells
  induction cells with
  | nil => intro c c' d res h hn e e'; cases e; cases e'; exact ⟨⟨c', rfl, h⟩, hn, .inr ⟨rfl, rfl, rfl⟩⟩
  | cons q cells ih =>
    intro c c' d res h hn e e'
    rw [List.foldlM_cons] at e e'
    simp only [bind, Except.bind] at e e'
    cases hq : f c q with
    | error x => rw [hq] at e; cases e
    | ok c1 =>
      rw [hq] at e
      obtain ⟨hX, h1, d1, h2, h3⟩ := step c c' q c1 h hn hq
      rw [h2] at e'
      obtain ⟨k1, k2, _⟩ := ih h3 h1 e e'
      exact ⟨k1, k2, .inl hX⟩
theorem far_store {u w : World} (hr : HR P ro r u w) {a a' : Addr} (ha : DR r a a') {v v' : Value} (hv : VR r v v') (m : Bool) (hn : u.cell? a = none) {u' : World} {l : List Addr} (e : u.farStore (Wi P F) a v m = .ok (u', l)) :
    ∃ w' l', w.cell? a' = none ∧ w.farStore P a' v' m = .ok (w', l') ∧ HR P ro r u' w' ∧ Adv ro r r u w u' w' ∧ ∀ x ∈ l', (∃ b, r b x.block) ∧ ¬ ro x.block := by
  obtain ⟨o, o', h1, h2, h3⟩ := hr.obj _ _ ha.1
  unfold World.farStore at e ⊢
  rw [h1] at e
  rw [h2]
  cases h3 with
  | cells _ _ _ => unfold World.noCell at e; rw [h1] at e; cases e
  | number _ => unfold World.noCell at e; rw [h1] at e; cases e
  | view hp =>
    rename_i p p' t
    have hc : w.cell? a' = none := by unfold World.cell?; rw [h2]
    simp only at e ⊢
    obtain ⟨q, q', g1, g2, g3⟩ := hr.obj _ _ hp.1
    unfold World.viewStore at e ⊢
    simp only [bind, Except.bind, pure, Except.pure, wi_tight] at e ⊢
    have e3 : (Wi P F).depth = P.depth := rfl
    rw [e3] at e
    by_cases ht : (!tight P P.depth t) = true
    · simp only [if_pos ht] at e; cases e
    simp only [if_neg ht] at e ⊢
    cases g3 with
    | number _ =>
      exfalso
      have : ∃ q, u.seen (Wi P F) p t a m = .error q := by
        unfold World.seen
        simp only [bind, Except.bind, pure, Except.pure]
        rw [g1]
        repeat' (first | exact ⟨_, rfl⟩ | split)
      obtain ⟨q, hq⟩ := this
      rw [hq] at e
      cases e
    | view _ =>
      exfalso
      have : ∃ q, u.seen (Wi P F) p t a m = .error q := by
        unfold World.seen
        simp only [bind, Except.bind, pure, Except.pure]
        rw [g1]
        repeat' (first | exact ⟨_, rfl⟩ | split)
      obtain ⟨q, hq⟩ := this
      rw [hq] at e
      cases e
    | cells hx y z =>
      rename_i x x' et fr fr'
      rcases seen_alike (P := P) (F := F) hp.2 ha.2 m g1 g2 hx (t := t) with ⟨q, hq⟩ | ⟨first, like, cells, hcx, k1, k2⟩
      · rw [hq] at e; cases e
      · rw [k1] at e
        rw [k2]
        dsimp only at e ⊢
        rw [← (bytes_alike hv).1]
        cases hb : v.bytes? with
        | none => rw [hb] at e; cases e
        | some bytes =>
          rw [hb] at e
          dsimp only at e ⊢
          by_cases hl : some bytes.length ≠ Option.map (fun x => x.length) like.bytes?
          · simp only [if_pos hl] at e; cases e
          simp only [if_neg hl] at e ⊢
          generalize hf : List.foldlM (m := Except String) _ x cells = res at e
          generalize hf' : List.foldlM (m := Except String) _ x' cells = res'
          cases res with
          | error q => cases e
          | ok d =>
            cases e
            have hstep := fold2 (r := r) (n := x.size) (X := fr ≠ (0, x.size)) (fun c c' q d hcc hcn hq => ?_) cells hx rfl hf hf'
            · obtain ⟨⟨d', rfl, hd⟩, hdn, hX⟩ := hstep
              have hlt1 := (Array.getElem?_eq_some_iff.1 g1).1
              have hlt2 := (Array.getElem?_eq_some_iff.1 g2).1
              have same : ro p'.block → d = x ∧ d' = x' ∧ cells = [] := fun h => by
                rcases hX with h' | ⟨rfl, rfl, e⟩
                · exact absurd (z h) h'
                · cases e; exact ⟨rfl, rfl, rfl⟩
              refine ⟨_, _, hc, rfl, ⟨fun b c hbc => ?_, hr.one, hr.inj, fun c hc => by simpa using hr.old c hc, hr.glo, by simpa using hr.ug, by simpa using hr.wg⟩, ⟨.refl r, fun _ _ h => .inl h, fun c hc h => ?_, by simp, by simp, rfl, rfl, rfl, rfl, rfl, Nat.le_refl _⟩, fun y hy => ?_⟩
              · obtain ⟨o1, o2, j1, j2, j3⟩ := hr.obj b c hbc
                by_cases hb' : p.block = b
                · subst hb'
                  obtain rfl := hr.one _ _ _ hp.1 hbc
                  exact ⟨.cells d et fr, .cells d' et fr', by simp [hlt1], by simp [hlt2], .cells hd y (fun h => by rw [z h, hdn])⟩
                · have hc' : p'.block ≠ c := by
                    rintro rfl
                    exact hb' (hr.inj _ _ _ hp.1 hbc)
                  exact ⟨o1, o2, by simp [Array.getElem?_setIfInBounds_ne hb', j1], by simp [Array.getElem?_setIfInBounds_ne hc', j2], j3⟩
              · show (w.heap.setIfInBounds p'.block _)[c]? = _
                by_cases hpc : p'.block = c
                · subst hpc
                  rcases h with h | h
                  · obtain ⟨_, rfl, _⟩ := same h
                    rw [Array.getElem?_setIfInBounds_self_of_lt hlt2, g2]
                  · exact absurd hp.1 (h _)
                · rw [Array.getElem?_setIfInBounds_ne hpc]
              · simp only [List.mem_map] at hy
                obtain ⟨q0, hq0, rfl⟩ := hy
                refine ⟨⟨_, hp.1⟩, fun h => ?_⟩
                obtain ⟨_, _, hnil⟩ := same h
                rw [hnil] at hq0
                cases hq0
            · split at hq
              · cases hq
              rename_i hb1
              split at hq
              · cases hq
              rename_i hz1
              rcases hcc.cases q.1 with ⟨g, g'⟩ | ⟨y1, y2, g, g', hy⟩
              · rw [g] at hq; cases hq
              rw [g] at hq
              simp only at hq
              have hlt : q.1 < x.size := by rw [← hcn]; exact (Array.getElem?_eq_some_iff.1 g).1
              have hne : fr ≠ (0, x.size) := by
                rintro rfl
                apply hz1
                simp [hlt]
              have hff : fr = fr' := by
                by_cases h : ro p'.block
                · exact absurd (z h) hne
                · exact y h
              cases ho : y1.ofBytes ((bytes.drop (q.2.1 - first)).take q.2.2.length) with
              | none => rw [ho] at hq; cases hq
              | some nv =>
                rw [ho] at hq
                cases hq
                refine ⟨hne, by simpa using hcn, c'.setIfInBounds q.1 nv, ?_, hcc.set q.1 (ofBytes_plain hy.noCx ho r)⟩
                rw [if_neg hb1, ← hff, if_neg hz1, g']
                simp only
                rw [← ofBytes_alike hy _, ho]
theorem far_halt {u w : World} (hr : HR P ro r u w) {a a' : Addr} (ha : DR r a a') (Q : Program) (m : Bool) {k : Halt} (e : u.farLoad Q a m = .error k) : KH k := by
  obtain ⟨x, x', h1, h2, h3⟩ := hr.obj _ _ ha.1
  unfold World.farLoad World.noCell at e
  rw [h1] at e
  cases h3 with
  | cells _ _ _ => cases e; trivial
  | number _ => cases e; trivial
  | view _ =>
    simp only at e
    split at e
    · cases e
    · cases e; trivial
theorem far_haltS {u w : World} (hr : HR P ro r u w) {a a' : Addr} (ha : DR r a a') (Q : Program) (v : Value) (m : Bool) {k : Halt} (e : u.farStore Q a v m = .error k) : KH k := by
  obtain ⟨x, x', h1, h2, h3⟩ := hr.obj _ _ ha.1
  unfold World.farStore World.noCell at e
  rw [h1] at e
  cases h3 with
  | cells _ _ _ => cases e; trivial
  | number _ => cases e; trivial
  | view _ =>
    simp only at e
    split at e
    · cases e
    · cases e; trivial
theorem RS.load {a a' : Addr} (ha : DR r a a') : RS (Wi P F) P ro r (fun s v v' => VR s v v') (load a) (load a') := by
  intro u w hr
  refine ⟨fun v u' e al => ?_, fun k u' e => (by
    simp only [Go.load, Sem.run] at e
    split at e
    · cases e
    · split at e
      · cases e
      · rename_i hy
        cases e; exact far_halt hr ha _ _ hy), fun _ _ _ => trivial⟩
  simp only [Go.load, Sem.run] at e
  cases ec : u.cell? a with
  | none =>
    rw [ec] at e
    simp only at e
    split at e
    · rename_i x y hy
      cases e
      obtain ⟨v', l', h1, h2, h3, h4⟩ := far_load hr ha _ ec hy
      refine ⟨r, v', w, hr, .refl .., h3, by simp only [Go.load, Sem.run, h1, h2], fun es e he => ?_⟩
      simp only [Go.load, Sem.runT, h1, h2] at he
      rcases Array.mem_append.1 he with x | x
      · exact .inl x
      · obtain ⟨y, hy, rfl⟩ := Array.mem_map.1 x
        exact .inr (.inl ⟨y, false, rfl, h4 y (by simpa using hy), fun h => by cases h⟩)
    · cases e
  | some x =>
    rw [ec] at e
    cases e
    obtain ⟨v', e', hv⟩ := hr.cell ha ec
    refine ⟨r, v', w, hr, .refl .., hv, by simp [Go.load, Sem.run, e'], fun es e he => ?_⟩
    simp only [Go.load, Sem.runT, e'] at he
    rcases Array.mem_push.1 he with x | rfl
    · exact .inl x
    · exact .inr (.inl ⟨a', false, rfl, ⟨_, ha.1⟩, fun h => by cases h⟩)
theorem RS.store {a a' : Addr} (ha : DR r a a') {v v' : Value} (hv : VR r v v') : RS (Wi P F) P ro r (fun _ _ _ => True) (store a v) (store a' v') := by
  intro u w hr
  refine ⟨fun x u' e al => ?_, fun k u' e => (by
    cases v <;> simp only [Go.store, Sem.run] at e
    all_goals first
    | (cases e; trivial)
    | (split at e
       · split at e
         · cases e; trivial
         · cases e
       · split at e
         · cases e
         · rename_i hy
           cases e; exact far_haltS hr ha _ _ _ hy)), fun _ _ _ => trivial⟩
  have na : (∀ c, v ≠ .agg c) ∧ ∀ c, v ≠ .tuple c := by
    refine ⟨fun c h => ?_, fun c h => ?_⟩ <;> (subst h; simp only [Go.store, Sem.run] at e; cases e)
  have nb : (∀ c, v' ≠ .agg c) ∧ ∀ c, v' ≠ .tuple c := by
    refine ⟨fun c h => ?_, fun c h => ?_⟩
    · subst h; cases hv; exact na.1 _ rfl
    · subst h; cases hv; exact na.2 _ rfl
  have run1 : ∀ (Q : Program) (w : World) (a : Addr) (v : Value), (∀ c, v ≠ .agg c) → (∀ c, v ≠ .tuple c) → (Go.store a v).run Q w = match w.cell? a with
      | some _ => if w.frozen? a then .halt (.unsupported (.unsafePointer "a write to bytes that a string shares")) w else .ok () (w.setCell a v)
      | none => match w.farStore Q a v (Mode.plain == .atomic) with
        | .ok (w, _) => .ok () w
        | .error h => .halt h w := by
    intro Q w a v h1 h2
    cases v <;> first | rfl | exact absurd rfl (h1 _) | exact absurd rfl (h2 _)
  have runT1 : ∀ (w : World) (a : Addr) (v : Value) (es : Array Event), (∀ c, v ≠ .agg c) → (∀ c, v ≠ .tuple c) → (Go.store a v).runT P w es = match w.cell? a with
      | some _ => if w.frozen? a then (.halt (.unsupported (.unsafePointer "a write to bytes that a string shares")) w, es) else (.ok () (w.setCell a v), es.push ⟨.cell a, true, false⟩)
      | none => match w.farStore P a v (Mode.plain == .atomic) with
        | .ok (w, t) => (.ok () w, es ++ t.toArray.map (⟨.cell ·, true, false⟩))
        | .error h => (.halt h w, es) := by
    intro w a v es h1 h2
    cases v <;> first | rfl | exact absurd rfl (h1 _) | exact absurd rfl (h2 _)
  rw [run1 _ u a v na.1 na.2] at e
  cases ec : u.cell? a with
  | none =>
    rw [ec] at e
    simp only at e
    split at e
    · rename_i p q hy
      cases e
      obtain ⟨w', l', h1, h2, h3, h4, h7⟩ := far_store hr ha hv _ ec hy
      refine ⟨r, (), w', h3, h4, trivial, by rw [run1 _ w a' v' nb.1 nb.2, h1]; simp only [h2], fun es z hz => ?_⟩
      rw [runT1 w a' v' es nb.1 nb.2, h1] at hz
      simp only [h2] at hz
      rcases Array.mem_append.1 hz with x | x
      · exact .inl x
      · obtain ⟨y, hy, rfl⟩ := Array.mem_map.1 x
        have := h7 y (by simpa using hy)
        exact .inr (.inl ⟨y, true, rfl, this.1, fun _ => this.2⟩)
    · cases e
  | some x0 =>
    rw [ec] at e
    simp only at e
    split at e
    · cases e
    rename_i hf
    cases e
    obtain ⟨v0, e', hv0⟩ := hr.cell ha ec
    obtain ⟨y, t, fr, y', fr', h1, h2, h3, h4, h5⟩ := hr.row ha ec
    have hlt : a.off < y.size := by
      unfold World.cell? at ec
      rw [h1] at ec
      simp only at ec
      split at ec
      · cases ec
      · exact (Array.getElem?_eq_some_iff.1 ec).1
    have hnro : ¬ ro a'.block := by
      intro h
      apply hf
      unfold World.frozen?
      rw [h1, h5 h]
      simp [hlt]
    have hf' : w.frozen? a' = false := by
      unfold World.frozen? at hf ⊢
      rw [h1] at hf
      rw [h2, ← h4 hnro, ha.2.1]
      simpa using hf
    refine ⟨r, (), w.setCell a' v', ⟨fun b c hbc => ?_, hr.one, hr.inj, fun c hc => by simpa [World.setCell] using hr.old c hc, hr.glo, by simpa [World.setCell] using hr.ug, by simpa [World.setCell] using hr.wg⟩, ⟨.refl r, fun _ _ h => .inl h, fun c hc h => ?_, by simp [World.setCell], by simp [World.setCell], rfl, rfl, rfl, rfl, rfl, Nat.le_refl _⟩, trivial, ?_, fun es z hz => ?_⟩
    · obtain ⟨o, o', g1, g2, g3⟩ := hr.obj b c hbc
      by_cases hb : a.block = b
      · subst hb
        obtain rfl := hr.one _ _ _ ha.1 hbc
        refine ⟨_, _, by rw [setCell_at, if_pos rfl, g1]; rfl, by rw [setCell_at, if_pos rfl, g2]; rfl, ?_⟩
        rw [h1] at g1
        rw [h2] at g2
        cases g1; cases g2
        refine .cells ?_ h4 (fun h => absurd h hnro)
        rw [ha.2.1, ha.2.2]
        split
        · exact h3
        · exact h3.set _ hv
      · have hc : a'.block ≠ c := by
          rintro rfl
          exact hb (hr.inj _ _ _ ha.1 hbc)
        exact ⟨o, o', by rw [setCell_at, if_neg hb, g1], by rw [setCell_at, if_neg hc, g2], g3⟩
    · rw [setCell_at, if_neg]
      rintro rfl
      rcases h with h | h
      · exact hnro h
      · exact h _ ha.1
    · rw [run1 _ w a' v' nb.1 nb.2, e']
      simp only [hf']
      rfl
    · rw [runT1 w a' v' es nb.1 nb.2, e'] at hz
      simp only [hf'] at hz
      rcases Array.mem_push.1 hz with x | rfl
      · exact .inl x
      · exact .inr (.inl ⟨a', true, rfl, ⟨_, ha.1⟩, fun _ => hnro⟩)
end
end Go.Proofs.Ythifdfbdekkmgaa

/- The tables, numbers, rows of cells, alike. -/
namespace Go.Proofs.Ythifdfbdekkmgaa
set_option linter.unusedVariables false
/-- It halts, if at all, as is told. -/
def Mild {α : Type} (t : Sem α) : Prop := ∀ (P : Program) (u : World), (∀ h u', t.run P u = .halt h u' → KH h) ∧ NS P t u
/-- It never comes to an end that is one. -/
def Dies {α : Type} (t : Sem α) : Prop := ∀ (P : Program) (u : World), (∃ h u', t.run P u = .halt h u' ∧ KH h) ∧ NS P t u
theorem Mild.pure {α : Type} (a : α) : Mild (Pure.pure a : Sem α) := fun P u => ⟨fun h u' e => (by cases e), trivial⟩
theorem Mild.halt {α : Type} {h : Halt} (k : KH h := by trivial) : Mild (Sem.halt h : Sem α) := fun P u => ⟨fun h' u' e => (by cases e; exact k), trivial⟩
theorem Mild.bind {α β : Type} {t : Sem α} {f : α → Sem β} (h : Mild t) (k : ∀ a, Mild (f a)) : Mild (t >>= f) := by
  intro P u
  refine ⟨fun h' u' e => ?_, NS.bind' P t f u (h P u).2 fun a u' _ => (k a P u').2⟩
  rw [Sem.run_bind] at e
  cases h1 : t.run P u with
  | halt x y => rw [h1] at e; cases e; exact (h P u).1 _ _ h1
  | ok a u1 => rw [h1] at e; exact (k a P u1).1 _ _ e
theorem Mild.choose (q : Question) : Mild (Go.choose q) := fun P u => ⟨fun h u' e => (by simp only [Go.choose, Sem.run] at e; split at e <;> cases e), (by simp only [Go.choose, NS]; split <;> trivial)⟩
theorem Mild.shape (b : Nat) : Mild (Go.shape b) := fun P u => ⟨fun h u' e => (by cases e), trivial⟩
theorem Mild.frozen (a : Addr) : Mild (Go.frozen a) := fun P u => ⟨fun h u' e => (by cases e), trivial⟩
theorem Mild.newObj (o : Obj) : Mild (Go.newObj o) := fun P u => ⟨fun h u' e => (by cases e), trivial⟩
theorem Mild.mark (m : Mark) : Mild (Go.mark m) := fun P u => ⟨fun h u' e => (by cases e), trivial⟩
theorem Mild.program : Mild Go.program := fun P u => ⟨fun h u' e => (by cases e), trivial⟩
theorem Mild.typeInfo (t : TypeId) : Mild (Go.typeInfo t) := Mild.bind Mild.program fun p => by
  cases p.info? t with
  | none => exact Mild.halt
  | some i => exact Mild.pure _
theorem Mild.underlying (t : TypeId) : Mild (Go.underlying t) := Mild.bind Mild.program fun p => by
  cases p.underlying t with
  | none => exact Mild.halt
  | some i => exact Mild.pure _
theorem Mild.sizeOf (t : TypeId) : Mild (Go.sizeOf t) := Mild.bind (Mild.typeInfo t) fun i => Mild.pure _
theorem Mild.askRoom (n : Nat) : Mild (Go.askRoom n) := fun P u => ⟨fun h u' e => (by rw [Room.run_askRoom] at e; cases e), (by unfold Go.askRoom; split <;> trivial)⟩
theorem Mild.elemOf (t : TypeId) : Mild (Go.elemOf t) := Mild.bind (Mild.underlying t) fun d => by cases d <;> first | exact Mild.pure _ | exact Mild.halt
theorem Mild.ite {α : Type} {c : Prop} [Decidable c] {x y : Sem α} (h : Mild x) (k : Mild y) : Mild (if c then x else y) := by split <;> assumption
theorem Dies.halt {α : Type} (h : Halt) (k : KH h := by trivial) : Dies (Sem.halt h : Sem α) := fun P u => ⟨⟨h, u, rfl, k⟩, trivial⟩
theorem Dies.mild {α : Type} {t : Sem α} (h : Dies t) : Mild t := fun P u => ⟨fun k u' e => (by
  obtain ⟨⟨k', u'', e', hk⟩, _⟩ := h P u
  rw [e'] at e; cases e; exact hk), (h P u).2⟩
theorem Dies.bind {α β : Type} {t : Sem α} {f : α → Sem β} (m : Mild t) (h : ∀ a, Dies (f a)) : Dies (t >>= f) := by
  intro P u
  refine ⟨?_, NS.bind' P t f u (m P u).2 fun a u' _ => (h a P u').2⟩
  rw [Sem.run_bind]
  cases h1 : t.run P u with
  | halt x y => exact ⟨x, y, rfl, (m P u).1 _ _ h1⟩
  | ok a u1 => exact (h a P u1).1
theorem Dies.bind_left {α β : Type} {t : Sem α} {f : α → Sem β} (h : Dies t) : Dies (t >>= f) := by
  intro P u
  obtain ⟨⟨k, u', e, hk⟩, hn⟩ := h P u
  refine ⟨?_, NS.bind' P t f u hn fun a u'' e2 => by rw [e] at e2; cases e2⟩
  rw [Sem.run_bind]
  rw [e]
  exact ⟨k, u', rfl, hk⟩
theorem Mild.env : Mild (Go.sys .env) := fun P u => ⟨fun h u' e => (by cases e), rfl, trivial⟩
theorem Dies.ite {α : Type} {c : Prop} [Decidable c] {x y : Sem α} (h : Dies x) (k : Dies y) : Dies (if c then x else y) := by split <;> assumption
theorem Dies.goPanic {α : Type} (v : Value) : Dies (goPanic v : Sem α) := Dies.halt _
theorem Dies.runtimePanic {α : Type} (e : RuntimeError) : Dies (runtimePanic e : Sem α) := by
  unfold Go.runtimePanic
  refine Dies.bind Mild.program fun p => ?_
  cases e <;> first | exact Dies.goPanic _ | exact Dies.bind (Mild.elemOf _) fun _ => Dies.bind (Mild.bind (Mild.bind (Mild.newObj _) fun _ => Mild.pure _) fun _ => Mild.pure _) fun _ => Dies.goPanic _ | exact Dies.bind (Mild.elemOf _) fun _ => Dies.bind (Mild.bind (Mild.newObj _) fun _ => Mild.pure _) fun _ => Dies.goPanic _
theorem Dies.boundsPanic {α : Type} (k : IntKind) (x y : Int) (c : BoundsCode) : Dies (boundsPanic k x y c : Sem α) := by
  unfold Go.boundsPanic
  dsimp only
  split
  · exact Dies.bind (Mild.bind (Mild.choose _) fun _ => Mild.pure _) fun _ => Dies.runtimePanic _
  · exact Dies.bind (Mild.pure _) fun _ => Dies.runtimePanic _
section
variable {P : Program} [NoCx P] {F : Array Func} {ro : Nat → Prop} {r : Ren} {α β : Type} {A : Ren → α → β → Prop}
theorem RS.dead {Q : Program} {t : Sem α} {t' : Sem β} (h : Dies t) : RS Q P ro r A t t' := RS.dies fun u => h Q u
theorem RS.typeInfo (t : TypeId) : RS (Wi P F) P ro r (fun _ a b => a = b ∧ P.info? t = some a) (typeInfo t) (typeInfo t) := by
  refine RS.program ?_
  have e : (Wi P F).info? t = P.info? t := rfl
  simp only [e]
  cases h : P.info? t with
  | none => exact RS.halt
  | some i => exact RS.pure ⟨rfl, rfl⟩
theorem RS.underlying (t : TypeId) : RS (Wi P F) P ro r (fun _ a b => a = b ∧ P.underlying t = some a) (underlying t) (underlying t) := by
  refine RS.program ?_
  have e : (Wi P F).underlying t = P.underlying t := rfl
  simp only [e]
  cases h : P.underlying t with
  | none => exact RS.halt
  | some i => exact RS.pure ⟨rfl, rfl⟩
/-- What is zero of each type names no memory. -/
def Zs (P : Program) : Prop := ∀ t i v, P.info? t = some i → i.zero = some v → ∀ r, VR r v v
theorem RS.zeroValue (hz : Zs P) (t : TypeId) : RS (Wi P F) P ro r (fun _ a b => a = b ∧ ∀ s, VR s a b) (zeroValue t) (zeroValue t) := by
  refine (RS.typeInfo t).bind fun s le a b h => ?_
  obtain ⟨rfl, h⟩ := h
  cases e : a.zero with
  | none => exact RS.halt
  | some v => exact RS.pure ⟨rfl, hz _ _ _ h e⟩
theorem RS.sizeOf (t : TypeId) : RS (Wi P F) P ro r (fun _ a b => a = b) (Go.sizeOf t) (Go.sizeOf t) := by
  refine (RS.typeInfo t).bind fun s le a b h => ?_
  obtain ⟨rfl, h⟩ := h
  exact RS.pure rfl
theorem RS.isAgg (t : TypeId) : RS (Wi P F) P ro r (fun _ a b => a = b) (isAgg t) (isAgg t) := by
  refine (RS.underlying t).bind fun s le a b h => ?_
  obtain ⟨rfl, h⟩ := h
  cases a <;> exact RS.pure rfl
theorem RS.elemOf (t : TypeId) : RS (Wi P F) P ro r (fun _ a b => a = b) (elemOf t) (elemOf t) := by
  refine (RS.underlying t).bind fun s le a b h => ?_
  obtain ⟨rfl, h⟩ := h
  cases a <;> first | exact RS.pure rfl | exact RS.halt
variable {v v' x x' i i' : Value}
theorem RS.asIntOf (h : VR r v v') : RS (Wi P F) P ro r (fun _ a b => a = b) (asIntOf v) (asIntOf v') := by
  cases h <;> first | exact RS.pure rfl | exact RS.halt
theorem RS.asInt (h : VR r v v') : RS (Wi P F) P ro r (fun _ a b => a = b) (asInt v) (asInt v') := by
  refine (RS.asIntOf h).bind fun s le a b e => ?_
  cases e
  exact RS.pure rfl
theorem RS.asBool (h : VR r v v') : RS (Wi P F) P ro r (fun _ a b => a = b) (asBool v) (asBool v') := by
  cases h <;> first | exact RS.pure rfl | exact RS.halt
theorem RS.asString (h : VR r v v') : RS (Wi P F) P ro r (fun _ a b => a = b) (asString v) (asString v') := by
  cases h <;> first | exact RS.pure rfl | exact RS.halt
theorem RS.asAgg (h : VR r v v') : RS (Wi P F) P ro r (fun s a b => AR s a b) (asAgg v) (asAgg v') := by
  cases h with
  | agg e k =>
    refine RS.pure ?_
    exact ⟨e, k⟩
  | _ => exact RS.halt
theorem RS.sureAddr (h : VR r v v') : RS (Wi P F) P ro r (fun s a b => DR s a b) (Instr.sureAddr v) (Instr.sureAddr v') := by
  cases h <;> first | exact RS.halt | skip
  refine RS.pure ?_
  exact ⟨‹_›, rfl, rfl⟩
theorem RS.asAddr (h : VR r v v') : RS (Wi P F) P ro r (fun s a b => DR s a b) (asAddr v) (asAddr v') := by
  cases h with
  | nilPtr => exact RS.dead (t := asAddr (.pointer none)) (Dies.runtimePanic (α := Addr) .nilDeref)
  | ptr k =>
    refine RS.pure ?_
    exact ⟨k, rfl, rfl⟩
  | _ => exact RS.halt
theorem RS.loadCellsFrom {a a' : Addr} (n : Nat) : ∀ {r : Ren} (i : Nat) {y y' : Array Value}, DR r a a' → AR r y y' → RS (Wi P F) P ro r (fun s p q => AR s p q) (loadCellsFrom a i n y) (loadCellsFrom a' i n y') := by
  induction n with
  | zero => intro r i y y' ha hy; exact RS.pure hy
  | succ n ih =>
    intro r i y y' ha hy
    exact (RS.load (ha.add i)).bind fun s le p q h => ih (i + 1) (ha.mono le) ((hy.mono le).push h)
theorem RS.loadCells {a a' : Addr} (ha : DR r a a') (n : Nat) : RS (Wi P F) P ro r (fun s p q => AR s p q) (loadCells a n) (loadCells a' n) := RS.loadCellsFrom n 0 ha (AR.empty r)
/-- Lists of values alike. -/
def LR (r : Ren) : List Value → List Value → Prop
  | [], [] => True
  | v :: l, v' :: l' => VR r v v' ∧ LR r l l'
  | _, _ => False
theorem LR.mono {r s : Ren} (h : RLe r s) : ∀ {l l' : List Value}, LR r l l' → LR s l l'
  | [], [], _ => trivial
  | _ :: _, _ :: _, k => ⟨k.1.mono h, LR.mono h k.2⟩
  | [], _ :: _, k => k.elim
  | _ :: _, [], k => k.elim
theorem LR.of {r : Ren} : ∀ {l l' : List Value}, l.length = l'.length → (∀ (i : Nat) v v', l[i]? = some v → l'[i]? = some v' → VR r v v') → LR r l l'
  | [], [], _, _ => trivial
  | v :: l, v' :: l', e, k => ⟨k 0 v v' rfl rfl, LR.of (by simpa using e) fun i x x' h h' => k (i + 1) x x' (by simpa using h) (by simpa using h')⟩
  | [], _ :: _, e, _ => by cases e
  | _ :: _, [], e, _ => by cases e
theorem AR.list {r : Ren} {a a' : Array Value} (h : AR r a a') : LR r a.toList a'.toList := LR.of (by simpa using h.1) fun i v v' e e' => h.2 i v v' (by simpa using e) (by simpa using e')
theorem RS.storeCells {a a' : Addr} : ∀ {l l' : List Value} {r : Ren} (i : Nat), DR r a a' → LR r l l' → RS (Wi P F) P ro r (fun _ _ _ => True) (storeCells a l i) (storeCells a' l' i)
  | [], [], r, i, ha, _ => RS.pure trivial
  | v :: l, v' :: l', r, i, ha, k => (RS.store (ha.add i) k.1).bind fun s le _ _ _ => RS.storeCells (i + 1) (ha.mono le) (k.2.mono le)
  | [], _ :: _, _, _, _, k => k.elim
  | _ :: _, [], _, _, _, k => k.elim
theorem RS.loadVar {a a' : Addr} (ha : DR r a a') (t : TypeId) : RS (Wi P F) P ro r (fun s p q => VR s p q) (loadVar t a) (loadVar t a') := by
  unfold Go.loadVar
  refine (RS.isAgg t).bind fun s le b c e => ?_
  cases e
  cases b
  · exact RS.load (ha.mono le)
  · refine (RS.sizeOf t).bind fun s2 le2 n m e => ?_
    cases e
    refine (RS.loadCells ((ha.mono le).mono le2) n).bind fun s3 le3 p q h => ?_
    exact RS.pure (.agg h.1 h.2)
theorem RS.storeVar {a a' : Addr} (ha : DR r a a') (hv : VR r v v') (t : TypeId) : RS (Wi P F) P ro r (fun _ _ _ => True) (storeVar t a v) (storeVar t a' v') := by
  unfold Go.storeVar
  refine (RS.sizeOf t).bind fun s le n m e => ?_
  cases e
  rw [← hv.cells.1]
  split
  · exact RS.dead (Dies.bind_left (Dies.halt _))
  · exact RS.storeCells 0 (ha.mono le) (hv.cells.list.mono le)
theorem RS.part {c c' : Array Value} (hc : AR r c c') (t : TypeId) (o : Nat) : RS (Wi P F) P ro r (fun s p q => VR s p q) (part t c o) (part t c' o) := by
  unfold Go.part
  refine (RS.isAgg t).bind fun s le b d e => ?_
  cases e
  have hc' := hc.mono le
  cases b
  · rcases hc'.cases o with ⟨e, e'⟩ | ⟨p, q, e, e', h⟩
    · simp only [e]; exact RS.halt
    · simp only [e, e']; exact RS.pure h
  · refine (RS.sizeOf t).bind fun s2 le2 n m e => ?_
    cases e
    have := (hc'.mono le2).extract o (o + n)
    exact RS.pure (.agg this.1 this.2)
end
end Go.Proofs.Ythifdfbdekkmgaa

/- Operations, alike: places, rows, slices, numbers. -/
namespace Go.Proofs.Ythifdfbdekkmgaa
set_option linter.unusedVariables false
section
variable {P : Program} [NoCx P] {F : Array Func} {ro : Nat → Prop} {r : Ren} {v v' x x' i i' : Value}
theorem RS.alloc (hz : Zs P) (t : TypeId) : RS (Wi P F) P ro r (fun s a b => VR s a b) (Instr.alloc t true (.tuple #[])) (Instr.alloc t true (.tuple #[])) := by
  refine (RS.zeroValue hz t).bind fun s le a b h => ?_
  obtain ⟨rfl, h⟩ := h
  refine (RS.newVar (h s)).bind fun s2 le2 p q h => ?_
  exact RS.pure (.ofAddr h)
theorem RS.box (hv : VR r v v') (t : TypeId) : RS (Wi P F) P ro r (fun s a b => VR s a b) (Instr.box t v) (Instr.box t v') := by
  refine (RS.newVar hv).bind fun s2 le2 p q h => ?_
  exact RS.pure (.ofAddr h)
theorem RS.loadAt (hv : VR r v v') (t : TypeId) : RS (Wi P F) P ro r (fun s a b => VR s a b) (Instr.loadAt t v) (Instr.loadAt t v') :=
  (RS.sureAddr hv).bind fun s le a b h => RS.loadVar h t
theorem RS.storeAt (hv : VR r v v') (hx : VR r x x') (t : TypeId) : RS (Wi P F) P ro r (fun _ _ _ => True) (Instr.storeAt t v x) (Instr.storeAt t v' x') :=
  (RS.sureAddr hv).bind fun s le a b h => RS.storeVar h (hx.mono le) t
theorem RS.indexAt (hx : VR r x x') (hi : VR r i i') (t : TypeId) : RS (Wi P F) P ro r (fun s a b => VR s a b) (Instr.indexAt t x i) (Instr.indexAt t x' i') := by
  unfold Instr.indexAt
  refine (RS.asIntOf hi).bind fun s1 l1 a b e => ?_
  cases e
  obtain ⟨k, n⟩ := a
  dsimp only
  refine (RS.underlying t).bind fun s2 l2 d d' h => ?_
  obtain ⟨rfl, h⟩ := h
  have hx2 := (hx.mono l1).mono l2
  cases d with
  | array len elem =>
    dsimp only
    refine (RS.sureAddr hx2).bind fun s3 l3 p q hp => ?_
    refine (RS.underlying t).bind fun s4 l4 d d' h => ?_
    obtain ⟨rfl, h⟩ := h
    dsimp only
    split
    · refine (RS.sizeOf elem).bind fun s5 l5 y z e => ?_
      cases e
      exact RS.pure (.ofAddr (((hp.mono l4).mono l5).add _))
    · exact RS.dead ((Dies.halt _).ite (Dies.boundsPanic _ _ _ _))
  | slice elem =>
    cases hx2 with
    | nilSlice l m =>
      dsimp only
      refine (RS.underlying t).bind fun s4 l4 d d' h => ?_
      obtain ⟨rfl, h⟩ := h
      exact RS.dead (Dies.boundsPanic _ _ _ _)
    | slice l m hb =>
      dsimp only
      refine (RS.underlying t).bind fun s4 l4 d d' h => ?_
      obtain ⟨rfl, h⟩ := h
      dsimp only
      split
      · refine (RS.sizeOf elem).bind fun s5 l5 y z e => ?_
        cases e
        exact RS.pure (.ofAddr ((((DR.of hb).mono l4).mono l5).add _))
      · exact RS.dead ((Dies.halt _).ite (Dies.boundsPanic _ _ _ _))
    | _ => exact RS.halt
  | _ => exact RS.halt
theorem RS.index (hx : VR r x x') (hi : VR r i i') (t : TypeId) : RS (Wi P F) P ro r (fun s a b => VR s a b) (Instr.index t x i) (Instr.index t x' i') := by
  unfold Instr.index
  refine (RS.asIntOf hi).bind fun s1 l1 a b e => ?_
  cases e
  obtain ⟨k, n⟩ := a
  dsimp only
  refine (RS.underlying t).bind fun s2 l2 d d' h => ?_
  obtain ⟨rfl, h⟩ := h
  have hx2 := (hx.mono l1).mono l2
  cases d with
  | array len elem =>
    cases hx2 with
    | agg e k =>
      dsimp only
      split
      · refine (RS.sizeOf elem).bind fun s5 l5 y z e2 => ?_
        cases e2
        exact RS.part (AR.mono l5 ⟨e, k⟩) _ _
      · exact RS.dead (Dies.boundsPanic _ _ _ _)
    | _ => exact RS.halt
  | string =>
    cases hx2 with
    | string b =>
      dsimp only
      cases (if 0 ≤ n then b[n.toNat]? else none) with
      | none => exact RS.dead (Dies.boundsPanic _ _ _ _)
      | some y => exact RS.pure (.int _ _)
    | _ => exact RS.halt
  | _ => exact RS.halt
theorem RS.extract (hx : VR r x x') (n : Nat) : RS (Wi P F) P ro r (fun s a b => VR s a b) (Instr.extract x n) (Instr.extract x' n) := by
  cases hx with
  | tuple e k =>
    rename_i a a'
    unfold Instr.extract
    dsimp only
    rcases (show AR r a a' from ⟨e, k⟩).cases n with ⟨e, e'⟩ | ⟨p, q, e, e', h⟩
    · simp only [e]; exact RS.halt
    · simp only [e, e']; exact RS.pure h
  | _ => exact RS.halt
theorem RS.field (hx : VR r x x') (t : TypeId) (n : Nat) : RS (Wi P F) P ro r (fun s a b => VR s a b) (Instr.field t x n) (Instr.field t x' n) := by
  unfold Instr.field
  refine (RS.underlying t).bind fun s2 l2 d d' h => ?_
  obtain ⟨rfl, h⟩ := h
  cases d with
  | struct fields =>
    dsimp only
    cases fields[n]? with
    | none => exact RS.halt
    | some f => exact (RS.asAgg (hx.mono l2)).bind fun s le a b h => RS.part h _ _
  | _ => exact RS.halt
theorem RS.sliceBound (hx : VR r x x') (y : Nat) (c : BoundsCode) : RS (Wi P F) P ro r (fun _ a b => a = b) (Instr.sliceBound x y c) (Instr.sliceBound x' y c) := by
  unfold Instr.sliceBound
  refine (RS.asIntOf hx).bind fun s1 l1 a b e => ?_
  cases e
  obtain ⟨k, n⟩ := a
  dsimp only
  split
  · exact RS.pure rfl
  · exact RS.dead (Dies.boundsPanic _ _ _ _)
/-- What stands there, or nothing, alike. -/
def MR (r : Ren) : Option Value → Option Value → Prop
  | some v, some v' => VR r v v'
  | none, none => True
  | _, _ => False
theorem MR.mono {s : Ren} (h : RLe r s) : ∀ {o o' : Option Value}, MR r o o' → MR s o o'
  | some _, some _, k => VR.mono h k
  | none, none, _ => trivial
  | some _, none, k => k.elim
  | none, some _, k => k.elim
theorem RS.sliceBounds (isSlice : Bool) (len cap : Nat) {lo lo' hi hi' mx mx' : Option Value} (hl : MR r lo lo') (hh : MR r hi hi') (hm : MR r mx mx') :
    RS (Wi P F) P ro r (fun _ a b => a = b) (Instr.sliceBounds isSlice len cap lo hi mx) (Instr.sliceBounds isSlice len cap lo' hi' mx') := by
  have last : ∀ {s : Ren} (m h : Nat) (lo lo' : Option Value) (q : Bool), MR s lo lo' → RS (Wi P F) P ro s (fun _ a b => a = b)
      (do let l ← match lo with
            | some v => Instr.sliceBound v h (if q then .slice3C else .sliceB)
            | none => Pure.pure 0
          Pure.pure (l, h, m) : Sem (Nat × Nat × Nat))
      (do let l ← match lo' with
            | some v => Instr.sliceBound v h (if q then .slice3C else .sliceB)
            | none => Pure.pure 0
          Pure.pure (l, h, m)) := by
    intro s m h lo lo' q hl
    match lo, lo', hl with
    | some v, some v', hl => exact (RS.sliceBound hl h _).bind fun s le a b e => by cases e; exact RS.pure rfl
    | none, none, _ => exact RS.pure rfl
  unfold Instr.sliceBounds
  match mx, mx', hm with
  | some m, some m', hm =>
    dsimp only
    refine (RS.sliceBound hm cap _).bind fun s1 l1 a b e => ?_
    cases e
    match hi, hi', hh with
    | some v, some v', hh =>
      dsimp only
      refine (RS.sliceBound (VR.mono l1 hh) a _).bind fun s2 l2 c d e => ?_
      cases e
      exact last a c lo lo' true ((hl.mono l1).mono l2)
    | none, none, _ => exact RS.halt
  | none, none, _ =>
    dsimp only
    match hi, hi', hh with
    | some v, some v', hh =>
      refine (RS.sliceBound hh cap _).bind fun s2 l2 c d e => ?_
      cases e
      exact last cap c lo lo' false (hl.mono l2)
    | none, none, _ => exact last cap len lo lo' false hl
theorem RS.slice (hx : VR r x x') (t : TypeId) {lo lo' hi hi' mx mx' : Option Value} (hl : MR r lo lo') (hh : MR r hi hi') (hm : MR r mx mx') :
    RS (Wi P F) P ro r (fun s a b => VR s a b) (Instr.slice t x lo hi mx) (Instr.slice t x' lo' hi' mx') := by
  unfold Instr.slice
  refine (RS.underlying t).bind fun s2 l2 d d' h => ?_
  obtain ⟨rfl, h⟩ := h
  have hx2 := hx.mono l2
  cases d with
  | string =>
    cases hx2 with
    | string b =>
      dsimp only
      match mx, mx', hm with
      | some m, some m', hm => exact RS.dead (Dies.bind_left (Dies.halt _))
      | none, none, _ =>
        refine (RS.sliceBounds false b.size b.size (hl.mono l2) (hh.mono l2) (show MR s2 none none from trivial)).bind fun s3 l3 p q e => ?_
        cases e
        obtain ⟨p1, p2, p3⟩ := p
        exact RS.pure (.string _)
    | _ => exact RS.halt
  | slice elem =>
    cases hx2 with
    | nilSlice l m =>
      dsimp only
      refine (RS.sliceBounds true l m (hl.mono l2) (hh.mono l2) (hm.mono l2)).bind fun s3 l3 p q e => ?_
      cases e
      obtain ⟨p1, p2, p3⟩ := p
      dsimp only
      refine (RS.sizeOf elem).bind fun s4 l4 p q e => ?_
      cases e
      split <;> exact RS.pure (.nilSlice _ _)
    | slice l m hb =>
      dsimp only
      refine (RS.sliceBounds true l m (hl.mono l2) (hh.mono l2) (hm.mono l2)).bind fun s3 l3 p q e => ?_
      cases e
      obtain ⟨p1, p2, p3⟩ := p
      dsimp only
      refine (RS.sizeOf elem).bind fun s4 l4 p q e => ?_
      cases e
      split
      · exact RS.pure (.ofSlice _ _ (((DR.of hb).mono l3).mono l4))
      · exact RS.pure (.ofSlice _ _ ((((DR.of hb).mono l3).mono l4).add _))
    | _ => exact RS.halt
  | pointer arr =>
    dsimp only
    refine (RS.asAddr hx2).bind fun s3 l3 p q hp => ?_
    refine (RS.underlying arr).bind fun s4 l4 d d' h => ?_
    obtain ⟨rfl, h⟩ := h
    cases d with
    | array n elem =>
      dsimp only
      refine (RS.sliceBounds false n n (((hl.mono l2).mono l3).mono l4) (((hh.mono l2).mono l3).mono l4) (((hm.mono l2).mono l3).mono l4)).bind fun s5 l5 g g' e => ?_
      cases e
      obtain ⟨p1, p2, p3⟩ := g
      dsimp only
      refine (RS.sizeOf elem).bind fun s6 l6 z z' e => ?_
      cases e
      have hd := ((hp.mono l4).mono l5).mono l6
      split
      · exact RS.pure (.ofSlice _ _ hd)
      · exact RS.pure (.ofSlice _ _ (hd.add _))
    | _ => exact RS.halt
  | _ => exact RS.halt
theorem RS.sliceAt (hx : VR r x x') (t : TypeId) {lo lo' hi hi' mx mx' : Option Value} (hl : MR r lo lo') (hh : MR r hi hi') (hm : MR r mx mx') :
    RS (Wi P F) P ro r (fun s a b => VR s a b) (Instr.sliceAt t x lo hi mx) (Instr.sliceAt t x' lo' hi' mx') := by
  unfold Instr.sliceAt
  refine (RS.underlying t).bind fun s2 l2 d d' h => ?_
  obtain ⟨rfl, h⟩ := h
  cases d with
  | array n elem =>
    dsimp only
    refine (RS.sureAddr (hx.mono l2)).bind fun s3 l3 p q hp => ?_
    refine (RS.sliceBounds false n n ((hl.mono l2).mono l3) ((hh.mono l2).mono l3) ((hm.mono l2).mono l3)).bind fun s5 l5 g g' e => ?_
    cases e
    obtain ⟨p1, p2, p3⟩ := g
    dsimp only
    refine (RS.sizeOf elem).bind fun s6 l6 z z' e => ?_
    cases e
    have hd := (hp.mono l5).mono l6
    split
    · exact RS.pure (.ofSlice _ _ hd)
    · exact RS.pure (.ofSlice _ _ (hd.add _))
  | _ => exact RS.slice (hx.mono l2) t (hl.mono l2) (hh.mono l2) (hm.mono l2)
theorem AR.rangeMap (n : Nat) (f : Nat → Value) (h : ∀ i, VR r (f i) (f i)) : AR r ((Array.range n).map f) ((Array.range n).map f) := AR.ofFn _ _ _ h
theorem cells_self {z : Value} (h : ∀ s, VR s z z) (i : Nat) : VR r (z.cells[i]!) (z.cells[i]!) := by
  rw [Array.getElem!_eq_getD]
  exact (h r).cells.getD i (.bool _)
theorem empty_self (i : Nat) : VR r ((#[] : Array Value)[i]!) ((#[] : Array Value)[i]!) := by
  rw [Array.getElem!_eq_getD]
  exact (AR.empty r).getD i (.bool _)
theorem RS.makeSlice (hz : Zs P) (hx : VR r x x') (hi : VR r i i') (t : TypeId) : RS (Wi P F) P ro r (fun s a b => VR s a b) (Instr.makeSlice t x i) (Instr.makeSlice t x' i') := by
  unfold Instr.makeSlice
  refine (RS.underlying t).bind fun s2 l2 d d' h => ?_
  obtain ⟨rfl, h⟩ := h
  cases d with
  | slice elem =>
    dsimp only
    refine (RS.asInt (hx.mono l2)).bind fun s3 l3 p q e => ?_
    cases e
    refine (RS.asInt ((hi.mono l2).mono l3)).bind fun s4 l4 m m' e => ?_
    cases e
    refine (RS.typeInfo elem).bind fun s5 l5 g g' e => ?_
    obtain ⟨rfl, _⟩ := e
    split
    · refine RS.dead ?_
      refine Dies.ite (Dies.bind_left (Dies.runtimePanic _)) (Dies.ite (Dies.bind_left (Dies.runtimePanic _)) (Dies.bind (Mild.choose _) fun _ => Dies.bind_left (Dies.runtimePanic _)))
    · refine (RS.askRoom _).bind fun s6 l6 _ _ _ => ?_
      refine (RS.sizeOf elem).bind fun s7 l7 z z' e => ?_
      cases e
      split
      · refine (RS.pure (A := fun _ a b => a = (#[] : Array Value) ∧ b = (#[] : Array Value)) ⟨rfl, rfl⟩).bind fun s8 l8 c c' e => ?_
        obtain ⟨rfl, rfl⟩ := e
        refine (RS.newRow (AR.rangeMap _ _ fun i => empty_self _)).bind fun s9 l9 y y' hy => ?_
        exact RS.pure (.ofSlice _ _ hy)
      · refine (RS.zeroValue hz elem).bind fun s8 l8 c c' e => ?_
        obtain ⟨rfl, e⟩ := e
        refine (RS.newRow (AR.rangeMap _ _ fun i => cells_self e _)).bind fun s9 l9 y y' hy => ?_
        exact RS.pure (.ofSlice _ _ hy)
  | _ => exact RS.halt
/-- Numbered values, alike. -/
def PR (r : Ren) : List (Nat × Value) → List (Nat × Value) → Prop
  | [], [] => True
  | (n, v) :: l, (n', v') :: l' => n = n' ∧ VR r v v' ∧ PR r l l'
  | _, _ => False
theorem PR.mono {s : Ren} (h : RLe r s) : ∀ {l l' : List (Nat × Value)}, PR r l l' → PR s l l'
  | [], [], _ => trivial
  | (_, _) :: _, (_, _) :: _, k => ⟨k.1, k.2.1.mono h, PR.mono h k.2.2⟩
  | [], _ :: _, k => k.elim
  | _ :: _, [], k => k.elim
theorem fold_alike (o : Nat) : ∀ (l l' : List (Value × Nat)) {c c' : Array Value}, AR r c c' → l.length = l'.length → (∀ (i : Nat) p p', l[i]? = some p → l'[i]? = some p' → VR r p.1 p'.1 ∧ p.2 = p'.2) →
    AR r (l.foldl (fun cs (q : Value × Nat) => cs.setIfInBounds (o + q.2) q.1) c) (l'.foldl (fun cs (q : Value × Nat) => cs.setIfInBounds (o + q.2) q.1) c')
  | [], [], _, _, h, _, _ => h
  | p :: l, p' :: l', c, c', h, e, k => by
    obtain ⟨h1, h2⟩ := k 0 p p' rfl rfl
    simp only [List.foldl_cons]
    rw [← h2]
    exact fold_alike o l l' (h.set _ h1) (by simpa using e) fun i x x' hx hx' => k (i + 1) x x' (by simpa using hx) (by simpa using hx')
  | [], _ :: _, _, _, _, e, _ => by cases e
  | _ :: _, [], _, _, _, e, _ => by cases e
theorem fill_alike (place : Nat → Option (Nat × Nat)) : ∀ {l l' : List (Nat × Value)} {c c' : Array Value}, AR r c c' → PR r l l' →
    (Instr.fill place c l = none ∧ Instr.fill place c' l' = none) ∨ ∃ d d', Instr.fill place c l = some d ∧ Instr.fill place c' l' = some d' ∧ AR r d d'
  | [], [], c, c', h, _ => .inr ⟨c, c', rfl, rfl, h⟩
  | (n, v) :: l, (n', v') :: l', c, c', h, k => by
    obtain ⟨rfl, hv, k⟩ := k
    unfold Instr.fill
    cases place n with
    | none => exact .inl ⟨rfl, rfl⟩
    | some q =>
      obtain ⟨o, z⟩ := q
      dsimp only
      rw [← hv.cells.1, ← h.1]
      split
      · exact .inl ⟨rfl, rfl⟩
      · refine fill_alike place ?_ k
        have hc := hv.cells
        rw [← Array.foldl_toList, ← Array.foldl_toList]
        refine fold_alike o _ _ h (by simp [hc.1]) fun i p p' e e' => ?_
        simp at e e'
        obtain ⟨a, e1, rfl⟩ := e
        obtain ⟨b, e2, rfl⟩ := e'
        exact ⟨hc.2 i _ _ e1 e2, rfl⟩
  | [], _ :: _, _, _, _, k => k.elim
  | _ :: _, [], _, _, _, k => k.elim
theorem sizes_alike : ∀ (l : List Field) {s : Ren}, RS (Wi P F) P ro s (fun _ a b => a = b) (l.mapM fun f => (do Pure.pure (f.offset, ← Go.sizeOf f.type) : Sem (Nat × Nat))) (l.mapM fun f => (do Pure.pure (f.offset, ← Go.sizeOf f.type) : Sem (Nat × Nat)))
  | [], s => RS.pure rfl
  | f :: l, s => by
    rw [List.mapM_cons]
    refine RS.bind (A := fun _ a b => a = b) ?_ fun s2 l2 a b e => ?_
    · refine (RS.sizeOf f.type).bind fun s1 l1 a b e => ?_
      cases e
      exact RS.pure rfl
    · cases e
      refine (sizes_alike l).bind fun s3 l3 a b e => ?_
      cases e
      exact RS.pure rfl
theorem sizes_alike' (l : Array Field) {s : Ren} : RS (Wi P F) P ro s (fun _ a b => a = b) (l.mapM fun f => (do Pure.pure (f.offset, ← Go.sizeOf f.type) : Sem (Nat × Nat))) (l.mapM fun f => (do Pure.pure (f.offset, ← Go.sizeOf f.type) : Sem (Nat × Nat))) := by
  rw [Array.mapM_eq_mapM_toList]
  refine RS.bind (A := fun _ a b => a = b) (sizes_alike (P := P) (F := F) (ro := ro) l.toList (s := s)) fun s2 l2 a b e => ?_
  cases e
  exact RS.pure rfl
theorem RS.build (hz : Zs P) (t : TypeId) {l l' : Array (Nat × Value)} (h : PR r l.toList l'.toList) : RS (Wi P F) P ro r (fun s a b => VR s a b) (Instr.build t l) (Instr.build t l') := by
  unfold Instr.build
  refine (RS.zeroValue hz t).bind fun s1 l1 z z' e => ?_
  obtain ⟨rfl, e⟩ := e
  refine (RS.underlying t).bind fun s2 l2 d d' hd => ?_
  obtain ⟨rfl, hd⟩ := hd
  cases d with
  | struct fields =>
    dsimp only
    refine (sizes_alike' fields).bind fun s3 l3 p q e2 => ?_
    cases e2
    rcases fill_alike (fun x => p[x]?) (e s3).cells (((h.mono l1).mono l2).mono l3) with ⟨h1, h2⟩ | ⟨c, c', h1, h2, h3⟩
    · rw [h1, h2]; exact RS.halt
    · rw [h1, h2]; exact RS.pure (.agg h3.1 h3.2)
  | array n elem =>
    dsimp only
    refine (RS.sizeOf elem).bind fun s3 l3 n m e2 => ?_
    cases e2
    rcases fill_alike (fun i => some (i * n, n)) (e s3).cells (((h.mono l1).mono l2).mono l3) with ⟨h1, h2⟩ | ⟨c, c', h1, h2, h3⟩
    · rw [h1, h2]; exact RS.halt
    · rw [h1, h2]; exact RS.pure (.agg h3.1 h3.2)
  | _ => exact RS.halt
theorem RS.buildSlice (hz : Zs P) (t : TypeId) (len : Nat) {l l' : Array (Nat × Value)} (h : PR r l.toList l'.toList) : RS (Wi P F) P ro r (fun s a b => VR s a b) (Instr.buildSlice t len l) (Instr.buildSlice t len l') := by
  unfold Instr.buildSlice
  refine (RS.underlying t).bind fun s2 l2 d d' hd => ?_
  obtain ⟨rfl, hd⟩ := hd
  cases d with
  | slice elem =>
    dsimp only
    refine (RS.sizeOf elem).bind fun s3 l3 n m e2 => ?_
    cases e2
    split
    · exact RS.dead (Dies.bind_left (Dies.halt _))
    · have last : ∀ {s : Ren} (z : Array Value), PR s l.toList l'.toList → (∀ i : Nat, VR s z[i]! z[i]!) → RS (Wi P F) P ro s (fun s a b => VR s a b)
          (match Instr.fill (fun i => some (i * n, n)) ((Array.range (len * n)).map (z[· % z.size]!)) l.toList with
            | some cells => do Pure.pure (.slice (some (← Go.newRow elem cells)) len len)
            | x => stuck "buildSlice: a part of the wrong size")
          (match Instr.fill (fun i => some (i * n, n)) ((Array.range (len * n)).map (z[· % z.size]!)) l'.toList with
            | some cells => do Pure.pure (.slice (some (← Go.newRow elem cells)) len len)
            | x => stuck "buildSlice: a part of the wrong size") := by
        intro s z hp hz
        rcases fill_alike (fun i => some (i * n, n)) (AR.rangeMap (len * n) (fun i => z[i % z.size]!) fun i => hz _) hp with ⟨h1, h2⟩ | ⟨c, c', h1, h2, h3⟩
        · rw [h1, h2]; exact RS.halt
        · rw [h1, h2]
          exact (RS.newRow h3).bind fun s9 l9 y y' hy => RS.pure (.ofSlice _ _ hy)
      split
      · exact last #[] ((h.mono l2).mono l3) fun i => empty_self i
      · refine (RS.zeroValue hz elem).bind fun s8 l8 c c' e => ?_
        obtain ⟨rfl, e⟩ := e
        exact last c.cells (((h.mono l2).mono l3).mono l8) fun i => cells_self e i
  | _ => exact RS.halt
end
end Go.Proofs.Ythifdfbdekkmgaa

/- Operations, alike: fields' places, append, copy, len, cap, min. -/
namespace Go.Proofs.Ythifdfbdekkmgaa
set_option linter.unusedVariables false
section
variable {P : Program} [NoCx P] {F : Array Func} {ro : Nat → Prop} {r : Ren} {v v' x x' i i' : Value}
theorem RS.byteOf {a a' : Addr} (h : DR r a a') : RS (Wi P F) P ro r (fun _ a b => a = b) (byteOf a) (byteOf a') := by
  unfold Go.byteOf
  rw [h.2.2, h.2.1]
  cases a.spot with
  | some s => exact RS.pure rfl
  | none =>
    refine RS.program ?_
    refine (RS.noView h).bind fun s le _ _ _ => ?_
    refine (RS.shape (le _ _ h.1)).bind fun s2 l2 x y e => ?_
    cases e
    cases x with
    | none => exact RS.halt
    | some z =>
      obtain ⟨e, n⟩ := z
      have e1 : (Wi P F).cellsOf e = P.cellsOf e := rfl
      have e2 : (Wi P F).bytesOf e = P.bytesOf e := rfl
      have e3 : (Wi P F).depth = P.depth := rfl
      dsimp only
      rw [e1, e2, e3, wi_byte]
      split
      · exact RS.pure rfl
      · cases byteOfCell P P.depth e (a.off % P.cellsOf e) with
        | none => exact RS.halt
        | some b => exact RS.pure rfl
theorem RS.partAt {a a' : Addr} (h : DR r a a') (n m : Nat) : RS (Wi P F) P ro r (fun s a b => DR s a b) (partAt a n m) (partAt a' n m) := by
  unfold Go.partAt
  refine (RS.byteOf h).bind fun s le p q e => ?_
  cases e
  have h2 : DR s { block := a.block, off := a.off + n } { block := a'.block, off := a'.off + n } := ⟨le _ _ h.1, by rw [h.2.1], rfl⟩
  refine (RS.byteOf h2).bind fun s2 l2 p2 q2 e => ?_
  cases e
  split
  · exact RS.pure (h2.mono l2)
  · exact RS.pure ⟨l2 _ _ h2.1, h2.2.1, rfl⟩
theorem RS.fieldAt (hx : VR r x x') (t : TypeId) (n : Nat) : RS (Wi P F) P ro r (fun s a b => VR s a b) (Instr.fieldAt t x n) (Instr.fieldAt t x' n) := by
  unfold Instr.fieldAt
  refine (RS.underlying t).bind fun s2 l2 d d' hd => ?_
  obtain ⟨rfl, hd⟩ := hd
  cases d with
  | struct fields =>
    dsimp only
    cases fields[n]? with
    | none => exact RS.halt
    | some f =>
      dsimp only
      refine (RS.sureAddr (hx.mono l2)).bind fun s3 l3 p q h => ?_
      unfold fieldPlace
      refine RS.bind (A := fun s a b => DR s a b) ?_ fun s4 l4 a b h => RS.pure (.ofAddr h)
      refine (RS.sizeOf f.type).bind fun s4 l4 y z e => ?_
      cases e
      split
      · exact RS.partAt (h.mono l4) _ _
      · exact RS.pure ((h.mono l4).add _)
  | _ => exact RS.halt
theorem RS.lenOf (hx : VR r x x') : RS (Wi P F) P ro r (fun _ a b => a = b) (Builtin.lenOf x) (Builtin.lenOf x') := by
  cases hx <;> first | exact RS.pure rfl | exact RS.halt
theorem RS.firstCells (hx : VR r x x') (size n : Nat) : RS (Wi P F) P ro r (fun s a b => AR s a b) (Builtin.firstCells size n x) (Builtin.firstCells size n x') := by
  cases hx with
  | nilSlice l m => exact RS.pure (AR.empty r)
  | slice l m h => exact RS.loadCells (DR.of h) _
  | string b => exact RS.pure (AR.ofFn _ _ _ fun i => .int _ _)
  | _ => exact RS.halt
theorem zeroCells_alike {z : Array Value} (n : Nat) (hz : ∀ i : Nat, VR r z[i]! z[i]!) : AR r (Builtin.zeroCells z n) (Builtin.zeroCells z n) := AR.rangeMap _ _ fun i => hz _
theorem RS.made (hz : Zs P) (hx : VR r x x') (zeros : Bool) (elem : TypeId) (size n : Nat) : RS (Wi P F) P ro r (fun s a b => AR s a b)
    (if !zeros then Builtin.firstCells size n x else if n * size = 0 then Pure.pure #[] else do Pure.pure (Builtin.zeroCells (← Go.zeroValue elem).cells n))
    (if !zeros then Builtin.firstCells size n x' else if n * size = 0 then Pure.pure #[] else do Pure.pure (Builtin.zeroCells (← Go.zeroValue elem).cells n)) := by
  split
  · exact RS.firstCells hx size n
  · split
    · exact RS.pure (AR.empty r)
    · refine (RS.zeroValue hz elem).bind fun s le a b e => ?_
      obtain ⟨rfl, e⟩ := e
      exact RS.pure (zeroCells_alike _ fun i => cells_self e i)
theorem holds_mild (a : Addr) (n : Nat) : Mild (Builtin.holdsCells a n) := Mild.bind (Mild.shape _) fun s => by
  cases s with
  | none => exact Mild.pure _
  | some q => exact Mild.pure _
theorem mayShare_mild (a b c : Nat) (o : Option Addr) (x : Value) : Mild (Builtin.mayShare a b c o x) := by
  unfold Builtin.mayShare
  have last : Mild (match x with
      | .slice (some y) _ _ => (do Pure.pure (!(← Builtin.holdsCells y (c * a)) || o.any (·.block == y.block)) : Sem Bool)
      | _ => Pure.pure false) := by
    split
    · exact Mild.bind (holds_mild _ _) fun _ => Mild.pure _
    · exact Mild.pure _
  cases o with
  | none =>
    refine Mild.bind (Mild.pure _) fun t => ?_
    exact Mild.ite (Mild.pure _) last
  | some y =>
    refine Mild.bind (holds_mild _ _) fun t => ?_
    exact Mild.bind (Mild.frozen _) fun t => Mild.ite (Mild.pure _) last
set_option maxHeartbeats 2000000 in
theorem RS.append (hz : Zs P) (ts : Array TypeId) (t : TypeId) {l l' : Array Value} (hl : AR r l l') : RS (Wi P F) P ro r (fun s a b => VR s a b) (Builtin.append_ ts t l) (Builtin.append_ ts t l') := by
  unfold Builtin.append_
  cases ts[0]? with
  | none => exact RS.halt
  | some sType =>
  rcases hl.cases 0 with ⟨e, e'⟩ | ⟨v, v', e, e', hv⟩
  · rw [e]; exact RS.halt
  rcases hl.cases 1 with ⟨e1, e1'⟩ | ⟨x, x', e1, e1', hx⟩
  · rw [e, e1]; exact RS.halt
  rw [e, e', e1, e1']
  clear e e' e1 e1' hl
  dsimp only
  refine (RS.underlying sType).bind fun s2 l2 d d' hd => ?_
  obtain ⟨rfl, hd⟩ := hd
  cases d with
  | slice elem =>
    have hv2 := hv.mono l2
    have hx2 := hx.mono l2
    clear hv hx hd
    have hv3 := hv2
    cases hv2
    case nilSlice m k =>
      dsimp only
      refine (RS.sizeOf elem).bind fun s3 l3 size size' e => ?_
      cases e
      split
      · refine (RS.underlying _).bind fun s4 l4 d d' h => ?_
        obtain ⟨rfl, _⟩ := h
        have hx4 := (hx2.mono l3).mono l4
        have hv4 := (hv3.mono l3).mono l4
        refine RS.bind (A := fun _ a b => a = b) (RS.pure rfl) fun sz lz zeros zeros' e => ?_
        cases e
        replace hx4 := hx4.mono lz
        replace hv4 := hv4.mono lz
        replace l4 := l4.trans lz
        refine RS.ite (fun hc => ?_) (fun hc => ?_)
        · refine (RS.asInt hx4).bind fun s5 l5 p q e => ?_
          cases e
          refine RS.ite (fun hc => ?_) (fun hc => ?_)
          · exact RS.dead (Dies.bind_left (Dies.runtimePanic _))
          · refine (RS.typeInfo elem).bind fun s6 l6 g g' e => ?_
            obtain ⟨rfl, _⟩ := e
            refine RS.ite (fun hc => ?_) (fun hc => ?_)
            · exact RS.dead (Dies.bind (Mild.choose _) fun _ => Dies.bind_left (Dies.runtimePanic _))
            · have ln := l5.trans l6
              refine RS.ite (fun hc => ?_) (fun hc => ?_)
              · refine (RS.made hz (hx4.mono ln) _ elem size _).bind fun s6 l6 p q hp => ?_
                exact RS.pure (.nilSlice _ _)

              · refine (RS.typeInfo elem).bind fun s6 l6 g g' e => ?_
                obtain ⟨rfl, _⟩ := e
                refine RS.ite (fun hc => ?_) (fun hc => ?_)
                · exact RS.dead (Dies.bind_left (Dies.runtimePanic _))
                · refine (RS.typeInfo elem).bind fun s7 l7 g g' e => ?_
                  obtain ⟨rfl, _⟩ := e
                  refine RS.ite (fun hc => ?_) (fun hc => ?_)
                  · exact RS.dead (Dies.bind_left (Dies.ite (Dies.runtimePanic _) (Dies.bind (mayShare_mild _ _ _ _ _) fun _ => Dies.ite (Dies.bind (Mild.mark _) fun _ => Dies.halt _) (Dies.halt _))))
                  · refine (RS.choose _).bind fun s8 l8 c c' e => ?_
                    cases e
                    refine (RS.typeInfo elem).bind fun s9 l9 g g' e => ?_
                    obtain ⟨rfl, _⟩ := e
                    refine (RS.askRoom _).bind fun s10 l10 _ _ _ => ?_
                    have le := ((((ln.trans l6).trans l7).trans l8).trans l9).trans l10
                    refine (RS.firstCells (hv4.mono le) size _).bind fun s11 l11 old old' ho => ?_
                    refine (RS.made hz ((hx4.mono le).mono l11) _ elem size _).bind fun s12 l12 new new' hn => ?_
                    refine (RS.zeroValue hz elem).bind fun s13 l13 z z' e => ?_
                    obtain ⟨rfl, e⟩ := e
                    refine (RS.newRow ((((ho.mono l12).mono l13).append (hn.mono l13)).append (zeroCells_alike _ fun i => cells_self e i))).bind fun s14 l14 q q' h => ?_
                    exact RS.pure (.ofSlice _ _ h)
        · refine (RS.lenOf hx4).bind fun sn ln n n' e => ?_
          cases e
          refine RS.ite (fun hc => ?_) (fun hc => ?_)
          · refine (RS.made hz (hx4.mono ln) _ elem size _).bind fun s6 l6 p q hp => ?_
            exact RS.pure (.nilSlice _ _)

          · refine (RS.typeInfo elem).bind fun s6 l6 g g' e => ?_
            obtain ⟨rfl, _⟩ := e
            refine RS.ite (fun hc => ?_) (fun hc => ?_)
            · exact RS.dead (Dies.bind_left (Dies.runtimePanic _))
            · refine (RS.typeInfo elem).bind fun s7 l7 g g' e => ?_
              obtain ⟨rfl, _⟩ := e
              refine RS.ite (fun hc => ?_) (fun hc => ?_)
              · exact RS.dead (Dies.bind_left (Dies.ite (Dies.runtimePanic _) (Dies.bind (mayShare_mild _ _ _ _ _) fun _ => Dies.ite (Dies.bind (Mild.mark _) fun _ => Dies.halt _) (Dies.halt _))))
              · refine (RS.choose _).bind fun s8 l8 c c' e => ?_
                cases e
                refine (RS.typeInfo elem).bind fun s9 l9 g g' e => ?_
                obtain ⟨rfl, _⟩ := e
                refine (RS.askRoom _).bind fun s10 l10 _ _ _ => ?_
                have le := ((((ln.trans l6).trans l7).trans l8).trans l9).trans l10
                refine (RS.firstCells (hv4.mono le) size _).bind fun s11 l11 old old' ho => ?_
                refine (RS.made hz ((hx4.mono le).mono l11) _ elem size _).bind fun s12 l12 new new' hn => ?_
                refine (RS.zeroValue hz elem).bind fun s13 l13 z z' e => ?_
                obtain ⟨rfl, e⟩ := e
                refine (RS.newRow ((((ho.mono l12).mono l13).append (hn.mono l13)).append (zeroCells_alike _ fun i => cells_self e i))).bind fun s14 l14 q q' h => ?_
                exact RS.pure (.ofSlice _ _ h)
      · have l4 := RLe.refl s3
        have hx4 := (hx2.mono l3).mono l4
        have hv4 := (hv3.mono l3).mono l4
        refine RS.bind (A := fun _ a b => a = b) (RS.pure rfl) fun sz lz zeros zeros' e => ?_
        cases e
        replace hx4 := hx4.mono lz
        replace hv4 := hv4.mono lz
        replace l4 := l4.trans lz
        refine RS.ite (fun hc => ?_) (fun hc => ?_)
        · refine (RS.asInt hx4).bind fun s5 l5 p q e => ?_
          cases e
          refine RS.ite (fun hc => ?_) (fun hc => ?_)
          · exact RS.dead (Dies.bind_left (Dies.runtimePanic _))
          · refine (RS.typeInfo elem).bind fun s6 l6 g g' e => ?_
            obtain ⟨rfl, _⟩ := e
            refine RS.ite (fun hc => ?_) (fun hc => ?_)
            · exact RS.dead (Dies.bind (Mild.choose _) fun _ => Dies.bind_left (Dies.runtimePanic _))
            · have ln := l5.trans l6
              refine RS.ite (fun hc => ?_) (fun hc => ?_)
              · refine (RS.made hz (hx4.mono ln) _ elem size _).bind fun s6 l6 p q hp => ?_
                exact RS.pure (.nilSlice _ _)

              · refine (RS.typeInfo elem).bind fun s6 l6 g g' e => ?_
                obtain ⟨rfl, _⟩ := e
                refine RS.ite (fun hc => ?_) (fun hc => ?_)
                · exact RS.dead (Dies.bind_left (Dies.runtimePanic _))
                · refine (RS.typeInfo elem).bind fun s7 l7 g g' e => ?_
                  obtain ⟨rfl, _⟩ := e
                  refine RS.ite (fun hc => ?_) (fun hc => ?_)
                  · exact RS.dead (Dies.bind_left (Dies.ite (Dies.runtimePanic _) (Dies.bind (mayShare_mild _ _ _ _ _) fun _ => Dies.ite (Dies.bind (Mild.mark _) fun _ => Dies.halt _) (Dies.halt _))))
                  · refine (RS.choose _).bind fun s8 l8 c c' e => ?_
                    cases e
                    refine (RS.typeInfo elem).bind fun s9 l9 g g' e => ?_
                    obtain ⟨rfl, _⟩ := e
                    refine (RS.askRoom _).bind fun s10 l10 _ _ _ => ?_
                    have le := ((((ln.trans l6).trans l7).trans l8).trans l9).trans l10
                    refine (RS.firstCells (hv4.mono le) size _).bind fun s11 l11 old old' ho => ?_
                    refine (RS.made hz ((hx4.mono le).mono l11) _ elem size _).bind fun s12 l12 new new' hn => ?_
                    refine (RS.zeroValue hz elem).bind fun s13 l13 z z' e => ?_
                    obtain ⟨rfl, e⟩ := e
                    refine (RS.newRow ((((ho.mono l12).mono l13).append (hn.mono l13)).append (zeroCells_alike _ fun i => cells_self e i))).bind fun s14 l14 q q' h => ?_
                    exact RS.pure (.ofSlice _ _ h)
        · refine (RS.lenOf hx4).bind fun sn ln n n' e => ?_
          cases e
          refine RS.ite (fun hc => ?_) (fun hc => ?_)
          · refine (RS.made hz (hx4.mono ln) _ elem size _).bind fun s6 l6 p q hp => ?_
            exact RS.pure (.nilSlice _ _)

          · refine (RS.typeInfo elem).bind fun s6 l6 g g' e => ?_
            obtain ⟨rfl, _⟩ := e
            refine RS.ite (fun hc => ?_) (fun hc => ?_)
            · exact RS.dead (Dies.bind_left (Dies.runtimePanic _))
            · refine (RS.typeInfo elem).bind fun s7 l7 g g' e => ?_
              obtain ⟨rfl, _⟩ := e
              refine RS.ite (fun hc => ?_) (fun hc => ?_)
              · exact RS.dead (Dies.bind_left (Dies.ite (Dies.runtimePanic _) (Dies.bind (mayShare_mild _ _ _ _ _) fun _ => Dies.ite (Dies.bind (Mild.mark _) fun _ => Dies.halt _) (Dies.halt _))))
              · refine (RS.choose _).bind fun s8 l8 c c' e => ?_
                cases e
                refine (RS.typeInfo elem).bind fun s9 l9 g g' e => ?_
                obtain ⟨rfl, _⟩ := e
                refine (RS.askRoom _).bind fun s10 l10 _ _ _ => ?_
                have le := ((((ln.trans l6).trans l7).trans l8).trans l9).trans l10
                refine (RS.firstCells (hv4.mono le) size _).bind fun s11 l11 old old' ho => ?_
                refine (RS.made hz ((hx4.mono le).mono l11) _ elem size _).bind fun s12 l12 new new' hn => ?_
                refine (RS.zeroValue hz elem).bind fun s13 l13 z z' e => ?_
                obtain ⟨rfl, e⟩ := e
                refine (RS.newRow ((((ho.mono l12).mono l13).append (hn.mono l13)).append (zeroCells_alike _ fun i => cells_self e i))).bind fun s14 l14 q q' h => ?_
                exact RS.pure (.ofSlice _ _ h)
    case slice m k hb =>
      dsimp only
      refine (RS.sizeOf elem).bind fun s3 l3 size size' e => ?_
      cases e
      split
      · refine (RS.underlying _).bind fun s4 l4 d d' h => ?_
        obtain ⟨rfl, _⟩ := h
        have hx4 := (hx2.mono l3).mono l4
        have hv4 := (hv3.mono l3).mono l4
        have hb4 := l4 _ _ (l3 _ _ hb)
        refine RS.bind (A := fun _ a b => a = b) (RS.pure rfl) fun sz lz zeros zeros' e => ?_
        cases e
        replace hx4 := hx4.mono lz
        replace hv4 := hv4.mono lz
        replace l4 := l4.trans lz
        replace hb4 := lz _ _ hb4
        refine RS.ite (fun hc => ?_) (fun hc => ?_)
        · refine (RS.asInt hx4).bind fun s5 l5 p q e => ?_
          cases e
          refine RS.ite (fun hc => ?_) (fun hc => ?_)
          · exact RS.dead (Dies.bind_left (Dies.runtimePanic _))
          · refine (RS.typeInfo elem).bind fun s6 l6 g g' e => ?_
            obtain ⟨rfl, _⟩ := e
            refine RS.ite (fun hc => ?_) (fun hc => ?_)
            · exact RS.dead (Dies.bind (Mild.choose _) fun _ => Dies.bind_left (Dies.runtimePanic _))
            · have ln := l5.trans l6
              refine RS.ite (fun hc => ?_) (fun hc => ?_)
              · refine (RS.made hz (hx4.mono ln) _ elem size _).bind fun s6 l6 p q hp => ?_
                have hb6 := l6 _ _ (ln _ _ hb4)
                refine (RS.storeCells 0 ((DR.of hb6).add _) hp.list).bind fun s7 l7 _ _ _ => ?_
                exact RS.pure (.slice _ _ (l7 _ _ hb6))

              · refine (RS.typeInfo elem).bind fun s6 l6 g g' e => ?_
                obtain ⟨rfl, _⟩ := e
                refine RS.ite (fun hc => ?_) (fun hc => ?_)
                · exact RS.dead (Dies.bind_left (Dies.runtimePanic _))
                · refine (RS.typeInfo elem).bind fun s7 l7 g g' e => ?_
                  obtain ⟨rfl, _⟩ := e
                  refine RS.ite (fun hc => ?_) (fun hc => ?_)
                  · exact RS.dead (Dies.bind_left (Dies.ite (Dies.runtimePanic _) (Dies.bind (mayShare_mild _ _ _ _ _) fun _ => Dies.ite (Dies.bind (Mild.mark _) fun _ => Dies.halt _) (Dies.halt _))))
                  · refine (RS.choose _).bind fun s8 l8 c c' e => ?_
                    cases e
                    refine (RS.typeInfo elem).bind fun s9 l9 g g' e => ?_
                    obtain ⟨rfl, _⟩ := e
                    refine (RS.askRoom _).bind fun s10 l10 _ _ _ => ?_
                    have le := ((((ln.trans l6).trans l7).trans l8).trans l9).trans l10
                    refine (RS.firstCells (hv4.mono le) size _).bind fun s11 l11 old old' ho => ?_
                    refine (RS.made hz ((hx4.mono le).mono l11) _ elem size _).bind fun s12 l12 new new' hn => ?_
                    refine (RS.zeroValue hz elem).bind fun s13 l13 z z' e => ?_
                    obtain ⟨rfl, e⟩ := e
                    refine (RS.newRow ((((ho.mono l12).mono l13).append (hn.mono l13)).append (zeroCells_alike _ fun i => cells_self e i))).bind fun s14 l14 q q' h => ?_
                    exact RS.pure (.ofSlice _ _ h)
        · refine (RS.lenOf hx4).bind fun sn ln n n' e => ?_
          cases e
          refine RS.ite (fun hc => ?_) (fun hc => ?_)
          · refine (RS.made hz (hx4.mono ln) _ elem size _).bind fun s6 l6 p q hp => ?_
            have hb6 := l6 _ _ (ln _ _ hb4)
            refine (RS.storeCells 0 ((DR.of hb6).add _) hp.list).bind fun s7 l7 _ _ _ => ?_
            exact RS.pure (.slice _ _ (l7 _ _ hb6))

          · refine (RS.typeInfo elem).bind fun s6 l6 g g' e => ?_
            obtain ⟨rfl, _⟩ := e
            refine RS.ite (fun hc => ?_) (fun hc => ?_)
            · exact RS.dead (Dies.bind_left (Dies.runtimePanic _))
            · refine (RS.typeInfo elem).bind fun s7 l7 g g' e => ?_
              obtain ⟨rfl, _⟩ := e
              refine RS.ite (fun hc => ?_) (fun hc => ?_)
              · exact RS.dead (Dies.bind_left (Dies.ite (Dies.runtimePanic _) (Dies.bind (mayShare_mild _ _ _ _ _) fun _ => Dies.ite (Dies.bind (Mild.mark _) fun _ => Dies.halt _) (Dies.halt _))))
              · refine (RS.choose _).bind fun s8 l8 c c' e => ?_
                cases e
                refine (RS.typeInfo elem).bind fun s9 l9 g g' e => ?_
                obtain ⟨rfl, _⟩ := e
                refine (RS.askRoom _).bind fun s10 l10 _ _ _ => ?_
                have le := ((((ln.trans l6).trans l7).trans l8).trans l9).trans l10
                refine (RS.firstCells (hv4.mono le) size _).bind fun s11 l11 old old' ho => ?_
                refine (RS.made hz ((hx4.mono le).mono l11) _ elem size _).bind fun s12 l12 new new' hn => ?_
                refine (RS.zeroValue hz elem).bind fun s13 l13 z z' e => ?_
                obtain ⟨rfl, e⟩ := e
                refine (RS.newRow ((((ho.mono l12).mono l13).append (hn.mono l13)).append (zeroCells_alike _ fun i => cells_self e i))).bind fun s14 l14 q q' h => ?_
                exact RS.pure (.ofSlice _ _ h)
      · have l4 := RLe.refl s3
        have hx4 := (hx2.mono l3).mono l4
        have hv4 := (hv3.mono l3).mono l4
        have hb4 := l4 _ _ (l3 _ _ hb)
        refine RS.bind (A := fun _ a b => a = b) (RS.pure rfl) fun sz lz zeros zeros' e => ?_
        cases e
        replace hx4 := hx4.mono lz
        replace hv4 := hv4.mono lz
        replace l4 := l4.trans lz
        replace hb4 := lz _ _ hb4
        refine RS.ite (fun hc => ?_) (fun hc => ?_)
        · refine (RS.asInt hx4).bind fun s5 l5 p q e => ?_
          cases e
          refine RS.ite (fun hc => ?_) (fun hc => ?_)
          · exact RS.dead (Dies.bind_left (Dies.runtimePanic _))
          · refine (RS.typeInfo elem).bind fun s6 l6 g g' e => ?_
            obtain ⟨rfl, _⟩ := e
            refine RS.ite (fun hc => ?_) (fun hc => ?_)
            · exact RS.dead (Dies.bind (Mild.choose _) fun _ => Dies.bind_left (Dies.runtimePanic _))
            · have ln := l5.trans l6
              refine RS.ite (fun hc => ?_) (fun hc => ?_)
              · refine (RS.made hz (hx4.mono ln) _ elem size _).bind fun s6 l6 p q hp => ?_
                have hb6 := l6 _ _ (ln _ _ hb4)
                refine (RS.storeCells 0 ((DR.of hb6).add _) hp.list).bind fun s7 l7 _ _ _ => ?_
                exact RS.pure (.slice _ _ (l7 _ _ hb6))

              · refine (RS.typeInfo elem).bind fun s6 l6 g g' e => ?_
                obtain ⟨rfl, _⟩ := e
                refine RS.ite (fun hc => ?_) (fun hc => ?_)
                · exact RS.dead (Dies.bind_left (Dies.runtimePanic _))
                · refine (RS.typeInfo elem).bind fun s7 l7 g g' e => ?_
                  obtain ⟨rfl, _⟩ := e
                  refine RS.ite (fun hc => ?_) (fun hc => ?_)
                  · exact RS.dead (Dies.bind_left (Dies.ite (Dies.runtimePanic _) (Dies.bind (mayShare_mild _ _ _ _ _) fun _ => Dies.ite (Dies.bind (Mild.mark _) fun _ => Dies.halt _) (Dies.halt _))))
                  · refine (RS.choose _).bind fun s8 l8 c c' e => ?_
                    cases e
                    refine (RS.typeInfo elem).bind fun s9 l9 g g' e => ?_
                    obtain ⟨rfl, _⟩ := e
                    refine (RS.askRoom _).bind fun s10 l10 _ _ _ => ?_
                    have le := ((((ln.trans l6).trans l7).trans l8).trans l9).trans l10
                    refine (RS.firstCells (hv4.mono le) size _).bind fun s11 l11 old old' ho => ?_
                    refine (RS.made hz ((hx4.mono le).mono l11) _ elem size _).bind fun s12 l12 new new' hn => ?_
                    refine (RS.zeroValue hz elem).bind fun s13 l13 z z' e => ?_
                    obtain ⟨rfl, e⟩ := e
                    refine (RS.newRow ((((ho.mono l12).mono l13).append (hn.mono l13)).append (zeroCells_alike _ fun i => cells_self e i))).bind fun s14 l14 q q' h => ?_
                    exact RS.pure (.ofSlice _ _ h)
        · refine (RS.lenOf hx4).bind fun sn ln n n' e => ?_
          cases e
          refine RS.ite (fun hc => ?_) (fun hc => ?_)
          · refine (RS.made hz (hx4.mono ln) _ elem size _).bind fun s6 l6 p q hp => ?_
            have hb6 := l6 _ _ (ln _ _ hb4)
            refine (RS.storeCells 0 ((DR.of hb6).add _) hp.list).bind fun s7 l7 _ _ _ => ?_
            exact RS.pure (.slice _ _ (l7 _ _ hb6))

          · refine (RS.typeInfo elem).bind fun s6 l6 g g' e => ?_
            obtain ⟨rfl, _⟩ := e
            refine RS.ite (fun hc => ?_) (fun hc => ?_)
            · exact RS.dead (Dies.bind_left (Dies.runtimePanic _))
            · refine (RS.typeInfo elem).bind fun s7 l7 g g' e => ?_
              obtain ⟨rfl, _⟩ := e
              refine RS.ite (fun hc => ?_) (fun hc => ?_)
              · exact RS.dead (Dies.bind_left (Dies.ite (Dies.runtimePanic _) (Dies.bind (mayShare_mild _ _ _ _ _) fun _ => Dies.ite (Dies.bind (Mild.mark _) fun _ => Dies.halt _) (Dies.halt _))))
              · refine (RS.choose _).bind fun s8 l8 c c' e => ?_
                cases e
                refine (RS.typeInfo elem).bind fun s9 l9 g g' e => ?_
                obtain ⟨rfl, _⟩ := e
                refine (RS.askRoom _).bind fun s10 l10 _ _ _ => ?_
                have le := ((((ln.trans l6).trans l7).trans l8).trans l9).trans l10
                refine (RS.firstCells (hv4.mono le) size _).bind fun s11 l11 old old' ho => ?_
                refine (RS.made hz ((hx4.mono le).mono l11) _ elem size _).bind fun s12 l12 new new' hn => ?_
                refine (RS.zeroValue hz elem).bind fun s13 l13 z z' e => ?_
                obtain ⟨rfl, e⟩ := e
                refine (RS.newRow ((((ho.mono l12).mono l13).append (hn.mono l13)).append (zeroCells_alike _ fun i => cells_self e i))).bind fun s14 l14 q q' h => ?_
                exact RS.pure (.ofSlice _ _ h)
    all_goals exact RS.halt
  | _ => exact RS.halt
end
end Go.Proofs.Ythifdfbdekkmgaa

/- Operations, alike: numbers, texts, equality, conversions. -/
namespace Go.Proofs.Ythifdfbdekkmgaa
set_option linter.unusedVariables false
section
variable {P : Program} [NoCx P] {F : Array Func} {ro : Nat → Prop} {r : Ren} {v v' x x' y y' i i' : Value}
theorem RS.len (ts : Array TypeId) (t : TypeId) {l l' : Array Value} (hl : AR r l l') : RS (Wi P F) P ro r (fun s a b => VR s a b) (Builtin.len_ ts t l) (Builtin.len_ ts t l') := by
  unfold Builtin.len_
  cases ts[0]? with
  | none => exact RS.halt
  | some sType =>
  rcases hl.cases 0 with ⟨e, e'⟩ | ⟨v, v', e, e', hv⟩
  · rw [e]; exact RS.halt
  rw [e, e']
  dsimp only
  refine (RS.underlying sType).bind fun s2 l2 d d' hd => ?_
  obtain ⟨rfl, hd⟩ := hd
  have hv2 := hv.mono l2
  clear hl e e' hv
  cases d with
  | string => cases hv2 <;> first | exact RS.pure (.int _ _) | exact RS.halt
  | array n e => cases hv2 <;> exact RS.pure (.int _ _)
  | pointer arr =>
    have : RS (Wi P F) P ro s2 (fun s a b => VR s a b) (do
        let .array n _ ← Go.underlying arr | stuck "len: pointer to array expected"
        Pure.pure (goInt n)) (do
        let .array n _ ← Go.underlying arr | stuck "len: pointer to array expected"
        Pure.pure (goInt n)) := by
      refine (RS.underlying arr).bind fun s3 l3 d d' hd => ?_
      obtain ⟨rfl, hd⟩ := hd
      cases d <;> first | exact RS.pure (.int _ _) | exact RS.halt
    cases hv2 <;> exact this
  | slice e => cases hv2 <;> first | exact RS.pure (.int _ _) | exact RS.halt
  | map k e =>
    cases hv2 with
    | nilMap => exact RS.pure (.int _ _)
    | map h =>
      refine (RS.getObj h).bind fun s3 l3 o o' ho => ?_
      rcases ho with ⟨a, a', t, rfl, rfl, _⟩ | ⟨a, a', t, rfl, rfl, _⟩ <;> exact RS.halt
    | _ => exact RS.halt
  | chan k e =>
    cases hv2 with
    | nilChan => exact RS.pure (.int _ _)
    | chan h =>
      refine (RS.getObj h).bind fun s3 l3 o o' ho => ?_
      rcases ho with ⟨a, a', t, rfl, rfl, _⟩ | ⟨a, a', t, rfl, rfl, _⟩ <;> exact RS.halt
    | _ => exact RS.halt
  | _ => cases hv2 <;> exact RS.halt
theorem RS.cap (ts : Array TypeId) (t : TypeId) {l l' : Array Value} (hl : AR r l l') : RS (Wi P F) P ro r (fun s a b => VR s a b) (Builtin.cap_ ts t l) (Builtin.cap_ ts t l') := by
  unfold Builtin.cap_
  cases ts[0]? with
  | none => exact RS.halt
  | some sType =>
  rcases hl.cases 0 with ⟨e, e'⟩ | ⟨v, v', e, e', hv⟩
  · rw [e]; exact RS.halt
  rw [e, e']
  dsimp only
  refine (RS.underlying sType).bind fun s2 l2 d d' hd => ?_
  obtain ⟨rfl, hd⟩ := hd
  have hv2 := hv.mono l2
  clear hl e e' hv
  cases d with
  | array n e => cases hv2 <;> exact RS.pure (.int _ _)
  | pointer arr =>
    have : RS (Wi P F) P ro s2 (fun s a b => VR s a b) (do
        let .array n _ ← Go.underlying arr | stuck "cap: pointer to array expected"
        Pure.pure (goInt n)) (do
        let .array n _ ← Go.underlying arr | stuck "cap: pointer to array expected"
        Pure.pure (goInt n)) := by
      refine (RS.underlying arr).bind fun s3 l3 d d' hd => ?_
      obtain ⟨rfl, hd⟩ := hd
      cases d <;> first | exact RS.pure (.int _ _) | exact RS.halt
    cases hv2 <;> exact this
  | slice e => cases hv2 <;> first | exact RS.pure (.int _ _) | exact RS.halt
  | chan k e =>
    cases hv2 with
    | nilChan => exact RS.pure (.int _ _)
    | chan h =>
      refine (RS.getObj h).bind fun s3 l3 o o' ho => ?_
      rcases ho with ⟨a, a', t, rfl, rfl, _⟩ | ⟨a, a', t, rfl, rfl, _⟩ <;> exact RS.halt
    | _ => exact RS.halt
  | _ => cases hv2 <;> exact RS.halt
theorem RS.copy (ts : Array TypeId) (t : TypeId) {l l' : Array Value} (hl : AR r l l') : RS (Wi P F) P ro r (fun s a b => VR s a b) (Builtin.copy_ ts t l) (Builtin.copy_ ts t l') := by
  unfold Builtin.copy_
  cases ts[0]? with
  | none => exact RS.halt
  | some sType =>
  rcases hl.cases 0 with ⟨e, e'⟩ | ⟨v, v', e, e', hv⟩
  · rw [e]; exact RS.halt
  rcases hl.cases 1 with ⟨e1, e1'⟩ | ⟨x, x', e1, e1', hx⟩
  · rw [e, e1]; exact RS.halt
  rw [e, e', e1, e1']
  clear e e' e1 e1' hl
  dsimp only
  refine (RS.underlying sType).bind fun s2 l2 d d' hd => ?_
  obtain ⟨rfl, hd⟩ := hd
  cases d with
  | slice elem =>
    have hv2 := hv.mono l2
    have hx2 := hx.mono l2
    clear hv
    cases hv2 with
    | nilSlice m k =>
      dsimp only
      refine (RS.lenOf hx2).bind fun s3 l3 n n' e => ?_
      cases e
      refine (RS.sizeOf elem).bind fun s4 l4 z z' e => ?_
      cases e
      refine (RS.firstCells ((hx2.mono l3).mono l4) _ _).bind fun s5 l5 p q hp => ?_
      exact RS.pure (.int _ _)
    | slice m k hb =>
      dsimp only
      refine (RS.lenOf hx2).bind fun s3 l3 n n' e => ?_
      cases e
      refine (RS.sizeOf elem).bind fun s4 l4 z z' e => ?_
      cases e
      refine (RS.firstCells ((hx2.mono l3).mono l4) _ _).bind fun s5 l5 p q hp => ?_
      refine (RS.storeCells 0 (DR.of (l5 _ _ (l4 _ _ (l3 _ _ hb)))) hp.list).bind fun s7 l7 _ _ _ => ?_
      exact RS.pure (.int _ _)
    | _ => exact RS.halt
  | _ => exact RS.halt
omit [NoCx P] in
theorem RS.intArith (op : BinOp) (k : IntKind) (m n : Int) : RS (Wi P F) P ro r (fun s a b => VR s a b) (Op.intArith op k m n) (Op.intArith op k m n) := by
  unfold Op.intArith
  cases op <;> first | exact RS.pure (.int _ _) | exact RS.halt
omit [NoCx P] in
theorem RS.intBits (op : BinOp) (k : IntKind) (m n : Int) : RS (Wi P F) P ro r (fun s a b => VR s a b) (Op.intBits op k m n) (Op.intBits op k m n) := by
  unfold Op.intBits
  cases op <;> first | exact RS.pure (.int _ _) | exact RS.halt
omit [NoCx P] in
theorem RS.intCmp (op : BinOp) (m n : Int) : RS (Wi P F) P ro r (fun s a b => VR s a b) (Op.intCmp op m n) (Op.intCmp op m n) := by
  unfold Op.intCmp
  cases op <;> first | exact RS.pure (.bool _) | exact RS.halt
theorem RS.intDiv (op : BinOp) (k : IntKind) (m n : Int) : RS (Wi P F) P ro r (fun s a b => VR s a b) (Op.intDiv op k m n) (Op.intDiv op k m n) := by
  unfold Op.intDiv
  refine RS.ite (fun _ => RS.dead (Dies.runtimePanic _)) fun _ => ?_
  cases op <;> first | exact RS.pure (.int _ _) | exact RS.halt
theorem RS.shift (op : BinOp) (k yk : IntKind) (m n : Int) : RS (Wi P F) P ro r (fun s a b => VR s a b) (Op.shift op k m yk n) (Op.shift op k m yk n) := by
  unfold Op.shift
  refine RS.ite (fun _ => RS.dead (Dies.runtimePanic _)) fun _ => ?_
  cases op <;> first | exact RS.pure (.int _ _) | exact RS.halt
omit [NoCx P] in
theorem RS.stringOp (op : BinOp) (m n : ByteArray) : RS (Wi P F) P ro r (fun s a b => VR s a b) (Op.stringOp op m n) (Op.stringOp op m n) := by
  unfold Op.stringOp
  cases op <;> first | exact RS.pure (.bool _) | exact RS.halt | skip
  exact RS.ite (fun _ => RS.halt) fun _ => RS.pure (.string _)
/-- A kind of number or text that names no memory. -/
def flatV : Value → Bool
  | .int _ _ | .string _ | .bool _ => true
  | _ => false
theorem flat_same (h : VR r v v') (hf : flatV v = true) : v = v' := by cases h <;> first | rfl | cases hf
theorem RS.unary (op : UnOp) (hx : VR r x x') : RS (Wi P F) P ro r (fun s a b => VR s a b) (Op.unary op x) (Op.unary op x') := by
  unfold Op.unary
  cases hx with
  | int k n => cases op <;> first | exact RS.intArith _ _ _ _ | exact RS.intBits _ _ _ _ | exact RS.halt
  | float k n => cases op <;> first | exact RS.pure (.float _ _) | exact RS.halt
  | bool b => cases op <;> first | exact RS.pure (.bool _) | exact RS.halt
  | _ => cases op <;> exact RS.halt
theorem RS.makeInterface (hx : VR r x x') (t : TypeId) : RS (Wi P F) P ro r (fun s a b => VR s a b) (Instr.makeInterface t x) (Instr.makeInterface t x') := by
  unfold Instr.makeInterface
  refine (RS.underlying t).bind fun s2 l2 d d' hd => ?_
  obtain ⟨rfl, hd⟩ := hd
  cases d <;> first | exact RS.pure (.iface (hx.mono l2)) | exact RS.halt
end
end Go.Proofs.Ythifdfbdekkmgaa

/- Operations, alike: addresses held against each other. -/
namespace Go.Proofs.Ythifdfbdekkmgaa
set_option linter.unusedVariables false
section
variable {P : Program} [NoCx P] {F : Array Func} {ro : Nat → Prop} {r : Ren} {v v' x x' y y' i i' : Value}
theorem RS.stringish (hro : ∀ c, ¬ ro c) {a a' : Addr} (h : DR r a a') : RS (Wi P F) P ro r (fun _ x y => x = y) (stringish a) (stringish a') := by
  unfold Go.stringish
  refine (RS.frozen h (hro _)).bind fun s le p q e => ?_
  cases e
  refine RS.ite (fun _ => RS.pure rfl) fun _ => ?_
  refine (RS.shape (le _ _ h.1)).bind fun s2 l2 p q e => ?_
  cases e
  cases p with
  | none => exact RS.pure rfl
  | some z => exact RS.frozen (show DR s2 { block := a.block, off := z.2 } { block := a'.block, off := z.2 } from ⟨l2 _ _ (le _ _ h.1), rfl, rfl⟩) (hro _)
theorem RS.mayBeOne (hro : ∀ c, ¬ ro c) {a a' b b' : Addr} (h : DR r a a') (k : DR r b b') : RS (Wi P F) P ro r (fun _ x y => x = y) (mayBeOne a b) (mayBeOne a' b') := by
  unfold Go.mayBeOne
  refine (RS.stringish hro h).bind fun s le p q e => ?_
  cases e
  refine (RS.stringish hro (k.mono le)).bind fun s2 l2 p2 q2 e => ?_
  cases e
  refine (RS.shape (l2 _ _ (le _ _ h.1))).bind fun s3 l3 p3 q3 e => ?_
  cases e
  refine (RS.shape (l3 _ _ (l2 _ _ (le _ _ k.1)))).bind fun s4 l4 p4 q4 e => ?_
  cases e
  exact RS.pure rfl
theorem DR.same {a a' b b' : Addr} (h : DR r a a') (k : DR r b b') (one : ∀ b c d, r b c → r b d → c = d) (inj : ∀ b c d, r c b → r d b → c = d) : (a == b) = (a' == b') ∧ (a.block == b.block) = (a'.block == b'.block) := by
  obtain ⟨ab, ao, asp⟩ := a
  obtain ⟨ab', ao', asp'⟩ := a'
  obtain ⟨bb, bo, bsp⟩ := b
  obtain ⟨bb', bo', bsp'⟩ := b'
  obtain ⟨h1, h2, h3⟩ := h
  obtain ⟨k1, k2, k3⟩ := k
  simp only at h1 h2 h3 k1 k2 k3
  subst h2 h3 k2 k3
  have key : ab = bb ↔ ab' = bb' := ⟨fun e => one _ _ _ h1 (e ▸ k1), fun e => inj _ _ _ h1 (e ▸ k1)⟩
  constructor
  · rw [Bool.eq_iff_iff, beq_iff_eq, beq_iff_eq]
    simp [key]
  · rw [Bool.eq_iff_iff, beq_iff_eq, beq_iff_eq]
    exact key
theorem RS.sameAddr (hro : ∀ c, ¬ ro c) {a a' b b' : Addr} (h : DR r a a') (k : DR r b b') : RS (Wi P F) P ro r (fun _ x y => x = y) (sameAddr a b) (sameAddr a' b') := by
  refine RS.uniq fun one inj => ?_
  obtain ⟨e1, e2⟩ := h.same k one inj
  unfold Go.sameAddr
  rw [e1, e2]
  refine RS.ite (fun _ => RS.pure rfl) fun _ => ?_
  refine (RS.frozen h (hro _)).bind fun s le p q e => ?_
  cases e
  refine (RS.frozen (k.mono le) (hro _)).bind fun s2 l2 p2 q2 e => ?_
  cases e
  refine RS.ite (fun _ => RS.dead (Dies.bind_left (Dies.halt _))) fun _ => ?_
  have h2 := (h.mono le).mono l2
  have k2 := (k.mono le).mono l2
  refine (RS.noView h2).bind fun s3 l3 _ _ _ => ?_
  refine (RS.noView (k2.mono l3)).bind fun s4 l4 _ _ _ => ?_
  refine (RS.mayBeOne hro ((h2.mono l3).mono l4) ((k2.mono l3).mono l4)).bind fun s5 l5 p q e => ?_
  cases e
  refine RS.ite (fun _ => ?_) fun _ => RS.pure rfl
  refine (RS.choose _).bind fun s6 l6 p q e => ?_
  cases e
  exact RS.pure rfl
theorem RS.behindNumber {a a' : Addr} (h : DR r a a') : RS (Wi P F) P ro r (fun s x y => DR s x.1 y.1 ∧ x.2 = y.2) (behindNumber a) (behindNumber a') := by
  unfold Go.behindNumber
  refine (RS.numberAt h.1).bind fun s le o o' e => ?_
  rcases e with ⟨rfl, rfl⟩ | ⟨p, q, t, rfl, rfl, k⟩
  · exact RS.pure ⟨h.mono le, rfl⟩
  · exact RS.pure ⟨k, rfl⟩
/-- Two of these are held against each other without a look into them. -/
def plainT (P : Program) (t : TypeId) : Bool :=
  (match P.underlying t with
    | some .bool | some (.float _) | some .string | some (.pointer _) | some .unsafePointer | some (.slice _) | some (.map _ _) | some (.func _ _ _) => true
    | some (.int _) => match P.info? t with
      | some i => match i.desc with
        | .named n _ => n != "sync.copyChecker"
        | _ => true
      | none => true
    | _ => false)
/-- Two of these may be asked for by their addresses. -/
def ptrT (P : Program) (t : TypeId) : Bool := match P.underlying t with
  | some (.pointer _) | some .unsafePointer => true
  | _ => false
theorem RS.equalIn (d : Nat) {t : TypeId} (ht : plainT P t = true) (hro : ptrT P t = true → ∀ c, ¬ ro c) (hx : VR r x x') (hy : VR r y y') : RS (Wi P F) P ro r (fun _ a b => a = b) (Op.equalIn (d + 1) t x y) (Op.equalIn (d + 1) t x' y') := by
  unfold Op.equalIn
  refine (RS.underlying t).bind fun s2 l2 td td' hd => ?_
  obtain ⟨rfl, hd⟩ := hd
  have hx2 := hx.mono l2
  have hy2 := hy.mono l2
  clear hx hy
  unfold plainT at ht
  rw [hd] at ht
  cases td with
  | bool =>
    cases hx2 with
    | bool b => cases hy2 <;> first | exact RS.pure rfl | exact RS.halt
    | _ => exact RS.halt
  | string =>
    cases hx2 with
    | string b => cases hy2 <;> first | exact RS.pure rfl | exact RS.halt
    | _ => exact RS.halt
  | float k =>
    cases hx2 with
    | float b n =>
      cases hy2 with
      | float b n => exact RS.ite (fun _ => RS.pure rfl) fun _ => RS.halt
      | _ => exact RS.halt
    | _ => exact RS.halt
  | slice e =>
    cases hx2 with
    | nilSlice _ _ => cases hy2 <;> first | exact RS.pure rfl | exact RS.halt
    | slice _ _ _ => cases hy2 <;> first | exact RS.pure rfl | exact RS.halt
    | _ => exact RS.halt
  | map k e =>
    cases hx2 with
    | nilMap => cases hy2 <;> first | exact RS.pure rfl | exact RS.halt
    | map _ => cases hy2 <;> first | exact RS.pure rfl | exact RS.halt
    | _ => exact RS.halt
  | func a b c =>
    cases hx2 with
    | nilFunc => cases hy2 <;> first | exact RS.pure rfl | exact RS.halt
    | func _ _ _ _ => cases hy2 <;> first | exact RS.pure rfl | exact RS.halt
    | _ => exact RS.halt
  | pointer e =>
    cases hx2 with
    | nilPtr => cases hy2 <;> first | exact RS.pure rfl | exact RS.halt
    | ptr h1 =>
      cases hy2 with
      | nilPtr => exact RS.pure rfl
      | ptr h2 =>
        refine (RS.sizeOf e).bind fun s3 l3 n m e => ?_
        cases e
        refine RS.ite (fun _ => RS.sameAddr (hro (by simp only [ptrT, hd])) (DR.of (l3 _ _ h1)) (DR.of (l3 _ _ h2))) fun _ => ?_
        refine RS.uniq fun one inj => ?_
        rw [((DR.of (l3 _ _ h1)).same (DR.of (l3 _ _ h2)) one inj).1]
        refine RS.ite (fun _ => RS.pure rfl) fun _ => ?_
        refine (RS.choose _).bind fun s6 l6 p q e => ?_
        cases e
        exact RS.pure rfl
      | _ => exact RS.halt
    | _ => exact RS.halt
  | unsafePointer =>
    cases hx2 with
    | nilPtr => cases hy2 <;> first | exact RS.pure rfl | exact RS.halt
    | ptr h1 =>
      cases hy2 with
      | nilPtr => exact RS.pure rfl
      | ptr h2 => exact RS.sameAddr (hro (by simp only [ptrT, hd])) (DR.of h1) (DR.of h2)
      | _ => exact RS.halt
    | _ => exact RS.halt
  | int k =>
    cases hx2 with
    | int k1 n =>
      cases hy2 with
      | int k2 m => exact RS.ite (fun _ => RS.pure rfl) fun _ => RS.halt
      | ptr h =>
        cases n with
        | ofNat n =>
          cases n with
          | zero => exact RS.pure rfl
          | succ n => exact RS.halt
        | negSucc n => exact RS.halt
      | nilPtr =>
        cases n with
        | ofNat n =>
          cases n with
          | zero => exact RS.halt
          | succ n => exact RS.halt
        | negSucc n => exact RS.halt
      | _ => exact RS.halt
    | nilPtr => cases hy2 <;> exact RS.halt
    | ptr h1 =>
      cases hy2 with
      | int k2 n =>
        cases n with
        | ofNat n =>
          cases n with
          | zero => exact RS.pure rfl
          | succ n => exact RS.halt
        | negSucc n => exact RS.halt
      | ptr h2 =>
        refine (RS.behindNumber (DR.of h1)).bind fun s3 l3 p q hp => ?_
        refine (RS.behindNumber (DR.of (l3 _ _ h2))).bind fun s4 l4 p2 q2 hp2 => ?_
        refine RS.program ?_
        refine RS.glo fun hg => ?_
        have hp4 := hp.1.mono l4
        have g1 := (hg _ _ hp4.1).1
        have g2 := (hg _ _ hp4.1).2
        have e1 : (p.1.block == p2.1.block && decide (p.1.block < (Wi P F).globals.size)) = false := by
          have : ¬ p.1.block < P.globals.size := by omega
          simp [this]
        have e2 : (q.1.block == q2.1.block && decide (q.1.block < P.globals.size)) = false := by
          have : ¬ q.1.block < P.globals.size := by omega
          simp [this]
        rw [e1, e2]
        simp only [Bool.false_eq_true, ↓reduceIte]
        refine (RS.typeInfo t).bind fun s5 l5 i i' e => ?_
        obtain ⟨rfl, hi⟩ := e
        rw [hi] at ht
        cases hdd : i.desc with
        | named n u =>
          simp only [hdd, bne_iff_ne, ne_eq] at ht
          split
          · rename_i heq
            exact absurd (by cases heq; rfl) ht
          · exact RS.halt
        | _ => exact RS.halt
      | _ => exact RS.halt
    | _ => cases hy2 <;> exact RS.halt
  | _ => cases ht
theorem RS.equal {t : TypeId} (ht : plainT P t = true) (hro : ptrT P t = true → ∀ c, ¬ ro c) (hx : VR r x x') (hy : VR r y y') : RS (Wi P F) P ro r (fun _ a b => a = b) (Op.equal t x y) (Op.equal t x' y') := RS.equalIn 9999 ht hro hx hy
theorem RS.eqGuard (op : BinOp) {t : TypeId} (ht : plainT P t = true) (a b : Operand) (hx : VR r x x') (hy : VR r y y') : RS (Wi P F) P ro r (fun _ _ _ => True) (eqGuard op t a b x y) (eqGuard op t a b x' y') := by
  unfold Go.eqGuard
  refine RS.ite (fun _ => RS.pure trivial) fun _ => ?_
  have inner : ∀ {s : Ren} (u v u' v' : Value), VR s u u' → VR s v v' → RS (Wi P F) P ro s (fun _ a b => a = false ∧ b = false) (Op.eqGuardIn Op.maxDepth t u v) (Op.eqGuardIn Op.maxDepth t u' v') := by
    intro s u v u' v' hu hv
    unfold Op.eqGuardIn
    show RS _ _ _ _ _ (Go.underlying t >>= _) (Go.underlying t >>= _)
    refine (RS.underlying t).bind fun s2 l2 d d' hd => ?_
    obtain ⟨rfl, hd⟩ := hd
    unfold plainT at ht
    rw [hd] at ht
    cases d <;> first | (cases ht; done) | exact RS.pure ⟨rfl, rfl⟩
  cases hx with
  | nilIface =>
    cases hy with
    | nilIface =>
      dsimp only
      refine RS.ite (fun _ => RS.pure trivial) fun _ => ?_
      refine (inner _ _ _ _ .nilIface .nilIface).bind fun s le p q e => ?_
      obtain ⟨rfl, rfl⟩ := e
      exact RS.pure trivial
    | _ => exact RS.pure trivial
  | agg e1 k1 =>
    cases hy with
    | agg e2 k2 =>
      dsimp only
      refine RS.program ?_
      have e : (Wi P F).eqGuardType (Wi P F).depth t = P.eqGuardType P.depth t := by
        have : ∀ d t, (Wi P F).eqGuardType d t = P.eqGuardType d t := by
          intro d
          induction d with
          | zero => intro t; rfl
          | succ d ih => intro t; unfold Program.eqGuardType; simp only [wi_under, ih]
        exact this _ _
      refine RS.program ?_
      rw [e]
      refine RS.ite (fun _ => RS.pure trivial) fun _ => ?_
      refine (inner _ _ _ _ (.agg e1 k1) (.agg e2 k2)).bind fun s le p q e => ?_
      obtain ⟨rfl, rfl⟩ := e
      exact RS.pure trivial
    | _ => exact RS.pure trivial
  | _ => exact RS.pure trivial
end
end Go.Proofs.Ythifdfbdekkmgaa

/- Operations, alike: numbers and texts together; conversions; least ones. -/
namespace Go.Proofs.Ythifdfbdekkmgaa
set_option linter.unusedVariables false
theorem wi_cellOf (P : Program) (F : Array Func) (d : Nat) : ∀ t o, cellOfByte (Wi P F) d t o = cellOfByte P d t o := by
  induction d with
  | zero => intro t o; rfl
  | succ d ih => intro t o; unfold cellOfByte; simp only [wi_under, ih]; rfl
theorem wi_cellAt (P : Program) (F : Array Func) (d e c o : Nat) (b : Int) : cellAtBytes (Wi P F) d e c o b = cellAtBytes P d e c o b := by
  unfold cellAtBytes
  have e1 : (Wi P F).cellsOf e = P.cellsOf e := rfl
  have e2 : (Wi P F).bytesOf e = P.bytesOf e := rfl
  rw [e1, e2]
  simp only [wi_byte, wi_cellOf]
section
variable {P : Program} [NoCx P] {F : Array Func} {ro : Nat → Prop} {r : Ren} {v v' x x' y y' i i' : Value}
theorem RS.unsafeAdd (t : TypeId) (hx : VR r x x') (hy : VR r y y') : RS (Wi P F) P ro r (fun s a b => VR s a b) (Builtin.unsafeAdd_ #[] t #[x, y]) (Builtin.unsafeAdd_ #[] t #[x', y']) := by
  unfold Builtin.unsafeAdd_
  cases hx with
  | nilPtr =>
    dsimp only
    refine (RS.asInt hy).bind fun s le n m e => ?_
    cases e
    refine RS.ite (fun _ => RS.halt) fun _ => ?_
    exact RS.ite (fun _ => RS.dead (Dies.bind_left (Dies.halt _))) fun _ => RS.halt
  | ptr h =>
    dsimp only
    refine (RS.asInt hy).bind fun s le n m e => ?_
    cases e
    have h2 := le _ _ h
    refine RS.ite (fun _ => ?_) fun _ => ?_
    · refine (RS.viewAt h2).bind fun s2 l2 o o' ho => ?_
      rcases ho with ⟨rfl, rfl⟩ | ⟨a, a', t, rfl, rfl, k⟩
      · exact RS.pure (.ptr (l2 _ _ h2))
      · exact RS.dead (Dies.bind_left (Dies.halt _))
    · refine RS.ite (fun _ => RS.dead (Dies.bind_left (Dies.halt _))) fun _ => ?_
      refine (RS.shape h2).bind fun s2 l2 o o' ho => ?_
      cases ho
      cases o with
      | none => exact RS.halt
      | some z =>
        dsimp only
        refine RS.program ?_
        have e1 : (Wi P F).cellsOf z.1 = P.cellsOf z.1 := rfl
        have e3 : (Wi P F).depth = P.depth := rfl
        rw [e1, e3, wi_cellAt]
        cases cellAtBytes P P.depth z.1 (z.2 / P.cellsOf z.1) _ _ with
        | none => exact RS.halt
        | some off => exact RS.pure (.ptr (l2 _ _ h2))
  | _ => exact RS.halt
theorem RS.asNumber {a a' : Addr} (h : DR r a a') (b : Bool) : RS (Wi P F) P ro r (fun s a b => VR s a b) (asNumber a b) (asNumber a' b) :=
  (RS.newObj (.number h)).bind fun s le p q k => RS.pure (.ptr k)
theorem RS.movedNumber (t : TypeId) (hx : VR r x x') (hy : VR r y y') : RS (Wi P F) P ro r (fun s a b => VR s a b) (movedNumber t x y) (movedNumber t x' y') := by
  unfold Go.movedNumber
  refine (RS.underlying t).bind fun s2 l2 d d' hd => ?_
  obtain ⟨rfl, hd⟩ := hd
  have hx2 := hx.mono l2
  have hy2 := hy.mono l2
  clear hx hy
  cases d <;> first | exact RS.dead (Dies.bind_left (Dies.halt _)) | skip
  all_goals
    have hx3 := hx2
    cases hx2 with
    | ptr h =>
      refine (RS.behindNumber (DR.of h)).bind fun s3 l3 p q hp => ?_
      obtain ⟨p1, p2⟩ := p
      obtain ⟨q1, q2⟩ := q
      obtain ⟨hp1, hp2⟩ := hp
      cases hp2
      refine (RS.unsafeAdd t (.ofAddr hp1) (hy2.mono l3)).bind fun s4 l4 u u' hu => ?_
      cases hu with
      | ptr h => exact RS.asNumber (DR.of h) _
      | nilPtr => exact RS.pure .nilPtr
      | bool b => exact RS.pure (.bool b)
      | int k n => exact RS.pure (.int k n)
      | float k n => exact RS.pure (.float k n)
      | string s => exact RS.pure (.string s)
      | nilSlice l m => exact RS.pure (.nilSlice l m)
      | slice l m h => exact RS.pure (.slice l m h)
      | nilMap => exact RS.pure .nilMap
      | map h => exact RS.pure (.map h)
      | nilChan => exact RS.pure .nilChan
      | chan h => exact RS.pure (.chan h)
      | func a b c d => exact RS.pure (.func a b c d)
      | nilFunc => exact RS.pure .nilFunc
      | iface h => exact RS.pure (.iface h)
      | nilIface => exact RS.pure .nilIface
      | agg a b => exact RS.pure (.agg a b)
      | tuple a b => exact RS.pure (.tuple a b)
    | _ => exact RS.unsafeAdd t hx3 hy2
theorem RS.addrMod {a a' : Addr} (h : DR r a a') (k : IntKind) (n : Int) : RS (Wi P F) P ro r (fun s a b => VR s a b) (Op.addrMod k a n) (Op.addrMod k a' n) := by
  unfold Op.addrMod
  refine (RS.shape h.1).bind fun s le o o' e => ?_
  cases e
  cases o with
  | none => exact RS.halt
  | some z =>
    dsimp only
    refine (RS.typeInfo z.1).bind fun s2 l2 i i' e => ?_
    obtain ⟨rfl, _⟩ := e
    refine RS.ite (fun _ => RS.dead (Dies.bind_left (Dies.halt _))) fun _ => ?_
    refine (RS.byteOf ((h.mono le).mono l2)).bind fun s3 l3 p q e => ?_
    cases e
    exact RS.pure (.int _ _)
theorem RS.twoPlaces {a a' : Addr} (h : DR r a a') (b b' : Addr) : RS (Wi P F) P ro r (fun _ _ _ => False) (Op.twoPlaces a b) (Op.twoPlaces a' b') := by
  refine RS.glo fun hg => ?_
  unfold Op.twoPlaces
  refine RS.program ?_
  have e : (a.block != b.block || decide (a.block ≥ (Wi P F).globals.size)) = true := by
    have := (hg _ _ h.1).1
    simp [this]
  rw [if_pos e]
  exact RS.dead (Dies.bind_left (Dies.halt _))
theorem RS.addrCmp {a a' : Addr} (h : DR r a a') (b b' : Addr) (op : BinOp) : RS (Wi P F) P ro r (fun s x y => VR s x y) (Op.addrCmp op a b) (Op.addrCmp op a' b') :=
  (RS.twoPlaces h b b').bind fun _ _ _ _ f => f.elim
theorem RS.addrSub {a a' : Addr} (h : DR r a a') (b b' : Addr) (k : IntKind) : RS (Wi P F) P ro r (fun s x y => VR s x y) (Op.addrSub k a b) (Op.addrSub k a' b') :=
  (RS.twoPlaces h b b').bind fun _ _ _ _ f => f.elim
end
end Go.Proofs.Ythifdfbdekkmgaa

/- Operations, alike: all of two numbers or texts. -/
namespace Go.Proofs.Ythifdfbdekkmgaa
set_option linter.unusedVariables false
section
variable {P : Program} [NoCx P] {F : Array Func} {ro : Nat → Prop} {r : Ren} {v v' x x' y y' i i' : Value}
omit [NoCx P] in
theorem RS.floatCmp (op : BinOp) (k : FloatKind) (m n : Nat) : RS (Wi P F) P ro r (fun s a b => VR s a b) (Op.floatCmp op k m n) (Op.floatCmp op k m n) := by
  unfold Op.floatCmp
  cases op <;> first | exact RS.pure (.bool _) | exact RS.halt
theorem RS.binEql {t : TypeId} (ht : plainT P t = true) (hro : ptrT P t = true → ∀ c, ¬ ro c) (hx : VR r x x') (hy : VR r y y') : RS (Wi P F) P ro r (fun s a b => VR s a b) (binOp .eql t x y) (binOp .eql t x' y') := by
  have eq1 : RS (Wi P F) P ro r (fun s a b => VR s a b) (do Pure.pure (.bool (← Op.equal t x y))) (do Pure.pure (.bool (← Op.equal t x' y'))) := by
    refine (RS.equal ht hro hx hy).bind fun s le p q e => ?_
    cases e
    exact RS.pure (.bool _)
  cases hx with
  | int k m =>
    cases hy with
    | int k2 n => exact RS.ite (fun _ => RS.halt) fun _ => RS.intCmp _ _ _
    | _ => exact eq1
  | float k m =>
    cases hy with
    | float k2 n => exact RS.ite (fun _ => RS.halt) fun _ => RS.floatCmp _ _ _ _
    | _ => exact eq1
  | string m =>
    cases hy with
    | string n => exact RS.stringOp (P := P) .eql m n
    | _ => exact eq1
  | _ => exact eq1
theorem RS.binNeq {t : TypeId} (ht : plainT P t = true) (hro : ptrT P t = true → ∀ c, ¬ ro c) (hx : VR r x x') (hy : VR r y y') : RS (Wi P F) P ro r (fun s a b => VR s a b) (binOp .neq t x y) (binOp .neq t x' y') := by
  have eq1 : RS (Wi P F) P ro r (fun s a b => VR s a b) (do Pure.pure (.bool (!(← Op.equal t x y)))) (do Pure.pure (.bool (!(← Op.equal t x' y')))) := by
    refine (RS.equal ht hro hx hy).bind fun s le p q e => ?_
    cases e
    exact RS.pure (.bool _)
  cases hx with
  | int k m =>
    cases hy with
    | int k2 n => exact RS.ite (fun _ => RS.halt) fun _ => RS.intCmp _ _ _
    | _ => exact eq1
  | float k m =>
    cases hy with
    | float k2 n => exact RS.ite (fun _ => RS.halt) fun _ => RS.floatCmp _ _ _ _
    | _ => exact eq1
  | string m =>
    cases hy with
    | string n => exact RS.stringOp (P := P) .neq m n
    | _ => exact eq1
  | _ => exact eq1
omit [NoCx P] in
theorem RS.floatArith (op : BinOp) (k : FloatKind) (m n : Nat) : RS (Wi P F) P ro r (fun s a b => VR s a b) (Op.floatArith op k m n) (Op.floatArith op k m n) := by
  unfold Op.floatArith
  have last : ∀ {s : Ren} (o : Option Nat), RS (Wi P F) P ro s (fun s a b => VR s a b) (match o with
    | some r => (Pure.pure (.float k r) : Sem Value)
    | none => do Pure.pure (.float k (← Go.choose (.nanBits k m n)))) (match o with
    | some r => (Pure.pure (.float k r) : Sem Value)
    | none => do Pure.pure (.float k (← Go.choose (.nanBits k m n)))) := by
    intro s o
    cases o with
    | some r => exact RS.pure (.float _ _)
    | none => exact (RS.choose _).bind fun s le a b e => by cases e; exact RS.pure (.float _ _)
  cases op <;> first | exact RS.halt | exact RS.bind (A := fun _ a b => a = b) (RS.pure rfl) fun s le a b e => by cases e; exact last a
theorem behind1 {f : Addr → Sem Value} (hf : ∀ {s : Ren} {a a' : Addr}, DR s a a' → RS (Wi P F) P ro s (fun s a b => VR s a b) (f a) (f a')) {a a' : Addr} (h : DR r a a') :
    RS (Wi P F) P ro r (fun s a b => VR s a b) (do f (← Go.behindNumber a).1) (do f (← Go.behindNumber a').1) :=
  (RS.behindNumber h).bind fun s le p q hp => hf hp.1
theorem behind2 {f f' : Addr → Addr → Sem Value} (hf : ∀ {s : Ren} {a a' : Addr} (b b' : Addr), DR s a a' → RS (Wi P F) P ro s (fun s a b => VR s a b) (f a b) (f' a' b')) {a a' b b' : Addr} (h : DR r a a') (k : DR r b b') :
    RS (Wi P F) P ro r (fun s a b => VR s a b) (do f (← Go.behindNumber a).1 (← Go.behindNumber b).1) (do f' (← Go.behindNumber a').1 (← Go.behindNumber b').1) :=
  (RS.behindNumber h).bind fun s le p q hp => (RS.behindNumber (k.mono le)).bind fun s2 l2 p2 q2 hp2 => hf _ _ (hp.1.mono l2)
/-- Numbers and texts. -/
def numT (P : Program) (t : TypeId) : Bool := match P.underlying t with
  | some (.int _) | some .string => true
  | _ => false
theorem RS.unlike {t : TypeId} (ht : numT P t = true) (hx : VR r x x') (hy : VR r y y') : RS (Wi P F) P ro r (fun s a b => VR s a b)
    (do if (← Go.underlying t) matches .unsafePointer then Go.movedPointer t x y else Go.movedNumber t x y) (do if (← Go.underlying t) matches .unsafePointer then Go.movedPointer t x' y' else Go.movedNumber t x' y') := by
  refine (RS.underlying t).bind fun s le d d' hd => ?_
  obtain ⟨rfl, hd⟩ := hd
  unfold numT at ht
  rw [hd] at ht
  cases d <;> first | (cases ht; done) | exact RS.movedNumber t (hx.mono le) (hy.mono le)
theorem RS.binAdd {t : TypeId} (ht : numT P t = true) (hx : VR r x x') (hy : VR r y y') : RS (Wi P F) P ro r (fun s a b => VR s a b) (binOp .add t x y) (binOp .add t x' y') := by
  have hx0 := hx
  have hy0 := hy
  cases hx with
  | int k m =>
    cases hy with
    | int k2 n => exact RS.ite (fun _ => RS.halt) fun _ => RS.intArith _ _ _ _
    | ptr h => exact RS.movedNumber t hy0 hx0
    | nilPtr => exact RS.movedNumber t hy0 hx0
    | _ => exact RS.halt
  | float k m =>
    cases hy with
    | float k2 n => exact RS.ite (fun _ => RS.halt) fun _ => RS.floatArith _ _ _ _
    | _ => exact RS.halt
  | string m =>
    cases hy with
    | string n => exact RS.stringOp (P := P) .add m n
    | _ => exact RS.halt
  | ptr h =>
    cases hy with
    | int k2 n => exact RS.unlike ht hx0 hy0
    | _ => exact RS.halt
  | nilPtr =>
    cases hy with
    | int k2 n => exact RS.unlike ht hx0 hy0
    | _ => exact RS.halt
  | _ => cases hy <;> exact RS.halt
theorem RS.binSub {t : TypeId} (ht : numT P t = true) (hx : VR r x x') (hy : VR r y y') : RS (Wi P F) P ro r (fun s a b => VR s a b) (binOp .sub t x y) (binOp .sub t x' y') := by
  have hx0 := hx
  have hy0 := hy
  cases hx with
  | int k m =>
    cases hy with
    | int k2 n => exact RS.ite (fun _ => RS.halt) fun _ => RS.intArith _ _ _ _
    | _ => exact RS.halt
  | float k m =>
    cases hy with
    | float k2 n => exact RS.ite (fun _ => RS.halt) fun _ => RS.floatArith _ _ _ _
    | _ => exact RS.halt
  | string m =>
    cases hy with
    | string n => exact RS.stringOp (P := P) .sub m n
    | _ => exact RS.halt
  | ptr h =>
    cases hy with
    | int k2 n => exact RS.movedNumber t hx0 (.int k2 (-n))
    | ptr h2 => exact behind2 (f := Op.addrSub .u64) (f' := Op.addrSub .u64) (fun b b' h => RS.addrSub h b b' _) (DR.of h) (DR.of h2)
    | _ => exact RS.halt
  | nilPtr =>
    cases hy with
    | int k2 n => exact RS.movedNumber t hx0 (.int k2 (-n))
    | _ => exact RS.halt
  | _ => cases hy <;> exact RS.halt
theorem RS.binMul {t : TypeId} (hx : VR r x x') (hy : VR r y y') : RS (Wi P F) P ro r (fun s a b => VR s a b) (binOp .mul t x y) (binOp .mul t x' y') := by
  cases hx with
  | int k m =>
    cases hy with
    | int k2 n => exact RS.ite (fun _ => RS.halt) fun _ => RS.intArith _ _ _ _
    | _ => exact RS.halt
  | float k m =>
    cases hy with
    | float k2 n => exact RS.ite (fun _ => RS.halt) fun _ => RS.floatArith _ _ _ _
    | _ => exact RS.halt
  | string m =>
    cases hy with
    | string n => exact RS.stringOp (P := P) .mul m n
    | _ => exact RS.halt
  | ptr h =>
    cases hy with
    | _ => exact RS.halt
  | _ => cases hy <;> exact RS.halt
theorem RS.binQuo {t : TypeId} (hx : VR r x x') (hy : VR r y y') : RS (Wi P F) P ro r (fun s a b => VR s a b) (binOp .quo t x y) (binOp .quo t x' y') := by
  cases hx with
  | int k m =>
    cases hy with
    | int k2 n => exact RS.ite (fun _ => RS.halt) fun _ => RS.intDiv (P := P) _ _ _ _
    | _ => exact RS.halt
  | float k m =>
    cases hy with
    | float k2 n => exact RS.ite (fun _ => RS.halt) fun _ => RS.floatArith _ _ _ _
    | _ => exact RS.halt
  | string m =>
    cases hy with
    | string n => exact RS.stringOp (P := P) .quo m n
    | _ => exact RS.halt
  | ptr h =>
    cases hy with
    | _ => exact RS.halt
  | _ => cases hy <;> exact RS.halt
theorem RS.binRem {t : TypeId} (hx : VR r x x') (hy : VR r y y') : RS (Wi P F) P ro r (fun s a b => VR s a b) (binOp .rem t x y) (binOp .rem t x' y') := by
  cases hx with
  | int k m =>
    cases hy with
    | int k2 n => exact RS.ite (fun _ => RS.halt) fun _ => RS.intDiv (P := P) _ _ _ _
    | _ => exact RS.halt
  | float k m =>
    cases hy with
    | float k2 n => exact RS.ite (fun _ => RS.halt) fun _ => RS.floatCmp _ _ _ _
    | _ => exact RS.halt
  | string m =>
    cases hy with
    | string n => exact RS.stringOp (P := P) .rem m n
    | _ => exact RS.halt
  | ptr h =>
    cases hy with
    | int k2 n => exact behind1 (f := fun a => Op.addrMod k2 a n) (fun h => RS.addrMod h _ _) (DR.of h)
    | _ => exact RS.halt
  | _ => cases hy <;> exact RS.halt
theorem RS.binAnd {t : TypeId} (hx : VR r x x') (hy : VR r y y') : RS (Wi P F) P ro r (fun s a b => VR s a b) (binOp .and t x y) (binOp .and t x' y') := by
  cases hx with
  | int k m =>
    cases hy with
    | int k2 n => exact RS.ite (fun _ => RS.halt) fun _ => RS.intBits _ _ _ _
    | ptr h => exact behind1 (f := fun a => Op.addrMod k a (m + 1)) (fun h => RS.addrMod h _ _) (DR.of h)
    | _ => exact RS.halt
  | float k m =>
    cases hy with
    | float k2 n => exact RS.ite (fun _ => RS.halt) fun _ => RS.floatCmp _ _ _ _
    | _ => exact RS.halt
  | string m =>
    cases hy with
    | string n => exact RS.stringOp (P := P) .and m n
    | _ => exact RS.halt
  | ptr h =>
    cases hy with
    | int k2 n => exact behind1 (f := fun a => Op.addrMod k2 a (n + 1)) (fun h => RS.addrMod h _ _) (DR.of h)
    | _ => exact RS.halt
  | _ => cases hy <;> exact RS.halt
theorem RS.binOr {t : TypeId} (hx : VR r x x') (hy : VR r y y') : RS (Wi P F) P ro r (fun s a b => VR s a b) (binOp .or t x y) (binOp .or t x' y') := by
  cases hx with
  | int k m =>
    cases hy with
    | int k2 n => exact RS.ite (fun _ => RS.halt) fun _ => RS.intBits _ _ _ _
    | _ => exact RS.halt
  | float k m =>
    cases hy with
    | float k2 n => exact RS.ite (fun _ => RS.halt) fun _ => RS.floatCmp _ _ _ _
    | _ => exact RS.halt
  | string m =>
    cases hy with
    | string n => exact RS.stringOp (P := P) .or m n
    | _ => exact RS.halt
  | ptr h =>
    cases hy with
    | _ => exact RS.halt
  | _ => cases hy <;> exact RS.halt
theorem RS.binXor {t : TypeId} (hx : VR r x x') (hy : VR r y y') : RS (Wi P F) P ro r (fun s a b => VR s a b) (binOp .xor t x y) (binOp .xor t x' y') := by
  cases hx with
  | int k m =>
    cases hy with
    | int k2 n => exact RS.ite (fun _ => RS.halt) fun _ => RS.intBits _ _ _ _
    | _ => exact RS.halt
  | float k m =>
    cases hy with
    | float k2 n => exact RS.ite (fun _ => RS.halt) fun _ => RS.floatCmp _ _ _ _
    | _ => exact RS.halt
  | string m =>
    cases hy with
    | string n => exact RS.stringOp (P := P) .xor m n
    | _ => exact RS.halt
  | ptr h =>
    cases hy with
    | _ => exact RS.halt
  | _ => cases hy <;> exact RS.halt
theorem RS.binAndNot {t : TypeId} (hx : VR r x x') (hy : VR r y y') : RS (Wi P F) P ro r (fun s a b => VR s a b) (binOp .andNot t x y) (binOp .andNot t x' y') := by
  cases hx with
  | int k m =>
    cases hy with
    | int k2 n => exact RS.ite (fun _ => RS.halt) fun _ => RS.intBits _ _ _ _
    | _ => exact RS.halt
  | float k m =>
    cases hy with
    | float k2 n => exact RS.ite (fun _ => RS.halt) fun _ => RS.floatCmp _ _ _ _
    | _ => exact RS.halt
  | string m =>
    cases hy with
    | string n => exact RS.stringOp (P := P) .andNot m n
    | _ => exact RS.halt
  | ptr h =>
    cases hy with
    | _ => exact RS.halt
  | _ => cases hy <;> exact RS.halt
theorem RS.binShl {t : TypeId} (hx : VR r x x') (hy : VR r y y') : RS (Wi P F) P ro r (fun s a b => VR s a b) (binOp .shl t x y) (binOp .shl t x' y') := by
  cases hx with
  | int k m =>
    cases hy with
    | int k2 n => exact RS.shift (P := P) .shl k k2 m n
    | _ => exact RS.halt
  | float k m =>
    cases hy with
    | float k2 n => exact RS.ite (fun _ => RS.halt) fun _ => RS.floatCmp _ _ _ _
    | _ => exact RS.halt
  | string m =>
    cases hy with
    | string n => exact RS.stringOp (P := P) .shl m n
    | _ => exact RS.halt
  | ptr h =>
    cases hy with
    | _ => exact RS.halt
  | _ => cases hy <;> exact RS.halt
theorem RS.binShr {t : TypeId} (hx : VR r x x') (hy : VR r y y') : RS (Wi P F) P ro r (fun s a b => VR s a b) (binOp .shr t x y) (binOp .shr t x' y') := by
  cases hx with
  | int k m =>
    cases hy with
    | int k2 n => exact RS.shift (P := P) .shr k k2 m n
    | _ => exact RS.halt
  | float k m =>
    cases hy with
    | float k2 n => exact RS.ite (fun _ => RS.halt) fun _ => RS.floatCmp _ _ _ _
    | _ => exact RS.halt
  | string m =>
    cases hy with
    | string n => exact RS.stringOp (P := P) .shr m n
    | _ => exact RS.halt
  | ptr h =>
    cases hy with
    | _ => exact RS.halt
  | _ => cases hy <;> exact RS.halt
theorem RS.binLss {t : TypeId} (hx : VR r x x') (hy : VR r y y') : RS (Wi P F) P ro r (fun s a b => VR s a b) (binOp .lss t x y) (binOp .lss t x' y') := by
  cases hx with
  | int k m =>
    cases hy with
    | int k2 n => exact RS.ite (fun _ => RS.halt) fun _ => RS.intCmp _ _ _
    | _ => exact RS.halt
  | float k m =>
    cases hy with
    | float k2 n => exact RS.ite (fun _ => RS.halt) fun _ => RS.floatCmp _ _ _ _
    | _ => exact RS.halt
  | string m =>
    cases hy with
    | string n => exact RS.stringOp (P := P) .lss m n
    | _ => exact RS.halt
  | ptr h =>
    cases hy with
    | ptr h2 => exact behind2 (f := Op.addrCmp .lss) (f' := Op.addrCmp .lss) (fun b b' h => RS.addrCmp h b b' _) (DR.of h) (DR.of h2)
    | _ => exact RS.halt
  | _ => cases hy <;> exact RS.halt
theorem RS.binLeq {t : TypeId} (hx : VR r x x') (hy : VR r y y') : RS (Wi P F) P ro r (fun s a b => VR s a b) (binOp .leq t x y) (binOp .leq t x' y') := by
  cases hx with
  | int k m =>
    cases hy with
    | int k2 n => exact RS.ite (fun _ => RS.halt) fun _ => RS.intCmp _ _ _
    | _ => exact RS.halt
  | float k m =>
    cases hy with
    | float k2 n => exact RS.ite (fun _ => RS.halt) fun _ => RS.floatCmp _ _ _ _
    | _ => exact RS.halt
  | string m =>
    cases hy with
    | string n => exact RS.stringOp (P := P) .leq m n
    | _ => exact RS.halt
  | ptr h =>
    cases hy with
    | ptr h2 => exact behind2 (f := Op.addrCmp .leq) (f' := Op.addrCmp .leq) (fun b b' h => RS.addrCmp h b b' _) (DR.of h) (DR.of h2)
    | _ => exact RS.halt
  | _ => cases hy <;> exact RS.halt
theorem RS.binGtr {t : TypeId} (hx : VR r x x') (hy : VR r y y') : RS (Wi P F) P ro r (fun s a b => VR s a b) (binOp .gtr t x y) (binOp .gtr t x' y') := by
  cases hx with
  | int k m =>
    cases hy with
    | int k2 n => exact RS.ite (fun _ => RS.halt) fun _ => RS.intCmp _ _ _
    | _ => exact RS.halt
  | float k m =>
    cases hy with
    | float k2 n => exact RS.ite (fun _ => RS.halt) fun _ => RS.floatCmp _ _ _ _
    | _ => exact RS.halt
  | string m =>
    cases hy with
    | string n => exact RS.stringOp (P := P) .gtr m n
    | _ => exact RS.halt
  | ptr h =>
    cases hy with
    | ptr h2 => exact behind2 (f := Op.addrCmp .gtr) (f' := Op.addrCmp .gtr) (fun b b' h => RS.addrCmp h b b' _) (DR.of h) (DR.of h2)
    | _ => exact RS.halt
  | _ => cases hy <;> exact RS.halt
theorem RS.binGeq {t : TypeId} (hx : VR r x x') (hy : VR r y y') : RS (Wi P F) P ro r (fun s a b => VR s a b) (binOp .geq t x y) (binOp .geq t x' y') := by
  cases hx with
  | int k m =>
    cases hy with
    | int k2 n => exact RS.ite (fun _ => RS.halt) fun _ => RS.intCmp _ _ _
    | _ => exact RS.halt
  | float k m =>
    cases hy with
    | float k2 n => exact RS.ite (fun _ => RS.halt) fun _ => RS.floatCmp _ _ _ _
    | _ => exact RS.halt
  | string m =>
    cases hy with
    | string n => exact RS.stringOp (P := P) .geq m n
    | _ => exact RS.halt
  | ptr h =>
    cases hy with
    | ptr h2 => exact behind2 (f := Op.addrCmp .geq) (f' := Op.addrCmp .geq) (fun b b' h => RS.addrCmp h b b' _) (DR.of h) (DR.of h2)
    | _ => exact RS.halt
  | _ => cases hy <;> exact RS.halt
/-- Which of two are looked at. -/
def plainB (P : Program) (op : BinOp) (t : TypeId) : Bool := match op with
  | .eql | .neq => plainT P t
  | .add | .sub => numT P t
  | _ => true
theorem RS.binOp {op : BinOp} {t : TypeId} (ht : plainB P op t = true) (hro : ptrT P t = true → ∀ c, ¬ ro c) (hx : VR r x x') (hy : VR r y y') : RS (Wi P F) P ro r (fun s a b => VR s a b) (Go.binOp op t x y) (Go.binOp op t x' y') := by
  cases op with
  | eql => exact RS.binEql ht hro hx hy
  | neq => exact RS.binNeq ht hro hx hy
  | add => exact RS.binAdd ht hx hy
  | sub => exact RS.binSub ht hx hy
  | mul => exact RS.binMul hx hy
  | quo => exact RS.binQuo hx hy
  | rem => exact RS.binRem hx hy
  | and => exact RS.binAnd hx hy
  | or => exact RS.binOr hx hy
  | xor => exact RS.binXor hx hy
  | andNot => exact RS.binAndNot hx hy
  | shl => exact RS.binShl hx hy
  | shr => exact RS.binShr hx hy
  | lss => exact RS.binLss hx hy
  | leq => exact RS.binLeq hx hy
  | gtr => exact RS.binGtr hx hy
  | geq => exact RS.binGeq hx hy
end
end Go.Proofs.Ythifdfbdekkmgaa

/- Operations, alike: conversions, nil looked for, a panic, the least of some. -/
namespace Go.Proofs.Ythifdfbdekkmgaa
set_option linter.unusedVariables false
set_option linter.unusedSectionVars false
section
variable {P : Program} [NoCx P] {F : Array Func} {ro : Nat → Prop} {r : Ren} {v v' x x' y y' i i' : Value}
theorem RS.convInt (k : IntKind) (n : Int) : RS (Wi P F) P ro r (fun s a b => VR s a b) (Conv.intToInt k n) (Conv.intToInt k n) := RS.pure (.int _ _)
theorem RS.convFloat (s : FloatKind) (n : Nat) (k : IntKind) : RS (Wi P F) P ro r (fun s a b => VR s a b) (Conv.floatToInt s n k) (Conv.floatToInt s n k) := by
  unfold Conv.floatToInt
  dsimp only
  cases (s.decode n).toInt .zero with
  | none => exact (RS.choose _).bind fun s le a b e => by cases e; exact RS.pure (.int _ _)
  | some n => exact RS.ite (fun _ => RS.pure (.int _ _)) fun _ => (RS.choose _).bind fun s le a b e => by cases e; exact RS.pure (.int _ _)
/-- Steps of a loop, alike. -/
def SB {α β : Type} (B : Ren → α → β → Prop) (s : Ren) : ForInStep α → ForInStep β → Prop
  | .done a, .done b => B s a b
  | .yield a, .yield b => B s a b
  | _, _ => False
theorem RS.forIn {Q : Program} {α β : Type} {B : Ren → α → β → Prop} {f : Value → α → Sem (ForInStep α)} {f' : Value → β → Sem (ForInStep β)} :
    ∀ {l l' : List Value} {r : Ren} {a : α} {b : β}, LR r l l' → B r a b → (∀ s, RLe r s → ∀ a b, B r a b → B s a b) → (∀ s, RLe r s → ∀ v v' a b, VR s v v' → B s a b → RS Q P ro s (SB B) (f v a) (f' v' b)) →
      (∀ s, RLe r s → ∀ t, RLe s t → ∀ a b, B s a b → B t a b) → RS Q P ro r B (ForIn.forIn l a f) (ForIn.forIn l' b f')
  | [], [], r, a, b, _, hB, _, _, _ => by
    rw [List.forIn_nil, List.forIn_nil]
    exact RS.pure hB
  | v :: l, v' :: l', r, a, b, h, hB, hm, hf, hm2 => by
    rw [List.forIn_cons, List.forIn_cons]
    refine (hf r (RLe.refl r) v v' a b h.1 hB).bind fun s le x y hxy => ?_
    cases x with
    | done x =>
      cases y with
      | done y => exact RS.pure hxy
      | yield y => exact hxy.elim
    | yield x =>
      cases y with
      | done y => exact hxy.elim
      | yield y => exact RS.forIn (h.2.mono le) hxy (fun t lt a b hb => hm2 s le t lt a b hb) (fun t lt v v' a b hv hb => hf t (le.trans lt) v v' a b hv hb) (fun t lt q lq a b hb => hm2 t (le.trans lt) q lq a b hb)
  | [], _ :: _, _, _, _, h, _, _, _, _ => h.elim
  | _ :: _, [], _, _, _, h, _, _, _, _ => h.elim
theorem RS.bytesToString (hx : VR r x x') : RS (Wi P F) P ro r (fun s a b => VR s a b) (Conv.bytesToString x) (Conv.bytesToString x') := by
  unfold Conv.bytesToString
  cases hx with
  | nilSlice l m => exact RS.pure (.string _)
  | slice l m h =>
    dsimp only
    refine (RS.loadCells (DR.of h) l).bind fun s le p q hp => ?_
    refine RS.bind (A := fun _ a b => a = b) ?_ fun s2 l2 a b e => by cases e; exact RS.pure (.string _)
    rw [← Array.forIn_toList, ← Array.forIn_toList]
    refine RS.forIn (B := fun _ a b => a = b) hp.list rfl (fun _ _ _ _ e => e) (fun s2 l2 v v' a b hv e => ?_) (fun _ _ _ _ _ _ e => e)
    cases e
    cases hv with
    | int k n => cases k <;> first | exact RS.pure rfl | exact RS.halt
    | _ => exact RS.halt
  | _ => exact RS.halt
theorem RS.markStringish (hro : ∀ c, ¬ ro c) {a a' : Addr} (h : DR r a a') : RS (Wi P F) P ro r (fun _ _ _ => True) (markStringish a) (markStringish a') := by
  unfold Go.markStringish
  refine (RS.shape h.1).bind fun s le x y e => ?_
  cases e
  cases x with
  | none => exact RS.pure trivial
  | some z => exact RS.freeze (show DR s { block := a.block, off := z.2 } { block := a'.block, off := z.2 } from ⟨le _ _ h.1, rfl, rfl⟩) 1 (hro _)
theorem bytes_self (l : Array UInt8) (n : Nat) : AR r (l.map (fun b => Value.int .u8 b.toNat) ++ Array.replicate n (.int .u8 0)) (l.map (fun b => Value.int .u8 b.toNat) ++ Array.replicate n (.int .u8 0)) := by
  refine ⟨rfl, fun i x x' e e' => ?_⟩
  rw [e] at e'
  cases e'
  rw [Array.getElem?_append] at e
  split at e
  · rw [Array.getElem?_map] at e
    cases h : l[i]? with
    | none => rw [h] at e; cases e
    | some b => rw [h] at e; cases e; exact .int _ _
  · rw [Array.getElem?_replicate] at e
    split at e
    · cases e; exact .int _ _
    · cases e
theorem RS.stringToBytes (hro : ∀ c, ¬ ro c) (t : TypeId) (l : ByteArray) : RS (Wi P F) P ro r (fun s a b => VR s a b) (Conv.stringToBytes t l) (Conv.stringToBytes t l) := by
  unfold Conv.stringToBytes
  refine (RS.choose _).bind fun s le a b e => ?_
  cases e
  dsimp only
  refine (RS.newRow (bytes_self l.data _)).bind fun s2 l2 p q h => ?_
  refine (RS.markStringish hro h).bind fun s3 l3 _ _ _ => ?_
  exact RS.pure (.ofSlice _ _ (h.mono l3))
theorem wi_alike (P : Program) (F : Array Func) (d : Nat) : ∀ t u, (Wi P F).alikeButTags d t u = P.alikeButTags d t u := by
  induction d with
  | zero => intro t u; rfl
  | succ d ih => intro t u; unfold Program.alikeButTags; simp only [ih]
theorem wi_stoodAs (P : Program) (F : Array Func) (t : TypeId) : (Wi P F).stoodInAs t = P.stoodInAs t := by
  have e1 : (Wi P F).cutTypes = P.cutTypes := rfl
  have e2 : (Wi P F).depth = P.depth := rfl
  have e3 : ∀ t, (Wi P F).underlyingId t = P.underlyingId t := fun _ => rfl
  unfold Program.stoodInAs
  simp only [wi_under, wi_alike, e2, e3]
theorem wi_stood (P : Program) (F : Array Func) (t : TypeId) : (Wi P F).stoodInHeld t = P.stoodInHeld t := by
  unfold Program.stoodInHeld
  rw [wi_stoodAs]
theorem wi_same (P : Program) (F : Array Func) (d : Nat) : ∀ t u, sameLayout (Wi P F) d t u = sameLayout P d t u := by
  induction d with
  | zero => intro t u; rfl
  | succ d ih => intro t u; unfold sameLayout; simp only [wi_under, wi_stood, ih]; rfl
theorem wi_rowAt (P : Program) (F : Array Func) (k : TypeId → Bool) (d : Nat) : ∀ e c o n, rowAt (Wi P F) k d e c o n = rowAt P k d e c o n := by
  induction d with
  | zero => intro e c o n; rfl
  | succ d ih => intro e c o n; unfold rowAt; simp only [wi_under, wi_stood, ih]; rfl
theorem wi_lies (P : Program) (F : Array Func) (d : Nat) : ∀ e c o u n, liesAt (Wi P F) d e c o u n = liesAt P d e c o u n := by
  induction d with
  | zero => intro e c o u n; rfl
  | succ d ih => intro e c o u n; unfold liesAt; simp only [wi_under, wi_rowAt, wi_same, ih]; rfl
theorem RS.variablesAt {a a' : Addr} (h : DR r a a') (t : TypeId) (n : Nat) : RS (Wi P F) P ro r (fun _ x y => x = y) (variablesAt a t n) (variablesAt a' t n) := by
  unfold Go.variablesAt
  refine RS.program ?_
  refine (RS.shape h.1).bind fun s le x y e => ?_
  cases e
  cases x with
  | none => exact RS.pure rfl
  | some z =>
    dsimp only
    rw [wi_lies, h.2.1]
    exact RS.pure rfl
theorem RS.cellsIn {b c : Nat} (h : r b c) : RS (Wi P F) P ro r (fun _ x y => x = y) (cellsIn b) (cellsIn c) := by
  unfold Go.cellsIn
  refine (RS.shape h).bind fun s le x y e => ?_
  cases e
  cases x with
  | some z => exact RS.pure rfl
  | none =>
    refine (RS.getObj (le _ _ h)).bind fun s2 l2 o o' e => ?_
    rcases e with ⟨a, a', t, rfl, rfl, k⟩ | ⟨a, a', l, rfl, rfl, k⟩ <;> exact RS.pure rfl
theorem RS.seenAt {a a' : Addr} (h : DR r a a') : RS (Wi P F) P ro r (fun s x y => DR s x y) (Conv.seenAt a) (Conv.seenAt a') := by
  unfold Conv.seenAt
  refine (RS.viewAt h.1).bind fun s le o o' e => ?_
  have h2 := h.mono le
  rcases e with ⟨rfl, rfl⟩ | ⟨p, q, t, rfl, rfl, k⟩
  · exact RS.pure h2
  · obtain ⟨ab, ao, asp⟩ := a
    obtain ⟨ab', ao', asp'⟩ := a'
    obtain ⟨pb, po, ps⟩ := p
    obtain ⟨qb, qo, qs⟩ := q
    obtain ⟨_, rfl, rfl⟩ := h2
    have k0 := k
    obtain ⟨k1, rfl, rfl⟩ := k
    dsimp only
    refine RS.ite (fun _ => RS.pure k0) fun _ => ?_
    refine RS.ite (fun _ => RS.dead (Dies.bind_left (Dies.halt _))) fun _ => ?_
    refine RS.program ?_
    rw [wi_byte]
    have e3 : (Wi P F).depth = P.depth := rfl
    rw [e3]
    cases byteOfCell P P.depth t _ with
    | none => exact RS.halt
    | some b =>
      dsimp only
      refine (RS.shape k1).bind fun s2 l2 x y e => ?_
      cases e
      cases x with
      | none => exact RS.halt
      | some z =>
        dsimp only
        have e1 : (Wi P F).cellsOf z.1 = P.cellsOf z.1 := rfl
        rw [e1]
        refine RS.ite (fun _ => RS.dead (Dies.bind_left (Dies.halt _))) fun _ => ?_
        rw [wi_cellAt]
        cases cellAtBytes P P.depth z.1 _ _ _ with
        | none => exact RS.halt
        | some c => exact RS.pure ⟨l2 _ _ k1, rfl, rfl⟩
theorem RS.loadBytes (n : Nat) : ∀ {r : Ren} {a a' : Addr} (l : ByteArray), DR r a a' → RS (Wi P F) P ro r (fun _ x y => x = y) (loadBytes a l n) (loadBytes a' l n) := by
  induction n with
  | zero => intro r a a' l h; exact RS.pure rfl
  | succ n ih =>
    intro r a a' l h
    unfold Go.loadBytes
    refine (RS.load h).bind fun s le p q hp => ?_
    cases hp with
    | int k n => cases k <;> first | exact ih _ ((h.mono le).add 1) | exact RS.halt
    | _ => exact RS.halt
theorem wi_holds (P : Program) (F : Array Func) (d : Nat) : ∀ t, (Wi P F).holdsStoodIn d t = P.holdsStoodIn d t := by
  induction d with
  | zero => intro t; rfl
  | succ d ih => intro t; unfold Program.holdsStoodIn; simp only [wi_under, wi_stood, ih]
theorem RS.panic (hx : VR r x x') : RS (Wi P F) P ro r (fun s a b => VR s a b) (Instr.panic x) (Instr.panic x') := by
  refine RS.dead ?_
  unfold Instr.panic
  cases hx <;> first
  | exact Dies.goPanic _
  | exact Dies.halt _
  | exact Dies.bind (Mild.bind Mild.env fun e => by cases e <;> first | exact Mild.halt | exact Mild.bind Mild.program fun _ => Mild.pure _) fun n => Dies.ite (Dies.goPanic _) (Dies.runtimePanic _)
theorem RS.unsafePointer {t u : TypeId} (ht : (∃ e, P.underlying t = some (.pointer e)) ∧ P.underlying u = some .unsafePointer ∨ P.underlying t = some .unsafePointer ∧ ∃ e, P.underlying u = some (.pointer e)) (hx : VR r x x') :
    RS (Wi P F) P ro r (fun s a b => VR s a b) (Conv.unsafePointer t u x) (Conv.unsafePointer t u x') := by
  unfold Conv.unsafePointer
  refine (RS.underlying t).bind fun s1 l1 d d' hd => ?_
  obtain ⟨rfl, hd⟩ := hd
  refine (RS.underlying u).bind fun s2 l2 d2 d2' hd2 => ?_
  obtain ⟨rfl, hd2⟩ := hd2
  have hx2 := (hx.mono l1).mono l2
  clear hx
  rcases ht with ⟨⟨e, k1⟩, k2⟩ | ⟨k1, ⟨e, k2⟩⟩
  · rw [hd] at k1
    rw [hd2] at k2
    cases k1; cases k2
    cases hx2 with
    | nilPtr => exact RS.pure .nilPtr
    | ptr h =>
      refine (RS.seenAt (DR.of h)).bind fun s3 l3 p q hp => ?_
      refine (RS.cellsIn hp.1).bind fun s4 l4 n n' e => ?_
      cases e
      have hp4 := hp.mono l4
      dsimp only
      refine (RS.sizeOf _).bind fun s5 l5 m m' e => ?_
      cases e
      have hp5 := hp4.mono l5
      have o1 := hp5.2.1
      have o2 := hp5.2.2
      rw [o1, o2]
      refine RS.ite (fun _ => ?_) fun _ => RS.pure (.ofAddr hp5)
      exact (RS.newObj (.view hp5)).bind fun s6 l6 p q k => RS.pure (.ptr k)
    | _ => exact RS.halt
  · rw [hd] at k1
    rw [hd2] at k2
    cases k1; cases k2
    cases hx2 with
    | nilPtr => exact RS.pure .nilPtr
    | ptr h =>
      refine (RS.seenAt (DR.of h)).bind fun s3 l3 p q hp => ?_
      refine (RS.sizeOf _).bind fun s4 l4 m m' e => ?_
      cases e
      refine (RS.variablesAt (hp.mono l4) _ 1).bind fun s5 l5 m m' e => ?_
      cases e
      have hp5 := (hp.mono l4).mono l5
      refine RS.ite (fun _ => RS.pure (.ofAddr hp5)) fun _ => ?_
      refine (RS.shape hp5.1).bind fun s6 l6 o o' e => ?_
      cases e
      cases o with
      | none => exact RS.dead (Dies.bind_left (Dies.halt _))
      | some z =>
        dsimp only
        refine RS.program ?_
        refine RS.program ?_
        rw [wi_holds]
        have e3 : (Wi P F).depth = P.depth := rfl
        rw [e3]
        refine RS.ite (fun _ => RS.dead (Dies.bind_left (Dies.halt _))) fun _ => ?_
        exact (RS.newObj (.view (hp5.mono l6))).bind fun s7 l7 p q k => RS.pure (.ptr k)
    | _ => exact RS.halt
theorem RS.unsafeSliceData (ts : Array TypeId) (t : TypeId) {l l' : Array Value} (hl : AR r l l') : RS (Wi P F) P ro r (fun s a b => VR s a b) (Builtin.unsafeSliceData_ ts t l) (Builtin.unsafeSliceData_ ts t l') := by
  unfold Builtin.unsafeSliceData_
  have h := hl.list
  obtain ⟨l⟩ := l
  obtain ⟨l'⟩ := l'
  cases l with
  | nil => cases l' with
    | nil => exact RS.halt
    | cons x l' => exact h.elim
  | cons v l => cases l' with
    | nil => exact h.elim
    | cons v' l' =>
      obtain ⟨hv, h⟩ := h
      cases l with
      | cons w l => cases l' with
        | nil => exact h.elim
        | cons w' l' => exact RS.halt
      | nil => cases l' with
        | cons w' l' => exact h.elim
        | nil =>
          cases hv with
          | nilSlice n m => exact RS.pure .nilPtr
          | slice n m k =>
            refine RS.ite (fun _ => RS.pure (.ptr k)) fun _ => ?_
            refine (RS.viewAt k).bind fun s le o o' e => ?_
            rcases e with ⟨rfl, rfl⟩ | ⟨a, a', t, rfl, rfl, _⟩
            · refine (RS.elemOf t).bind fun s2 l2 e e' h => ?_
              cases h
              exact (RS.newObj (.view (DR.of (l2 _ _ (le _ _ k))))).bind fun s3 l3 p q k => RS.pure (.ptr k)
            · exact RS.pure (.ptr (le _ _ k))
          | _ => exact RS.halt
theorem RS.unsafeString (hro : ∀ c, ¬ ro c) (ts : Array TypeId) (t : TypeId) {l l' : Array Value} (hl : AR r l l') : RS (Wi P F) P ro r (fun s a b => VR s a b) (Builtin.unsafeString_ ts t l) (Builtin.unsafeString_ ts t l') := by
  unfold Builtin.unsafeString_
  have h := hl.list
  obtain ⟨l⟩ := l
  obtain ⟨l'⟩ := l'
  cases l with
  | nil => cases l' with
    | nil => exact RS.halt
    | cons x l' => exact h.elim
  | cons v l => cases l' with
    | nil => exact h.elim
    | cons v' l' =>
      obtain ⟨hv, h⟩ := h
      cases l with
      | nil => cases l' with
        | nil => cases hv <;> exact RS.halt
        | cons w' l' => exact h.elim
      | cons w l => cases l' with
        | nil => exact h.elim
        | cons w' l' =>
          obtain ⟨hw, h⟩ := h
          cases l with
          | cons y l => cases l' with
            | nil => exact h.elim
            | cons w' l' => cases hv <;> exact RS.halt
          | nil => cases l' with
            | cons w' l' => exact h.elim
            | nil =>
              cases hv with
              | nilPtr =>
                refine (RS.asInt hw).bind fun s le n m e => ?_
                cases e
                cases ts[0]? with
                | none => exact RS.halt
                | some pt =>
                  refine RS.ite (fun _ => RS.dead (Dies.bind_left (Dies.runtimePanic _))) fun _ => ?_
                  refine RS.ite (fun _ => RS.dead (Dies.bind_left (Dies.halt _))) fun _ => ?_
                  exact RS.ite (fun _ => RS.pure (.string _)) fun _ => RS.dead (Dies.runtimePanic _)
              | ptr k =>
                refine (RS.asInt hw).bind fun s le n m e => ?_
                cases e
                cases ts[0]? with
                | none => exact RS.halt
                | some pt =>
                  refine RS.ite (fun _ => RS.dead (Dies.bind_left (Dies.runtimePanic _))) fun _ => ?_
                  refine RS.ite (fun _ => RS.dead (Dies.bind_left (Dies.halt _))) fun _ => ?_
                  refine RS.ite (fun _ => RS.pure (.string _)) fun _ => ?_
                  refine (RS.elemOf pt).bind fun s2 l2 e e' h => ?_
                  cases h
                  have k2 := l2 _ _ (le _ _ k)
                  refine (RS.variablesAt (DR.of k2) _ _).bind fun s3 l3 b b' h => ?_
                  cases h
                  refine RS.ite (fun _ => ?_) fun _ => RS.halt
                  refine (RS.loadBytes _ _ (DR.of (l3 _ _ k2))).bind fun s4 l4 b b' h => ?_
                  cases h
                  refine (RS.freeze (DR.of (l4 _ _ (l3 _ _ k2))) _ (hro _)).bind fun s5 l5 _ _ _ => ?_
                  exact RS.pure (.string _)
              | _ => exact RS.halt
theorem RS.min2 (hx : VR r x x') (hy : VR r y y') : RS (Wi P F) P ro r (fun s a b => VR s a b) (Builtin.min2 x y) (Builtin.min2 x' y') := by
  cases hx with
  | int k n => cases hy <;> first | exact RS.pure (.int _ _) | exact RS.halt
  | float k n =>
    cases hy with
    | float k2 m =>
      unfold Builtin.min2
      dsimp only
      cases k.format.order n m with
      | none => exact (RS.choose _).bind fun s le a b e => by cases e; exact RS.pure (.float _ _)
      | some o => cases o <;> exact RS.pure (.float _ _)
    | _ => exact RS.halt
  | string n =>
    cases hy with
    | string m =>
      unfold Builtin.min2
      dsimp only
      refine (RS.stringOp (P := P) .leq n m).bind fun s le a b h => ?_
      refine (RS.asBool h).bind fun s2 l2 p q e => ?_
      cases e
      exact RS.pure (.string _)
    | _ => exact RS.halt
  | ptr k => cases hy <;> exact RS.halt
  | _ => cases hy <;> exact RS.halt
theorem RS.minAll : ∀ {l l' : List Value} {r : Ren} {x x' : Value}, LR r l l' → VR r x x' → RS (Wi P F) P ro r (fun s a b => VR s a b) (l.foldlM Builtin.min2 x) (l'.foldlM Builtin.min2 x')
  | [], [], r, x, x', _, h => RS.pure h
  | v :: l, v' :: l', r, x, x', hl, h => by
    rw [List.foldlM_cons, List.foldlM_cons]
    exact (RS.min2 h hl.1).bind fun s le a b k => RS.minAll (hl.2.mono le) k
  | [], _ :: _, _, _, _, h, _ => h.elim
  | _ :: _, [], _, _, _, h, _ => h.elim
theorem RS.min (ts : Array TypeId) (t : TypeId) {l l' : Array Value} (hl : AR r l l') : RS (Wi P F) P ro r (fun s a b => VR s a b) (Builtin.min_ ts t l) (Builtin.min_ ts t l') := by
  unfold Builtin.min_
  have h := hl.list
  cases e : l.toList with
  | nil => cases e' : l'.toList with
    | nil => exact RS.halt
    | cons v' m' => rw [e, e'] at h; exact h.elim
  | cons v m => cases e' : l'.toList with
    | nil => rw [e, e'] at h; exact h.elim
    | cons v' m' => rw [e, e'] at h; exact RS.minAll h.2 h.1
/-- Bytes. -/
def isByte (P : Program) (t : TypeId) : Bool := match P.underlying t with
  | some (.int .u8) => true
  | _ => false
/-- Which conversions are looked at. -/
def plainC (P : Program) (b : Bool) (t u : TypeId) : Bool := match P.underlying t, P.underlying u with
  | some (.int _), some (.int _) => true
  | some .string, some .string => true
  | some .string, some (.slice e) => b && isByte P e
  | some (.slice e), some .string => isByte P e
  | some (.pointer _), some .unsafePointer => true
  | some .unsafePointer, some (.pointer _) => true
  | _, _ => false
theorem byte_of {t : TypeId} (h : isByte P t = true) : P.underlying t = some (.int .u8) := by
  unfold isByte at h
  split at h
  · assumption
  · cases h
theorem RS.convert {b : Bool} {t u : TypeId} (ht : plainC P b t u = true) (hro : b = true → ∀ c, ¬ ro c) (hx : VR r x x') : RS (Wi P F) P ro r (fun s a b => VR s a b) (convert t u x) (convert t u x') := by
  have un : (∃ e, P.underlying t = some (.pointer e)) ∧ P.underlying u = some .unsafePointer ∨ P.underlying t = some .unsafePointer ∧ (∃ e, P.underlying u = some (.pointer e)) → ∀ {s : Ren} {x x' : Value}, VR s x x' →
      RS (Wi P F) P ro s (fun s a b => VR s a b) (Conv.unsafePointer t u x) (Conv.unsafePointer t u x') := fun h s x x' k => RS.unsafePointer h k
  unfold Go.convert
  refine (RS.underlying t).bind fun s1 l1 d d' hd => ?_
  obtain ⟨rfl, hd⟩ := hd
  refine (RS.underlying u).bind fun s2 l2 d2 d2' hd2 => ?_
  obtain ⟨rfl, hd2⟩ := hd2
  have hx2 := (hx.mono l1).mono l2
  clear hx
  unfold plainC at ht
  rw [hd, hd2] at ht un
  have hx3 := hx2
  cases d with
  | int k =>
    cases d2 with
    | int k2 => cases hx2 <;> first | exact RS.convInt _ _ | exact RS.convFloat _ _ _ | exact RS.halt
    | _ => cases ht
  | string =>
    cases d2 with
    | string => cases hx2 <;> first | exact RS.pure (.string _) | exact RS.halt
    | slice e =>
      simp only [Bool.and_eq_true] at ht
      cases hx2 with
      | string l =>
        dsimp only
        refine (RS.underlying e).bind fun s3 l3 p q h => ?_
        obtain ⟨rfl, h⟩ := h
        rw [byte_of ht.2] at h
        cases h
        exact RS.stringToBytes (hro ht.1) _ _
      | _ => exact RS.halt
    | _ => cases ht
  | slice e =>
    cases d2 with
    | string =>
      cases hx2 <;> first
      | exact RS.pure (.string _)
      | (dsimp only
         refine (RS.underlying e).bind fun s3 l3 p q h => ?_
         obtain ⟨rfl, h⟩ := h
         rw [byte_of ht] at h
         cases h
         exact RS.bytesToString (hx3.mono l3))
    | _ => cases ht
  | pointer e =>
    cases d2 with
    | unsafePointer => cases hx2 <;> exact un (.inl ⟨⟨e, rfl⟩, rfl⟩) hx3
    | _ => cases ht
  | unsafePointer =>
    cases d2 with
    | pointer e => cases hx2 <;> exact un (.inr ⟨rfl, ⟨e, rfl⟩⟩) hx3
    | _ => cases ht
  | _ => cases ht
end
end Go.Proofs.Ythifdfbdekkmgaa

