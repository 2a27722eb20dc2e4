/- MillTr, MillDef, MillKid. -/
import Derived.Test.YthifdfbdekkmgaaPart3
import Derived.Conc.CrowdRun
set_option linter.unusedVariables false
set_option linter.unusedSimpArgs false
set_option linter.unusedSectionVars false
set_option linter.unnecessarySimpa false
set_option linter.deprecated false
/- The trace of one that starts others, which make memory of their own: who knows what. -/
namespace Go.Proofs.Ythifdfbdekkmgaa
open Go.Conc
open Go.ConcN (PermW fork_knows ShN RelBy)
open Go.ConcR (stA smA)
set_option linter.unusedVariables false
/-- The place lies in the block. -/
def InB (l : Loc) (c : Nat) : Prop := (∃ a : Addr, l = .cell a ∧ a.block = c) ∨ l = .obj c
theorem InB.same {l : Loc} {c d : Nat} (h : InB l c) (k : InB l d) : c = d := by
  rcases h with ⟨a, rfl, rfl⟩ | rfl <;> rcases k with ⟨b, e, rfl⟩ | e <;> cases e <;> rfl
theorem InB.memory {l : Loc} {c : Nat} (h : InB l c) : l.isMemory = true := by
  rcases h with ⟨a, rfl, _⟩ | rfl <;> rfl
theorem InB.wg {l : Loc} {c Wg : Nat} (h : InB l c) (k : ShN Wg l) : c = Wg := by
  obtain ⟨a, rfl, e⟩ := k
  rcases h with ⟨b, e2, rfl⟩ | e2 <;> cases e2
  exact e
/-- Who has what: K: what the one that starts reads, X: and writes; M k: the blocks of k's own, R k: what it reads. -/
structure Sets where
  K : Nat → Prop
  X : Nat → Prop
  M : Nat → Nat → Prop
  R : Nat → Nat → Prop
  C : Nat → Nat
structure Sets.Apart (S : Sets) (Wg : Nat) : Prop where
  xk : ∀ c, S.X c → S.K c
  nk : ∀ k c, S.M k c → ¬ S.K c
  mm : ∀ k k' c, S.M k c → S.M k' c → k = k'
  rk : ∀ k c, S.R k c → S.K c ∧ ¬ S.X c
  kw : ¬ S.K Wg
  mw : ∀ k, ¬ S.M k Wg
structure TI (Wg base j T0 : Nat) (Shun : Loc → Prop) (S : Sets) (B : Nat) (t : Trace) : Prop where
  clean : ∀ said, ¬ Race said t
  own : ∀ k l c, S.M k c → InB l c → Perm t k l
  rd : ∀ k l c, S.R k c → InB l c → PermW t k l
  par : ∀ l c, S.X c → InB l c → Perm t 0 l
  parW : ∀ l c, S.K c → InB l c → PermW t 0 l
  quiet : Quiet (ShN Wg) t
  norel : NoRelease (stA Wg) t
  old : ∀ i a, i < T0 → touchAt t i = some a → a.loc.isMemory = true → Knows t 0 i ∨ (Shun a.loc ∧ a.kind = .atomic)
  over : ∀ i g, i < T0 → t.g? i = some g → g ≠ 0 → t.counts i → ∃ q, t.g? q = some 0 ∧ HappensBefore t i q
  new : ∀ i op, T0 ≤ i → t[i]? = some op → op.g = 0 ∨ op.act.touch? = none ∨ (base ≤ op.g ∧ op.g < base + j ∧ ∀ x, op.act.touch? = some x → x.kind = .atomic → ShN Wg x.loc)
  low : ∀ op ∈ t, op.act.low B
  size : T0 ≤ t.size
/-- What the one that starts may do. -/
def OkP (Wg : Nat) (S : Sets) (B : Nat) (op : MemOp) : Prop :=
  op.g = 0 ∧ (∀ x, op.act.touch? = some x → (ShN Wg x.loc ∧ x.kind ≠ .plain) ∨ ∃ c, InB x.loc c ∧ S.K c ∧ (x.write = true → S.X c)) ∧ op.act ≠ .mark (.release (stA Wg)) ∧ op.act.low B
/-- What k may do. -/
def OkC (Wg : Nat) (S : Sets) (B k : Nat) (op : MemOp) : Prop :=
  op.g = k ∧ (∀ x, op.act.touch? = some x → (ShN Wg x.loc ∧ x.kind = .atomic) ∨ (x.kind ≠ .atomic ∧ ∃ c, InB x.loc c ∧ (S.M k c ∨ (S.R k c ∧ x.write = false)))) ∧ op.act ≠ .mark (.release (stA Wg)) ∧ op.act.low B
section
variable {Wg base j T0 : Nat} {Shun : Loc → Prop} {S : Sets} {B : Nat} {t u : Trace}
theorem norel_app (h : NoRelease (stA Wg) t) (hu : ∀ op ∈ u, op.act ≠ .mark (.release (stA Wg))) : NoRelease (stA Wg) (t ++ u) := h.app hu
theorem old_touch {i T : Nat} {a : Touch} (hT : T ≤ t.size) (hi : i < T) (h : touchAt (t ++ u) i = some a) : touchAt t i = some a := by
  rw [touchAt_old (by omega)] at h; exact h
theorem old_over (h : TI Wg base j T0 Shun S B t) (i g : Nat) (hi : i < T0) (hg : (t ++ u).g? i = some g) (hne : g ≠ 0) (hc : (t ++ u).counts i) : ∃ q, (t ++ u).g? q = some 0 ∧ HappensBefore (t ++ u) i q := by
  have hl : i < t.size := Nat.lt_of_lt_of_le hi h.size
  obtain ⟨q, hq, hb⟩ := h.over i g hi (by simpa [Trace.g?, getElem?_append_old hl] using hg) hne ((counts_old hl).1 hc)
  have hql : q < t.size := by
    unfold Trace.g? at hq
    obtain ⟨z, hz, _⟩ := Option.map_eq_some_iff.1 hq
    exact lt_size_of_getElem? hz
  exact ⟨q, by simpa [Trace.g?, getElem?_append_old hql] using hq, hb_app u hb⟩
/-- The one that starts does something. -/
theorem TI.app0 (A : S.Apart Wg) (h : TI Wg base j T0 Shun S B t) (hu : ∀ op ∈ u, OkP Wg S B op) : TI Wg base j T0 Shun S B (t ++ u) := by
  refine ⟨fun said => ?_, fun k l c hm hl => (h.own k l c hm hl).app fun op hop b hb e => ?_, fun k l c hr hl => (h.rd k l c hr hl).app fun op hop b hb e hw => ?_, fun l c hx hl => (h.par l c hx hl).app fun op hop b hb e => (hu op hop).1,
    fun l c hk hl => (h.parW l c hk hl).app fun op hop b hb e hw => (hu op hop).1, h.quiet.app fun op hop x hx hs => ?_, norel_app h.norel fun op hop => (hu op hop).2.2.1,
    fun i a hi ha hm => (h.old i a hi (old_touch h.size hi ha) hm).imp (·.app u) id, old_over h, fun i op hi ho => ?_, seen_app h.low fun op hop => (hu op hop).2.2.2, by rw [Array.size_append]; have := h.size; omega⟩
  · refine noRace_append (h.clean said) (fun op hop => (hu op hop).1) (fun i a ha op hop b hb hc => ?_)
    rcases (hu op hop).2.1 b hb with ⟨hs, hk⟩ | ⟨c, hi, hk, hx⟩
    · exact h.quiet.known hs hk (fun _ => rfl) i a ha hc
    · cases hbw : b.write with
      | true => exact h.par b.loc c (hx hbw) hi i a ha hc.1
      | false => exact h.parW b.loc c hk hi i a ha hc.1 (hc.2.2.1.resolve_right (by simp [hbw]))
  · rcases (hu op hop).2.1 b hb with ⟨hs, _⟩ | ⟨d, hi, hk, _⟩
    · rw [e] at hs
      exact absurd (hl.wg hs ▸ hm) (A.mw k)
    · rw [e] at hi
      exact absurd (hi.same hl ▸ hk) (A.nk k c hm)
  · rcases (hu op hop).2.1 b hb with ⟨hs, _⟩ | ⟨d, hi, hk, hx⟩
    · rw [e] at hs
      exact absurd (hl.wg hs ▸ (A.rk k c hr).1) A.kw
    · rw [e] at hi
      exact absurd (hi.same hl ▸ hx hw) (A.rk k c hr).2
  · rcases (hu op hop).2.1 x hx with ⟨_, hk⟩ | ⟨c, hi, hk, _⟩
    · exact ⟨hk, fun _ => (hu op hop).1⟩
    · exact absurd (hi.wg hs ▸ hk) A.kw
  · rcases getElem?_append_cases ho with ⟨_, h'⟩ | ⟨_, h'⟩
    · exact h.new i op hi h'
    · exact .inl (hu op h').1
/-- One of those that were started does something. -/
theorem TI.appC (A : S.Apart Wg) (h : TI Wg base j T0 Shun S B t) {k : Nat} (hk : base ≤ k ∧ k < base + j) (hu : ∀ op ∈ u, OkC Wg S B k op) : TI Wg base j T0 Shun S B (t ++ u) := by
  refine ⟨fun said => ?_, fun k' l c hm hl => (h.own k' l c hm hl).app fun op hop b hb e => ?_, fun k' l c hr hl => (h.rd k' l c hr hl).app fun op hop b hb e hw => ?_, fun l c hx hl => (h.par l c hx hl).app fun op hop b hb e => ?_,
    fun l c hkk hl => (h.parW l c hkk hl).app fun op hop b hb e hw => ?_, h.quiet.app fun op hop x hx hs => ?_, norel_app h.norel fun op hop => (hu op hop).2.2.1,
    fun i a hi ha hm => (h.old i a hi (old_touch h.size hi ha) hm).imp (·.app u) id, old_over h, fun i op hi ho => ?_, seen_app h.low fun op hop => (hu op hop).2.2.2, by rw [Array.size_append]; have := h.size; omega⟩
  · refine noRace_append (h.clean said) (fun op hop => (hu op hop).1) (fun i a ha op hop b hb hc => ?_)
    rcases (hu op hop).2.1 b hb with ⟨hs, hka⟩ | ⟨hp, c, hi, hm | ⟨hr, hw⟩⟩
    · exact h.quiet.known hs (by rw [hka]; decide) (fun e => by rw [hka] at e; cases e) i a ha hc
    · exact h.own k b.loc c hm hi i a ha hc.1
    · exact h.rd k b.loc c hr hi i a ha hc.1 (hc.2.2.1.resolve_right (by simp [hw]))
  · rcases (hu op hop).2.1 b hb with ⟨hs, _⟩ | ⟨_, d, hi, hm2 | ⟨hr, _⟩⟩
    · rw [e] at hs
      exact absurd (hl.wg hs ▸ hm) (A.mw k')
    · rw [e] at hi
      rw [(hu op hop).1]
      exact A.mm k k' c (hi.same hl ▸ hm2) hm
    · rw [e] at hi
      exact absurd (hi.same hl ▸ (A.rk k d hr).1) (A.nk k' c hm)
  · rcases (hu op hop).2.1 b hb with ⟨hs, _⟩ | ⟨_, d, hi, hm2 | ⟨hr2, hw2⟩⟩
    · rw [e] at hs
      exact absurd (hl.wg hs ▸ (A.rk k' c hr).1) A.kw
    · rw [e] at hi
      exact absurd (A.rk k' c hr).1 (A.nk k c (hi.same hl ▸ hm2))
    · rw [hw2] at hw; cases hw
  · rcases (hu op hop).2.1 b hb with ⟨hs, _⟩ | ⟨_, d, hi, hm2 | ⟨hr2, hw2⟩⟩
    · rw [e] at hs
      exact absurd (hl.wg hs ▸ A.xk c hx) A.kw
    · rw [e] at hi
      exact absurd (A.xk c hx) (A.nk k c (hi.same hl ▸ hm2))
    · rw [e] at hi
      exact absurd hx (A.rk k c (hi.same hl ▸ hr2)).2
  · rcases (hu op hop).2.1 b hb with ⟨hs, _⟩ | ⟨_, d, hi, hm2 | ⟨hr2, hw2⟩⟩
    · rw [e] at hs
      exact absurd (hl.wg hs ▸ hkk) A.kw
    · rw [e] at hi
      exact absurd hkk (A.nk k c (hi.same hl ▸ hm2))
    · rw [hw2] at hw; cases hw
  · rcases (hu op hop).2.1 x hx with ⟨_, hka⟩ | ⟨_, c, hi, hm | ⟨hr, _⟩⟩
    · rw [hka]; exact ⟨by decide, fun e => by cases e⟩
    · exact absurd (hi.wg hs ▸ hm) (A.mw k)
    · exact absurd (hi.wg hs ▸ (A.rk k c hr).1) A.kw
  · rcases getElem?_append_cases ho with ⟨_, h'⟩ | ⟨_, h'⟩
    · exact h.new i op hi h'
    · refine .inr (.inr ⟨by rw [(hu op h').1]; exact hk.1, by rw [(hu op h').1]; exact hk.2, fun x hx hxa => ?_⟩)
      rcases (hu op h').2.1 x hx with ⟨hs, _⟩ | ⟨hn, _⟩
      · exact hs
      · exact absurd hxa hn
/-- Whoever touches nothing. -/
theorem TI.mute (h : TI Wg base j T0 Shun S B t) {k : Nat} (hu : ∀ op ∈ u, op.g = k) (hn : ∀ op ∈ u, op.act.touch? = none) (hr : ∀ op ∈ u, op.act ≠ .mark (.release (stA Wg))) (hl : ∀ op ∈ u, op.act.low B) : TI Wg base j T0 Shun S B (t ++ u) := by
  have no : ∀ op ∈ u, ∀ b, op.act.touch? = some b → False := fun op hop b hb => by rw [hn op hop] at hb; cases hb
  refine ⟨fun said => noRace_append (h.clean said) hu (fun i a ha op hop b hb hc => (no op hop b hb).elim), fun k' l c hm hl => (h.own k' l c hm hl).app fun op hop b hb e => (no op hop b hb).elim, fun k' l c hr hl => (h.rd k' l c hr hl).app fun op hop b hb e hw => (no op hop b hb).elim,
    fun l c hx hl => (h.par l c hx hl).app fun op hop b hb e => (no op hop b hb).elim, fun l c hkk hl => (h.parW l c hkk hl).app fun op hop b hb e hw => (no op hop b hb).elim, h.quiet.app fun op hop x hx hs => (no op hop x hx).elim, norel_app h.norel hr,
    fun i a hi ha hm => (h.old i a hi (old_touch h.size hi ha) hm).imp (·.app u) id, old_over h, fun i op hi ho => ?_, seen_app h.low hl, by rw [Array.size_append]; have := h.size; omega⟩
  rcases getElem?_append_cases ho with ⟨_, h'⟩ | ⟨_, h'⟩
  · exact h.new i op hi h'
  · exact .inr (.inl (hn op h'))
theorem perm_new {k c : Nat} {l : Loc} (h : ∀ op ∈ t, op.act.low B) (hc : B ≤ c) (hl : InB l c) : Perm t k l := by
  intro i a ha e
  exfalso
  obtain ⟨op, ho, hx⟩ := touch_of ha
  have hlow := h op (mem_of_getElem? ho)
  revert hx
  cases hact : op.act with
  | access ev =>
    rw [hact] at hlow
    intro hx
    cases hx
    simp only at e
    subst e
    rcases hl with ⟨b, e, rfl⟩ | e
    · rw [MemAct.low, e] at hlow; simp only [Loc.low] at hlow; omega
    · rw [MemAct.low, e] at hlow; simp only [Loc.low] at hlow; omega
  | mark m =>
    rw [hact] at hlow
    cases m with
    | read b =>
      intro hx
      cases hx
      simp only at e
      subst e
      rcases hl with ⟨b, e, rfl⟩ | e
      · cases e; simp only [MemAct.low] at hlow; omega
      · cases e
    | write b =>
      intro hx
      cases hx
      simp only at e
      subst e
      rcases hl with ⟨b, e, rfl⟩ | e
      · cases e; simp only [MemAct.low] at hlow; omega
      · cases e
    | _ => intro hx; cases hx
  | _ => intro hx; cases hx
/-- Sets that are greater by what is new alone; reading rights may be lost. -/
theorem TI.grow {S' : Sets} {B' : Nat} (h : TI Wg base j T0 Shun S B t) (hB : B ≤ B') (hK : ∀ c, S'.K c → S.K c ∨ B ≤ c) (hX : ∀ c, S'.X c → S.X c ∨ B ≤ c) (hM : ∀ k c, S'.M k c → S.M k c ∨ B ≤ c) (hR : ∀ k c, S'.R k c → S.R k c) : TI Wg base j T0 Shun S' B' t := by
  refine ⟨h.clean, fun k l c hm hl => ?_, fun k l c hr hl => h.rd k l c (hR k c hr) hl, fun l c hx hl => ?_, fun l c hk hl => ?_, h.quiet, h.norel, h.old, h.over, h.new, fun op hop => MemAct.low_mono hB (h.low op hop), h.size⟩
  · rcases hM k c hm with x | x
    · exact h.own k l c x hl
    · exact perm_new h.low x hl
  · rcases hX c hx with x | x
    · exact h.par l c x hl
    · exact perm_new h.low x hl
  · rcases hK c hk with x | x
    · exact h.parW l c x hl
    · exact .of (perm_new h.low x hl)
/-- One more is started: it may read all that the one that starts has read, which that one writes no more. -/
theorem TI.fork (h : TI Wg base j T0 Shun S B t) (hb : 1 ≤ base) (hd0 : Deaf t 0 = 0) (hdk : Deaf t (base + j) = 0) {x y : MemOp} (hx : x.g = 0 ∧ x.act = .go (base + j)) (hy : y.g = base + j ∧ y.act = .start)
    {S' : Sets} (hK : ∀ c, S'.K c → S.K c) (hX : ∀ c, ¬ S'.X c) (hM : ∀ k c, S'.M k c → S.M k c ∨ (k = base + j ∧ S.X c)) (hR : ∀ k c, S'.R k c → S.R k c ∨ (k = base + j ∧ S.K c)) : TI Wg base (j + 1) T0 Shun S' B (t ++ #[x, y]) := by
  have hnt : ∀ op ∈ #[x, y], ∀ b, op.act.touch? = some b → False := by
    intro op hop b hb
    simp only [List.mem_toArray, List.mem_cons, List.not_mem_nil, or_false] at hop
    rcases hop with rfl | rfl
    · rw [hx.2] at hb; cases hb
    · rw [hy.2] at hb; cases hb
  have hlow : ∀ op ∈ #[x, y], op.act.low B := by
    intro op hop
    simp only [List.mem_toArray, List.mem_cons, List.not_mem_nil, or_false] at hop
    rcases hop with rfl | rfl
    · rw [hx.2]; trivial
    · rw [hy.2]; trivial
  have hnr : ∀ op ∈ #[x, y], op.act ≠ .mark (.release (stA Wg)) := by
    intro op hop
    simp only [List.mem_toArray, List.mem_cons, List.not_mem_nil, or_false] at hop
    rcases hop with rfl | rfl
    · rw [hx.2]; simp
    · rw [hy.2]; simp
  have old : ∀ {i : Nat} {a : Touch}, touchAt (t ++ #[x, y]) i = some a → touchAt t i = some a := by
    intro i a ha
    obtain ⟨z, hz, hza⟩ := touch_of ha
    rcases getElem?_append_cases hz with ⟨_, hz'⟩ | ⟨_, hzu⟩
    · rw [touchAt_of hz']; exact hza
    · exact (hnt z hzu a hza).elim
  refine ⟨fun said => ?_, fun k l c hm hl => ?_, fun k l c hr hl => ?_, fun l c hx _ => (hX c hx).elim, fun l c hk hl => (h.parW l c (hK c hk) hl).app fun op hop b hb e hw => (hnt op hop b hb).elim,
    h.quiet.app fun op hop x hx hs => (hnt op hop x hx).elim, norel_app h.norel hnr, fun i a hi ha hm => (h.old i a hi (old_touch h.size hi ha) hm).imp (·.app _) id, old_over h, fun i op hi ho => ?_, seen_app h.low hlow, by rw [Array.size_append]; have := h.size; omega⟩
  · have e : t ++ #[x, y] = (t ++ #[x]) ++ #[y] := by apply Array.ext'; simp
    rw [e]
    refine noRace_append (g := base + j) (noRace_append (g := 0) (h.clean said) (fun op hop => by simp at hop; rw [hop]; exact hx.1) (fun i a _ op hop b hb _ => (hnt op (by simp at hop ⊢; exact .inl hop) b hb).elim))
      (fun op hop => by simp at hop; rw [hop]; exact hy.1) (fun i a _ op hop b hb _ => (hnt op (by simp at hop ⊢; exact .inr hop) b hb).elim)
  · rcases hM k c hm with hm | ⟨rfl, hk⟩
    · exact (h.own k l c hm hl).app fun op hop b hb e => (hnt op hop b hb).elim
    · exact fun i a ha e => fork_knows hx hy hd0 hdk (h.par l c hk hl i a (old ha) e)
  · rcases hR k c hr with hr | ⟨rfl, hk⟩
    · exact (h.rd k l c hr hl).app fun op hop b hb e hw => (hnt op hop b hb).elim
    · exact fun i a ha e hw => fork_knows hx hy hd0 hdk (h.parW l c hk hl i a (old ha) e hw)
  · rcases getElem?_append_cases ho with ⟨_, h'⟩ | ⟨_, h'⟩
    · exact (h.new i op hi h').imp id (·.imp id fun ⟨a, b, c⟩ => ⟨a, by omega, c⟩)
    · refine .inr (.inl ?_)
      cases ht : op.act.touch? with
      | none => rfl
      | some b => exact (hnt op h' b ht).elim
/-- All has been handed over. -/
theorem TI.past (h : TI Wg base j T0 Shun S B t) (hb : 1 ≤ base) (hd0 : Deaf t 0 = 0) {q : Nat} (hq : t.act? q = some (.mark (.acquire (stA Wg)))) (hg : t.g? q = some 0) (hh : t.heard q)
    (hrel : ∀ k, base ≤ k → k < base + j → ∃ r, RelBy (stA Wg) t k r ∧ r < q) : Past (fun l => Shun l ∨ ShN Wg l) B t := by
  have edge : ∀ {k r : Nat}, RelBy (stA Wg) t k r → r < q → HappensBefore t r q := fun hr hrq => .single (.inr ⟨.marked hrq (.inr hr.act) hq (fun k _ _ => h.norel k), hr.heard, hh⟩)
  have to : ∀ {i k r : Nat}, t.g? i = some k → RelBy (stA Wg) t k r → r < q → i ≤ r → HappensBefore t i q := by
    intro i k r hi hr hrq hle
    rcases Nat.lt_or_ge i r with hlt | hge
    · exact .trans (.single (.inl ⟨hlt, k, hi, hr.g⟩)) (edge hr hrq)
    · obtain rfl : i = r := by omega
      exact edge hr hrq
  obtain ⟨z, hz, hzg⟩ := Option.map_eq_some_iff.1 hg
  refine ⟨h.clean, fun i a ha hm => ?_, fun i g hgi hne hc => ?_, hd0, h.low⟩
  · rcases Nat.lt_or_ge i T0 with hi | hi
    · exact (h.old i a hi ha hm).imp id fun x => ⟨.inl x.1, x.2⟩
    · obtain ⟨op, ho, hx⟩ := touch_of ha
      rcases h.new i op hi ho with h0 | h0 | ⟨h1, h2, h3⟩
      · left
        have := knows_own ho
        rwa [h0] at this
      · rw [h0] at hx; cases hx
      · obtain ⟨r, hr, hrq⟩ := hrel op.g h1 h2
        have hgi : t.g? i = some op.g := by simp [Trace.g?, ho]
        by_cases hle : i ≤ r
        · exact .inl ⟨q, z, hz, hzg, .inr (to hgi hr hrq hle)⟩
        · right
          have hnc := hr.after i (by omega) hgi
          have hka : a.kind = .atomic := by
            refine Classical.byContradiction fun hn => hnc ⟨a, ha, hm, .inl hn⟩
          exact ⟨.inr (h3 a hx hka), hka⟩
  · rcases Nat.lt_or_ge i T0 with hi | hi
    · exact h.over i g hi hgi hne hc
    · obtain ⟨op, ho, hog⟩ := Option.map_eq_some_iff.1 hgi
      obtain ⟨x, hx, hmem, hk⟩ := hc
      obtain ⟨op', ho', hx'⟩ := touch_of hx
      rw [ho] at ho'
      cases ho'
      rcases h.new i op hi ho with h0 | h0 | ⟨h1, h2, h3⟩
      · exact absurd (hog.symm.trans h0) hne
      · rw [h0] at hx'; cases hx'
      · obtain ⟨r, hr, hrq⟩ := hrel op.g h1 h2
        have hgi' : t.g? i = some op.g := by rw [hgi, hog]
        have hle : i ≤ r := Nat.le_of_not_lt fun hlt => hr.after i hlt hgi' ⟨x, hx, hmem, hk⟩
        exact ⟨q, hg, to hgi' hr hrq hle⟩
/-- At the beginning. -/
theorem TI.begin (h : Past Shun B t) (S : Sets) (hw : B ≤ Wg) (hK : ∀ c, S.K c → Free Shun c) (hX : ∀ c, S.X c → S.K c) (hM : ∀ k c, ¬ S.M k c) (hR : ∀ k c, ¬ S.R k c) : TI Wg base 0 t.size Shun S B t := by
  have free : ∀ l c, S.K c → InB l c → Perm t 0 l := by
    intro l c hk hl i a ha e
    rcases h.known i a ha (by rw [e]; exact hl.memory) with x | ⟨x, _⟩
    · exact x
    · exfalso
      rw [e] at x
      rcases hl with ⟨b, rfl, hb⟩ | rfl
      · exact (hK c hk).1 b hb x
      · exact (hK c hk).2 x
  refine ⟨h.clean, fun k l c hm => (hM k c hm).elim, fun k l c hr => (hR k c hr).elim, fun l c hx => free l c (hX c hx), fun l c hk hl => .of (free l c hk hl), fun i op x ho hx hs => ?_, fun i e => ?_, fun i a hi ha hm => h.known i a ha hm, fun i g hi hg hne hc => h.over i g hg hne hc, fun i op hi ho => ?_, h.seen, Nat.le_refl _⟩
  · exfalso
    have hlow := h.seen op (mem_of_getElem? ho)
    obtain ⟨a, hl, ha⟩ := hs
    revert hx
    cases hact : op.act with
    | access ev =>
      rw [hact] at hlow
      intro hx
      cases hx
      simp only at hl
      rw [MemAct.low, hl] at hlow
      simp only [Loc.low] at hlow
      omega
    | mark m =>
      rw [hact] at hlow
      cases m with
      | read b => intro hx; cases hx; cases hl; simp only [MemAct.low] at hlow; omega
      | write b => intro hx; cases hx; cases hl; simp only [MemAct.low] at hlow; omega
      | _ => intro hx; cases hx
    | _ => intro hx; cases hx
  · obtain ⟨op, ho, hoa⟩ := Option.map_eq_some_iff.1 e
    have := h.seen op (mem_of_getElem? ho)
    rw [hoa] at this
    simp only [MemAct.low, stA] at this
    omega
  · have := lt_size_of_getElem? ho
    omega
end
end Go.Proofs.Ythifdfbdekkmgaa

/- One that starts others, which make memory of their own and send: what each is about to do, and how they stand together. -/
namespace Go.Proofs.Ythifdfbdekkmgaa
open Go.Conc
open Go.ConcN (PermW ShN RelBy RW RW.refl WSit AtR0 WgLive PayAt Has CTag Mode WD Vc cnt OpenSt upd upd_same upd_ne sumTo sumTo_upd)
open Go.ConcR (KK wgBlock WgAt stA smA rd wr mk Payload Aside2 DC0 Bk g_of_ofEvents)
set_option linter.unusedVariables false
set_option linter.unusedSectionVars false
/-- A rank. -/
inductive Rk : Type 1
  | node (ι : Type) (f : ι → Rk) : Rk
def Rk.Lt : Rk → Rk → Prop
  | x, .node ι f => ∃ i, x = f i
theorem Rk.wf : WellFounded Rk.Lt := ⟨fun y => by
  induction y with
  | node ι f ih => exact ⟨_, fun x h => by obtain ⟨i, rfl⟩ := h; exact ih i⟩⟩
/-- All that does not change. -/
structure Mill where
  P : Program
  ty : TypeId
  Wg : Nat
  Ch : Nat
  n : Nat
  base : Nat
  T0 : Nat
  Shun : Loc → Prop
  val : Nat → Value
  cval : Nat → Value
  w0 : World
  Fz : Nat → Prop
  tm : Bool
  Stop : Nat → (Nat → Prop) → Goroutine → World → Prop
section
variable (m : Mill)
/-- What the others leave alone. -/
structure Still (H : Nat → Prop) (w w1 : World) : Prop where
  size : w.heap.size ≤ w1.heap.size
  keep : ∀ c, H c → w1.heap[c]? = w.heap[c]?
  tape : w1.tape = w.tape
  os : w1.os = w.os
  output : w1.output = w.output
  live : WgLive m.ty m.Wg w → WgLive m.ty m.Wg w1
/-- What one does to the world in an own step. -/
structure Mine (M M' : Nat → Prop) (w1 w' : World) : Prop where
  le : ∀ c, M c → M' c
  new : ∀ c, M' c → M c ∨ (w1.heap.size ≤ c ∧ c < w'.heap.size)
  keep : ∀ c, c < w1.heap.size → ¬ M c → w'.heap[c]? = w1.heap[c]?
  size : w1.heap.size ≤ w'.heap.size
  tape : w'.tape = w1.tape
  os : w'.os = w1.os
  output : w'.output = w1.output
def EvC (M R : Nat → Prop) (B : Nat) (e : Event) : Prop :=
  (∀ x, (MemAct.ofEvent e).touch? = some x → (ShN m.Wg x.loc ∧ x.kind = .atomic) ∨ (x.kind ≠ .atomic ∧ ∃ c, InB x.loc c ∧ (M c ∨ (R c ∧ x.write = false)))) ∧ e.loc ≠ .mark .disable ∧ e.loc ≠ .mark .enable ∧ e.loc ≠ .mark (.release (stA m.Wg)) ∧ (MemAct.ofEvent e).low B
def EvP (K X : Nat → Prop) (B : Nat) (e : Event) : Prop :=
  (∀ x, (MemAct.ofEvent e).touch? = some x → (ShN m.Wg x.loc ∧ x.kind ≠ .plain) ∨ ∃ c, InB x.loc c ∧ K c ∧ (x.write = true → X c)) ∧ e.loc ≠ .mark .disable ∧ e.loc ≠ .mark .enable ∧ e.loc ≠ .mark (.release (stA m.Wg)) ∧ (MemAct.ofEvent e).low B
variable [Payload]
/-- One that was started works, sends, and comes to its Done. -/
def CW (i C : Nat) (R : Nat → Prop) : Rk → Bool → (Nat → Prop) → Goroutine → World → Prop
  | .node ι f, snt, M, g, w => g.status = .running ∧ ∀ w1, Still m (fun c => M c ∨ R c) w w1 →
      (∃ x g' w' es M', stepG m.P false g w1 = .go g' w' es ∧ Mine M M' w1 w' ∧ (∀ e ∈ es, EvC m M' R w'.heap.size e) ∧ CW i C R (f x) snt M' g' w') ∨
      (snt = false ∧ ∃ x g2 z, stepG m.P false g w1 = .comm g2 #[scase m.Ch (m.val i) z] true .send w1 #[] ∧ CW i C R (f x) true M ({ g2 with frame := g2.frame.finish undef, status := .running, offers := none } : Goroutine) w1) ∨
      (snt = true ∧ AtR0 m.P m.ty m.Wg C 1 0 1 (m.cval i) g w1)
/-- Where the one that starts stands. -/
inductive PT | sp | pd | wt (b : Nat) | w2 (vs : Nat) | w3 | w4 | fin | ret
def PT.c : PT → Bool → CTag
  | .sp, _ => .sp 0 5
  | .pd, _ => .sp 0 3
  | .wt _, _ => .w1
  | .w2 vs, _ => .w2 vs
  | .w3, true => .blk
  | .w3, false => .w3
  | .w4, _ => .w4
  | .fin, _ => .ke
  | .ret, _ => .ret
/-- What the one that starts is about to do. -/
def PW : Rk → PT → Nat → Nat → (Nat → Prop) → (Nat → Prop) → Goroutine → World → Prop
  | .node ι f, pt, j, d, K, X, g, w => g.status = .running ∧ ∀ w1, Still m K w w1 → WgLive m.ty m.Wg w1 →
      (pt ≠ .ret ∧ ∃ x g' w' es K' X', stepG m.P true g w1 = .go g' w' es ∧ Mine X X' w1 w' ∧ (∀ c, K c → K' c) ∧ (∀ c, K' c → K c ∨ (w1.heap.size ≤ c ∧ c < w'.heap.size)) ∧ (∀ c, X' c → K' c) ∧ (∀ e ∈ es, EvP m K' X' w'.heap.size e) ∧ g'.status = .running ∧ PW (f x) pt j d K' X' g' w') ∨
      (d = 0 ∧ ∃ x g' pt', (pt' = pt ∧ (pt = .sp ∨ pt = .pd) ∨ pt = .sp ∧ pt' = .wt j) ∧ stepG m.P true g w1 = .go g' w1 #[mk .disable] ∧ PW (f x) pt' j 1 K X g' w1) ∨
      (d = 1 ∧ (pt = .sp ∨ pt = .pd ∨ pt = .fin) ∧ ∃ x g', stepG m.P true g w1 = .go g' w1 #[mk .enable] ∧ PW (f x) pt j 0 K X g' w1) ∨
      (pt = .sp ∧ d = 1 ∧ j < m.n ∧ ∀ v : Nat, v ≤ j → WgAt m.ty m.Wg w1 (v * KK) 0 → ∃ x g', stepG m.P true g w1 = .go g' (w1.setCell (stA m.Wg) (.int .u64 ((v + 1) * KK))) #[rd (stA m.Wg), wr (stA m.Wg)] ∧ PW (f x) .pd j 1 K X g' (w1.setCell (stA m.Wg) (.int .u64 ((v + 1) * KK)))) ∨
      (pt = .pd ∧ d = 0 ∧ ∃ x g' child C, stepG m.P true g w1 = .spawn g' child w1 #[] ∧ X C ∧ (∃ ρ, CW m j C (fun c => K c ∧ c ≠ C) ρ false (fun c => c = C) child w1) ∧ PW (f x) .sp (j + 1) 0 (fun c => K c ∧ c ≠ C) (fun _ => False) g' w1) ∨
      (d = 1 ∧ ∃ b, pt = .wt b ∧ ∀ v : Nat, v ≤ b → WgAt m.ty m.Wg w1 (v * KK) 0 → ∃ x g', stepG m.P true g w1 = .go g' w1 #[rd (stA m.Wg)] ∧ PW (f x) (if v = 0 then .fin else .w2 v) j 1 K X g' w1) ∨
      (d = 1 ∧ ∃ vs, pt = .w2 vs ∧ ∀ v : Nat, v ≤ vs → WgAt m.ty m.Wg w1 (v * KK) 0 →
        (v = vs ∧ ∃ x g', stepG m.P true g w1 = .go g' (w1.setCell (stA m.Wg) (.int .u64 (v * KK + 1))) #[rd (stA m.Wg), wr (stA m.Wg)] ∧ PW (f x) .w3 j 1 K X g' (w1.setCell (stA m.Wg) (.int .u64 (v * KK + 1)))) ∨
        (v ≠ vs ∧ ∃ x g', stepG m.P true g w1 = .go g' w1 #[rd (stA m.Wg)] ∧ PW (f x) (.wt v) j 1 K X g' w1)) ∨
      (d = 1 ∧ pt = .w3 ∧ g.offers = none ∧ ((∃ st, WgAt m.ty m.Wg w1 st 0) → stepG m.P true g w1 = .go { g with status := .blocked } w1 #[]) ∧
        (WgAt m.ty m.Wg w1 0 1 → ∃ x g', stepG m.P true g w1 = .go g' (w1.setCell (smA m.Wg) (.int .u32 0)) (semEvents (smA m.Wg)) ∧ PW (f x) .w4 j 1 K X g' (w1.setCell (smA m.Wg) (.int .u32 0)))) ∨
      (d = 1 ∧ pt = .w4 ∧ (WgAt m.ty m.Wg w1 0 0 → ∃ x g', stepG m.P true g w1 = .go g' w1 #[rd (stA m.Wg)] ∧ PW (f x) .fin j 1 K X g' w1)) ∨
      (d = 0 ∧ pt = .fin ∧ ∃ x g', stepG m.P true g w1 = .go g' w1 #[mk (.acquire (stA m.Wg))] ∧ PW (f x) .ret j 0 K X g' w1) ∨
      (d = 0 ∧ pt = .ret ∧ m.Stop j K g w1)
def NoL : Nat → Loc → Prop := fun _ _ => False
/-- Where one that was started stands. -/
inductive KS (i : Nat) (S : Sets) (d : WD) (snt : Bool) (ρ : Rk) (g : Goroutine) (w : World) : Prop
  | work : d = ⟨7, 0, 0⟩ → CW m i (S.C (m.base + i)) (S.R (m.base + i)) ρ snt (S.M (m.base + i)) g w → KS i S d snt ρ g w
  | tail : d.stage ≤ 6 → snt = true → WSit m.P m.ty m.Wg (S.C (m.base + i)) 1 NoL NoL 0 1 (m.cval i) d.stage d.fuel d.deaf g w → KS i S d snt ρ g w
def Sent (j : Nat) (snt : Nat → Bool) (buf : Array Value) : Prop := ∃ σ : List Nat, buf.toList = σ.map m.val ∧ σ.Nodup ∧ ∀ i, i ∈ σ ↔ i < j ∧ snt i = true
def bl (bk : Bool) (a : Goroutine) : Goroutine := if bk then { a with status := .blocked } else a
/-- All of them together. -/
structure MI (pt : PT) (bk : Bool) (j d : Nat) (S : Sets) (D : Nat → WD) (snt : Nat → Bool) (kr : Nat → Rk) (q : Nat → Nat) (ρ : Rk) (gs : Array Goroutine) (w : World) (t : Trace) : Prop where
  gsz : gs.size = m.base + j
  par : ∃ a, gs[0]? = some (bl bk a) ∧ PW m ρ pt j d S.K S.X a w ∧ (bk = true → pt = .w3 ∧ a.offers = none)
  kid : ∀ i, i < j → ∃ g, gs[m.base + i]? = some g ∧ KS m i S (D i) (snt i) (kr i) g w
  lv : ∀ i g, 1 ≤ i → i < m.base → gs[i]? = some g → QuitsD m.P (q i) (Deaf t i) g
  above : ∀ k, gs.size ≤ k → Deaf t k = 0
  deaf0 : Deaf t 0 = d
  deafK : ∀ i, i < j → Deaf t (m.base + i) = (D i).deaf
  ti : TI m.Wg m.base j m.T0 m.Shun S w.heap.size t
  rel : ∀ i, i < j → (D i).stage ≤ 6 → ∃ r, RelBy (stA m.Wg) t (m.base + i) r
  apart : S.Apart m.Wg
  lowK : ∀ c, S.K c → c < w.heap.size
  lowM : ∀ k c, S.M k c → c < w.heap.size
  nob : ∀ k, m.base + j ≤ k → (∀ c, ¬ S.M k c) ∧ ∀ c, ¬ S.R k c
  cb : ∀ i, i < j → S.M (m.base + i) (S.C (m.base + i))
  chK : ¬ S.K m.Ch
  chM : ∀ k, ¬ S.M k m.Ch
  chan : ∃ buf s, w.heap[m.Ch]? = some (.chan m.n buf false s 0 m.tm) ∧ Sent m j snt buf
  wg : ∃ st sm, WgAt m.ty m.Wg w st sm ∧ Go.ConcN.Mode j D (pt.c bk) st sm
  bnd : ∀ b, pt = .wt b → Vc j D ≤ b
  acq : pt = .ret → ∃ p, t.act? p = some (.mark (.acquire (stA m.Wg))) ∧ t.g? p = some 0 ∧ t.heard p ∧ ∀ i, i < j → ∃ r, RelBy (stA m.Wg) t (m.base + i) r ∧ r < p
  jn : j ≤ m.n
  jp : pt = .pd → j < m.n
  fz : ∀ c, m.Fz c → ¬ S.X c ∧ (∀ k, ¬ S.M k c) ∧ c < w.heap.size ∧ w.heap[c]? = m.w0.heap[c]?
  env : w.tape = m.w0.tape ∧ w.os = m.w0.os ∧ w.output = m.w0.output
  wz : m.w0.heap.size ≤ w.heap.size
/-- What is asked of the numbers. -/
structure Mill.Ok : Prop where
  base : 1 ≤ m.base
  n : m.n < 2147483647
  cw : m.Ch ≠ m.Wg
  fw : ¬ m.Fz m.Wg
  fc : ¬ m.Fz m.Ch
end
section
variable {m : Mill}
theorem Still.refl (H : Nat → Prop) (w : World) : Still m H w w := ⟨Nat.le_refl _, fun _ _ => rfl, rfl, rfl, rfl, id⟩
theorem Still.trans {H : Nat → Prop} {w w1 w2 : World} (h : Still m H w w1) (k : Still m H w1 w2) : Still m H w w2 :=
  ⟨Nat.le_trans h.size k.size, fun c hc => (k.keep c hc).trans (h.keep c hc), k.tape.trans h.tape, k.os.trans h.os, k.output.trans h.output, k.live ∘ h.live⟩
theorem Still.mono {H H' : Nat → Prop} {w w1 : World} (h : Still m H w w1) (hs : ∀ c, H' c → H c) : Still m H' w w1 := ⟨h.size, fun c hc => h.keep c (hs c hc), h.tape, h.os, h.output, h.live⟩
theorem Still.at (H : Nat → Prop) (w : World) (d : Nat) : Still m H w (w.at d) := ⟨Nat.le_refl _, fun _ _ => rfl, rfl, rfl, rfl, id⟩
/-- Another's own step. -/
theorem Mine.still {M M' H : Nat → Prop} {w1 w' : World} (h : Mine M M' w1 w') (hl : ∀ c, H c → c < w1.heap.size) (hd : ∀ c, H c → ¬ M c) (hw : m.Wg < w1.heap.size) (hm : ¬ M m.Wg) : Still m H w1 w' :=
  ⟨h.size, fun c hc => h.keep c (hl c hc) (hd c hc), h.tape, h.os, h.output, fun ⟨st, sm, x⟩ => ⟨st, sm, (h.keep m.Wg hw hm).trans x⟩⟩
/-- A block alone turns. -/
theorem Still.aside {H : Nat → Prop} {b : Nat} {w w' : World} (h : Aside b w w') (hb : ¬ H b) (hl : WgLive m.ty m.Wg w → WgLive m.ty m.Wg w') : Still m H w w' :=
  ⟨Nat.le_of_eq h.size.symm, fun c hc => h.block c (fun e => hb (e ▸ hc)), h.tape, h.os, h.output, hl⟩
variable [Payload]
theorem CW.rely {i C : Nat} {R : Nat → Prop} {ρ : Rk} {snt : Bool} {M : Nat → Prop} {g : Goroutine} {w w1 : World} (h : CW m i C R ρ snt M g w) (k : Still m (fun c => M c ∨ R c) w w1) : CW m i C R ρ snt M g w1 := by
  cases ρ with
  | node ι f =>
    unfold CW at h ⊢
    exact ⟨h.1, fun w2 h2 => h.2 w2 (k.trans h2)⟩
theorem PW.rely {ρ : Rk} {pt : PT} {j d : Nat} {K X : Nat → Prop} {g : Goroutine} {w w1 : World} (h : PW m ρ pt j d K X g w) (k : Still m K w w1) : PW m ρ pt j d K X g w1 := by
  cases ρ with
  | node ι f =>
    unfold PW at h ⊢
    exact ⟨h.1, fun w2 h2 => h.2 w2 (k.trans h2)⟩
theorem CW.running {i C : Nat} {R : Nat → Prop} {ρ : Rk} {snt : Bool} {M : Nat → Prop} {g : Goroutine} {w : World} (h : CW m i C R ρ snt M g w) : g.status = .running := by
  cases ρ with
  | node ι f => unfold CW at h; exact h.1
theorem PW.running {ρ : Rk} {pt : PT} {j d : Nat} {K X : Nat → Prop} {g : Goroutine} {w : World} (h : PW m ρ pt j d K X g w) : g.status = .running := by
  cases ρ with
  | node ι f => unfold PW at h; exact h.1
theorem KS.rely {i : Nat} {S : Sets} {d : WD} {snt : Bool} {ρ : Rk} {g : Goroutine} {w w1 : World} (h : KS m i S d snt ρ g w) (k : Still m (fun c => S.M (m.base + i) c ∨ S.R (m.base + i) c) w w1) (hc : S.M (m.base + i) (S.C (m.base + i))) : KS m i S d snt ρ g w1 := by
  cases h with
  | work h1 h2 => exact .work h1 (h2.rely k)
  | tail h1 h2 h3 =>
    refine .tail h1 h2 (h3.rely ⟨fun b hb => absurd hb (Nat.not_lt_zero _), k.live, fun ⟨cs, e, hn⟩ => ⟨cs, (k.keep _ (.inl hc)).trans e, hn⟩, ?_⟩)
    have := k.keep _ (.inl hc)
    simp only [World.cell?, this]
theorem KS.sets {i : Nat} {S S' : Sets} {d : WD} {snt : Bool} {ρ : Rk} {g : Goroutine} {w : World} (h : KS m i S d snt ρ g w) (hR : S'.R (m.base + i) = S.R (m.base + i)) (hM : S'.M (m.base + i) = S.M (m.base + i)) (hC : S'.C (m.base + i) = S.C (m.base + i)) : KS m i S' d snt ρ g w := by
  cases h with
  | work h1 h2 => exact .work h1 (by rw [hR, hM, hC]; exact h2)
  | tail h1 h2 h3 => exact .tail h1 h2 (by rw [hC]; exact h3)
theorem KS.status {i : Nat} {S : Sets} {d : WD} {snt : Bool} {ρ : Rk} {g : Goroutine} {w : World} (h : KS m i S d snt ρ g w) : g.status = .running ∨ g.status = .finished := by
  cases h with
  | work _ h => exact .inl h.running
  | tail _ _ h => exact h.status
end
end Go.Proofs.Ythifdfbdekkmgaa

/- A step of one that was started. -/
namespace Go.Proofs.Ythifdfbdekkmgaa
open Go.Conc
open Go.ConcN (PermW ShN RelBy RW RW.refl WSit AtR0 WgLive PayAt Has CTag WD Vc cnt OpenSt upd upd_same upd_ne sumTo sumTo_upd Vc_upd)
open Go.ConcR (KK wgBlock WgAt stA smA rd wr mk Payload Aside2 DC0 Bk g_of_ofEvents again_blocked)
set_option linter.unusedVariables false
set_option linter.unusedSectionVars false
def updr (f : Nat → Rk) (i : Nat) (x : Rk) : Nat → Rk := fun a => if a = i then x else f a
theorem updr_same (f : Nat → Rk) (i : Nat) (x : Rk) : updr f i x i = x := by simp [updr]
theorem updr_ne (f : Nat → Rk) {i a : Nat} (x : Rk) (h : a ≠ i) : updr f i x a = f a := by simp [updr, h]
abbrev Meas := Rk × Nat × Nat
def MLt : Meas → Meas → Prop := Prod.Lex Rk.Lt (Prod.Lex (· < ·) (· < ·))
def meas (D : Nat → WD) (kr : Nat → Rk) (i : Nat) : Meas := (kr i, (D i).stage, (D i).fuel)
def Lower (j : Nat) (κ' κ : Nat → Meas) : Prop := ∃ i, i < j ∧ MLt (κ' i) (κ i) ∧ ∀ i', i' < j → i' ≠ i → κ' i' = κ i'
theorem lower_upd {j i : Nat} (hi : i < j) (D : Nat → WD) (kr : Nat → Rk) {d' : WD} {ρ' : Rk} (h : MLt (ρ', d'.stage, d'.fuel) (kr i, (D i).stage, (D i).fuel)) : Lower j (meas (upd D i d') (updr kr i ρ')) (meas D kr) := by
  refine ⟨i, hi, ?_, fun i' _ hne => ?_⟩
  · unfold meas; rw [upd_same, updr_same]; exact h
  · unfold meas; rw [upd_ne D _ hne, updr_ne kr _ hne]
section
variable {m : Mill} [Payload] {pt : PT} {bk : Bool} {j d : Nat} {S : Sets} {D : Nat → WD} {snt : Nat → Bool} {kr : Nat → Rk} {q : Nat → Nat} {ρ : Rk} {gs : Array Goroutine} {w : World} {t : Trace} {sl : Option (Nat × Nat)}
theorem bl_woken {a g g' : Goroutine} {w' : World} (ha : a.status = .running) (ho : bk = true → pt = .w3 ∧ a.offers = none) :
    ∃ bk', woken m.P g g' w' (bl bk a) = bl bk' a ∧ (bk' = bk ∨ (bk = true ∧ bk' = false)) ∧ (mayWake m.P g = true → g'.status = .running → bk' = false) := by
  cases bk with
  | false => exact ⟨false, woken_run ha, .inl rfl, fun _ _ => rfl⟩
  | true =>
    by_cases hc : (mayWake m.P g && g'.status != .blocked && g'.status != .waiting) = true
    · refine ⟨false, ?_, .inr ⟨rfl, rfl⟩, fun _ _ => rfl⟩
      unfold woken
      rw [if_pos hc]
      exact again_blocked ha (ho rfl).2 w'
    · refine ⟨true, ?_, .inl rfl, fun h1 h2 => absurd (by simp [h1, h2]) hc⟩
      unfold woken
      rw [if_neg hc]
theorem bk_tag (h : ∀ {a : Goroutine}, bk = true → pt = .w3) {bk' : Bool} (hb : bk' = bk ∨ (bk = true ∧ bk' = false)) : pt.c bk' = pt.c bk ∨ (pt.c bk = .blk ∧ pt.c bk' = .w3) := by
  rcases hb with rfl | ⟨rfl, rfl⟩
  · exact .inl rfl
  · obtain rfl := h (a := default) rfl
    exact .inr ⟨rfl, rfl⟩
theorem MI.wgLt (h : MI m pt bk j d S D snt kr q ρ gs w t) : m.Wg < w.heap.size := by
  obtain ⟨st, sm, x, _⟩ := h.wg
  exact (Array.getElem?_eq_some_iff.1 x).1
theorem MI.live (h : MI m pt bk j d S D snt kr q ρ gs w t) : WgLive m.ty m.Wg w := let ⟨st, sm, x, _⟩ := h.wg; ⟨st, sm, x⟩
theorem MI.chLt (h : MI m pt bk j d S D snt kr q ρ gs w t) : m.Ch < w.heap.size := by
  obtain ⟨buf, s, x, _⟩ := h.chan
  exact (Array.getElem?_eq_some_iff.1 x).1
/-- What is asked of whatever step of one that was started. -/
theorem MI.kidStep (O : m.Ok) (h : MI m pt bk j d S D snt kr q ρ gs w t) (hr : pt ≠ .ret) {i : Nat} (hi : i < j) {g g' : Goroutine} {w' : World} {es : Array Event} (hg : gs[m.base + i]? = some g) (hgo : stepG m.P false g w = .go g' w' es)
    {S' : Sets} {d' : WD} {ρ' : Rk} (hSK : S'.K = S.K) (hSX : S'.X = S.X) (hSR : S'.R = S.R) (hSC : S'.C = S.C) (hSM : ∀ k, k ≠ m.base + i → S'.M k = S.M k) (hSMi : ∀ c, S.M (m.base + i) c → S'.M (m.base + i) c)
    (stK : Still m S.K w w') (stO : ∀ k, k ≠ m.base + i → Still m (fun c => S.M k c ∨ S.R k c) w w') (ks : KS m i S' d' (snt i) ρ' g' w')
    (ti : TI m.Wg m.base j m.T0 m.Shun S' w'.heap.size (t ++ MemOp.ofEvents (m.base + i) g.frame.fn g.frame.place es)) (ap : S'.Apart m.Wg) (lowM : ∀ c, S'.M (m.base + i) c → c < w'.heap.size) (chM : ¬ S'.M (m.base + i) m.Ch)
    (hdf : deafBehind (D i).deaf es = d'.deaf) (hrel : d'.stage ≤ 6 → ∃ r, RelBy (stA m.Wg) (t ++ MemOp.ofEvents (m.base + i) g.frame.fn g.frame.place es) (m.base + i) r) (hCh : w'.heap[m.Ch]? = w.heap[m.Ch]?)
    (hwg : ∃ st sm, WgAt m.ty m.Wg w' st sm ∧ ∀ bk', (bk' = bk ∨ (bk = true ∧ bk' = false)) → (mayWake m.P g = true → g'.status = .running → bk' = false) → Go.ConcN.Mode j (upd D i d') (pt.c bk') st sm)
    (hV : cnt d' ≤ cnt (D i)) (fz : ∀ c, m.Fz c → ¬ S'.M (m.base + i) c ∧ w'.heap[c]? = w.heap[c]?) (hlt : MLt (ρ', d'.stage, d'.fuel) (kr i, (D i).stage, (D i).fuel)) :
    ∃ gs' ops bk' S' D' snt' kr', runT m.P (crowd gs w sl) (m.base + i) = (.next (crowd gs' w' sl), ops) ∧ MI m pt bk' j d S' D' snt' kr' q ρ gs' w' (t ++ ops) ∧ Lower j (meas D' kr') (meas D kr) := by
  obtain ⟨a, ha, hp, hob⟩ := h.par
  obtain ⟨bk', hw, hb, hmw⟩ := bl_woken (m := m) (g := g) (g' := g') (w' := w') (bk := bk) (pt := pt) hp.running hob
  have hne0 : m.base + i ≠ 0 := by have := O.base; omega
  have hlt0 : m.base + i < gs.size := (Array.getElem?_eq_some_iff.1 hg).1
  have hrun := runT_crowd_go (P := m.P) (sl := sl) (i := m.base + i) hg (by rw [show (m.base + i == 0) = false by simp; omega]; exact hgo)
  have hz := stK.size
  have hdo : ∀ k, k ≠ m.base + i → Deaf (t ++ MemOp.ofEvents (m.base + i) g.frame.fn g.frame.place es) k = Deaf t k := fun k hk => Deaf_other t (Ne.symm hk) _ g_of_ofEvents
  refine ⟨_, _, bk', S', upd D i d', snt, updr kr i ρ', hrun, ⟨by simp [h.gsz], ⟨a, ?_, by rw [hSK, hSX]; exact hp.rely stK, ?_⟩, fun i' hi' => ?_, fun k g2 h1 h2 hg2 => ?_, fun k hk => ?_, ?_, fun i' hi' => ?_, ti, fun i' hi' hs => ?_, ap,
    fun c hc => ?_, fun k c hc => ?_, fun k hk => ?_, fun i' hi' => ?_, by rw [hSK]; exact h.chK, fun k => ?_, ?_, ?_, fun b hb => ?_, fun e => absurd e hr, h.jn, h.jp, fun c hc => ?_, ?_, Nat.le_trans h.wz hz⟩, lower_upd hi D kr hlt⟩
  · rw [Array.getElem?_setIfInBounds_ne hne0, Array.getElem?_map, ha]
    simp [hw]
  · intro e
    rcases hb with rfl | ⟨_, rfl⟩
    · exact hob e
    · cases e
  · by_cases e : i' = i
    · subst e
      exact ⟨g', by rw [Array.getElem?_setIfInBounds_self_of_lt (by simpa using hlt0)], by rw [upd_same, updr_same]; exact ks⟩
    · obtain ⟨g2, hg2, hk2⟩ := h.kid i' hi'
      refine ⟨g2, ?_, ?_⟩
      · rw [Array.getElem?_setIfInBounds_ne (by omega), Array.getElem?_map, hg2]
        have : woken m.P g g' w' g2 = g2 := by
          unfold woken
          split
          · exact again_running _ hk2.status
          · rfl
        simp [this]
      · rw [upd_ne D _ e, updr_ne kr _ e]
        exact (hk2.rely (stO _ (by omega)) (h.cb i' hi')).sets (by rw [hSR]) (hSM _ (by omega)) (by rw [hSC])
  · rw [Array.getElem?_setIfInBounds_ne (by omega), Array.getElem?_map] at hg2
    obtain ⟨y, hy, rfl⟩ := Option.map_eq_some_iff.1 hg2
    have hq := h.lv k y h1 h2 hy
    rw [woken_quitsD hq, hdo k (by omega)]
    exact hq
  · rw [Array.size_setIfInBounds, Array.size_map] at hk
    rw [hdo k (by have := h.gsz; omega)]
    exact h.above k hk
  · rw [hdo 0 (fun e => hne0 e.symm)]; exact h.deaf0
  · by_cases e : i' = i
    · subst e
      rw [upd_same, Deaf_own, h.deafK i' hi']
      exact hdf
    · rw [upd_ne D _ e, hdo _ (by omega)]
      exact h.deafK i' hi'
  · by_cases e : i' = i
    · subst e
      rw [upd_same] at hs
      exact hrel hs
    · rw [upd_ne D _ e] at hs
      obtain ⟨r, hr2⟩ := h.rel i' hi' hs
      exact ⟨r, hr2.appOther g_of_ofEvents (by omega)⟩
  · rw [hSK] at hc
    exact Nat.lt_of_lt_of_le (h.lowK c hc) hz
  · by_cases e : k = m.base + i
    · subst e; exact lowM c hc
    · rw [hSM k e] at hc
      exact Nat.lt_of_lt_of_le (h.lowM k c hc) hz
  · rw [hSM k (by omega), hSR]
    exact h.nob k hk
  · by_cases e : i' = i
    · subst e; rw [hSC]; exact hSMi _ (h.cb i' hi')
    · rw [hSM _ (by omega), hSC]; exact h.cb i' hi'
  · by_cases e : k = m.base + i
    · subst e; exact chM
    · rw [hSM k e]; exact h.chM k
  · obtain ⟨buf, s, hc, hs⟩ := h.chan
    exact ⟨buf, s, hCh.trans hc, hs⟩
  · obtain ⟨st, sm, hx, hm⟩ := hwg
    exact ⟨st, sm, hx, hm bk' hb hmw⟩
  · have h1 := h.bnd b hb
    have h2 := Vc_upd D d' hi
    omega
  · obtain ⟨f1, f2, f3, f4⟩ := h.fz c hc
    refine ⟨by rw [hSX]; exact f1, fun k => ?_, Nat.lt_of_lt_of_le f3 hz, (fz c hc).2.trans f4⟩
    by_cases e : k = m.base + i
    · subst e; exact (fz c hc).1
    · rw [hSM k e]; exact f2 k
  · obtain ⟨e1, e2, e3⟩ := h.env
    exact ⟨stK.tape.trans e1, stK.os.trans e2, stK.output.trans e3⟩
end
end Go.Proofs.Ythifdfbdekkmgaa

