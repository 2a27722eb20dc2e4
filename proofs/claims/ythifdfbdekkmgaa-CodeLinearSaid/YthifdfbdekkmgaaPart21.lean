/- MillKid2, MillKid3, MillPar, MillPar2, MillRun. -/
import Derived.Test.YthifdfbdekkmgaaPart20
import Derived.Conc.CrowdComm
import Derived.Conc.CrowdStepC2
set_option linter.unusedVariables false
set_option linter.unusedSimpArgs false
set_option linter.unusedSectionVars false
set_option linter.unnecessarySimpa false
set_option linter.deprecated false
/- A step of one that was started: at work, sending, behind its work. -/
namespace Go.Proofs.Ythifdfbdekkmgaa
open Go.Conc
open Go.ConcN (PermW ShN RelBy RW RW.refl WSit AtR0 WgLive PayAt Has CTag WD Vc cnt OpenSt upd upd_same upd_ne sumTo sumTo_upd Vc_upd pend isW3 isOpen others_uncounted le_sumTo Vc_le bk_cell)
open Go.ConcR (KK wgBlock WgAt stA smA rd wr mk Payload Aside2 DC0 Bk g_of_ofEvents again_blocked ofEvent_loc_mark ofEvent_cell bk_of_mute deafBehind_cons deafBehind_one)
set_option linter.unusedVariables false
set_option linter.unusedSectionVars false
theorem deaf_idle {es : Array Event} (h : ∀ e ∈ es, e.loc ≠ .mark .disable ∧ e.loc ≠ .mark .enable) (d : Nat) : deafBehind d es = d := deafBehind_still h d
theorem mem_sets {S : Sets} {b : Nat} {M' : Nat → Prop} (k : Nat) : ({ S with M := fun k => if k = b then M' else S.M k } : Sets).M k = if k = b then M' else S.M k := rfl
section
variable {m : Mill} [Payload] {pt : PT} {bk : Bool} {j d : Nat} {S : Sets} {D : Nat → WD} {snt : Nat → Bool} {kr : Nat → Rk} {q : Nat → Nat} {ρ : Rk} {gs : Array Goroutine} {w : World} {t : Trace} {sl : Option (Nat × Nat)}
/-- What a kid's step is asked to lead to. -/
def KidNext (m : Mill) [Payload] (pt : PT) (bk : Bool) (j d : Nat) (D : Nat → WD) (kr : Nat → Rk) (q : Nat → Nat) (ρ : Rk) (gs : Array Goroutine) (w : World) (sl : Option (Nat × Nat)) (t : Trace) (k : Nat) : Prop :=
  ∃ gs' w' ops bk' S' D' snt' kr', runT m.P (crowd gs w sl) k = (.next (crowd gs' w' sl), ops) ∧ MI m pt bk' j d S' D' snt' kr' q ρ gs' w' (t ++ ops) ∧ Lower j (meas D' kr') (meas D kr)
theorem mode_same {i : Nat} {tag : CTag} {st sm : Int} (h : Go.ConcN.Mode j D tag st sm) {d' : WD} (hd : d'.stage = (D i).stage) : Go.ConcN.Mode j (upd D i d') tag st sm :=
  h.congr fun a _ => by
    by_cases e : a = i
    · subst e; rw [upd_same]; exact hd
    · rw [upd_ne D _ e]
theorem okC_ofEvC {k B : Nat} {fn : FuncId} {pos : String} {es : Array Event} (h : ∀ e ∈ es, EvC m (S.M k) (S.R k) B e) : ∀ op ∈ MemOp.ofEvents k fn pos es, OkC m.Wg S B k op := by
  intro op hop
  obtain ⟨e, he, rfl⟩ := Go.Conc.mem_ofEvents hop
  obtain ⟨h1, h2, h3, h4, h5⟩ := h e he
  exact ⟨rfl, h1, fun hr => h4 (Go.ConcR.loc_of_ofEvent hr), h5⟩
theorem okC_ofBk {k B : Nat} {fn : FuncId} {pos : String} {es : Array Event} (hw : m.Wg < B) (h : ∀ e ∈ es, Bk m.Wg e) : ∀ op ∈ MemOp.ofEvents k fn pos es, OkC m.Wg S B k op := by
  intro op hop
  obtain ⟨e, he, rfl⟩ := Go.Conc.mem_ofEvents hop
  rcases h e he with h1 | h1 | ⟨a, wr, rfl, ha⟩
  · have := ofEvent_loc_mark h1
    refine ⟨rfl, fun x hx => ?_, ?_, ?_⟩
    · simp only [this] at hx; cases hx
    · simp only [this]; simp
    · simp only [this]; trivial
  · have := ofEvent_loc_mark h1
    refine ⟨rfl, fun x hx => ?_, ?_, ?_⟩
    · simp only [this] at hx; cases hx
    · simp only [this]; simp
    · simp only [this]; trivial
  · refine ⟨rfl, fun x hx => ?_, ?_, ?_⟩
    · simp only [ofEvent_cell, MemAct.touch?, Option.some.injEq] at hx
      subst hx
      exact .inl ⟨⟨a, rfl, ha⟩, rfl⟩
    · simp only [ofEvent_cell]; simp
    · simp only [ofEvent_cell, MemAct.low, Loc.low]; omega
/-- Behind its work: at most the group's block turns. -/
theorem MI.kidBook (O : m.Ok) (h : MI m pt bk j d S D snt kr q ρ gs w t) (hr : pt ≠ .ret) {i : Nat} (hi : i < j) {g g' : Goroutine} {w' : World} {es : Array Event} (hg : gs[m.base + i]? = some g) (hgo : stepG m.P false g w = .go g' w' es)
    (hs6 : (D i).stage ≤ 6) (hsn : snt i = true) (hAs : Aside m.Wg w w') (hbk : ∀ e ∈ es, Bk m.Wg e) (hnt : ∀ jx e, es[jx]? = some e → (MemAct.ofEvent e).touch? = none ∨ 0 < deafBehind (D i).deaf (es.extract 0 jx))
    {d' : WD} (hs : WSit m.P m.ty m.Wg (S.C (m.base + i)) 1 NoL NoL 0 1 (m.cval i) d'.stage d'.fuel d'.deaf g' w') (hd6 : d'.stage ≤ 6) (hdd : deafBehind (D i).deaf es = d'.deaf)
    (hwg : ∃ st sm, WgAt m.ty m.Wg w' st sm ∧ ∀ bk', (bk' = bk ∨ (bk = true ∧ bk' = false)) → (mayWake m.P g = true → g'.status = .running → bk' = false) → Go.ConcN.Mode j (upd D i d') (pt.c bk') st sm)
    (hV : cnt d' ≤ cnt (D i)) (hlt : d'.stage < (D i).stage ∨ (d'.stage = (D i).stage ∧ d'.fuel < (D i).fuel)) : KidNext m pt bk j d D kr q ρ gs w sl t (m.base + i) := by
  have hl : WgLive m.ty m.Wg w → WgLive m.ty m.Wg w' := fun _ => let ⟨st, sm, x, _⟩ := hwg; ⟨st, sm, x⟩
  have hrk : ∀ k c, S.R k c → S.K c := fun k c hc => (h.apart.rk k c hc).1
  obtain ⟨gs', ops, bk', S', D', snt', kr', h1, h2, h3⟩ := h.kidStep (sl := sl) O hr hi hg hgo (S' := S) (d' := d') (ρ' := kr i) rfl rfl rfl rfl (fun _ _ => rfl) (fun _ h => h) (.aside hAs h.apart.kw hl)
    (fun k _ => .aside hAs (fun x => x.elim (h.apart.mw k) fun y => h.apart.kw (hrk k _ y)) hl) (.tail hd6 hsn hs)
    (by rw [hAs.size]; exact h.ti.appC h.apart ⟨Nat.le_add_right _ _, by omega⟩ (okC_ofBk h.wgLt hbk)) h.apart (fun c hc => by rw [hAs.size]; exact h.lowM _ c hc) (h.chM _) hdd
    (fun _ => let ⟨r, hr⟩ := h.rel i hi hs6; ⟨r, hr.book (h.deafK i hi) _ _ hbk hnt⟩) (hAs.block _ O.cw) hwg hV
    (fun c hc => ⟨(h.fz c hc).2.1 _, hAs.block c fun e => O.fw (e ▸ hc)⟩)
    (.right _ (by rcases hlt with h | ⟨h1, h2⟩
                  · exact .left _ _ h
                  · rw [h1]; exact .right _ h2))
  exact ⟨gs', w', ops, bk', S', D', snt', kr', h1, h2, h3⟩
theorem nodup_le : ∀ (n : Nat) (σ : List Nat), σ.Nodup → (∀ x ∈ σ, x < n) → σ.length ≤ n
  | 0, σ, _, h => by
    cases σ with
    | nil => exact Nat.le_refl _
    | cons x l => exact absurd (h x (by simp)) (Nat.not_lt_zero _)
  | n + 1, σ, hn, h => by
    have h1 := nodup_le n (σ.erase n) (hn.erase n) (fun x hx => by
      have := h x (List.mem_of_mem_erase hx)
      have hne : x ≠ n := fun e => by
        subst e
        exact (List.Nodup.not_mem_erase hn) hx
      omega)
    rw [List.length_erase] at h1
    split at h1 <;> omega
/-- It sends: there is room. -/
theorem MI.kidSend (O : m.Ok) (h : MI m pt bk j d S D snt kr q ρ gs w t) (hr : pt ≠ .ret) {i : Nat} (hi : i < j) {g g2 : Goroutine} {z : Value} (hg : gs[m.base + i]? = some g) (hgo : stepG m.P false g w = .comm g2 #[scase m.Ch (m.val i) z] true .send w #[])
    (hd : D i = ⟨7, 0, 0⟩) (hsn : snt i = false) {ρ' : Rk} (hlt : Rk.Lt ρ' (kr i)) (hc : CW m i (S.C (m.base + i)) (S.R (m.base + i)) ρ' true (S.M (m.base + i)) ({ g2 with frame := g2.frame.finish undef, status := .running, offers := none } : Goroutine) w) : KidNext m pt bk j d D kr q ρ gs w sl t (m.base + i) := by
  obtain ⟨buf, s, hch, σ, h1, h2, h3⟩ := h.chan
  have hroom : buf.size < m.n := by
    have hni : i ∉ σ := fun hm => by have := ((h3 i).1 hm).2; rw [hsn] at this; cases this
    have hle := nodup_le j (i :: σ) (List.nodup_cons.2 ⟨hni, h2⟩) (fun x hx => by
      rcases List.mem_cons.1 hx with rfl | hx
      · exact hi
      · exact ((h3 x).1 hx).1)
    have e : buf.size = σ.length := by rw [← Array.length_toList, h1, List.length_map]
    rw [List.length_cons] at hle
    have := h.jn
    omega
  obtain ⟨a, ha, hp, hob⟩ := h.par
  have hne0 : m.base + i ≠ 0 := by have := O.base; omega
  have hlt0 : m.base + i < gs.size := (Array.getElem?_eq_some_iff.1 hg).1
  have hpart : partners (gs.setIfInBounds (m.base + i) ph) m.Ch false = [] := by
    refine partners_nil fun k x hx => ?_
    rcases getElem?_stand gs (m.base + i) k x hx with ⟨_, rfl⟩ | ⟨hk, hx⟩
    · exact offersAt_ph _ _
    · rcases Nat.eq_zero_or_pos k with rfl | hpos
      · rw [ha] at hx
        cases hx
        cases bk with
        | false => exact offersAt_of_not_blocked (by show a.status ≠ _; rw [hp.running]; decide) _ _
        | true =>
          have := (hob rfl).2
          unfold offersAt bl
          simp [this]
      · rcases Nat.lt_or_ge k m.base with hlt | hge
        · have := (h.lv k x hpos hlt hx).status
          exact offersAt_of_not_blocked (by rcases this with e | e <;> rw [e] <;> decide) _ _
        · have hkz : k < gs.size := (Array.getElem?_eq_some_iff.1 hx).1
          have hgz := h.gsz
          obtain ⟨i', rfl⟩ : ∃ i', k = m.base + i' := ⟨k - m.base, by omega⟩
          obtain ⟨y, hy, hk2⟩ := h.kid i' (by omega)
          rw [hy] at hx
          cases hx
          have := hk2.status
          exact offersAt_of_not_blocked (by rcases this with e | e <;> rw [e] <;> decide) _ _
  have hrun := crowd_send_room (P := m.P) (sl := sl) (i := m.base + i) hg (by rw [show (m.base + i == 0) = false by simp; omega]; exact hgo) hch hroom hpart
  have hsz : (w.setChan m.Ch m.n (buf.push (m.val i)) false (s + 1) 0 m.tm).heap.size = w.heap.size := by simp [World.setChan]
  have hAs : Aside m.Ch w (w.setChan m.Ch m.n (buf.push (m.val i)) false (s + 1) 0 m.tm) := ⟨rfl, rfl, rfl, hsz, fun b hb => by simp only [World.setChan]; rw [Array.getElem?_setIfInBounds_ne (fun e => hb e.symm)]⟩
  have hl : WgLive m.ty m.Wg w → WgLive m.ty m.Wg (w.setChan m.Ch m.n (buf.push (m.val i)) false (s + 1) 0 m.tm) := fun ⟨st, sm, x⟩ => ⟨st, sm, (hAs.block m.Wg (Ne.symm O.cw)).trans x⟩
  have stK : Still m S.K w (w.setChan m.Ch m.n (buf.push (m.val i)) false (s + 1) 0 m.tm) := .aside hAs h.chK hl
  have stO : ∀ k, Still m (fun c => S.M k c ∨ S.R k c) w (w.setChan m.Ch m.n (buf.push (m.val i)) false (s + 1) 0 m.tm) := fun k => .aside hAs (fun x => x.elim (h.chM k) fun y => h.chK (h.apart.rk k _ y).1) hl
  have hops : ∀ op ∈ (MemOp.ofEvents (m.base + i) g.frame.fn g.frame.place #[] ++ #[{ g := m.base + i, fn := g2.frame.fn, pos := g2.frame.place, act := .send m.Ch s }, { g := m.base + i, fn := g2.frame.fn, pos := g2.frame.place, act := .sendDone m.Ch s }] : Trace), op.g = m.base + i ∧ op.act.touch? = none ∧ op.act ≠ .mark (.release (stA m.Wg)) ∧ op.act.low w.heap.size ∧ op.act ≠ .mark .disable ∧ op.act ≠ .mark .enable := by
    intro op hop
    have hcl := h.chLt
    simp [MemOp.ofEvents] at hop
    rcases hop with rfl | rfl
    · exact ⟨rfl, rfl, by simp, hcl, by simp, by simp⟩
    · exact ⟨rfl, rfl, by simp, hcl, by simp, by simp⟩
  generalize MemOp.ofEvents (m.base + i) g.frame.fn g.frame.place #[] ++ #[{ g := m.base + i, fn := g2.frame.fn, pos := g2.frame.place, act := .send m.Ch s }, { g := m.base + i, fn := g2.frame.fn, pos := g2.frame.place, act := .sendDone m.Ch s }] = u at hrun hops
  have hds : ∀ k, Deaf (t ++ u) k = Deaf t k := fun k => Go.ConcN.Deaf_still t k u fun op hop => ⟨(hops op hop).2.2.2.2.1, (hops op hop).2.2.2.2.2⟩
  refine ⟨_, _, _, bk, S, D, fun k => if k = i then true else snt k, updr kr i ρ', hrun, ⟨by simp [h.gsz], ⟨a, ?_, hp.rely stK, hob⟩, fun i' hi' => ?_, fun k g3 k1 k2 hg3 => ?_, fun k hk => ?_, by rw [hds]; exact h.deaf0, fun i' hi' => by rw [hds]; exact h.deafK i' hi',
    by rw [hsz]; exact h.ti.mute (fun op hop => (hops op hop).1) (fun op hop => (hops op hop).2.1) (fun op hop => (hops op hop).2.2.1) (fun op hop => (hops op hop).2.2.2.1), fun i' hi' hs => ?_, h.apart, fun c hc => by rw [hsz]; exact h.lowK c hc, fun k c hc => by rw [hsz]; exact h.lowM k c hc,
    h.nob, h.cb, h.chK, h.chM, ⟨buf.push (m.val i), s + 1, ?_, σ ++ [i], ?_, ?_, fun x => ?_⟩, ?_, h.bnd, fun e => absurd e hr, h.jn, h.jp, fun c hc => ?_, h.env, by rw [hsz]; exact h.wz⟩, ?_⟩
  · rw [Array.getElem?_setIfInBounds_ne hne0]; exact ha
  · by_cases e : i' = i
    · subst e
      exact ⟨_, by rw [Array.getElem?_setIfInBounds_self_of_lt hlt0], .work hd (by rw [if_pos rfl, updr_same]; exact hc.rely (stO _))⟩
    · obtain ⟨y, hy, hk2⟩ := h.kid i' hi'
      refine ⟨y, by rw [Array.getElem?_setIfInBounds_ne (by omega)]; exact hy, ?_⟩
      rw [if_neg e, updr_ne kr _ e]
      exact hk2.rely (stO _) (h.cb i' hi')
  · rw [Array.getElem?_setIfInBounds_ne (by omega)] at hg3
    rw [hds]
    exact h.lv k g3 k1 k2 hg3
  · rw [Array.size_setIfInBounds] at hk
    rw [hds]
    exact h.above k hk
  · by_cases e : i' = i
    · subst e; rw [hd] at hs; simp at hs
    · obtain ⟨r, hr2⟩ := h.rel i' hi' hs
      exact ⟨r, hr2.appOther (fun op hop => (hops op hop).1) (by omega)⟩
  · simp only [World.setChan]
    rw [Array.getElem?_setIfInBounds_self_of_lt h.chLt]
  · rw [Array.toList_push, h1, List.map_append]; rfl
  · rw [List.nodup_append]
    refine ⟨h2, by simp, fun x hx y hy => ?_⟩
    simp at hy
    subst hy
    rintro rfl
    have := ((h3 x).1 hx).2
    rw [hsn] at this
    cases this
  · rw [List.mem_append, h3, List.mem_singleton]
    by_cases e : x = i
    · subst e; simp [hi]
    · simp [e]
  · obtain ⟨st, sm, hx, hm⟩ := h.wg
    exact ⟨st, sm, (hAs.block m.Wg (Ne.symm O.cw)).trans hx, hm⟩
  · obtain ⟨f1, f2, f3, f4⟩ := h.fz c hc
    exact ⟨f1, f2, by rw [hsz]; exact f3, (hAs.block c fun e => O.fc (e ▸ hc)).trans f4⟩
  · refine ⟨i, hi, ?_, fun i' _ hne => ?_⟩
    · unfold meas; rw [updr_same]; exact .left _ _ hlt
    · unfold meas; rw [updr_ne kr _ hne]
end
end Go.Proofs.Ythifdfbdekkmgaa

/- Whatever step of one that was started. -/
namespace Go.Proofs.Ythifdfbdekkmgaa
open Go.Conc
open Go.ConcN (PermW ShN RelBy RW RW.refl WSit AtR0 WgLive PayAt Has CTag WD Vc cnt OpenSt upd upd_same upd_ne sumTo sumTo_upd Vc_upd pend isW3 isOpen isFin others_uncounted le_sumTo Vc_le bk_cell bk_rw bk_rd bk_sem)
open Go.ConcR (KK wgBlock WgAt stA smA rd wr mk Payload Aside2 DC0 Bk g_of_ofEvents again_blocked ofEvent_loc_mark ofEvent_cell bk_of_mute deafBehind_cons deafBehind_one)
set_option linter.unusedVariables false
set_option linter.unusedSectionVars false
/-- The sets with M for k. -/
def Sets.own (S : Sets) (k : Nat) (M : Nat → Prop) : Sets := { S with M := fun k' => if k' = k then M else S.M k' }
theorem Sets.own_same (S : Sets) (k : Nat) (M : Nat → Prop) : (S.own k M).M k = M := by simp [Sets.own]
theorem Sets.own_ne (S : Sets) {k k' : Nat} (M : Nat → Prop) (h : k' ≠ k) : (S.own k M).M k' = S.M k' := by simp [Sets.own, h]
section
variable {m : Mill} [Payload] {pt : PT} {bk : Bool} {j d : Nat} {S : Sets} {D : Nat → WD} {snt : Nat → Bool} {kr : Nat → Rk} {q : Nat → Nat} {ρ : Rk} {gs : Array Goroutine} {w : World} {t : Trace} {sl : Option (Nat × Nat)}
theorem tagOf (h : MI m pt bk j d S D snt kr q ρ gs w t) {bk' : Bool} (hb : bk' = bk ∨ (bk = true ∧ bk' = false)) : pt.c bk' = pt.c bk ∨ (pt.c bk = .blk ∧ pt.c bk' = .w3) := by
  rcases hb with rfl | ⟨rfl, rfl⟩
  · exact .inl rfl
  · obtain ⟨a, _, _, ho⟩ := h.par
    obtain ⟨rfl, _⟩ := ho rfl
    exact .inr ⟨rfl, rfl⟩
/-- It works: an own step. -/
theorem MI.kidOwn (O : m.Ok) (h : MI m pt bk j d S D snt kr q ρ gs w t) (hr : pt ≠ .ret) {i : Nat} (hi : i < j) {g g' : Goroutine} {w' : World} {es : Array Event} {M' : Nat → Prop} {ρ' : Rk} (hg : gs[m.base + i]? = some g) (hgo : stepG m.P false g w = .go g' w' es)
    (hd : D i = ⟨7, 0, 0⟩) (hm : Mine (S.M (m.base + i)) M' w w') (hev : ∀ e ∈ es, EvC m M' (S.R (m.base + i)) w'.heap.size e) (hc : CW m i (S.C (m.base + i)) (S.R (m.base + i)) ρ' (snt i) M' g' w') (hlt : Rk.Lt ρ' (kr i)) : KidNext m pt bk j d D kr q ρ gs w sl t (m.base + i) := by
  have hl := h.live
  have hwM := h.apart.mw
  have hrk : ∀ k c, S.R k c → S.K c := fun k c hc => (h.apart.rk k c hc).1
  have hnew : ∀ c, M' c → ¬ S.M (m.base + i) c → w.heap.size ≤ c := fun c x y => ((hm.new c x).resolve_left y).1
  have ap : (S.own (m.base + i) M').Apart m.Wg := by
    refine ⟨h.apart.xk, fun k c x y => ?_, fun k k' c x y => ?_, h.apart.rk, h.apart.kw, fun k x => ?_⟩
    · by_cases e : k = m.base + i
      · subst e
        rw [S.own_same] at x
        rcases hm.new c x with x | ⟨x, _⟩
        · exact h.apart.nk _ c x y
        · have := h.lowK c y; omega
      · rw [S.own_ne _ e] at x
        exact h.apart.nk k c x y
    · by_cases e : k = m.base + i <;> by_cases e' : k' = m.base + i
      · rw [e, e']
      · subst e
        rw [S.own_same] at x
        rw [S.own_ne _ e'] at y
        rcases hm.new c x with x | ⟨x, _⟩
        · exact h.apart.mm _ _ c x y
        · have := h.lowM k' c y; omega
      · subst e'
        rw [S.own_same] at y
        rw [S.own_ne _ e] at x
        rcases hm.new c y with y | ⟨y, _⟩
        · exact h.apart.mm _ _ c x y
        · have := h.lowM k c x; omega
      · rw [S.own_ne _ e] at x
        rw [S.own_ne _ e'] at y
        exact h.apart.mm _ _ c x y
    · by_cases e : k = m.base + i
      · subst e
        rw [S.own_same] at x
        rcases hm.new _ x with x | ⟨x, _⟩
        · exact hwM _ x
        · have := h.wgLt; omega
      · rw [S.own_ne _ e] at x
        exact hwM k x
  have hti : TI m.Wg m.base j m.T0 m.Shun (S.own (m.base + i) M') w'.heap.size t := h.ti.grow hm.size (fun c x => .inl x) (fun c x => .inl x) (fun k c x => by
    by_cases e : k = m.base + i
    · subst e
      rw [S.own_same] at x
      exact (hm.new c x).imp id And.left
    · rw [S.own_ne _ e] at x
      exact .inl x) (fun k c x => x)
  obtain ⟨gs', ops, bk', S', D', snt', kr', h1, h2, h3⟩ := h.kidStep (sl := sl) O hr hi hg hgo (S' := S.own (m.base + i) M') (d' := ⟨7, 0, 0⟩) (ρ' := ρ') rfl rfl rfl rfl (fun k e => S.own_ne _ e) (fun c x => by rw [S.own_same]; exact hm.le c x) (hm.still h.lowK (fun c x y => h.apart.nk _ c y x) h.wgLt (hwM _))
    (fun k e => hm.still (fun c x => x.elim (h.lowM k c) fun y => h.lowK c (hrk k c y)) (fun c x y => x.elim (fun x => e (h.apart.mm _ _ c x y)) fun x => h.apart.nk _ c y (hrk k c x)) h.wgLt (hwM _))
    (.work rfl (by rw [S.own_same]; exact hc))
    (hti.appC ap ⟨Nat.le_add_right _ _, by omega⟩ (okC_ofEvC (by rw [S.own_same]; exact hev))) ap (fun c x => by
      rw [S.own_same] at x
      rcases hm.new c x with x | ⟨_, x⟩
      · exact Nat.lt_of_lt_of_le (h.lowM _ c x) hm.size
      · exact x) (fun x => by
      rw [S.own_same] at x
      rcases hm.new _ x with x | ⟨x, _⟩
      · exact h.chM _ x
      · have := h.chLt; omega)
    (by rw [hd]; exact deaf_idle (fun e he => ⟨(hev e he).2.1, (hev e he).2.2.1⟩) 0) (fun h => absurd h (by decide)) (hm.keep _ h.chLt (h.chM _))
    (let ⟨st, sm, hx, hmo⟩ := h.wg; ⟨st, sm, (hm.keep _ h.wgLt (hwM _)).trans hx, fun bk' hb _ => (mode_same hmo (by rw [hd])).retag (tagOf h hb)⟩)
    (by rw [hd]; exact Nat.le_refl _) (fun c hc => by
      obtain ⟨f1, f2, f3, f4⟩ := h.fz c hc
      refine ⟨fun x => ?_, hm.keep c f3 (f2 _)⟩
      rw [S.own_same] at x
      rcases hm.new c x with x | ⟨x, _⟩
      · exact f2 _ x
      · omega)
    (.left _ _ hlt)
  exact ⟨gs', w', ops, bk', S', D', snt', kr', h1, h2, h3⟩
set_option maxHeartbeats 1600000 in
theorem MI.kid' (O : m.Ok) (h : MI m pt bk j d S D snt kr q ρ gs w t) (hr : pt ≠ .ret) {i : Nat} (hi : i < j) {g : Goroutine} (hg : gs[m.base + i]? = some g) (hrun : g.status = .running) : KidNext m pt bk j d D kr q ρ gs w sl t (m.base + i) := by
  obtain ⟨g', hg', hk⟩ := h.kid i hi
  rw [hg] at hg'
  cases hg'
  obtain ⟨st, sm, hwg, hmode⟩ := h.wg
  have hVj := Vc_le j D
  have hjn := h.jn
  have hnn := O.n
  cases hk with
  | work hd hc =>
    obtain ⟨R0, hR0⟩ : ∃ R0, kr i = R0 := ⟨_, rfl⟩
    rw [hR0] at hc
    cases R0 with
    | node ι f =>
      unfold CW at hc
      obtain ⟨_, hc⟩ := hc
      rcases hc w (.refl _ w) with ⟨x, g', w', es, M', h1, h2, h3, h4⟩ | ⟨h1, x, g2, z, h2, h3⟩ | ⟨h1, h2⟩
      · exact h.kidOwn O hr hi hg h1 hd h2 h3 h4 (by rw [hR0]; exact ⟨x, rfl⟩)
      · exact h.kidSend O hr hi hg h2 hd h1 (ρ' := f x) (by rw [hR0]; exact ⟨x, rfl⟩) h3
      · -- it says that it is done
        obtain ⟨_, hhas, g', hgo, m2, hk⟩ := h2
        have hdk : Deaf t (m.base + i) = 0 := by rw [h.deafK i hi, hd]
        have hno : ∀ op ∈ MemOp.ofEvents (m.base + i) g.frame.fn g.frame.place #[Go.ConcR.mk (.releaseMerge (stA m.Wg))], op.g = m.base + i ∧ op.act.touch? = none ∧ op.act ≠ .mark (.release (stA m.Wg)) ∧ op.act.low w.heap.size := by
          intro op hop
          obtain ⟨e, he, rfl⟩ := Go.Conc.mem_ofEvents hop
          rw [Array.mem_singleton] at he
          subst he
          refine ⟨rfl, rfl, ?_, h.wgLt⟩
          show MemAct.mark _ ≠ MemAct.mark _
          simp
        obtain ⟨gs', ops, bk', S', D', snt', kr', k1, k2, k3⟩ := h.kidStep (sl := sl) O hr hi hg hgo (S' := S) (d' := ⟨6, m2, 0⟩) (ρ' := kr i) rfl rfl rfl rfl (fun _ _ => rfl) (fun _ h => h) (.refl _ w) (fun _ _ => .refl _ w)
          (.tail (by simp) h1 (.k1 hk)) (h.ti.mute (fun op hop => (hno op hop).1) (fun op hop => (hno op hop).2.1) (fun op hop => (hno op hop).2.2.1) (fun op hop => (hno op hop).2.2.2)) h.apart (fun c x => h.lowM _ c x) (h.chM _)
          (by rw [hd]; rfl) (fun _ => ⟨t.size, RelBy.new hdk _ _⟩) rfl ⟨st, sm, hwg, fun bk' hb _ => (hmode.counted hi (by rw [hd]; decide) (.inl rfl) _ _).retag (tagOf h hb)⟩ (by rw [hd]; simp [cnt])
          (fun c hc => ⟨(h.fz c hc).2.1 _, rfl⟩) (by rw [hd]; exact .right _ (.left _ _ (by simp)))
        exact ⟨gs', w, ops, bk', S', D', snt', kr', k1, k2, k3⟩
  | tail h6 hsn hs =>
    generalize hst : (D i).stage = s at hs
    generalize hfu : (D i).fuel = f at hs
    generalize hde : (D i).deaf = dd at hs
    have nodeaf : ∀ {es : Array Event}, (∀ e ∈ es, (MemAct.ofEvent e).touch? = none) → ∀ jx e, es[jx]? = some e → (MemAct.ofEvent e).touch? = none ∨ 0 < deafBehind (D i).deaf (es.extract 0 jx) := fun hh jx e he => .inl (hh e (Array.mem_of_getElem? he))
    -- an idle step
    have idle : ∀ {g' : Goroutine} {f' : Nat}, stepG m.P false g w = .go g' w #[] → WSit m.P m.ty m.Wg (S.C (m.base + i)) 1 NoL NoL 0 1 (m.cval i) s f' dd g' w → f' + 1 = f → KidNext m pt bk j d D kr q ρ gs w sl t (m.base + i) := by
      intro g' f' hgo hs' hf
      refine h.kidBook O hr hi hg hgo h6 hsn (.refl _ w) (by simp) (by simp) (d' := ⟨s, f', dd⟩) hs' (by simp only; omega) hde ⟨st, sm, hwg, fun bk' hb _ => (mode_same hmode hst.symm).retag (tagOf h hb)⟩ (by simp [cnt, hst]) (.inr ⟨hst.symm, by simp only; omega⟩)
    -- a step of the library's
    have book : ∀ {g' : Goroutine} {w' : World} {es : Array Event} {s' f' dd' : Nat} {st' sm' : Int}, stepG m.P false g w = .go g' w' es → Aside m.Wg w w' → WgAt m.ty m.Wg w' st' sm' → (∀ e ∈ es, Bk m.Wg e) →
        (∀ jx e, es[jx]? = some e → (MemAct.ofEvent e).touch? = none ∨ 0 < deafBehind (D i).deaf (es.extract 0 jx)) → WSit m.P m.ty m.Wg (S.C (m.base + i)) 1 NoL NoL 0 1 (m.cval i) s' f' dd' g' w' → deafBehind dd es = dd' → s' < s →
        Go.ConcN.Mode j (upd D i ⟨s', f', dd'⟩) (pt.c bk) st' sm' → cnt ⟨s', f', dd'⟩ ≤ cnt (D i) → KidNext m pt bk j d D kr q ρ gs w sl t (m.base + i) := by
      intro g' w' es s' f' dd' st' sm' hgo hAs hwg' hbk hno hs' hdd hlt hmo hcn
      exact h.kidBook O hr hi hg hgo h6 hsn hAs hbk hno (d' := ⟨s', f', dd'⟩) hs' (by simp only; omega) (by rw [hde]; exact hdd) ⟨st', sm', hwg', fun bk' hb _ => hmo.retag (tagOf h hb)⟩ hcn (.inl (by simp only; omega))
    cases hs with
    | r0 _ => omega
    | k1 hg1 =>
      rcases Goes.cases hg1 with hstop | ⟨m', rfl, hstep⟩
      · obtain ⟨_, g', hgo, m2, hk⟩ := hstop w (RW.refl w)
        exact book hgo (.refl _ w) hwg (by intro e he; simp at he; subst he; exact .inl rfl) (nodeaf (by intro e he; simp at he; subst he; rfl)) (.d1 hk) rfl (by omega) (hmode.counted hi (by omega) (.inr rfl) _ _) (by simp [cnt, hst])
      · obtain ⟨g', w', es, hgo, ⟨rfl, rfl⟩, hg'⟩ := hstep w (RW.refl w)
        exact idle hgo (.k1 hg') rfl
    | d1 hg1 =>
      rcases Goes.cases hg1 with hstop | ⟨m', rfl, hstep⟩
      · obtain ⟨_, hall⟩ := hstop w (RW.refl w)
        have hc1 : cnt (D i) = 1 := by simp [cnt, hst]
        have hV1 : 1 ≤ Vc j D := by have := le_sumTo (f := fun x => cnt (D x)) hi; simp only [Vc]; omega
        have df2 : ∀ jx e, (#[rd (stA m.Wg), wr (stA m.Wg)] : Array Event)[jx]? = some e → (MemAct.ofEvent e).touch? = none ∨ 0 < deafBehind (D i).deaf ((#[rd (stA m.Wg), wr (stA m.Wg)] : Array Event).extract 0 jx) := by
          intro jx e he
          right
          rw [hde]
          match jx, he with
          | 0, _ => simp [deafBehind]
          | 1, _ => simp [deafBehind, rd]
          | jx + 2, he => simp at he
        have opq : ∀ f', OpenSt j D → OpenSt j (upd D i ⟨1, f', 1⟩) := fun f' ho a ha => by
          by_cases e : a = i
          · subst e; rw [upd_same]; simp
          · rw [upd_ne D _ e]; exact ho a ha
        obtain ⟨T, hT⟩ : ∃ T, pt.c bk = T := ⟨_, rfl⟩
        rw [hT] at hmode book
        cases hmode with
        | opn h1 h2 h3 =>
          have hp1 : pend T ≤ 1 := by cases T <;> simp only [pend] <;> (try split) <;> omega
          obtain ⟨v, hv⟩ : ∃ v, Vc j D + pend T = v + 1 := ⟨Vc j D + pend T - 1, by omega⟩
          rw [hv] at hwg
          have hw1 : WgAt m.ty m.Wg w (((v : Nat) + 1) * KK + ((0 : Nat) : Int)) 0 := by simpa using hwg
          obtain ⟨g', hgo, _, hq⟩ := hall v 0 (by omega) (by omega) hw1
          obtain ⟨f', hq⟩ := hq (by omega)
          have hv' : Vc j (upd D i ⟨1, f', 1⟩) + pend T = v := by have := Vc_upd D (⟨1, f', 1⟩ : WD) hi; have : cnt (⟨1, f', 1⟩ : WD) = 0 := rfl; omega
          refine book hgo (aside_setCell w (stA m.Wg) _) (hwg.setSt _) bk_rw df2 (.quit hq) rfl (by omega) ?_ (by rw [hc1]; simp [cnt])
          have e : ((v : Nat) : Int) * KK + ((0 : Nat) : Int) = ((Vc j (upd D i ⟨1, f', 1⟩) + pend T : Nat) : Int) * KK := by rw [hv']; simp
          rw [e]
          exact .opn h1 (opq f' h2) (fun vs ev => by have := h3 vs ev; omega)
        | reg h1 h2 h3 =>
          obtain ⟨v, hv⟩ : ∃ v, Vc j D = v + 1 := ⟨Vc j D - 1, by omega⟩
          rw [hv] at hwg
          have hw1 : WgAt m.ty m.Wg w (((v : Nat) + 1) * KK + ((1 : Nat) : Int)) 0 := by simpa using hwg
          obtain ⟨g', hgo, hl, hq⟩ := hall v 1 (by omega) (by omega) hw1
          by_cases hv0 : v = 0
          · subst hv0
            obtain ⟨m2, hk⟩ := hl ⟨rfl, rfl⟩
            refine book hgo (aside_setCell w (stA m.Wg) _) (hwg.setSt _) bk_rw df2 (.d2 hk) rfl (by omega) ?_ (by rw [hc1]; simp [cnt])
            have hoth : ∀ a, a < j → a ≠ i → (D a).stage = 1 := fun a ha e => by
              have c0 := others_uncounted hi hv hc1 a ha e
              have := h2 a ha
              simp only [cnt] at c0
              split at c0 <;> omega
            have := Go.ConcN.Mode.last (j := j) (D := upd D i ⟨4, m2, 1⟩) (tag := T) i h1 hi (by rw [upd_same]; simp) (fun a ha e => by rw [upd_ne D _ e]; exact hoth a ha e)
            rw [upd_same] at this
            simpa using this
          · obtain ⟨f', hq⟩ := hq (by omega)
            have hv' : Vc j (upd D i ⟨1, f', 1⟩) = v := by have := Vc_upd D (⟨1, f', 1⟩ : WD) hi; have : cnt (⟨1, f', 1⟩ : WD) = 0 := rfl; omega
            refine book hgo (aside_setCell w (stA m.Wg) _) (hwg.setSt _) bk_rw df2 (.quit hq) rfl (by omega) ?_ (by rw [hc1]; simp [cnt])
            have e : ((v : Nat) : Int) * KK + ((1 : Nat) : Int) = ((Vc j (upd D i ⟨1, f', 1⟩) : Nat) : Int) * KK + 1 := by rw [hv']; simp
            rw [e]
            exact .reg h1 (opq f' h2) (by omega)
        | last L _ h2 h3 h4 =>
          by_cases e : i = L
          · subst e; omega
          · have := h4 i hi e; omega
        | sema h2 => have := h2 i hi; omega
        | fin _ h2 => have := h2 i hi; omega
      · obtain ⟨g', w', es, hgo, ⟨rfl, rfl⟩, hg'⟩ := hstep w (RW.refl w)
        exact idle hgo (.d1 hg') rfl
    | d2 hg1 =>
      rcases Goes.cases hg1 with hstop | ⟨m', rfl, hstep⟩
      · obtain ⟨_, hx⟩ := hstop w (RW.refl w)
        obtain ⟨hW3, hoth, rfl, rfl⟩ := hmode.isLast hi (by omega)
        simp only [hst] at hwg
        obtain ⟨g', hgo, m2, hk⟩ := hx (by simpa using hwg)
        refine book hgo (.refl _ w) hwg bk_rd (by rw [hde]; intro jx e he; match jx, he with | 0, _ => exact .inr (by simp [deafBehind]) | jx + 1, he => simp at he) (.d3 hk) rfl (by omega) ?_ (by simp [cnt])
        have := Go.ConcN.Mode.last (j := j) (D := upd D i ⟨3, m2, 1⟩) (tag := pt.c bk) i hW3 hi (by rw [upd_same]; simp) (fun a ha e => by rw [upd_ne D _ e]; exact hoth a ha e)
        rw [upd_same] at this
        simpa using this
      · obtain ⟨g', w', es, hgo, ⟨rfl, rfl⟩, hg'⟩ := hstep w (RW.refl w)
        exact idle hgo (.d2 hg') rfl
    | d3 hg1 =>
      rcases Goes.cases hg1 with hstop | ⟨m', rfl, hstep⟩
      · obtain ⟨_, hx⟩ := hstop w (RW.refl w)
        obtain ⟨hW3, hoth, rfl, rfl⟩ := hmode.isLast hi (by omega)
        simp only [hst] at hwg
        obtain ⟨g', hgo, m2, hk⟩ := hx (by simpa using hwg)
        refine book hgo (aside_setCell w (stA m.Wg) _) (hwg.setSt 0) (by intro e he; simp at he; subst he; exact bk_cell _ _ rfl) (by rw [hde]; intro jx e he; match jx, he with | 0, _ => exact .inr (by simp [deafBehind]) | jx + 1, he => simp at he) (.d4 hk) rfl (by omega) ?_ (by simp [cnt])
        have := Go.ConcN.Mode.last (j := j) (D := upd D i ⟨2, m2, 1⟩) (tag := pt.c bk) i hW3 hi (by rw [upd_same]; simp) (fun a ha e => by rw [upd_ne D _ e]; exact hoth a ha e)
        rw [upd_same] at this
        simpa using this
      · obtain ⟨g', w', es, hgo, ⟨rfl, rfl⟩, hg'⟩ := hstep w (RW.refl w)
        exact idle hgo (.d3 hg') rfl
    | d4 hg1 =>
      rcases Goes.cases hg1 with hstop | ⟨m', rfl, hstep⟩
      · obtain ⟨_, hmw, hx⟩ := hstop w (RW.refl w)
        obtain ⟨hW3, hoth, rfl, rfl⟩ := hmode.isLast hi (by omega)
        simp only [hst] at hwg
        obtain ⟨g', hgo, f', hq⟩ := hx (by simpa using hwg)
        have hrun' : g'.status = .running := by
          cases f' with
          | zero => exact absurd hq.2 (by decide)
          | succ f' => exact hq.elim (fun x => absurd x.2 (by decide)) (fun x => x.1)
        refine h.kidBook O hr hi hg hgo h6 hsn (aside_setCell w (smA m.Wg) _) bk_sem ?_ (d' := ⟨1, f', 1⟩) (.quit hq) (by simp) (by rw [hde]; rfl) ⟨_, _, hwg.setSm 1, fun bk' hb hnb => ?_⟩ (by simp [cnt]) (.inl (by simp only; omega))
        · rw [hde]
          intro jx e he
          match jx, he with
          | 0, he => simp [semEvents] at he; subst he; exact .inl rfl
          | 1, _ => exact .inr (by simp [deafBehind, semEvents])
          | 2, _ => exact .inr (by simp [deafBehind, semEvents])
          | 3, he => simp [semEvents] at he; subst he; exact .inl rfl
          | jx + 4, he => simp [semEvents] at he
        · obtain rfl := hnb hmw hrun'
          have e3 : pt.c false = .w3 := by
            rcases tagOf h hb with e | ⟨_, e⟩
            · rw [← e] at hW3
              cases pt <;> first | rfl | exact hW3.elim
            · exact e
          rw [e3]
          simp only [if_true]
          exact .sema fun a ha => by
            by_cases e : a = i
            · subst e; rw [upd_same]
            · rw [upd_ne D _ e]; exact hoth a ha e
      · obtain ⟨g', w', es, hgo, ⟨rfl, rfl⟩, hg'⟩ := hstep w (RW.refl w)
        exact idle hgo (.d4 hg') rfl
    | quit hq =>
      cases f with
      | zero => rw [hq.1] at hrun; cases hrun
      | succ f' =>
        rcases hq with ⟨hf, _⟩ | ⟨_, g', es, hmute, hstep, hq⟩
        · rw [hf] at hrun; cases hrun
        · have hbk : ∀ e ∈ es, Bk m.Wg e := fun e he => bk_of_mute (hmute e he)
          refine h.kidBook O hr hi hg (hstep w) h6 hsn (.refl _ w) hbk (nodeaf fun e he => touch_mute (hmute e he)) (d' := ⟨1, f', deafBehind dd es⟩) (.quit hq) (by simp) (by rw [hde]) ⟨st, sm, hwg, fun bk' hb _ => (mode_same hmode (by rw [hst])).retag (tagOf h hb)⟩ (by simp [cnt]) (.inr ⟨hst.symm, by simp only; omega⟩)
end
end Go.Proofs.Ythifdfbdekkmgaa

/- A step of the one that starts; a step of one that only leaves. -/
namespace Go.Proofs.Ythifdfbdekkmgaa
open Go.Conc
open Go.ConcN (PermW ShN RelBy RW RW.refl WSit AtR0 WgLive PayAt Has CTag WD Vc cnt OpenSt AllQuit upd upd_same upd_ne sumTo sumTo_upd sumTo_upd_out Vc_upd pend isW3 isOpen isFin others_uncounted le_sumTo Vc_le bk_cell bk_rw bk_rd bk_sem bk_dis bk_en)
open Go.ConcR (KK wgBlock WgAt stA smA rd wr mk Payload Aside2 DC0 Bk g_of_ofEvents again_blocked ofEvent_loc_mark ofEvent_cell ofEvent_mk bk_of_mute deafBehind_cons deafBehind_one)
set_option linter.unusedVariables false
set_option linter.unusedSectionVars false
section
variable {m : Mill} [Payload] {pt : PT} {bk : Bool} {j d : Nat} {S : Sets} {D : Nat → WD} {snt : Nat → Bool} {kr : Nat → Rk} {q : Nat → Nat} {ρ : Rk} {gs : Array Goroutine} {w : World} {t : Trace} {sl : Option (Nat × Nat)}
/-- One that only leaves. -/
theorem MI.leaver (O : m.Ok) (h : MI m pt bk j d S D snt kr q ρ gs w t) (hr : pt ≠ .ret) {i : Nat} (h1 : 1 ≤ i) (hi : i < m.base) {g : Goroutine} (hg : gs[i]? = some g) (hrun : g.status = .running) :
    ∃ gs' ops bk' q', runT m.P (crowd gs w sl) i = (.next (crowd gs' w sl), ops) ∧ MI m pt bk' j d S D snt kr q' ρ gs' w (t ++ ops) ∧ sumTo m.base q' < sumTo m.base q := by
  have hq := h.lv i g h1 hi hg
  obtain ⟨a, ha, hp, hob⟩ := h.par
  cases hqi : q i with
  | zero => rw [hqi] at hq; rw [hq.1] at hrun; cases hrun
  | succ k =>
    rw [hqi] at hq
    rcases hq with ⟨hf, _⟩ | ⟨_, g', es, hm, hstp, hq'⟩
    · rw [hf] at hrun; cases hrun
    obtain ⟨bk', hw, hb, hmw⟩ := bl_woken (m := m) (g := g) (g' := g') (w' := w) (bk := bk) (pt := pt) hp.running hob
    have hne0 : i ≠ 0 := by omega
    have hlt0 : i < gs.size := (Array.getElem?_eq_some_iff.1 hg).1
    have hrunT := runT_crowd_go (P := m.P) (sl := sl) (i := i) hg (by rw [show (i == 0) = false by simp; omega]; exact hstp w)
    have hdo : ∀ k, k ≠ i → Deaf (t ++ MemOp.ofEvents i g.frame.fn g.frame.place es) k = Deaf t k := fun k hk => Deaf_other t (Ne.symm hk) _ g_of_ofEvents
    have hops : ∀ op ∈ MemOp.ofEvents i g.frame.fn g.frame.place es, op.g = i ∧ op.act.touch? = none ∧ op.act ≠ .mark (.release (stA m.Wg)) ∧ op.act.low w.heap.size := by
      intro op hop
      obtain ⟨e, he, rfl⟩ := Go.Conc.mem_ofEvents hop
      refine ⟨rfl, touch_mute (hm e he), fun hx => ?_, low_mute (hm e he) _⟩
      have := hm e he
      have hx2 := Go.ConcR.loc_of_ofEvent hx
      obtain ⟨l, a1, a2⟩ := e
      simp only at hx2
      subst hx2
      simp [Event.mute] at this
    refine ⟨_, _, bk', upd q i k, hrunT, ⟨by simp [h.gsz], ⟨a, ?_, hp, ?_⟩, fun i' hi' => ?_, fun k2 g2 k1 k3 hg2 => ?_, fun k2 hk => ?_, by rw [hdo 0 (Ne.symm hne0)]; exact h.deaf0, fun i' hi' => by rw [hdo _ (by omega)]; exact h.deafK i' hi',
      h.ti.mute (fun op hop => (hops op hop).1) (fun op hop => (hops op hop).2.1) (fun op hop => (hops op hop).2.2.1) (fun op hop => (hops op hop).2.2.2), fun i' hi' hs => ?_, h.apart, h.lowK, h.lowM, h.nob, h.cb, h.chK, h.chM, h.chan, ?_, h.bnd, fun e => absurd e hr, h.jn, h.jp, h.fz, h.env, h.wz⟩, ?_⟩
    · rw [Array.getElem?_setIfInBounds_ne hne0, Array.getElem?_map, ha]
      simp [hw]
    · intro e
      rcases hb with rfl | ⟨_, rfl⟩
      · exact hob e
      · cases e
    · obtain ⟨g2, hg2, hk2⟩ := h.kid i' hi'
      refine ⟨g2, ?_, hk2⟩
      rw [Array.getElem?_setIfInBounds_ne (by omega), Array.getElem?_map, hg2]
      have : woken m.P g g' w g2 = g2 := by
        unfold woken
        split
        · exact again_running _ hk2.status
        · rfl
      simp [this]
    · by_cases e : i = k2
      · subst e
        rw [Array.getElem?_setIfInBounds_self_of_lt (by simpa using hlt0)] at hg2
        cases hg2
        rw [upd_same, Deaf_own]
        exact hq'
      · rw [Array.getElem?_setIfInBounds_ne e, Array.getElem?_map] at hg2
        obtain ⟨y, hy, rfl⟩ := Option.map_eq_some_iff.1 hg2
        have hq2 := h.lv k2 y k1 k3 hy
        rw [woken_quitsD hq2, upd_ne q k (Ne.symm e), hdo k2 (Ne.symm e)]
        exact hq2
    · rw [Array.size_setIfInBounds, Array.size_map] at hk
      rw [hdo k2 (by omega)]
      exact h.above k2 hk
    · obtain ⟨r, hr2⟩ := h.rel i' hi' hs
      exact ⟨r, hr2.appOther g_of_ofEvents (by omega)⟩
    · obtain ⟨st, sm, hx, hmo⟩ := h.wg
      exact ⟨st, sm, hx, hmo.retag (tagOf h hb)⟩
    · have := sumTo_upd q k id hi
      simp only [id] at this
      have e1 : sumTo m.base (fun a => upd q i k a) = sumTo m.base (upd q i k) := rfl
      have e2 : sumTo m.base (fun a => q a) = sumTo m.base q := rfl
      omega
/-- What is asked of whatever own step of the one that starts. -/
theorem MI.parStep (O : m.Ok) (h : MI m pt bk j d S D snt kr q ρ gs w t) {a a' : Goroutine} (ha : gs[0]? = some a) {w' : World} {es : Array Event} {bk' : Bool} (hgo : stepG m.P true a w = .go (bl bk' a') w' es)
    {S' : Sets} {pt' : PT} {d' : Nat} {ρ' : Rk} (hSM : S'.M = S.M) (hSR : S'.R = S.R) (hSC : S'.C = S.C) (stO : ∀ k, Still m (fun c => S.M k c ∨ S.R k c) w w') (hp : PW m ρ' pt' j d' S'.K S'.X a' w') (hob : bk' = true → pt' = .w3 ∧ a'.offers = none)
    (ti : TI m.Wg m.base j m.T0 m.Shun S' w'.heap.size (t ++ MemOp.ofEvents 0 a.frame.fn a.frame.place es)) (ap : S'.Apart m.Wg) (lowK : ∀ c, S'.K c → c < w'.heap.size) (chK : ¬ S'.K m.Ch) (hCh : w'.heap[m.Ch]? = w.heap[m.Ch]?)
    (hwg : ∃ st sm, WgAt m.ty m.Wg w' st sm ∧ Go.ConcN.Mode j D (pt'.c bk') st sm) (bnd : ∀ b, pt' = .wt b → Vc j D ≤ b) (hdf : deafBehind d es = d') (jp : pt' = .pd → j < m.n)
    (acq : pt' = .ret → ∃ p, (t ++ MemOp.ofEvents 0 a.frame.fn a.frame.place es).act? p = some (.mark (.acquire (stA m.Wg))) ∧ (t ++ MemOp.ofEvents 0 a.frame.fn a.frame.place es).g? p = some 0 ∧ (t ++ MemOp.ofEvents 0 a.frame.fn a.frame.place es).heard p ∧ ∀ i, i < j → ∃ r, RelBy (stA m.Wg) (t ++ MemOp.ofEvents 0 a.frame.fn a.frame.place es) (m.base + i) r ∧ r < p)
    (fz : ∀ c, m.Fz c → ¬ S'.X c ∧ w'.heap[c]? = w.heap[c]?) :
    ∃ gs' ops, runT m.P (crowd gs w sl) 0 = (.next (crowd gs' w' sl), ops) ∧ MI m pt' bk' j d' S' D snt kr q ρ' gs' w' (t ++ ops) := by
  have hlt0 : 0 < gs.size := (Array.getElem?_eq_some_iff.1 ha).1
  have hrunT := runT_crowd_go (P := m.P) (sl := sl) (i := 0) ha (show stepG m.P (0 == 0) a w = _ from hgo)
  have hb := O.base
  have hdo : ∀ k, k ≠ 0 → Deaf (t ++ MemOp.ofEvents 0 a.frame.fn a.frame.place es) k = Deaf t k := fun k hk => Deaf_other t (Ne.symm hk) _ g_of_ofEvents
  have hz : w.heap.size ≤ w'.heap.size := (stO 0).size
  refine ⟨_, _, hrunT, ⟨by simp [h.gsz], ⟨a', ?_, hp, hob⟩, fun i' hi' => ?_, fun k2 g2 k1 k3 hg2 => ?_, fun k2 hk => ?_, by rw [Deaf_own, h.deaf0]; exact hdf, fun i' hi' => by rw [hdo _ (by omega)]; exact h.deafK i' hi', ti,
    fun i' hi' hs => let ⟨r, hr⟩ := h.rel i' hi' hs; ⟨r, hr.appOther g_of_ofEvents (by omega)⟩, ap, lowK, fun k c hc => Nat.lt_of_lt_of_le (h.lowM k c (by rw [← hSM]; exact hc)) hz, fun k hk => by rw [hSM, hSR]; exact h.nob k hk, fun i' hi' => by rw [hSM, hSC]; exact h.cb i' hi', chK, fun k => by rw [hSM]; exact h.chM k,
    let ⟨buf, s, hc, hs⟩ := h.chan; ⟨buf, s, hCh.trans hc, hs⟩, hwg, bnd, acq, h.jn, jp, fun c hc => ?_, ?_, Nat.le_trans h.wz hz⟩⟩
  · rw [Array.getElem?_setIfInBounds_self_of_lt (by simpa using hlt0)]
  · obtain ⟨g2, hg2, hk2⟩ := h.kid i' hi'
    refine ⟨g2, ?_, (hk2.rely (stO _) (h.cb i' hi')).sets (by rw [hSR]) (by rw [hSM]) (by rw [hSC])⟩
    rw [Array.getElem?_setIfInBounds_ne (by omega), Array.getElem?_map, hg2]
    have : woken m.P a (bl bk' a') w' g2 = g2 := by
      unfold woken
      split
      · exact again_running _ hk2.status
      · rfl
    simp [this]
  · rw [Array.getElem?_setIfInBounds_ne (by omega), Array.getElem?_map] at hg2
    obtain ⟨y, hy, rfl⟩ := Option.map_eq_some_iff.1 hg2
    have hq2 := h.lv k2 y k1 k3 hy
    rw [woken_quitsD hq2, hdo k2 (by omega)]
    exact hq2
  · rw [Array.size_setIfInBounds, Array.size_map] at hk
    rw [hdo k2 (by have := h.gsz; omega)]
    exact h.above k2 hk
  · obtain ⟨f1, f2, f3, f4⟩ := h.fz c hc
    exact ⟨(fz c hc).1, fun k => by rw [hSM]; exact f2 k, Nat.lt_of_lt_of_le f3 hz, (fz c hc).2.trans f4⟩
  · obtain ⟨e1, e2, e3⟩ := h.env
    have := stO 0
    exact ⟨this.tape.trans e1, this.os.trans e2, this.output.trans e3⟩
theorem okP_ofEvP {B : Nat} {fn : FuncId} {pos : String} {es : Array Event} (h : ∀ e ∈ es, EvP m S.K S.X B e) : ∀ op ∈ MemOp.ofEvents 0 fn pos es, OkP m.Wg S B op := by
  intro op hop
  obtain ⟨e, he, rfl⟩ := Go.Conc.mem_ofEvents hop
  obtain ⟨h1, h2, h3, h4, h5⟩ := h e he
  exact ⟨rfl, h1, fun hr => h4 (Go.ConcR.loc_of_ofEvent hr), h5⟩
theorem okP_ofBk {B : Nat} {fn : FuncId} {pos : String} {es : Array Event} (hw : m.Wg < B) (h : ∀ e ∈ es, Bk m.Wg e) : ∀ op ∈ MemOp.ofEvents 0 fn pos es, OkP m.Wg S B op := by
  intro op hop
  obtain ⟨h1, h2, h3, h4⟩ := okC_ofBk (S := S) hw h op hop
  refine ⟨h1, fun x hx => ?_, h3, h4⟩
  obtain ⟨e, he, rfl⟩ := Go.Conc.mem_ofEvents hop
  rcases h e he with k1 | k1 | ⟨a, wr, rfl, ha⟩
  · have := ofEvent_loc_mark k1
    simp only [this] at hx; cases hx
  · have := ofEvent_loc_mark k1
    simp only [this] at hx; cases hx
  · simp only [ofEvent_cell, MemAct.touch?, Option.some.injEq] at hx
    subst hx
    exact .inl ⟨⟨a, rfl, ha⟩, by simp⟩
/-- At most the group's block turns. -/
theorem MI.parBook (O : m.Ok) (h : MI m pt bk j d S D snt kr q ρ gs w t) {a a' : Goroutine} (ha : gs[0]? = some a) {w' : World} {es : Array Event} {bk' : Bool} (hgo : stepG m.P true a w = .go (bl bk' a') w' es)
    {pt' : PT} {d' : Nat} {ρ' : Rk} (hAs : Aside m.Wg w w') (hbk : ∀ e ∈ es, Bk m.Wg e) (hp : PW m ρ' pt' j d' S.K S.X a' w') (hob : bk' = true → pt' = .w3 ∧ a'.offers = none)
    (hwg : ∃ st sm, WgAt m.ty m.Wg w' st sm ∧ Go.ConcN.Mode j D (pt'.c bk') st sm) (bnd : ∀ b, pt' = .wt b → Vc j D ≤ b) (hdf : deafBehind d es = d') (jp : pt' = .pd → j < m.n) (hr : pt' ≠ .ret) :
    ∃ gs' ops, runT m.P (crowd gs w sl) 0 = (.next (crowd gs' w' sl), ops) ∧ MI m pt' bk' j d' S D snt kr q ρ' gs' w' (t ++ ops) := by
  have hl : WgLive m.ty m.Wg w → WgLive m.ty m.Wg w' := fun _ => let ⟨st, sm, x, _⟩ := hwg; ⟨st, sm, x⟩
  exact h.parStep O ha hgo rfl rfl rfl (fun k => .aside hAs (fun x => x.elim (h.apart.mw k) fun y => h.apart.kw (h.apart.rk k _ y).1) hl) hp hob (by rw [hAs.size]; exact h.ti.app0 h.apart (okP_ofBk h.wgLt hbk)) h.apart
    (fun c hc => by rw [hAs.size]; exact h.lowK c hc) h.chK (hAs.block _ O.cw) hwg bnd hdf jp (fun e => absurd e hr) (fun c hc => ⟨(h.fz c hc).1, hAs.block c fun e => O.fw (e ▸ hc)⟩)
end
end Go.Proofs.Ythifdfbdekkmgaa

/- Whatever step of the one that starts. -/
namespace Go.Proofs.Ythifdfbdekkmgaa
open Go.Conc
open Go.ConcN (PermW ShN RelBy RW RW.refl WSit AtR0 WgLive PayAt Has CTag WD Vc cnt OpenSt AllQuit upd upd_same upd_ne sumTo sumTo_upd sumTo_upd_out Vc_upd pend isW3 isOpen isFin others_uncounted le_sumTo Vc_le bk_cell bk_rw bk_rd bk_sem bk_dis bk_en)
open Go.ConcR (KK wgBlock WgAt stA smA rd wr mk Payload Aside2 DC0 Bk g_of_ofEvents again_blocked ofEvent_loc_mark ofEvent_cell ofEvent_mk bk_of_mute deafBehind_cons deafBehind_one)
set_option linter.unusedVariables false
set_option linter.unusedSectionVars false
section
variable {m : Mill} [Payload] {pt : PT} {bk : Bool} {j d : Nat} {S : Sets} {D : Nat → WD} {snt : Nat → Bool} {kr : Nat → Rk} {q : Nat → Nat} {ρ : Rk} {gs : Array Goroutine} {w : World} {t : Trace} {sl : Option (Nat × Nat)}
def ParNext (m : Mill) [Payload] (j : Nat) (D : Nat → WD) (kr : Nat → Rk) (q : Nat → Nat) (ρ : Rk) (gs : Array Goroutine) (w : World) (sl : Option (Nat × Nat)) (t : Trace) : Prop :=
  ∃ gs' w' ops pt' bk' j' d' S' D' snt' kr' ρ', runT m.P (crowd gs w sl) 0 = (.next (crowd gs' w' sl), ops) ∧ MI m pt' bk' j' d' S' D' snt' kr' q ρ' gs' w' (t ++ ops) ∧ (Rk.Lt ρ' ρ ∨ (ρ' = ρ ∧ j' = j ∧ D' = D ∧ kr' = kr ∧ bk' = true))
/-- One more is started. -/
theorem MI.parSpawn (O : m.Ok) (h : MI m .pd false j 0 S D snt kr q ρ gs w t) {a a' child : Goroutine} (ha : gs[0]? = some a) (hgo : stepG m.P true a w = .spawn a' child w #[]) {C : Nat} (hcb : S.X C) {ρk ρ' : Rk}
    (hc : CW m j C (fun c => S.K c ∧ c ≠ C) ρk false (fun c => c = C) child w) (hp : PW m ρ' .sp (j + 1) 0 (fun c => S.K c ∧ c ≠ C) (fun _ => False) a' w) (hlt : Rk.Lt ρ' ρ) : ParNext m j D kr q ρ gs w sl t := by
  have hb := O.base
  have hgz := h.gsz
  have hlt0 : 0 < gs.size := (Array.getElem?_eq_some_iff.1 ha).1
  have hrunT := runT_crowd_spawn (P := m.P) (sl := sl) (i := 0) ha (show stepG m.P (0 == 0) a w = _ from hgo)
  obtain ⟨x, hx⟩ : ∃ x : MemOp, x = { g := 0, fn := a.frame.fn, pos := a.frame.place, act := .go gs.size } := ⟨_, rfl⟩
  obtain ⟨y, hy⟩ : ∃ y : MemOp, y = { g := gs.size, fn := child.frame.fn, pos := a.frame.place, act := .start } := ⟨_, rfl⟩
  have eops : ((MemOp.ofEvents 0 a.frame.fn a.frame.place #[]).push { g := 0, fn := a.frame.fn, pos := a.frame.place, act := .go gs.size } |>.push { g := gs.size, fn := child.frame.fn, pos := a.frame.place, act := .start }) = #[x, y] := by rw [hx, hy]; simp [MemOp.ofEvents]
  rw [eops] at hrunT
  rw [hgz] at hx hy
  have hm : ∀ op ∈ #[x, y], op = x ∨ op = y := by intro op hop; simpa using hop
  have hst : ∀ op ∈ #[x, y], op.act ≠ .mark .disable ∧ op.act ≠ .mark .enable := by
    intro op hop
    rcases hm op hop with rfl | rfl
    · rw [hx]; exact ⟨by simp, by simp⟩
    · rw [hy]; exact ⟨by simp, by simp⟩
  have hds : ∀ k, Deaf (t ++ #[x, y]) k = Deaf t k := fun k => Go.ConcN.Deaf_still t k _ hst
  have hn := h.nob (m.base + j) (Nat.le_refl _)
  obtain ⟨st, sm, hwg, hmode⟩ := h.wg
  obtain ⟨ho, hst2, hsm, _⟩ := hmode.open_inv trivial
  have eV : Vc (j + 1) (upd D j ⟨7, 0, 0⟩) = Vc j D + 1 := by
    simp only [Vc, sumTo, upd_same]
    rw [sumTo_upd_out D _ cnt (Nat.le_refl _)]; rfl
  have hcK := h.apart.xk _ hcb
  obtain ⟨S', hS'⟩ : ∃ S' : Sets, S' = ⟨fun c => S.K c ∧ c ≠ C, fun _ => False, fun k => if k = m.base + j then fun c => c = C else S.M k, fun k => if k = m.base + j then fun c => S.K c ∧ c ≠ C else S.R k, fun k => if k = m.base + j then C else S.C k⟩ := ⟨_, rfl⟩
  have hSK : S'.K = fun c => S.K c ∧ c ≠ C := by rw [hS']
  have hSX : S'.X = fun _ => False := by rw [hS']
  have hSMs : S'.M (m.base + j) = fun c => c = C := by rw [hS']; simp
  have hSMn : ∀ k, k ≠ m.base + j → S'.M k = S.M k := fun k e => by rw [hS']; simp [e]
  have hSRs : S'.R (m.base + j) = fun c => S.K c ∧ c ≠ C := by rw [hS']; simp
  have hSRn : ∀ k, k ≠ m.base + j → S'.R k = S.R k := fun k e => by rw [hS']; simp [e]
  have hSCs : S'.C (m.base + j) = C := by rw [hS']; simp
  have hSCn : ∀ k, k ≠ m.base + j → S'.C k = S.C k := fun k e => by rw [hS']; simp [e]
  have hX0 : ∀ k, ¬ S.R k (C) := fun k x => (h.apart.rk k _ x).2 hcb
  have ap : S'.Apart m.Wg := by
    refine ⟨fun c hc => (by rw [hSX] at hc; exact hc.elim), fun k c hc => ?_, fun k k' c h1 h2 => ?_, fun k c hc => ⟨?_, by rw [hSX]; exact id⟩, by rw [hSK]; exact fun x => h.apart.kw x.1, fun k => ?_⟩
    · rw [hSK]
      by_cases e : k = m.base + j
      · subst e; rw [hSMs] at hc; exact fun x => x.2 hc
      · rw [hSMn k e] at hc; exact fun x => h.apart.nk k c hc x.1
    · by_cases e : k = m.base + j <;> by_cases e' : k' = m.base + j
      · rw [e, e']
      · subst e
        rw [hSMs] at h1
        rw [hSMn _ e'] at h2
        subst h1
        exact absurd hcK (h.apart.nk _ _ h2)
      · subst e'
        rw [hSMs] at h2
        rw [hSMn _ e] at h1
        subst h2
        exact absurd hcK (h.apart.nk _ _ h1)
      · rw [hSMn _ e] at h1
        rw [hSMn _ e'] at h2
        exact h.apart.mm k k' c h1 h2
    · rw [hSK]
      by_cases e : k = m.base + j
      · subst e; rw [hSRs] at hc; exact hc
      · rw [hSRn k e] at hc
        exact ⟨(h.apart.rk k c hc).1, fun e2 => hX0 k (e2 ▸ hc)⟩
    · by_cases e : k = m.base + j
      · subst e; rw [hSMs]; exact fun x => h.apart.kw (x ▸ hcK)
      · rw [hSMn k e]; exact h.apart.mw k
  refine ⟨_, w, #[x, y], .sp, false, j + 1, 0, S', upd D j ⟨7, 0, 0⟩, fun k => if k = j then false else snt k, updr kr j ρk, ρ', hrunT, ⟨by simp [hgz]; omega, ⟨a', ?_, by rw [hSK, hSX]; exact hp, fun e => by cases e⟩, fun i hi => ?_, fun k g2 k1 k2 hg2 => ?_, fun k hk => ?_, by rw [hds]; exact h.deaf0, fun i hi => ?_,
    h.ti.fork hb h.deaf0 (h.above _ (by omega)) ⟨by rw [hx], by rw [hx]⟩ ⟨by rw [hy], by rw [hy]⟩ (fun c hc => by rw [hSK] at hc; exact hc.1) (fun c hc => by rw [hSX] at hc; exact hc) (fun k c hc => ?_) (fun k c hc => ?_), fun i hi hs => ?_, ap, by rw [hSK]; exact fun c hc => h.lowK c hc.1, fun k c hc => ?_, fun k hk => ?_, fun i hi => ?_, by rw [hSK]; exact fun x => h.chK x.1, fun k => ?_, ?_, ⟨st, sm, hwg, ?_⟩, fun b e => (by cases e), fun e => (by cases e), h.jp rfl, fun e => (by cases e), fun c hc => ?_, h.env, h.wz⟩, .inl hlt⟩
  · rw [Array.getElem?_push_lt (by simpa using hlt0), ← Array.getElem?_eq_getElem]
    rw [Array.getElem?_setIfInBounds_self_of_lt hlt0]
    rfl
  · by_cases e : i = j
    · subst e
      refine ⟨child, by rw [show m.base + i = (gs.setIfInBounds 0 a').size by simp [hgz], Array.getElem?_push_size], .work (by rw [upd_same]) ?_⟩
      rw [if_pos rfl, updr_same, hSMs, hSRs, hSCs]
      exact hc
    · obtain ⟨g2, hg2, hk2⟩ := h.kid i (by omega)
      refine ⟨g2, ?_, ?_⟩
      · rw [Array.getElem?_push_lt (by simp [hgz]; omega), ← Array.getElem?_eq_getElem, Array.getElem?_setIfInBounds_ne (by omega)]
        exact hg2
      · rw [if_neg e, upd_ne D _ e, updr_ne kr _ e]
        exact hk2.sets (hSRn _ (by omega)) (hSMn _ (by omega)) (hSCn _ (by omega))
  · rw [Array.getElem?_push_lt (by simp [hgz]; omega), ← Array.getElem?_eq_getElem, Array.getElem?_setIfInBounds_ne (by omega)] at hg2
    rw [hds]
    exact h.lv k g2 k1 k2 hg2
  · simp only [Array.size_push, Array.size_setIfInBounds] at hk
    rw [hds]
    exact h.above k (by omega)
  · rw [hds]
    by_cases e : i = j
    · subst e; rw [upd_same]; exact h.above _ (by omega)
    · rw [upd_ne D _ e]; exact h.deafK i (by omega)
  · by_cases e : k = m.base + j
    · subst e; rw [hSMs] at hc; subst hc; exact .inr ⟨rfl, hcb⟩
    · rw [hSMn k e] at hc; exact .inl hc
  · by_cases e : k = m.base + j
    · subst e; rw [hSRs] at hc; exact .inr ⟨rfl, hc.1⟩
    · rw [hSRn k e] at hc; exact .inl hc
  · by_cases e : i = j
    · subst e; rw [upd_same] at hs; simp at hs
    · rw [upd_ne D _ e] at hs
      obtain ⟨r, hr⟩ := h.rel i (by omega) hs
      refine ⟨r, hr.appNot fun op hop => ?_⟩
      rcases hm op hop with rfl | rfl
      · rw [hx]; simp only; omega
      · rw [hy]; simp only; omega
  · by_cases e : k = m.base + j
    · subst e; rw [hSMs] at hc; subst hc; exact h.lowK _ hcK
    · rw [hSMn k e] at hc; exact h.lowM k c hc
  · have := h.nob k (by omega)
    rw [hSMn k (by omega), hSRn k (by omega)]
    exact this
  · by_cases e : i = j
    · subst e; rw [hSMs, hSCs]
    · rw [hSMn _ (by omega), hSCn _ (by omega)]; exact h.cb i (by omega)
  · by_cases e : k = m.base + j
    · subst e; rw [hSMs]; exact fun x => h.chK (x ▸ hcK)
    · rw [hSMn k e]; exact h.chM k
  · obtain ⟨buf, s, hc, σ, h1, h2, h3⟩ := h.chan
    refine ⟨buf, s, hc, σ, h1, h2, fun i => ?_⟩
    rw [h3]
    by_cases e : i = j
    · subst e; simp
    · simp only [e, if_false]
      constructor
      · rintro ⟨x, y⟩; exact ⟨by omega, y⟩
      · rintro ⟨x, y⟩; exact ⟨by omega, y⟩
  · rw [hst2, hsm]
    have e : ((Vc j D + pend (PT.pd.c false) : Nat) : Int) * KK = ((Vc (j + 1) (upd D j ⟨7, 0, 0⟩) + pend (PT.sp.c false) : Nat) : Int) * KK := by rw [eV]; simp [PT.c, pend]
    rw [e]
    refine .opn trivial (fun i hi => ?_) (fun vs e => by cases e)
    by_cases e : i = j
    · subst e; rw [upd_same]; simp
    · rw [upd_ne D _ e]; exact ho i (by omega)
  · obtain ⟨f1, f2, f3, f4⟩ := h.fz c hc
    refine ⟨by rw [hSX]; exact id, fun k => ?_, f3, f4⟩
    by_cases e : k = m.base + j
    · subst e; rw [hSMs]; exact fun x => f1 (x ▸ hcb)
    · rw [hSMn k e]; exact f2 k
theorem allQuit_of {D : Nat → WD} (ho : OpenSt j D) (h0 : Vc j D = 0) : AllQuit j D := by
  intro i hi
  have h1 := ho i hi
  have h2 := le_sumTo (f := fun x => cnt (D x)) hi
  have h3 : sumTo j (fun x => cnt (D x)) = 0 := h0
  simp only [cnt] at h2 h3
  split at h2 <;> omega
set_option maxHeartbeats 1600000 in
theorem MI.par' (O : m.Ok) (h : MI m pt false j d S D snt kr q ρ gs w t) : ParNext m j D kr q ρ gs w sl t ∨ (pt = .ret ∧ d = 0 ∧ ∃ a, gs[0]? = some a ∧ m.Stop j S.K a w) := by
  obtain ⟨a, ha, hp, hob⟩ := h.par
  replace ha : gs[0]? = some a := ha
  obtain ⟨st, sm, hwg, hmode⟩ := h.wg
  have hVj := Vc_le j D
  have hjn := h.jn
  have hnn := O.n
  cases ρ with
  | node ι f =>
    unfold PW at hp
    obtain ⟨hrun, hp⟩ := hp
    have lt : ∀ x, Rk.Lt (f x) (.node ι f) := fun x => ⟨x, rfl⟩
    have fin : ∀ {a' : Goroutine} {w' : World} {es : Array Event} {bk' : Bool} {pt' : PT} {d' : Nat} {S' : Sets} {ρ' : Rk}, (∃ gs' ops, runT m.P (crowd gs w sl) 0 = (.next (crowd gs' w' sl), ops) ∧ MI m pt' bk' j d' S' D snt kr q ρ' gs' w' (t ++ ops)) → (Rk.Lt ρ' (.node ι f) ∨ (ρ' = .node ι f ∧ bk' = true)) → ParNext m j D kr q (.node ι f) gs w sl t := by
      rintro a' w' es bk' pt' d' S' ρ' ⟨gs', ops, h1, h2⟩ h3
      exact ⟨gs', w', ops, pt', bk', j, d', S', D, snt, kr, ρ', h1, h2, h3.imp id fun ⟨e, e2⟩ => ⟨e, rfl, rfl, rfl, e2⟩⟩
    have opn : pt = .sp ∨ pt = .pd ∨ (∃ b, pt = .wt b) ∨ (∃ vs, pt = .w2 vs) → isOpen (pt.c false) := by
      rintro (rfl | rfl | ⟨b, rfl⟩ | ⟨vs, rfl⟩) <;> trivial
    rcases hp w (.refl _ w) h.live with ⟨hnr, x, g', w', es, K', X', hgo, hm, hK1, hK2, hXK, hev, hrun', hp'⟩ | ⟨rfl, x, g', pt', hpt, hgo, hp'⟩ | ⟨rfl, hpt, x, g', hgo, hp'⟩ | ⟨rfl, rfl, hjl, hall⟩ | ⟨rfl, rfl, x, g', child, C, hgo, hcb, ⟨ρk, hcw⟩, hp'⟩ |
      ⟨rfl, b, rfl, hall⟩ | ⟨rfl, vs, rfl, hall⟩ | ⟨rfl, rfl, hoff, hblk, htake⟩ | ⟨rfl, rfl, hx⟩ | ⟨rfl, rfl, x, g', hgo, hp'⟩ | ⟨rfl, rfl, hs⟩
    · -- an own step
      left
      have hmz := hm.size
      have hrk : ∀ k c, S.R k c → S.K c := fun k c hc => (h.apart.rk k c hc).1
      have hXw : ¬ S.X m.Wg := fun x => h.apart.kw (h.apart.xk _ x)
      obtain ⟨S', hS'⟩ : ∃ S' : Sets, S' = { S with K := K', X := X' } := ⟨_, rfl⟩
      have hSK : S'.K = K' := by rw [hS']
      have hSX : S'.X = X' := by rw [hS']
      have hSM : S'.M = S.M := by rw [hS']
      have hSR : S'.R = S.R := by rw [hS']
      have hSC : S'.C = S.C := by rw [hS']
      have ap : S'.Apart m.Wg := by
        refine ⟨by rw [hSK, hSX]; exact hXK, fun k c x y => ?_, by rw [hSM]; exact h.apart.mm, fun k c x => ?_, fun x => ?_, by rw [hSM]; exact h.apart.mw⟩
        · rw [hSM] at x
          rw [hSK] at y
          rcases hK2 c y with y | ⟨y, _⟩
          · exact h.apart.nk k c x y
          · have := h.lowM k c x; omega
        · rw [hSR] at x
          obtain ⟨x1, x2⟩ := h.apart.rk k c x
          refine ⟨by rw [hSK]; exact hK1 c x1, fun y => ?_⟩
          rw [hSX] at y
          rcases hm.new c y with y | ⟨y, _⟩
          · exact x2 y
          · have := h.lowK c x1; omega
        · rw [hSK] at x
          rcases hK2 _ x with x | ⟨x, _⟩
          · exact h.apart.kw x
          · have := h.wgLt; omega
      have hti : TI m.Wg m.base j m.T0 m.Shun S' w'.heap.size t := h.ti.grow hmz (fun c x => by rw [hSK] at x; exact (hK2 c x).imp id And.left) (fun c x => by rw [hSX] at x; exact (hm.new c x).imp id And.left) (fun k c x => by rw [hSM] at x; exact .inl x) (fun k c x => by rw [hSR] at x; exact x)
      have hkeep := hm.keep
      refine fin (a' := g') (es := es) (h.parStep (sl := sl) O ha (bk' := false) (a' := g') hgo (S' := S') (pt' := pt) (d' := d) (ρ' := f x) hSM hSR hSC (fun k => hm.still (fun c x => x.elim (h.lowM k c) fun y => h.lowK c (hrk k c y)) (fun c x y => x.elim (fun x => h.apart.nk k c x (h.apart.xk c y)) fun x => (h.apart.rk k c x).2 y) h.wgLt hXw) (by rw [hSK, hSX]; exact hp') (fun e => by cases e)
        (hti.app0 ap (okP_ofEvP (by rw [hSK, hSX]; exact hev))) ap (fun c x => ?_) (fun x => ?_) (hm.keep _ h.chLt fun x => h.chK (h.apart.xk _ x)) ⟨st, sm, (hm.keep _ h.wgLt hXw).trans hwg, hmode⟩ h.bnd (deaf_idle (fun e he => ⟨(hev e he).2.1, (hev e he).2.2.1⟩) d) h.jp (fun e => absurd e hnr) (fun c hc => ?_)) (.inl (lt x))
      · rw [hSK] at x
        rcases hK2 c x with x | ⟨_, x⟩
        · exact Nat.lt_of_lt_of_le (h.lowK c x) hmz
        · exact x
      · rw [hSK] at x
        rcases hK2 _ x with x | ⟨x, _⟩
        · exact h.chK x
        · have := h.chLt; omega
      · obtain ⟨f1, f2, f3, f4⟩ := h.fz c hc
        refine ⟨fun x => ?_, hm.keep c f3 f1⟩
        rw [hSX] at x
        rcases hm.new c x with x | ⟨x, _⟩
        · exact f1 x
        · omega
    · -- 'disable'
      left
      have hpo : isOpen (pt.c false) ∧ isOpen (pt'.c false) ∧ pend (pt'.c false) = pend (pt.c false) ∧ (pt' ≠ .ret) ∧ (pt' = .pd → pt = .pd) ∧ (∀ vs, pt'.c false ≠ .w2 vs) ∧ (∀ b, pt' = .wt b → b = j) := by
        rcases hpt with ⟨rfl, rfl | rfl⟩ | ⟨rfl, rfl⟩ <;> refine ⟨trivial, trivial, rfl, by simp, by simp, by simp [PT.c], by simp⟩
      obtain ⟨o1, o2, o3, o4, o5, o6, o7⟩ := hpo
      exact fin (a' := g') (es := #[Go.ConcR.mk .disable]) (h.parBook (sl := sl) O ha (bk' := false) (a' := g') hgo (pt' := pt') (d' := 1) (ρ' := f x) (.refl _ w) bk_dis hp' (fun e => by cases e) ⟨st, sm, hwg, hmode.reopen o1 o2 o3 (fun vs e => absurd e (o6 vs))⟩ (fun b e => by rw [o7 b e]; exact hVj) rfl (fun e => h.jp (o5 e)) o4) (.inl (lt x))
    · -- 'enable'
      left
      refine fin (a' := g') (es := #[Go.ConcR.mk .enable]) (h.parBook (sl := sl) O ha (bk' := false) (a' := g') hgo (pt' := pt) (d' := 0) (ρ' := f x) (.refl _ w) bk_en hp' (fun e => by cases e) ⟨st, sm, hwg, hmode⟩ h.bnd rfl h.jp ?_) (.inl (lt x))
      rintro rfl
      rcases hpt with e | e | e <;> cases e
    · -- the count rises
      left
      obtain ⟨ho, rfl, rfl, _⟩ := hmode.open_inv trivial
      obtain ⟨x, g', hgo, hp'⟩ := hall (Vc j D) hVj (by simpa [PT.c, pend] using hwg)
      have e : (((Vc j D : Nat) : Int) + 1) * KK = ((Vc j D + pend (PT.pd.c false) : Nat) : Int) * KK := by simp [PT.c, pend]
      refine fin (a' := g') (es := #[rd (stA m.Wg), wr (stA m.Wg)]) (h.parBook (sl := sl) O ha (bk' := false) (a' := g') hgo (pt' := .pd) (d' := 1) (ρ' := f x) (aside_setCell w (stA m.Wg) _) bk_rw hp' (fun e => by cases e) ⟨_, _, hwg.setSt _, ?_⟩ (fun b e => by cases e) rfl (fun _ => hjl) (by simp)) (.inl (lt x))
      rw [e]
      exact .opn trivial ho (fun vs e => by cases e)
    · -- one more is started
      left
      exact h.parSpawn O ha hgo hcb hcw hp' (lt x)
    · -- the load
      left
      obtain ⟨ho, rfl, rfl, _⟩ := hmode.open_inv trivial
      obtain ⟨x, g', hgo, hp'⟩ := hall (Vc j D) (h.bnd b rfl) (by simpa [PT.c, pend] using hwg)
      by_cases e0 : Vc j D = 0
      · rw [if_pos e0] at hp'
        refine fin (a' := g') (es := #[rd (stA m.Wg)]) (h.parBook (sl := sl) O ha (bk' := false) (a' := g') hgo (pt' := .fin) (d' := 1) (ρ' := f x) (.refl _ w) bk_rd hp' (fun e => by cases e) ⟨0, 0, by simpa [PT.c, pend, e0] using hwg, .fin trivial (allQuit_of ho e0)⟩ (fun b e => by cases e) rfl (fun e => by cases e) (by simp)) (.inl (lt x))
      · rw [if_neg e0] at hp'
        refine fin (a' := g') (es := #[rd (stA m.Wg)]) (h.parBook (sl := sl) O ha (bk' := false) (a' := g') hgo (pt' := .w2 (Vc j D)) (d' := 1) (ρ' := f x) (.refl _ w) bk_rd hp' (fun e => by cases e) ⟨_, _, hwg, hmode.reopen trivial trivial rfl (fun vs e => by cases e; exact ⟨Nat.le_refl _, by omega⟩)⟩ (fun b e => by cases e) rfl (fun e => by cases e) (by simp)) (.inl (lt x))
    · -- the swap
      left
      obtain ⟨ho, rfl, rfl, hw2⟩ := hmode.open_inv trivial
      obtain ⟨hle, h1⟩ := hw2 vs rfl
      rcases hall (Vc j D) hle (by simpa [PT.c, pend] using hwg) with ⟨e, x, g', hgo, hp'⟩ | ⟨e, x, g', hgo, hp'⟩
      · refine fin (a' := g') (es := #[rd (stA m.Wg), wr (stA m.Wg)]) (h.parBook (sl := sl) O ha (bk' := false) (a' := g') hgo (pt' := .w3) (d' := 1) (ρ' := f x) (aside_setCell w (stA m.Wg) _) bk_rw hp' (fun e => by cases e) ⟨_, _, hwg.setSt _, .reg trivial ho (by omega)⟩ (fun b e => by cases e) rfl (fun e => by cases e) (by simp)) (.inl (lt x))
      · refine fin (a' := g') (es := #[rd (stA m.Wg)]) (h.parBook (sl := sl) O ha (bk' := false) (a' := g') hgo (pt' := .wt (Vc j D)) (d' := 1) (ρ' := f x) (.refl _ w) bk_rd hp' (fun e => by cases e) ⟨_, _, hwg, hmode.reopen trivial trivial rfl (fun vs e => by cases e)⟩ (fun b e => by cases e; exact Nat.le_refl _) rfl (fun e => by cases e) (by simp)) (.inl (lt x))
    · -- the semaphore
      left
      have again : PW m (.node ι f) .w3 j 1 S.K S.X a w := by unfold PW; exact ⟨hrun, hp⟩
      obtain ⟨T, hT⟩ : ∃ T, PT.w3.c false = T := ⟨_, rfl⟩
      have blocks : Go.ConcN.Mode j D .blk st 0 → sm = 0 → ParNext m j D kr q (.node ι f) gs w sl t := by
        rintro hm rfl
        exact fin (a' := a) (es := #[]) (h.parBook (sl := sl) O ha (bk' := true) (a' := a) (hblk ⟨_, hwg⟩) (pt' := .w3) (d' := 1) (ρ' := .node ι f) (.refl _ w) (by simp) again (fun _ => ⟨rfl, hoff⟩) ⟨st, 0, hwg, hm⟩ (fun b e => by cases e) rfl (fun e => by cases e) (by simp)) (.inr ⟨rfl, rfl⟩)
      rw [hT] at hmode
      cases hmode with
      | opn h1 _ _ => rw [← hT] at h1; exact h1.elim
      | reg h1 h2 h3 => exact blocks (.reg trivial h2 h3) rfl
      | last L h1 h2 h3 h4 => exact blocks (.last L trivial h2 h3 h4) rfl
      | sema h2 =>
        obtain ⟨x, g', hgo, hp'⟩ := htake hwg
        exact fin (a' := g') (es := semEvents (smA m.Wg)) (h.parBook (sl := sl) O ha (bk' := false) (a' := g') hgo (pt' := .w4) (d' := 1) (ρ' := f x) (aside_setCell w (smA m.Wg) _) bk_sem hp' (fun e => by cases e) ⟨_, _, hwg.setSm 0, .fin trivial h2⟩ (fun b e => by cases e) rfl (fun e => by cases e) (by simp)) (.inl (lt x))
      | fin h1 _ => rw [← hT] at h1; exact h1.elim
    · -- the last load
      left
      obtain ⟨hq, rfl, rfl⟩ := hmode.fin_inv trivial
      obtain ⟨x, g', hgo, hp'⟩ := hx hwg
      exact fin (a' := g') (es := #[rd (stA m.Wg)]) (h.parBook (sl := sl) O ha (bk' := false) (a' := g') hgo (pt' := .fin) (d' := 1) (ρ' := f x) (.refl _ w) bk_rd hp' (fun e => by cases e) ⟨0, 0, hwg, .fin trivial hq⟩ (fun b e => by cases e) rfl (fun e => by cases e) (by simp)) (.inl (lt x))
    · -- it hears all
      left
      obtain ⟨hq, rfl, rfl⟩ := hmode.fin_inv trivial
      have e1 : MemOp.ofEvents 0 a.frame.fn a.frame.place #[Go.ConcR.mk (.acquire (stA m.Wg))] = #[{ g := 0, fn := a.frame.fn, pos := a.frame.place, act := .mark (.acquire (stA m.Wg)) }] := by rw [ofEvents_eq]; simp [ofEvent_mk]
      have hy : (t ++ #[({ g := 0, fn := a.frame.fn, pos := a.frame.place, act := .mark (.acquire (stA m.Wg)) } : MemOp)])[t.size]? = some { g := 0, fn := a.frame.fn, pos := a.frame.place, act := .mark (.acquire (stA m.Wg)) } := by simp
      have hno : ∀ op ∈ MemOp.ofEvents 0 a.frame.fn a.frame.place #[Go.ConcR.mk (.acquire (stA m.Wg))], op.g = 0 ∧ op.act.touch? = none ∧ op.act ≠ .mark (.release (stA m.Wg)) ∧ op.act.low w.heap.size := by
        rw [e1]
        intro op hop
        rw [Array.mem_singleton] at hop
        subst hop
        exact ⟨rfl, rfl, by simp, h.wgLt⟩
      refine fin (a' := g') (es := #[Go.ConcR.mk (.acquire (stA m.Wg))]) (h.parStep (sl := sl) O ha (bk' := false) (a' := g') hgo (S' := S) (pt' := .ret) (d' := 0) (ρ' := f x) rfl rfl rfl (fun k => .refl _ w) hp' (fun e => by cases e)
        (h.ti.mute (fun op hop => (hno op hop).1) (fun op hop => (hno op hop).2.1) (fun op hop => (hno op hop).2.2.1) (fun op hop => (hno op hop).2.2.2)) h.apart h.lowK h.chK rfl ⟨0, 0, hwg, .fin trivial hq⟩ (fun b e => by cases e) rfl (fun e => by cases e) (fun _ => ?_) (fun c hc => ⟨(h.fz c hc).1, rfl⟩)) (.inl (lt x))
      refine ⟨t.size, by rw [e1, act?_of hy], by rw [e1]; simp [Trace.g?], by rw [e1]; exact ⟨0, by simp [Trace.g?], by rw [deaf_old (Nat.le_refl _)]; exact h.deaf0⟩, fun i hi => ?_⟩
      obtain ⟨r, hr⟩ := h.rel i hi (by rw [hq i hi]; omega)
      exact ⟨r, hr.appOther g_of_ofEvents (by have := O.base; omega), lt_of_act? hr.act⟩
    · exact .inr ⟨rfl, rfl, a, ha, hs⟩
end
end Go.Proofs.Ythifdfbdekkmgaa

/- All of them, on whatever tape, come to where all that were started only leave. -/
namespace Go.Proofs.Ythifdfbdekkmgaa
open Go.Conc
open Go.ConcN (PermW ShN RelBy RW RW.refl WSit AtR0 WgLive PayAt Has CTag WD Vc cnt OpenSt AllQuit upd upd_same upd_ne sumTo sumTo_upd sumTo_upd_out Vc_upd pend isW3 isOpen isFin others_uncounted le_sumTo Vc_le exists_counted)
open Go.ConcR (KK wgBlock WgAt stA smA rd wr Payload Aside2 DC0 Bk g_of_ofEvents again_blocked)
set_option linter.unusedVariables false
set_option linter.unusedSectionVars false
theorem mlt_acc (x : Meas) : Acc MLt x := by
  obtain ⟨a, b, c⟩ := x
  exact Prod.lexAccessible (Rk.wf.apply a) (fun y => by
    obtain ⟨b, c⟩ := y
    exact Prod.lexAccessible (Nat.lt_wfRel.wf.apply b) (fun c => Nat.lt_wfRel.wf.apply c) c) (b, c)
theorem lower_mono {j : Nat} {κ κ' : Nat → Meas} (h : Acc (Lower j) κ) (e : ∀ i, i < j → κ' i = κ i) : Acc (Lower j) κ' :=
  ⟨_, fun y ⟨i, hi, hl, ho⟩ => h.inv ⟨i, hi, by rw [← e i hi]; exact hl, fun i' hi' hne => (ho i' hi' hne).trans (e i' hi')⟩⟩
theorem lower_succ {j : Nat} : ∀ (x : Meas), Acc MLt x → ∀ κ : Nat → Meas, Acc (Lower j) κ → κ j = x → Acc (Lower (j + 1)) κ := by
  intro x hx
  induction hx with
  | intro x _ ihx =>
    intro κ hκ
    induction hκ with
    | intro κ hκ ihκ =>
      intro e
      refine ⟨_, fun κ' ⟨i, hi, hl, ho⟩ => ?_⟩
      rcases Nat.lt_or_ge i j with hlt | hge
      · exact ihκ κ' ⟨i, hlt, hl, fun i' hi' hne => ho i' (by omega) hne⟩ ((ho j (by omega) (by omega)).trans e)
      · obtain rfl : i = j := by omega
        exact ihx (κ' i) (by rw [← e]; exact hl) κ' (lower_mono ⟨_, hκ⟩ fun i' hi' => ho i' (by omega) (by omega)) rfl
theorem lower_acc : ∀ (j : Nat) (κ : Nat → Meas), Acc (Lower j) κ
  | 0, κ => ⟨_, fun y ⟨i, hi, _⟩ => absurd hi (Nat.not_lt_zero _)⟩
  | j + 1, κ => lower_succ _ (mlt_acc _) κ (lower_acc j κ) rfl
section
variable {m : Mill} [Payload] {pt : PT} {bk : Bool} {j d : Nat} {S : Sets} {D : Nat → WD} {snt : Nat → Bool} {kr : Nat → Rk} {q : Nat → Nat} {ρ : Rk} {gs : Array Goroutine} {w : World} {t : Trace} {sl : Option (Nat × Nat)}
theorem MI.at (h : MI m pt bk j d S D snt kr q ρ gs w t) (dd : Nat) : MI m pt bk j d S D snt kr q ρ gs (w.at dd) t := by
  obtain ⟨a, ha, hp, hob⟩ := h.par
  refine ⟨h.gsz, ⟨a, ha, hp.rely (.at _ w dd), hob⟩, fun i hi => ?_, h.lv, h.above, h.deaf0, h.deafK, h.ti, h.rel, h.apart, h.lowK, h.lowM, h.nob, h.cb, h.chK, h.chM, h.chan, h.wg, h.bnd, h.acq, h.jn, h.jp, h.fz, h.env, h.wz⟩
  obtain ⟨g, hg, hk⟩ := h.kid i hi
  exact ⟨g, hg, hk.rely (.at _ w dd) (h.cb i hi)⟩
theorem KS.runs {i : Nat} {d : WD} {s : Bool} {ρ : Rk} {g : Goroutine} (h : KS m i S d s ρ g w) (hs : d.stage ≠ 1) : g.status = .running := by
  cases h with
  | work _ h => exact h.running
  | tail _ _ h => exact h.running_of hs
theorem MI.awake (h : MI m pt bk j d S D snt kr q ρ gs w t) : ∀ g ∈ gs, awake g := by
  intro g hg
  obtain ⟨i, hi, rfl⟩ := Array.mem_iff_getElem.1 hg
  have hgz := h.gsz
  have e := Array.getElem?_eq_getElem hi
  rcases Nat.eq_zero_or_pos i with rfl | hpos
  · obtain ⟨a, ha, hp, _⟩ := h.par
    rw [ha] at e
    rw [← Option.some.inj e]
    cases bk with
    | false => exact awake_of (.inl hp.running)
    | true => exact awake_of (.inr (.inl rfl))
  · rcases Nat.lt_or_ge i m.base with hlt | hge
    · exact awake_of ((h.lv i _ hpos hlt e).status.elim .inl fun x => .inr (.inr x))
    · obtain ⟨i', rfl⟩ : ∃ i', i = m.base + i' := ⟨i - m.base, by omega⟩
      obtain ⟨y, hy, hk⟩ := h.kid i' (by omega)
      rw [hy] at e
      rw [← Option.some.inj e]
      exact awake_of (hk.status.elim .inl fun x => .inr (.inr x))
theorem MI.someone (h : MI m pt bk j d S D snt kr q ρ gs w t) : ∃ (i : Nat) (g : Goroutine), gs[i]? = some g ∧ g.status = .running := by
  obtain ⟨a, ha, hp, hob⟩ := h.par
  cases bk with
  | false => exact ⟨0, a, ha, hp.running⟩
  | true =>
    obtain ⟨rfl, _⟩ := hob rfl
    obtain ⟨st, sm, _, hm⟩ := h.wg
    have kid : ∀ i, i < j → (D i).stage ≠ 1 → ∃ (i : Nat) (g : Goroutine), gs[i]? = some g ∧ g.status = .running := fun i hi hs => let ⟨g, hg, hk⟩ := h.kid i hi; ⟨_, g, hg, hk.runs hs⟩
    obtain ⟨T, hT⟩ : ∃ T, PT.w3.c true = T := ⟨_, rfl⟩
    rw [hT] at hm
    cases hm with
    | opn h1 _ _ => rw [← hT] at h1; exact h1.elim
    | reg _ h2 h3 =>
      obtain ⟨i, hi, hs⟩ := exists_counted h3
      exact kid i hi (by omega)
    | last L _ h2 h3 h4 => exact kid L h2 (by omega)
    | sema _ => cases hT
    | fin h1 _ => rw [← hT] at h1; exact h1.elim
theorem MI.atRet (h : MI m .ret bk j d S D snt kr q ρ gs w t) : d = 0 ∧ ∃ a, gs[0]? = some a ∧ m.Stop j S.K a w := by
  obtain ⟨a, ha, hp, hob⟩ := h.par
  cases bk with
  | true => exact absurd (hob rfl).1 (by simp)
  | false =>
    cases ρ with
    | node ι f =>
      unfold PW at hp
      rcases hp.2 w (.refl _ w) h.live with ⟨hnr, _⟩ | ⟨_, _, _, _, h1, _⟩ | ⟨_, h1, _⟩ | ⟨h1, _⟩ | ⟨h1, _⟩ | ⟨_, _, h1, _⟩ | ⟨_, _, h1, _⟩ | ⟨_, h1, _⟩ | ⟨_, h1, _⟩ | ⟨_, h1, _⟩ | ⟨h0, _, hs⟩
      · exact absurd rfl hnr
      · rcases h1 with ⟨_, h1 | h1⟩ | ⟨h1, _⟩ <;> cases h1
      · rcases h1 with h1 | h1 | h1 <;> cases h1
      · cases h1
      · cases h1
      · cases h1
      · cases h1
      · cases h1
      · cases h1
      · cases h1
      · exact ⟨h0, a, ha, hs⟩
/-- What they come to. -/
def Ends (m : Mill) [Payload] (gs : Array Goroutine) (w : World) (sl : Option (Nat × Nat)) (t : Trace) : Prop :=
  ∃ N gs' w' sl' t' bk' j' S' D' snt' kr' q' ρ' a, runNT m.P N (crowd gs w sl) t = (.next (crowd gs' w' sl'), t') ∧ MI m .ret bk' j' 0 S' D' snt' kr' q' ρ' gs' w' t' ∧ gs'[0]? = some a ∧ m.Stop j' S'.K a w'
theorem Ends.step {gs gs' : Array Goroutine} {w w' : World} {sl sl' : Option (Nat × Nat)} {t : Trace} {ops : Array MemOp} (hst : stepT m.P (crowd gs w sl) = (.next (crowd gs' w' sl'), ops)) (h : Ends m gs' w' sl' (t ++ ops)) : Ends m gs w sl t := by
  obtain ⟨N, r⟩ := h
  obtain ⟨gs2, w2, sl2, t2, bk2, j2, S2, D2, snt2, kr2, q2, ρ2, a, h1, h2⟩ := r
  exact ⟨N + 1, gs2, w2, sl2, t2, bk2, j2, S2, D2, snt2, kr2, q2, ρ2, a, by simp only [runNT, hst]; exact h1, h2⟩
theorem mill_run (O : m.Ok) : ∀ (ρ : Rk) (pt : PT) (bk : Bool) (j d : Nat) (S : Sets) (D : Nat → WD) (snt : Nat → Bool) (kr : Nat → Rk) (q : Nat → Nat) (gs : Array Goroutine) (w : World) (sl : Option (Nat × Nat)) (t : Trace), MI m pt bk j d S D snt kr q ρ gs w t → Ends m gs w sl t := by
  intro ρ
  induction ρ using Rk.wf.induction with
  | _ ρ ihρ =>
    have inner : ∀ (j : Nat) (κ : Nat → Meas), Acc (Lower j) κ → ∀ (ν : Nat) (pt : PT) (bk : Bool) (d : Nat) (S : Sets) (D : Nat → WD) (snt : Nat → Bool) (kr : Nat → Rk) (q : Nat → Nat) (gs : Array Goroutine) (w : World) (sl : Option (Nat × Nat)) (t : Trace),
        MI m pt bk j d S D snt kr q ρ gs w t → meas D kr = κ → 2 * sumTo m.base q + (if bk then 0 else 1) < ν → Ends m gs w sl t := by
      intro j κ hκ
      induction hκ with
      | intro κ hκ ihκ =>
        intro ν
        induction ν with
        | zero => intro pt bk d S D snt kr q gs w sl t _ _ hν; omega
        | succ ν ihν =>
          intro pt bk d S D snt kr q gs w sl t h hm hν
          by_cases hr : pt = .ret
          · subst hr
            obtain ⟨rfl, a, ha, hs⟩ := h.atRet
            exact ⟨0, gs, w, sl, t, bk, j, S, D, snt, kr, q, ρ, a, rfl, h, ha, hs⟩
          obtain ⟨i, g, dd, sl', hi, hx, hst⟩ := crowd_pick (P := m.P) (w := w) (sl := sl) h.awake h.someone
          replace h := h.at dd
          have hgz := h.gsz
          have hlt : i < gs.size := (Array.getElem?_eq_some_iff.1 hi).1
          rcases Nat.eq_zero_or_pos i with rfl | hpos
          · obtain ⟨a, ha, hp, hob⟩ := h.par
            have hbf : bk = false := by
              cases bk with
              | false => rfl
              | true =>
                rw [ha] at hi
                cases hi
                simp [bl] at hx
            subst hbf
            rcases h.par' (sl := sl') O with ⟨gs', w', ops, pt', bk', j', d', S', D', snt', kr', ρ', h1, h2, h3 | ⟨rfl, rfl, rfl, rfl, rfl⟩⟩ | ⟨h1, _⟩
            · exact .step (hst.trans h1) (ihρ ρ' h3 _ _ _ _ _ _ _ _ _ _ _ _ _ h2)
            · exact .step (hst.trans h1) (ihν _ _ _ _ _ _ _ _ _ _ _ _ h2 hm (by simp at hν ⊢; omega))
            · exact absurd h1 hr
          · rcases Nat.lt_or_ge i m.base with hlt2 | hge
            · obtain ⟨gs', ops, bk', q', h1, h2, h3⟩ := h.leaver (sl := sl') O hr hpos hlt2 hi hx
              exact .step (hst.trans h1) (ihν _ _ _ _ _ _ _ _ _ _ _ _ h2 hm (by cases bk <;> cases bk' <;> simp at hν ⊢ <;> omega))
            · obtain ⟨i', rfl⟩ : ∃ i', i = m.base + i' := ⟨i - m.base, by omega⟩
              obtain ⟨gs', w', ops, bk', S', D', snt', kr', h1, h2, h3⟩ := h.kid' (sl := sl') O hr (show i' < j by omega) hi hx
              exact .step (hst.trans h1) (ihκ (meas D' kr') (by rw [← hm]; exact h3) _ _ _ _ _ _ _ _ _ _ _ _ _ h2 rfl (Nat.lt_succ_self _))
    intro pt bk j d S D snt kr q gs w sl t h
    exact inner j _ (lower_acc j _) _ _ _ _ _ _ _ _ _ _ _ _ _ h rfl (Nat.lt_succ_self _)
/-- All that were started only leave; all is known. -/
theorem MI.after (O : m.Ok) (h : MI m .ret bk j 0 S D snt kr q ρ gs w t) {a : Goroutine} (ha : gs[0]? = some a) :
    Fr m.P (fun l => m.Shun l ∨ ShN m.Wg l) w.heap.size gs a t ∧ ∃ buf s, w.heap[m.Ch]? = some (.chan m.n buf false s 0 m.tm) ∧ ∃ σ : List Nat, buf.toList = σ.map m.val ∧ σ.Nodup ∧ ∀ i, i ∈ σ ↔ i < j := by
  obtain ⟨st, sm, hwg, hmode⟩ := h.wg
  obtain ⟨hq, _, _⟩ := hmode.fin_inv (by cases bk <;> trivial)
  obtain ⟨p, h1, h2, h3, h4⟩ := h.acq rfl
  have hgz := h.gsz
  have hsn : ∀ i, i < j → snt i = true ∧ ∃ g, gs[m.base + i]? = some g ∧ QuitsD m.P (D i).fuel (D i).deaf g := by
    intro i hi
    obtain ⟨g, hg, hk⟩ := h.kid i hi
    have hs := hq i hi
    cases hk with
    | work hd _ => rw [hd] at hs; cases hs
    | tail _ hsn hw => exact ⟨hsn, g, hg, hw.quits hs⟩
  refine ⟨⟨ha, ⟨fun k => if k < m.base then q k else (D (k - m.base)).fuel, ⟨fun k g hk hg => ?_, fun k hk => h.above k hk⟩⟩, h.ti.past O.base h.deaf0 h1 h2 h3 fun k hk1 hk2 => ?_⟩, ?_⟩
  · by_cases hlt : k < m.base
    · simp only [hlt, if_true]
      exact h.lv k g (by omega) hlt hg
    · simp only [hlt, if_false]
      have hkz := (Array.getElem?_eq_some_iff.1 hg).1
      obtain ⟨i, rfl⟩ : ∃ i, k = m.base + i := ⟨k - m.base, by omega⟩
      obtain ⟨_, g2, hg2, hqq⟩ := hsn i (by omega)
      rw [hg] at hg2
      cases hg2
      rw [Nat.add_sub_cancel_left, h.deafK i (by omega)]
      exact hqq
  · obtain ⟨i, rfl⟩ : ∃ i, k = m.base + i := ⟨k - m.base, by omega⟩
    exact h4 i (by omega)
  · obtain ⟨buf, s, hc, σ, k1, k2, k3⟩ := h.chan
    refine ⟨buf, s, hc, σ, k1, k2, fun i => (k3 i).trans ⟨And.left, fun hi => ⟨hi, (hsn i hi).1⟩⟩⟩
end
end Go.Proofs.Ythifdfbdekkmgaa

