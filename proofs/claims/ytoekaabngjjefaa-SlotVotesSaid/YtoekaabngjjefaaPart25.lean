/- RtArg, Ints, SlotTurnsM. -/
import Derived.Test.YtoekaabngjjefaaPart22
import Derived.Lib.SmallJoins
import Derived.OpenShut
import Derived.ShutString
import Derived.Test.YtoekaabngjjefaaShapes
import Derived.Test.YtoekaabngjjefaaPart24
/- A root, a geo that came in by value, opened. -/
namespace Go.Proofs.Ytoekaabngjjefaa
open Go.ChangeShapes Go.WideShapes Go.ChangeAt Go.RowKit Go.Joins Go.Deep Sm Wr _root_.Go.Proofs.Ytoekaabngjjefaa.Nm
set_option linter.unusedVariables false
theorem trodA3 {P : Program} {H : Type} {enc : TypeId × Value → H} {w : World} {base : Nat} {spare : Nat → Bool} {held : Bool} {t : TypeId} {f0 f1 f2 : Field} {fuel : Nat} {cs : List Value} {x : DataW H × List MemPlace} (ht : P.underlying t = some (.struct #[f0, f1, f2])) (h : DataW.trod enc P w base spare held fuel t cs = some x) :
    ∃ y0 y1 y2 n, cs.length = P.cellsOf t ∧ DataW.trod enc P w base spare held n f0.type ((cs.drop f0.offset).take (P.cellsOf f0.type)) = some y0 ∧ DataW.trod enc P w base spare held n f1.type ((cs.drop f1.offset).take (P.cellsOf f1.type)) = some y1 ∧
      DataW.trod enc P w base spare held n f2.type ((cs.drop f2.offset).take (P.cellsOf f2.type)) = some y2 := by
  obtain ⟨xs, n, _, rfl, hl, hlen, hf⟩ := DataW.trod_struct ht h
  match xs, hlen with
  | [y0, y1, y2], _ => exact ⟨y0, y1, y2, n, hl, by simpa using hf 0 f0 rfl, by simpa using hf 1 f1 rfl, by simpa using hf 2 f2 rfl⟩
theorem arr5 {cs : Array Value} (h : cs.size = 5) : ∃ a b c d e, cs = #[a, b, c, d, e] := by
  obtain ⟨l⟩ := cs
  match l, h with
  | [a, b, c, d, e], _ => exact ⟨a, b, c, d, e, rfl⟩
theorem okI {a b : Int} (h : (Lit.int .i64 b).wf = true) : -9223372036854775808 ≤ b ∧ b ≤ 9223372036854775807 := bounds_i64 h
set_option maxRecDepth 100000 in
theorem open_root {H : Type} {enc : TypeId × Value → H} {w : World} {base : Nat} {spare : Nat → Bool} {held : Bool} {r : Reach} {b0 : Nat} {v : Value} {d : DataW H} {p : List MemPlace}
    (hv : Value.okWide Try.prog w r b0 26 v) (h : DataW.Trod enc Try.prog w base spare held 26 v d p) : ∃ x : Rt, v = x.val ∧ x.Wf := by
  have c5 : Try.prog.cellsOf 26 = 5 := by kernel_rfl
  have c3 : Try.prog.cellsOf 24 = 3 := by kernel_rfl
  have cu : Try.prog.cellsOf 22 = 1 := by kernel_rfl
  have ci : Try.prog.cellsOf 3 = 1 := by kernel_rfl
  obtain ⟨cs, rfl, hsz⟩ := okWide_struct Try.underlying26 hv
  obtain ⟨q0, q1, q2, q3, q4, rfl⟩ := arr5 (hsz.trans c5)
  obtain ⟨fuel, hf⟩ := h
  obtain ⟨a0, a1, a2, n, _, k0, k1, k2⟩ := trodA3 Try.underlying26 hf
  have k0 : DataW.trod enc Try.prog w base spare held n 22 [q0] = some a0 := by rw [cu] at k0; exact k0
  have k1 : DataW.trod enc Try.prog w base spare held n 22 [q1] = some a1 := by rw [cu] at k1; exact k1
  have k2 : DataW.trod enc Try.prog w base spare held n 24 [q2, q3, q4] = some a2 := by rw [c3] at k2; exact k2
  obtain ⟨m0, m1, m2, n3, _, l0, l1, l2⟩ := trodA3 Try.underlying24 k2
  have l0 : DataW.trod enc Try.prog w base spare held n3 3 [q2] = some m0 := by rw [ci] at l0; exact l0
  have l1 : DataW.trod enc Try.prog w base spare held n3 22 [q3] = some m1 := by rw [cu] at l1; exact l1
  have l2 : DataW.trod enc Try.prog w base spare held n3 3 [q4] = some m2 := by rw [ci] at l2; exact l2
  obtain ⟨z0, e0, _, w0⟩ := DataW.trod_int Try.underlying22 k0
  obtain ⟨z1, e1, _, w1⟩ := DataW.trod_int Try.underlying22 k1
  obtain ⟨z2, e2, _, w2⟩ := DataW.trod_int Try.underlying3 l0
  obtain ⟨z3, e3, _, w3⟩ := DataW.trod_int Try.underlying22 l1
  obtain ⟨z4, e4, _, w4⟩ := DataW.trod_int Try.underlying3 l2
  simp only [List.cons.injEq, and_true] at e0 e1 e2 e3 e4
  subst e0 e1 e2 e3 e4
  have b0 := bounds_u64 w0
  have b1 := bounds_u64 w1
  have b2 := bounds_i64 w2
  have b3 := bounds_u64 w3
  have b4 := bounds_i64 w4
  obtain ⟨y0, rfl⟩ : ∃ s : Nat, z0 = s := ⟨z0.toNat, by omega⟩
  obtain ⟨y1, rfl⟩ : ∃ s : Nat, z1 = s := ⟨z1.toNat, by omega⟩
  obtain ⟨y3, rfl⟩ : ∃ s : Nat, z3 = s := ⟨z3.toNat, by omega⟩
  exact ⟨⟨y0, y1, z2, y3, z4⟩, rfl, ⟨by show y0 < _; omega, by show y1 < _; omega, b2.1, b2.2, by show y3 < _; omega, b4.1, b4.2⟩⟩
set_option maxRecDepth 100000 in
theorem open_geo {H : Type} {enc : TypeId × Value → H} {w : World} {base : Nat} {spare : Nat → Bool} {held : Bool} {r : Reach} {b0 : Nat} {v : Value} {d : DataW H} {p : List MemPlace}
    (hv : Value.okWide Try.prog w r b0 41 v) (h : DataW.Trod enc Try.prog w base spare held 41 v d p) : ∃ g : Geo, v = g.val ∧ g.Wf := by
  obtain ⟨v0, v1, v2, v3, y0, y1, y2, y3, n, rfl, rfl, rfl, h0, h1, h2, h3⟩ := open_agg4 Try.underlying41 (by kernel_rfl) (by kernel_rfl) hv h
  obtain ⟨z0, e0, _, w0⟩ := DataW.trod_int Try.underlying3 h0
  obtain ⟨z1, e1, _, w1⟩ := DataW.trod_int Try.underlying3 h1
  obtain ⟨z2, e2, _, w2⟩ := DataW.trod_int Try.underlying3 h2
  obtain ⟨z3, e3, _, w3⟩ := DataW.trod_int Try.underlying3 h3
  simp only [List.cons.injEq, and_true] at e0 e1 e2 e3
  subst e0 e1 e2 e3
  have b0 := bounds_i64 w0
  have b1 := bounds_i64 w1
  have b2 := bounds_i64 w2
  have b3 := bounds_i64 w3
  exact ⟨⟨z0, z1, z2, z3⟩, rfl, ⟨b0.1, b0.2, b1.1, b1.2, b2.1, b2.2, b3.1, b3.2⟩⟩
end Go.Proofs.Ytoekaabngjjefaa

/- What a walk is told of a slice of numbers of some kind. -/
namespace Go.Proofs.Ytoekaabngjjefaa
open Go.RowKit
set_option linter.unusedVariables false
def nthI (rs : List Int) (i : Nat) : Int := rs.getD i 0
/-- The numbers of a slice lie there. -/
def Ints (k : IntKind) (w : World) (a : Option Addr) (rs : List Int) : Prop :=
  rs = [] ∨ ∃ b o, a = some ⟨b, o, none⟩ ∧ ∀ i, i < rs.length → w.cell? ⟨b, o + i, none⟩ = some (.int k (nthI rs i))
theorem Ints.kept {k : IntKind} {w w' : World} {a : Option Addr} {rs : List Int} (h : Ints k w a rs) (kp : Kept w w') : Ints k w' a rs := by
  rcases h with h | ⟨b, o, ha, h⟩
  · exact .inl h
  · refine .inr ⟨b, o, ha, fun i hi => ?_⟩
    have hc := h i hi
    rw [← hc]
    exact Below.cell kp (block_lt_of_cell hc)
theorem ints_at {k : IntKind} {w : World} {a : Option Addr} {rs : List Int} (hS : Ints k w a rs) : ∃ b o, 0 < rs.length → a = some ⟨b, o, none⟩ ∧ ∀ i, i < rs.length → w.cell? ⟨b, o + i, none⟩ = some (.int k (nthI rs i)) := by
  rcases hS with rfl | ⟨b, o, h1, h2⟩
  · exact ⟨0, 0, fun h => absurd h (by simp)⟩
  · exact ⟨b, o, fun _ => ⟨h1, h2⟩⟩
theorem nthI_get (rs : List Int) (i : Nat) (h : i < rs.length) : rs[i] = nthI rs i := by unfold nthI; rw [List.getD_eq_getElem?_getD, List.getElem?_eq_getElem h]; rfl
theorem IsRow.ints {k : IntKind} {w : World} {a : Option Addr} {len cap : Nat} {zs : List Int} (h : IsRow k w a len cap zs) : Ints k w a (zs.take len) ∧ (zs.take len).length = len ∧ len ≤ maxLen ∧ ∀ n ∈ zs.take len, (Lit.int k n).wf = true := by
  rcases h with ⟨rfl, rfl, rfl, rfl⟩ | ⟨x, rfl, hl, hm, hz, hc, hs⟩
  · exact ⟨.inl rfl, rfl, Nat.zero_le _, fun s hs => by simp at hs⟩
  · refine ⟨?_, by rw [List.length_take]; omega, by omega, fun s h => hs s (List.mem_of_mem_take h)⟩
    rcases Nat.eq_zero_or_pos len with h0 | h0
    · left; rw [h0]; simp
    · right
      obtain ⟨b, off, spot⟩ := x
      have hspot : spot = none := by simpa [Addr.add] using World.cell?_spot (hc 0 (by omega))
      subst hspot
      refine ⟨b, off, rfl, fun i hi => ?_⟩
      rw [List.length_take] at hi
      have h1 := hc i (by omega)
      rw [Go.WideShapes.add_plain] at h1
      rw [h1]
      unfold nthI
      congr 2
      simp [List.getD, List.getElem?_take_of_lt (show i < len by omega)]
end Go.Proofs.Ytoekaabngjjefaa

/- One root behind the other, on all drives. -/
namespace Go.Proofs.Ytoekaabngjjefaa
open Go.RowKit Sm Wr _root_.Go.Proofs.Ytoekaabngjjefaa.Nm
set_option linter.unusedVariables false
structure Turned (s : RSt) (n gen : Nat) (xs : List Rt) : Prop where
  hn : s.n = n
  hm : s.m = 24
  cut : s.cut = false
  cnt : ∀ d, d < n → s.cnt d = xs.length
  may : ∀ (j : Nat) (h : j < xs.length), xs[j].may = true
  gens : ∀ (j : Nat) (h : j < xs.length), xs[j].gen = gen + j
  none : xs.length = 0 → ∀ d, d < n → ∀ k, s.T d k = zero64 ∧ s.bad d k = false
  last : ∀ (j : Nat) (h : j < xs.length), j + 1 = xs.length → ∀ d, d < n → Holds s xs[j] d
  prev : ∀ (j : Nat) (h : j < xs.length), j + 2 = xs.length → ∀ d, d < n → s.T d xs[j].me = xs[j].raw
theorem Turned.start (n gen : Nat) : Turned (rack0 n 24) n gen [] :=
  ⟨rfl, rfl, rfl, fun _ _ => rfl, fun j h => absurd h (Nat.not_lt_zero _), fun j h => absurd h (Nat.not_lt_zero _), fun _ _ _ _ => ⟨rfl, rfl⟩, fun j h => absurd h (Nat.not_lt_zero _), fun j h => absurd h (Nat.not_lt_zero _)⟩
theorem me_of {x y : Rt} (h : x.gen + 1 = y.gen) : y.oth = x.me ∧ x.me ≠ y.me := by unfold Rt.oth Rt.me; omega
/-- What the next Write meets on each drive. -/
theorem Turned.meets {s : RSt} {n gen : Nat} {xs : List Rt} (h : Turned s n gen xs) (x : Rt) (hg : x.gen = gen + xs.length) (hgen : 1 ≤ gen) :
    ∀ d, d < n → newer s x d = false ∧ (s.bad d 0 = false ∧ s.bad d 1 = false) ∧ (rtAt (s.T d x.oth) x.oth).gen < x.gen := by
  intro d hd
  rcases Nat.eq_zero_or_pos xs.length with h0 | h0
  · have hz := h.none h0 d hd
    refine ⟨newer_zero _ _ _ (fun _ => (hz _).1), ⟨(hz 0).2, (hz 1).2⟩, ?_⟩
    rw [(hz x.oth).1, rtAt_zero]
    show 0 < x.gen
    omega
  · have hl := h.last (xs.length - 1) (by omega) (by omega) d hd
    have hm := h.may (xs.length - 1) (by omega)
    have hgl := h.gens (xs.length - 1) (by omega)
    obtain ⟨e1, _⟩ := me_of (x := xs[xs.length - 1]) (y := x) (by omega)
    refine ⟨hl.next hm (by omega) e1 (by rw [h.hn]; exact hd) (by rw [h.hm]; decide) (by unfold RSt.down; rw [h.cut]; rfl), ⟨hl.b0, hl.b1⟩, ?_⟩
    rw [e1, hl.me, rtAt_raw hm]
    omega
theorem Turned.next {s : RSt} {n gen : Nat} {xs : List Rt} (h : Turned s n gen xs) (x : Rt) (hx : x.may = true) (hg : x.gen = gen + xs.length) (hgen : 1 ≤ gen) (hl : xs.length ≤ 1000) :
    wrTo s x s.n = (0, wrK s x n) ∧ Turned (wrK s x n) n gen (xs ++ [x]) := by
  have hmt := h.meets x hg hgen
  have hlen : (xs ++ [x]).length = xs.length + 1 := by simp
  refine ⟨?_, ?_⟩
  · have := wrTo_run s x hx (by rw [h.hm]; decide) (fun d hd => (hmt d (by rw [← h.hn]; exact hd)).1) s.n (Nat.le_refl _) (fun hc => by rw [h.cut] at hc; cases hc)
    rw [this, h.hn]
  · have hh := run_holds s x (fun d hd => (hmt d (by rw [← h.hn]; exact hd)).2.1) (fun d hd => (hmt d (by rw [← h.hn]; exact hd)).2.2) n (by rw [h.hn]; exact Nat.le_refl _)
    have hat : ∀ (j : Nat) (hj : j < xs.length), (xs ++ [x])[j]'(by omega) = xs[j] := fun j hj => List.getElem_append_left hj
    have hlast : (xs ++ [x])[xs.length]'(by omega) = x := by simp
    refine ⟨h.hn, h.hm, h.cut, fun d hd => ?_, fun j hj => ?_, fun j hj => ?_, fun h0 => by omega, fun j hj e d hd => ?_, fun j hj e d hd => ?_⟩
    · show (if d < n then (s.cnt d + 1) % 18446744073709551616 else s.cnt d) = _
      rw [if_pos hd, h.cnt d hd, hlen]
      omega
    · by_cases e : j < xs.length
      · rw [hat j e]; exact h.may j e
      · obtain rfl : j = xs.length := by omega
        rw [hlast]; exact hx
    · by_cases e : j < xs.length
      · rw [hat j e]; exact h.gens j e
      · obtain rfl : j = xs.length := by omega
        rw [hlast]; exact hg
    · obtain rfl : j = xs.length := by omega
      rw [hlast]
      exact hh d hd
    · have ej : j + 1 = xs.length := by omega
      have hjl : j < xs.length := by omega
      rw [hat j hjl]
      have hgj := h.gens j hjl
      have hme := (me_of (x := xs[j]) (y := x) (by omega)).2
      show (if d < n ∧ xs[j].me = x.me then x.raw else s.T d xs[j].me) = _
      rw [if_neg (fun c => hme c.2)]
      exact (h.last j hjl ej d hd).me
/-- What is read where one of the last two stands. -/
theorem Turned.read {s : RSt} {n gen : Nat} {xs : List Rt} (h : Turned s n gen xs) (d : Nat) (hd : d < n) (j : Nat) (hj : j < xs.length) (h2 : xs.length ≤ j + 2) :
    s.readE d (xs[j].me : Nat) = 0 ∧ s.readT d (xs[j].me : Nat) = xs[j].txt := by
  have hl := h.last (xs.length - 1) (by omega) (by omega) d hd
  have hb : s.bad d xs[j].me = false := by
    have := xs[j].me_lt
    rcases (show xs[j].me = 0 ∨ xs[j].me = 1 by omega) with e | e
    · rw [e]; exact hl.b0
    · rw [e]; exact hl.b1
  have ht : s.T d xs[j].me = xs[j].raw := by
    rcases (show j + 1 = xs.length ∨ j + 2 = xs.length by omega) with e | e
    · exact (h.last j hj e d hd).me
    · exact h.prev j hj e d hd
  have he : s.readE d (xs[j].me : Nat) = 0 := by
    unfold RSt.readE
    rw [show s.down = false from by unfold RSt.down; rw [h.cut]; rfl, if_neg (by decide), there_lt s (by rw [h.hn]; exact hd) (by rw [h.hm]; have := xs[j].me_lt; omega), if_neg (by decide), Int.toNat_natCast, Int.toNat_natCast, hb, if_neg (by decide)]
  refine ⟨he, ?_⟩
  unfold RSt.readT
  rw [if_pos he, Int.toNat_natCast, Int.toNat_natCast, ht]
  rfl
theorem Turned.top {s : RSt} {n gen : Nat} {xs : List Rt} {x : Rt} (h : Turned s n gen (xs ++ [x])) : ∀ d, d < s.n → Holds s x d := by
  intro d hd
  have hl := h.last xs.length (by simp) (by simp) d (by rw [← h.hn]; exact hd)
  simpa using hl
theorem Turned.writes {s : RSt} {n gen : Nat} {xs : List Rt} (h : Turned s n gen xs) (d : Nat) (hd : d < n) : s.writes d = xs.length := by
  unfold RSt.writes
  have : s.drive d = true := by unfold RSt.drive; exact decide_eq_true ⟨by omega, by rw [h.hn]; omega⟩
  rw [this, if_pos rfl, Int.toNat_natCast]
  exact h.cnt d hd
theorem geo_fits (n p : Nat) (s : RSt) (h1 : 1 ≤ n) (h2 : n ≤ 12) (hp : p < n) (hn : s.n = n) (hm : s.m = 24) : Geo.fits ⟨n, p, 24, 2⟩ s = true := by
  unfold Geo.fits
  simp only [Bool.and_eq_true, decide_eq_true_eq]
  refine ⟨⟨(Geo.may_iff _).2 ?_, by rw [hn]⟩, by rw [hm]; rfl⟩
  dsimp only
  omega
theorem all_true (s : RSt) (x : Rt) (h : ∀ d, d < s.n → hasR x (slotsR s d) = true) : (List.range s.n).map (fun d => hasR x (slotsR s d)) = List.replicate s.n true := by
  apply List.ext_getElem
  · simp
  · intro i h1 h2
    simp only [List.getElem_map, List.getElem_range, List.getElem_replicate]
    exact h i (by simpa using h1)
/-- Where all drives have it, it is told. -/
theorem voteR_all (s : RSt) (g : Geo) (x : Rt) (hf : g.fits s = true) (hp : 0 ≤ g.p) (hx : x.may = true) (hn : 1 ≤ s.n) (hm : 2 ≤ s.m) (hdn : s.down = false) (h : ∀ d, d < s.n → Holds s x d) :
    voteR s g = (x, List.replicate s.n true, 0) := by
  obtain ⟨h1, h2⟩ := vote_all s x hx hn hm hdn h
  rw [voteR_is hf hdn h1 (by omega), all_true s x h2]
end Go.Proofs.Ytoekaabngjjefaa

