/- TailSit, TailAliveM, MkZ, TailAlive, TailTexts, TailTurnsM. -/
import Derived.Test.YtmgkkoajjdgmbaaGreatDoorPart40
import Derived.Test.YtmgkkoajjdgmbaaGreatDoorPart19
import Derived.Test.YtmgkkoajjdgmbaaGreatDoorPart20
import Derived.Deep.QuietTactic
import Derived.BigQuiet
import Derived.Deep.AppendLies
set_option linter.unusedVariables false
set_option linter.unusedSimpArgs false
set_option linter.unusedSectionVars false
set_option linter.unnecessarySimpa false
set_option linter.deprecated false
/- A tail that stands, with its rack; the calls on it. -/
namespace Go.Proofs.YtmgkkoajjdgmbaaGreatDoor
open Go.RowKit Sm Wr _root_.Go.Proofs.YtmgkkoajjdgmbaaGreatDoor.Nm
set_option linter.unusedVariables false
/-- A tail of the records L lies in block tb; the drives have S, or R. -/
structure Sit (tb B G : Nat) (g : Geo) (gen : Nat) (S R L : List ByteArray) (hit : Nat → Bool) (s : RSt) (v : Value) (br : Bool) (W : World) : Prop where
  rk : RackAt G s W
  ti : TInv g gen S R hit s
  tl : TlAt B tb G g gen v L br W
  hB : G + 2 + s.n ≤ B
  hBw : B ≤ W.heap.size
  htb : G + 2 + s.n ≤ tb
section
variable {tb B G : Nat} {g : Geo} {gen : Nat} {S R L : List ByteArray} {hit : Nat → Bool} {s : RSt} {v : Value} {br : Bool} {W : World}
theorem Sit.kept (h : Sit tb B G g gen S R L hit s v br W) {W' : World} (k : Kept W W') : Sit tb B G g gen S R L hit s v br W' :=
  ⟨h.rk.kept k, h.ti, h.tl.kept k, h.hB, Nat.le_trans h.hBw k.size, h.htb⟩
theorem Sit.own (h : Sit tb B G g gen S R L hit s v br W) : ∀ q, v.ownBlock = some q → B ≤ q ∧ q < W.heap.size := h.tl.gt.lt
theorem Sit.rack (h : Sit tb B G g gen S R L hit s v br W) {s' : RSt} {hit' : Nat → Bool} {W' : World} (h1 : RackAt G s' W') (h2 : Only G (G + 2 + s.n) W W') (h3 : TInv g gen S R hit' s') (hn : s'.n = s.n) : Sit tb B G g gen S R L hit' s' v br W' :=
  ⟨h1, h3, h.tl.only h2 (.inr h.htb) h.hB, by rw [hn]; exact h.hB, Nat.le_trans h.hBw h2.size, by rw [hn]; exact h.htb⟩
theorem Sit.low (h : Sit tb B G g gen S R L hit s v br W) {wb W' : World} (hb : wb.heap.size ≤ G) (k : Kept wb W) (f : TO G (G + 2 + s.n) tb v W W') : Kept wb W' :=
  TO.kept k f hb (by have := h.htb; omega) (fun q hq => by have := (h.own q hq).1; have := h.hB; omega)
theorem only_low {wb W W' : World} {s : RSt} (hb : wb.heap.size ≤ G) (k : Kept wb W) (f : Only G (G + 2 + s.n) W W') : Kept wb W' := Only.kept k hb f
/-- What Append leaves. -/
structure AppS (tb B G : Nat) (g : Geo) (gen : Nat) (S : List ByteArray) (t : ByteArray) (hit : Nat → Bool) (s s' : RSt) (v v' : Value) (e : Nat) (w w' : World) : Prop where
  st : e = 0 ∧ Sit tb B G g gen (S ++ [t]) (S ++ [t]) (S ++ [t]) hit s' v' false w' ∨ e = 71 ∧ s.cut = true ∧ Sit tb B G g gen S (S ++ [t]) S hit s' v' true w'
  cut : s'.cut = s.cut
  n : s'.n = s.n
  out : OutR g gen s s'
  fr : TO G (G + 2 + s.n) tb v w w'
  own : ∀ k, v'.ownBlock = some k → v.ownBlock = some k ∨ w.heap.size ≤ k
theorem Sit.app (h : Sit tb B G g gen S S S hit s v false W) (t : ByteArray) (hfit : lenT S + partsN t.size ≤ g.t.toNat) :
    Calls Tryz.prog 14 #[.pointer (some ⟨tb, 0, none⟩), .string t] W fun r w' => ∃ (e : Nat) (s' : RSt) (v' : Value), r = .returned (.int .i64 (e : Nat)) ∧ AppS tb B G g gen S t hit s s' v v' e W w' := by
  refine (app_law tb B G s g gen S hit v t W h.tl h.rk h.ti h.hB h.hBw h.htb hfit).mono ?_
  rintro r w' ⟨e, s', rfl, hA⟩
  obtain ⟨v', h1, h2⟩ := hA.tl
  refine ⟨e, s', v', rfl, ?_, hA.cut, hA.n, hA.out, hA.fr, h2⟩
  have hB' : G + 2 + s'.n ≤ B := by rw [hA.n]; exact h.hB
  have hb' : G + 2 + s'.n ≤ tb := by rw [hA.n]; exact h.htb
  have hw' := Nat.le_trans h.hBw hA.fr.size
  rcases hA.ok with ⟨rfl, q⟩ | ⟨rfl, q⟩
  · exact .inl ⟨rfl, hA.rk, q, h1, hB', hw', hb'⟩
  · exact .inr ⟨rfl, q, hA.rk, hA.ti, h1, hB', hw', hb'⟩
theorem Sit.full (h : Sit tb B G g gen S R L hit s v false W) (hL : L = S ∨ L = R) (t : ByteArray) (ht : t.size ≤ 1000000) (hfit : g.t.toNat < lenT L + partsN t.size) :
    Calls Tryz.prog 14 #[.pointer (some ⟨tb, 0, none⟩), .string t] W fun r w' => r = .returned (.int .i64 6) ∧ Kept W w' :=
  app_full tb B G g gen L v t W h.tl h.ti.gk (by rcases hL with rfl | rfl; exact h.ti.lenS; exact h.ti.len) ht hfit
theorem Sit.room (h : Sit tb B G g gen S R L hit s v br W) (hL : L = S ∨ L = R) :
    Calls Tryz.prog 22 #[.pointer (some ⟨tb, 0, none⟩)] W fun r w' => r = .returned (.int .i64 (((g.t.toNat - lenT L) * 34 : Nat) : Int)) ∧ Kept W w' :=
  room_law tb B G g gen L v br W h.tl h.ti.gk (by rcases hL with rfl | rfl; exact h.ti.lenS; exact h.ti.len)
/-- What Mend leaves. -/
structure MendS (tb B G : Nat) (g : Geo) (gen : Nat) (S R L : List ByteArray) (hit : Nat → Bool) (s s' : RSt) (v : Value) (e : Nat) (w w' : World) : Prop where
  st : e = 0 ∧ Sit tb B G g gen L L L (fun _ => false) s' v false w' ∨ e = 71 ∧ s.cut = true ∧ Sit tb B G g gen S R L hit s' v true w'
  cut : s'.cut = s.cut
  n : s'.n = s.n
  out : OutR g gen s s'
  fr : TO G (G + 2 + s.n) tb v w w'
theorem Sit.mend (h : Sit tb B G g gen S R L hit s v false W) (hL : L = S ∨ L = R) :
    Calls Tryz.prog 19 #[.pointer (some ⟨tb, 0, none⟩)] W fun r w' => ∃ (e : Nat) (s' : RSt), r = .returned (.int .i64 (e : Nat)) ∧ MendS tb B G g gen S R L hit s s' v e W w' := by
  refine (mend_law tb B G s g gen S R L hit v W h.tl h.rk h.ti hL h.hB h.htb).mono ?_
  rintro r w' ⟨e, s', rfl, hA⟩
  refine ⟨e, s', rfl, ?_, hA.cut, hA.n, hA.out, hA.fr⟩
  have hB' : G + 2 + s'.n ≤ B := by rw [hA.n]; exact h.hB
  have hb' : G + 2 + s'.n ≤ tb := by rw [hA.n]; exact h.htb
  have hw' := Nat.le_trans h.hBw hA.fr.size
  have h1 := hA.tl
  rcases hA.ok with ⟨rfl, q⟩ | ⟨rfl, q⟩
  · exact .inl ⟨rfl, hA.rk, q, h1, hB', hw', hb'⟩
  · exact .inr ⟨rfl, q, hA.rk, hA.ti, h1, hB', hw', hb'⟩
/-- What Begin leaves. -/
structure BegS (G : Nat) (g : Geo) (gen : Nat) (s s' : RSt) (tb : Nat) (v : Value) (w w' : World) : Prop where
  st : Sit tb w.heap.size G g gen [] [] [] (fun _ => false) s' v false w'
  cut : s'.cut = false
  n : s'.n = s.n
  out : OutR g gen s s'
  lo : w.heap.size ≤ tb
  on : Only G (G + 2 + s.n) w w'
theorem begin_sit (G : Nat) (s : RSt) (g : Geo) (gen : Nat) (w : World) (hR : RackAt G s w) (hi : TInv g gen [] [] (fun _ => true) s) (hc : s.cut = false) :
    Calls Tryz.prog 12 #[.pointer (some ⟨G + 1, 0, none⟩), .agg #[.int .i64 g.n, .int .i64 g.p, .int .i64 g.m, .int .i64 g.t], .int .u64 (gen : Nat)] w fun r w' =>
      ∃ (tb : Nat) (v : Value) (s' : RSt), r = .returned (.tuple #[.pointer (some ⟨tb, 0, none⟩), .int .i64 0]) ∧ BegS G g gen s s' tb v w w' := by
  refine (begin_law G s g gen w hR hi hc).mono ?_
  rintro r w' ⟨tb, v, s', rfl, h⟩
  have hl := hR.lt
  exact ⟨tb, v, s', rfl, ⟨h.rk, h.ti, h.tl, by rw [h.n]; exact hl, h.on.size, by rw [h.n]; exact Nat.le_trans hl h.lo⟩, h.cut, h.n, h.out, h.lo, h.on⟩
/-- What Load leaves: nothing, or a tail of these records. -/
inductive LoadS (G : Nat) (g : Geo) (gen : Nat) (S R : List ByteArray) (hit : Nat → Bool) (s : RSt) (w w' : World) : Value → Value → Nat → Prop
  | lost : LoadS G g gen S R hit s w w' (.pointer none) (.slice none 0 0) 90
  | got (L : List ByteArray) (tb B c : Nat) (v : Value) (a : Option Addr) (hL : L = S ∨ L = R) (h1 : w.heap.size ≤ B) (h2 : B ≤ tb) (st : Sit tb B G g gen S R L hit s v false w') (hS : Strs w' a L) (ha : ∀ q o, a = some ⟨q, o, none⟩ → w.heap.size ≤ q ∧ q < B) :
      LoadS G g gen S R hit s w w' (.pointer (some ⟨tb, 0, none⟩)) (.slice a L.length c) 0
theorem load_sit (G : Nat) (s : RSt) (g : Geo) (gen : Nat) (S R : List ByteArray) (hit : Nat → Bool) (w : World) (hR : RackAt G s w) (hi : TInv g gen S R hit s) (hdn : s.down = false) :
    Calls Tryz.prog 17 #[.pointer (some ⟨G + 1, 0, none⟩), .agg #[.int .i64 g.n, .int .i64 g.p, .int .i64 g.m, .int .i64 g.t], .int .u64 (gen : Nat)] w fun r w' =>
      ∃ (p sl : Value) (er : Nat), r = .returned (.tuple #[p, sl, .int .i64 (er : Nat)]) ∧ Hid (LoadS G g gen S R hit s w w' p sl er ∧ Kept w w' ∧ ((∃ d ∈ drvL g gen, hit d.toNat = false) → er = 0) ∧ ((∀ d ∈ drvL g gen, ¬ Rgt gen R (fN g gen) s d.toNat 0) → er = 90)) := by
  refine (load_law G s g gen S R hit w hR hi hdn).mono ?_
  rintro r w' ⟨p, sl, er, rfl, hl, hk, k1, k2⟩
  refine ⟨p, sl, er, rfl, ?_, hk, k1, k2⟩
  cases hl with
  | lost => exact .lost
  | got L tb B c v a hL h1 h2 hT hS ha =>
    have hl := hR.lt
    have h3 : B ≤ w'.heap.size := by have := hT.ty.lt; omega
    have h4 : G + 2 + s.n ≤ B := Nat.le_trans hl h1
    exact .got L tb B c v a hL h1 h2 ⟨hR.kept hk, hi, hT, h4, h3, Nat.le_trans h4 h2⟩ hS ha
theorem Sit.miss (h : Sit tb B G g gen S S S (fun _ => false) s v br W) :
    Calls Tryz.prog 20 #[.pointer (some ⟨tb, 0, none⟩)] W fun r w' => ∃ (a : Option Addr) (c e : Nat), r = .returned (.tuple #[.slice a 0 c, .int .i64 (e : Nat)]) ∧ Hid (Kept W w' ∧ (e = 0 ∨ e = 71 ∧ s.down = true)) :=
  miss_law tb B G s g gen S v br W h.tl h.rk h.ti
end
theorem new_zero {g : Geo} {gen : Nat} (hg : gOk g gen) (n m : Nat) (hn : (n : Int) = g.n) (hm : (m : Int) = g.m) : TInv g gen [] [] (fun _ => true) (rack0 n m) :=
  TInv.fresh hg ⟨hn, hm⟩ (fun d hd i hi => .inr rfl)
theorem not_down {s : RSt} (h : s.cut = false) : s.down = false := by unfold RSt.down; rw [h]; rfl
end Go.Proofs.YtmgkkoajjdgmbaaGreatDoor

/- What the answers of alive rest on. -/
namespace Go.Proofs.YtmgkkoajjdgmbaaGreatDoor
open Go.RowKit Sm Wr _root_.Go.Proofs.YtmgkkoajjdgmbaaGreatDoor.Nm
set_option linter.unusedVariables false
section
variable {g : Geo} {gen : Nat} {S R : List ByteArray} {hit : Nat → Bool} {s : RSt}
theorem missD_no (h : TInv g gen S S hit s) (hdn : s.down = false) {d : Int} (hd : d ∈ drvL g gen) (hz : ¬ Rgt gen S (fN g gen) s d.toNat 0) (rs : List Int) : missD s g gen (tailTo gen S S.length) d rs = (0, rs ++ [d]) := by
  obtain ⟨g1, g2, g3, g4, g5, g6, g7, g8⟩ := geo_n h.gk
  obtain ⟨d1, d2, d3, d4, d5⟩ := h.dn hd
  have e : rdB s d (fstS g.t gen) = rdB s ((d.toNat : Nat) : Int) ((fN g gen : Nat) : Int) := by rw [(fN_is h.gk).1, ← d5]
  have hfst : ∀ i, i < g.t.toNat → (rdB s ((d.toNat : Nat) : Int) ((fN g gen : Nat) : Int) i).1 = (if s.bad d.toNat (fN g gen + i) then 72 else 0) := fun i hi => rdB_fst s d.toNat (fN g gen) i d3 (by omega) hdn
  obtain ⟨has, beh, hw, hb, hh, hpw⟩ := wL_is (tailTo gen S S.length) gen (rdB s ((d.toNat : Nat) : Int) ((fN g gen : Nat) : Int)) g.t.toNat (fun i hi => by rw [hfst i hi]; split <;> decide)
  rw [lenT_is] at hh
  have hp := lenT_pos S
  have h0 : (0 : Int) ∈ has := by
    refine (hh 0).2 ⟨by omega, by show 0 < g.t.toNat; omega, hp, fun hc => hz ?_⟩
    have hc : (rdB s ((d.toNat : Nat) : Int) ((fN g gen : Nat) : Int) 0).2 = secT gen S 0 := hc
    have hsz := secT_size h.rk hp
    have h00 : (rdB s ((d.toNat : Nat) : Int) ((fN g gen : Nat) : Int) 0).1 = 0 := by
      refine Decidable.byContradiction fun hne => ?_
      rw [← hc, rdB_bad _ _ _ _ hne] at hsz
      exact absurd hsz (by decide)
    have hb0 : s.bad d.toNat (fN g gen + 0) = false := by
      rw [hfst 0 (by omega)] at h00
      cases hbb : s.bad d.toNat (fN g gen + 0) with
      | false => rfl
      | true => rw [hbb] at h00; cases h00
    refine ⟨hb0, ?_⟩
    rw [rdB_snd _ _ _ _ h00] at hc
    have hp2 := congrArg padL hc
    have hlen : (s.T d.toNat (fN g gen + 0)).length = 64 := by
      rw [← hc] at hsz
      simpa [ByteArray.size] using hsz
    show _ = padL (secT gen S 0)
    rw [← hp2]
    unfold padL
    have h64 : (⟨(s.T d.toNat (fN g gen + 0)).toArray⟩ : ByteArray).size = 64 := by simpa [ByteArray.size] using hlen
    rw [h64]
    simp
  unfold missD wAll
  rw [e, hw]
  show (0, if (beh ++ has.reverse).length = 0 then rs else rs ++ [d]) = _
  rw [if_neg]
  rw [List.length_append, List.length_reverse]
  have := List.length_pos_of_mem h0
  omega
theorem missD_yes (h : TInv g gen S S hit s) (hdn : s.down = false) {d : Int} (hd : d ∈ drvL g gen) (hh : hit d.toNat = false) (rs : List Int) : missD s g gen (tailTo gen S S.length) d rs = (0, rs) := by
  obtain ⟨d1, d2, d3, d4, d5⟩ := h.dn hd
  have e : rdB s d (fstS g.t gen) = rdB s ((d.toNat : Nat) : Int) ((fN g gen : Nat) : Int) := by rw [(fN_is h.gk).1, ← d5]
  unfold missD
  rw [e, wAll_none h.rk h.len d3 d4 (h.ok d hd) (h.al d hd hh) hdn]
  rfl
end
theorem load_lost (G : Nat) (s : RSt) (g : Geo) (gen : Nat) (S R : List ByteArray) (hit : Nat → Bool) (w : World) (hR : RackAt G s w) (hi : TInv g gen S R hit s) (hdn : s.down = false) (hz : ∀ d ∈ drvL g gen, ¬ Rgt gen R (fN g gen) s d.toNat 0) :
    Calls Tryz.prog 17 #[.pointer (some ⟨G + 1, 0, none⟩), .agg #[.int .i64 g.n, .int .i64 g.p, .int .i64 g.m, .int .i64 g.t], .int .u64 (gen : Nat)] w fun r w' => r = .returned (.tuple #[.pointer none, .slice none 0 0, .int .i64 90]) ∧ Kept w w' := by
  refine (load_sit G s g gen S R hit w hR hi hdn).mono ?_
  rintro r w' ⟨p, sl, er, rfl, hl, hk, h1, h2⟩
  have e := h2 hz
  cases hl with
  | lost => exact ⟨rfl, hk⟩
  | got L tb B c v a hL h1 h2 st hS ha => cases e
/-- What Load leaves where the records are sure. -/
structure GotS (G : Nat) (g : Geo) (gen : Nat) (L : List ByteArray) (hit : Nat → Bool) (s : RSt) (tb B : Nat) (v : Value) (a : Option Addr) (w w' : World) : Prop where
  h1 : w.heap.size ≤ B
  h2 : B ≤ tb
  st : Sit tb B G g gen L L L hit s v false w'
  hS : Strs w' a L
  ha : ∀ q o, a = some ⟨q, o, none⟩ → w.heap.size ≤ q ∧ q < B
  kp : Kept w w'
theorem load_got (G : Nat) (s : RSt) (g : Geo) (gen : Nat) (L : List ByteArray) (hit : Nat → Bool) (w : World) (hR : RackAt G s w) (hi : TInv g gen L L hit s) (hdn : s.down = false) (hu : ∃ d ∈ drvL g gen, hit d.toNat = false) :
    Calls Tryz.prog 17 #[.pointer (some ⟨G + 1, 0, none⟩), .agg #[.int .i64 g.n, .int .i64 g.p, .int .i64 g.m, .int .i64 g.t], .int .u64 (gen : Nat)] w fun r w' =>
      ∃ (tb B c : Nat) (v : Value) (a : Option Addr), r = .returned (.tuple #[.pointer (some ⟨tb, 0, none⟩), .slice a L.length c, .int .i64 0]) ∧ GotS G g gen L hit s tb B v a w w' := by
  refine (load_sit G s g gen L L hit w hR hi hdn).mono ?_
  rintro r w' ⟨p, sl, er, rfl, hl, hk, k1, k2⟩
  have e := k1 hu
  cases hl with
  | lost => cases e
  | got L2 tb B c v a hL h1 h2 st hS ha =>
    have hL2 : L2 = L := by rcases hL with h | h <;> exact h
    rw [hL2] at st hS ⊢
    exact ⟨tb, B, c, v, a, rfl, h1, h2, st, hS, ha, hk⟩
/-- What Append leaves where no cut is. -/
structure AppN (tb B G : Nat) (g : Geo) (gen : Nat) (S : List ByteArray) (t : ByteArray) (hit : Nat → Bool) (s s' : RSt) (v v' : Value) (w w' : World) : Prop where
  st : Sit tb B G g gen (S ++ [t]) (S ++ [t]) (S ++ [t]) hit s' v' false w'
  cut : s'.cut = false
  n : s'.n = s.n
  out : OutR g gen s s'
  fr : TO G (G + 2 + s.n) tb v w w'
  own : ∀ k, v'.ownBlock = some k → v.ownBlock = some k ∨ w.heap.size ≤ k
section
variable {tb B G : Nat} {g : Geo} {gen : Nat} {S R L : List ByteArray} {hit : Nat → Bool} {s : RSt} {v : Value} {br : Bool} {W : World}
theorem Sit.appn (h : Sit tb B G g gen S S S hit s v false W) (hc : s.cut = false) (t : ByteArray) (hfit : lenT S + partsN t.size ≤ g.t.toNat) :
    Calls Tryz.prog 14 #[.pointer (some ⟨tb, 0, none⟩), .string t] W fun r w' => r = .returned (.int .i64 0) ∧ ∃ (s' : RSt) (v' : Value), AppN tb B G g gen S t hit s s' v v' W w' := by
  refine (h.app t hfit).mono ?_
  rintro r w' ⟨e, s', v', rfl, hA⟩
  rcases hA.st with ⟨rfl, q⟩ | ⟨_, q, _⟩
  · exact ⟨rfl, s', v', q, hA.cut.trans hc, hA.n, hA.out, hA.fr, hA.own⟩
  · rw [hc] at q; cases q
/-- What Mend leaves where no cut is. -/
structure MendN (tb B G : Nat) (g : Geo) (gen : Nat) (L : List ByteArray) (s s' : RSt) (v : Value) (w w' : World) : Prop where
  st : Sit tb B G g gen L L L (fun _ => false) s' v false w'
  cut : s'.cut = false
  n : s'.n = s.n
  out : OutR g gen s s'
  fr : TO G (G + 2 + s.n) tb v w w'
theorem Sit.mendn (h : Sit tb B G g gen S R L hit s v false W) (hL : L = S ∨ L = R) (hc : s.cut = false) :
    Calls Tryz.prog 19 #[.pointer (some ⟨tb, 0, none⟩)] W fun r w' => r = .returned (.int .i64 0) ∧ ∃ s' : RSt, MendN tb B G g gen L s s' v W w' := by
  refine (h.mend hL).mono ?_
  rintro r w' ⟨e, s', rfl, hA⟩
  rcases hA.st with ⟨rfl, q⟩ | ⟨_, q, _⟩
  · exact ⟨rfl, s', q, hA.cut.trans hc, hA.n, hA.out, hA.fr⟩
  · rw [hc] at q; cases q
/-- What Wipe leaves. -/
structure WipeN (tb B G : Nat) (g : Geo) (gen : Nat) (S R L : List ByteArray) (hit' : Nat → Bool) (s : RSt) (d : Int) (v : Value) (br : Bool) (w w' : World) : Prop where
  st : Sit tb B G g gen S R L hit' (s.wipeS d) v br w'
  fr : Only G (G + 2 + s.n) w w'
theorem wipe_cut (s : RSt) (d : Int) : (s.wipeS d).cut = s.cut ∧ (s.wipeS d).n = s.n := by unfold RSt.wipeS; split <;> exact ⟨rfl, rfl⟩
theorem Sit.wipe (h : Sit tb B G g gen S R L hit s v br W) (d : Int) (h0 : 0 ≤ d) (h1 : d ≤ 100000) {hit' : Nat → Bool} (k : ∀ x, hit' x = false → hit x = false ∧ x ≠ d.toNat) :
    Calls Tryz.prog 26 #[.pointer (some ⟨G + 1, 0, none⟩), .int .i64 d] W fun r w' => r = .returned (.int .i64 (s.wipeE d : Nat)) ∧ WipeN tb B G g gen S R L hit' s d v br W w' := by
  refine (wipe_any G s d (by omega) (by omega) W h.rk).mono ?_
  rintro r w' ⟨rfl, h1, h2⟩
  exact ⟨rfl, h.rack h1 h2 (h.ti.wipe d k) (wipe_cut s d).2, h2⟩
end
/-- The geo of alive. -/
def g3 : Geo := ⟨3, 1, 24, 4⟩
def tA : ByteArray := ⟨#[97]⟩
theorem g3_ok : gOk g3 5 := ⟨by decide, by decide, by decide⟩
theorem drv3 : drvL g3 5 = [2, 0] := by decide
theorem lenA : lenT [tA] = 2 := by decide
theorem len0 : lenT [] = 1 := by decide
theorem miss3 {s : RSt} {hit : Nat → Bool} {S : List ByteArray} (h : TInv g3 5 S S hit s) (hdn : s.down = false) (hz : ¬ Rgt 5 S (fN g3 5) s 2 0) (h0 : hit 0 = false) : missAll s g3 5 (tailTo 5 S S.length) = (0, [2]) := by
  unfold missAll
  rw [drv3]
  have e1 : missD s g3 5 (tailTo 5 S S.length) 2 [] = (0, [2]) := missD_no (d := 2) h hdn (by rw [drv3]; simp) hz []
  have e2 : missD s g3 5 (tailTo 5 S S.length) 0 [2] = (0, [2]) := missD_yes (d := 0) h hdn (by rw [drv3]; simp) h0 [2]
  unfold stepAll
  rw [e1, if_neg (by decide)]
  unfold stepAll
  rw [e2, if_neg (by decide)]
  rfl
end Go.Proofs.YtmgkkoajjdgmbaaGreatDoor

/- A slice of n bytes 0, and its text. -/
namespace Go.Proofs.YtmgkkoajjdgmbaaGreatDoor
open Go.RowKit
set_option linter.unusedVariables false
theorem info_u8z : (Tryz.prog.info? 5).map (fun i => (i.zero, i.size, i.bytes)) = some (some (.int .u8 0), 1, 1) := by kernel_rfl
theorem mkZ (n : Nat) (hn : n ≤ 4096) : ∃ M, (∀ W, (Instr.makeSlice 24 (.int .i64 (n : Int)) (.int .i64 (n : Int))).run Tryz.prog W = .ok (.slice (some ⟨W.heap.size, 0, none⟩) n n) (W.alloc (.cells M 5))) ∧
    ∀ W : World, (convert 24 9 (.slice (some ⟨W.heap.size, 0, none⟩) n n)).run Tryz.prog (W.alloc (.cells M 5)) = .ok (.string ⟨(List.replicate n (0 : UInt8)).toArray⟩) (W.alloc (.cells M 5)) := by
  obtain ⟨i0, hi, hzz⟩ := Option.map_eq_some_iff.1 info_u8z
  simp only [Prod.mk.injEq] at hzz
  refine ⟨madeCells #[.int .u8 0] n, fun W => ?_, fun W => ?_⟩
  · have h := run_make (P := Tryz.prog) W 24 5 i0 _ Tryz.underlying24 hi hzz.1 .i64 .i64 (n : Int) (n : Int) (by omega) (by omega) (by rw [hzz.2.2]; omega) (by omega)
    rw [hzz.2.1, Int.toNat_natCast, Nat.mul_one] at h
    exact h
  · have hr := run_convert_bytes_back (P := Tryz.prog) (W.alloc (.cells (madeCells #[.int .u8 0] n) 5)) 24 9 5 ⟨W.heap.size, 0, none⟩ n (List.replicate n (0 : UInt8)) Tryz.underlying24 Tryz.underlying5 Tryz.underlying9 (fun j hj => by
      rw [add_at, World.cell?_alloc_mark]
      have hj1 : j < n := by rw [List.length_replicate] at hj; exact hj
      have h := made_get #[.int .u8 0] n j 0 hj1 (by decide)
      rw [show (#[Value.int .u8 0] : Array Value).size = 1 from rfl, Nat.mul_one, Nat.mul_one] at h
      rw [show j + 0 = j from rfl] at h
      rw [h, List.getElem_replicate]
      rfl)
    rw [List.length_replicate] at hr
    exact hr
end Go.Proofs.YtmgkkoajjdgmbaaGreatDoor

/- The law's alive. -/
namespace Go.Proofs.YtmgkkoajjdgmbaaGreatDoor
open Go.RowKit Go.Shelf Sm Wr _root_.Go.Proofs.YtmgkkoajjdgmbaaGreatDoor.Nm
set_option linter.unusedVariables false
set_option maxRecDepth 100000 in
theorem three_any (w : World) :
    Calls Tryz.prog 21 #[] w fun e w' => e = .returned (.agg #[.int .i64 3, .int .i64 1, .int .i64 24, .int .i64 4]) ∧ Kept w w' := by
  have K0 : Hid (Kept w (w.alloc (.cells #[.int .i64 3, .int .i64 1, .int .i64 24, .int .i64 4] 28))) := (Kept.refl _).alloc _
  have c0 := newT_cell w #[.int .i64 3, .int .i64 1, .int .i64 24, .int .i64 4] 28 0 _ _ rfl rfl
  have c1 := newT_cell w #[.int .i64 3, .int .i64 1, .int .i64 24, .int .i64 4] 28 1 _ _ rfl rfl
  have c2 := newT_cell w #[.int .i64 3, .int .i64 1, .int .i64 24, .int .i64 4] 28 2 _ _ rfl rfl
  have c3 := newT_cell w #[.int .i64 3, .int .i64 1, .int .i64 24, .int .i64 4] 28 3 _ _ rfl rfl
  go_enter Tryz.func21, Tryz.ntmps21
  go_wp2_with fail
  exact bodyPost_ret (v := .agg #[.int .i64 3, .int .i64 1, .int .i64 24, .int .i64 4]) (by simp [results, Tryz.results21, go_sem, c0, c1, c2, c3]) rfl ⟨rfl, K0.out⟩
theorem TO.cell {lo hi b : Nat} {v : Value} {w w' : World} (h : TO lo hi b v w w') {p : Addr} (hp : p.block < w.heap.size) (h1 : p.block < lo ∨ hi ≤ p.block) (h2 : p.block ≠ b) (h3 : v.ownBlock ≠ some p.block) : w'.cell? p = w.cell? p := World.cell?_of_block (h.block _ hp h1 h2 h3)
/-- alive's tail, in whatever blocks. -/
abbrev S3 (tb B G : Nat) (L : List ByteArray) (hit : Nat → Bool) (s : RSt) (v : Value) (W : World) : Prop := Sit tb B G g3 5 L L L hit s v false W
set_option maxRecDepth 100000 in
set_option maxHeartbeats 4000000 in
theorem alive_any (w : World) : Calls Tryz.prog 9 #[] w fun e w' => e = .returned (.bool true) ∧ Kept w w' := by
  have H3 := Lib.hid (fun W => three_any W)
  have HNEW := Lib.hid (fun W => pNew_ok 3 24 (by decide) (by decide) (by decide) (by decide) W)
  have HDR : Hid (∀ W, Calls Tryz.prog 25 #[.agg #[.int .i64 3, .int .i64 1, .int .i64 24, .int .i64 4], .int .u64 5] W fun e w' => ∃ q c, e = .returned (.slice (some ⟨q, 0, none⟩) 2 c) ∧ Hid (w'.cell? ⟨q, 0, none⟩ = some (.int .i64 2) ∧ w'.cell? ⟨q, 1, none⟩ = some (.int .i64 0) ∧ Kept W w')) := fun W => by
    refine (drives_part g3 5 W g3_ok).mono ?_
    rintro e w' ⟨q, c, rfl, h⟩
    rw [drv3] at h ⊢
    exact ⟨q, c, rfl, h.2.2.2.1 0 (by decide), h.2.2.2.1 1 (by decide), h.2.2.2.2⟩
  go_enter Tryz.func9, Tryz.ntmps9
  go_upto_region 2 with (go_at_call 21; refine (H3.out _).mono ?_; rintro e w1 ⟨rfl, hk1⟩)
  have hkb : Kept w (w1.alloc (.cells #[.int .i64 3, .int .i64 1, .int .i64 24, .int .i64 4] 28)) := hk1.alloc _
  have hgb := GeoAt.laid w1 28 g3
  have HGW : Hid (w.heap.size ≤ (w1.alloc (.cells #[.int .i64 3, .int .i64 1, .int .i64 24, .int .i64 4] 28)).heap.size) := hkb.size
  have HKB := Lib.hid hkb
  have HGB : Hid (∀ W, Kept (w1.alloc (.cells #[.int .i64 3, .int .i64 1, .int .i64 24, .int .i64 4] 28)) W → W.cell? ⟨w1.heap.size, 0, none⟩ = some (.int .i64 3) ∧ W.cell? ⟨w1.heap.size, 1, none⟩ = some (.int .i64 1) ∧ W.cell? ⟨w1.heap.size, 2, none⟩ = some (.int .i64 24) ∧ W.cell? ⟨w1.heap.size, 3, none⟩ = some (.int .i64 4)) := fun W k => by
    obtain ⟨c0, c1, c2, c3⟩ := hgb.kept k
    exact ⟨c0, c1, c2, c3⟩
  clear hk1 hkb hgb
  generalize w1.alloc (.cells #[.int .i64 3, .int .i64 1, .int .i64 24, .int .i64 4] 28) = wb at *
  generalize w1.heap.size = gb at *
  have HN2 := Lib.hid (HNEW.out wb)
  generalize hG : wb.heap.size = G at *
  have HG : Hid (wb.heap.size ≤ G) := Nat.le_of_eq hG
  clear hG
  go_upto_region 3 with (go_at_call 11; refine HN2.out.mono ?_; rintro e w2 ⟨rfl, hk2, hr2, hs2⟩; have K2 := Lib.hid hk2; have R2 := Lib.hid hr2; clear hk2 hr2 hs2)
  obtain ⟨c0, c1, c2, c3⟩ := HGB.out w2 K2.out
  go_upto_region 4 with (go_at_call 25; refine (HDR.out w2).mono ?_; rintro e w3 ⟨q3, x3, rfl, H3D⟩)
  obtain ⟨a0, a1, k3⟩ := H3D.out
  have K3 := Lib.hid (K2.out.trans k3)
  have R3 := Lib.hid (R2.out.kept k3)
  clear H3D HDR HN2 H3 HNEW K2 R2 k3 c0 c1 c2 c3
  go_upto_region 6 with fail
  clear a0 a1
  -- Load: lost
  obtain ⟨c0, c1, c2, c3⟩ := HGB.out w3 K3.out
  have I0 := Lib.hid (new_zero g3_ok 3 24 rfl rfl)
  have HL3 : Hid (Calls Tryz.prog 17 #[.pointer (some ⟨G + 1, 0, none⟩), .agg #[.int .i64 3, .int .i64 1, .int .i64 24, .int .i64 4], .int .u64 5] w3 fun r w' => r = .returned (.tuple #[.pointer none, .slice none 0 0, .int .i64 90]) ∧ Kept w3 w') :=
    load_lost G (rack0 3 24) g3 5 [] [] _ w3 R3.out I0.out rfl (fun d hd hr => rawT_nz I0.out.rk (lenT_pos []) hr.2.symm)
  go_upto_region 7 with (go_at_call 17; refine HL3.out.mono ?_; rintro e w4 ⟨rfl, k4⟩; have K4 := Lib.hid (K3.out.trans k4); have R4 := Lib.hid (R3.out.kept k4); clear k4)
  clear HL3 K3 R3 c0 c1 c2 c3
  -- Begin
  obtain ⟨c0, c1, c2, c3⟩ := HGB.out w4 K4.out
  have HB4 : Hid (Calls Tryz.prog 12 #[.pointer (some ⟨G + 1, 0, none⟩), .agg #[.int .i64 3, .int .i64 1, .int .i64 24, .int .i64 4], .int .u64 5] w4 fun r w' => ∃ (tb : Nat) (v : Value) (s' : RSt), r = .returned (.tuple #[.pointer (some ⟨tb, 0, none⟩), .int .i64 0]) ∧ BegS G g3 5 (rack0 3 24) s' tb v w4 w') :=
    begin_sit G (rack0 3 24) g3 5 w4 R4.out I0.out rfl
  go_upto_region 8 with (go_at_call 12; refine HB4.out.mono ?_; rintro e w5 ⟨tb, v5, s5, rfl, hb5⟩; have B5 := Lib.hid hb5; clear hb5)
  have K5 := Lib.hid (only_low HG.out K4.out B5.out.on)
  have S5 := Lib.hid B5.out.st
  have C5 := Lib.hid B5.out.cut
  clear HB4 K4 R4 I0 B5 c0 c1 c2 c3
  generalize w4.heap.size = B5 at *
  -- Room
  have HRM : Hid (Calls Tryz.prog 22 #[.pointer (some ⟨tb, 0, none⟩)] w5 fun r w' => r = .returned (.int .i64 102) ∧ Kept w5 w') := S5.out.room (.inl rfl)
  go_upto_region 10 with (go_at_call 22; refine HRM.out.mono ?_; rintro e w6 ⟨rfl, k6⟩; have K6 := Lib.hid (K5.out.trans k6); have S6 := Lib.hid (S5.out.kept k6); clear k6)
  clear HRM K5 S5
  -- Append
  have HAP : Hid (Calls Tryz.prog 14 #[.pointer (some ⟨tb, 0, none⟩), .string ⟨#[97]⟩] w6 fun r w' => r = .returned (.int .i64 0) ∧ ∃ (s' : RSt) (v' : Value), AppN tb B5 G g3 5 [] tA (fun _ => false) s5 s' v5 v' w6 w') := S6.out.appn C5.out tA (by decide)
  go_upto_region 11 with (go_at_call 14; refine HAP.out.mono ?_; rintro e w7 ⟨rfl, s7, v7, hA7⟩; have A7 := Lib.hid hA7; clear hA7)
  have K7 := Lib.hid (S6.out.low HG.out K6.out A7.out.fr)
  have S7 : Hid (Sit tb B5 G g3 5 [tA] [tA] [tA] (fun _ => false) s7 v7 false w7) := A7.out.st
  have C7 := Lib.hid A7.out.cut
  clear HAP K6 S6 C5 A7
  -- Wipe 2
  have HW8 := Lib.hid (S7.out.wipe 2 (by decide) (by decide) (hit' := fun x => decide (x = 2)) (fun x hx => ⟨rfl, of_decide_eq_false hx⟩))
  go_upto_region 12 with (go_at_call 26; refine HW8.out.mono ?_; rintro e w8 ⟨rfl, hA8⟩; have A8 := Lib.hid hA8; clear hA8)
  have K8 := Lib.hid (only_low HG.out K7.out A8.out.fr)
  have S8 := Lib.hid A8.out.st
  have C8 : Hid ((s7.wipeS 2).cut = false) := (wipe_cut _ _).1.trans C7.out
  have N8 : Hid (¬ Rgt 5 [tA] (fN g3 5) (s7.wipeS 2) 2 0) := wiped_no 5 [tA] (fN g3 5) s7 2 S7.out.ti.rk (by unfold RSt.drive; have h := S7.out.ti.fit.1; exact decide_eq_true ⟨by decide, by rw [h]; decide⟩)
  clear HW8 K7 S7 C7 A8
  generalize s7.wipeS 2 = s8 at *
  -- Missing
  have HM8 : Hid (Calls Tryz.prog 20 #[.pointer (some ⟨tb, 0, none⟩)] w8 fun r w' => ∃ q o c, r = .returned (.tuple #[.slice (some ⟨q, o, none⟩) 1 c, .int .i64 0]) ∧ Hid (w'.cell? ⟨q, o, none⟩ = some (.int .i64 2) ∧ w8.heap.size ≤ q ∧ Kept w8 w')) := by
    have em := miss3 S8.out.ti (not_down C8.out) N8.out rfl
    refine (top_miss tb B5 G s8 g3 5 v7 _ _ _ w8 S8.out.tl S8.out.rk g3_ok (by rw [lenT_is]; decide) S8.out.ti.sect (by rw [em]; decide)).mono ?_
    rw [em]
    rintro r w' ⟨a, c, rfl, h1, h2, h3⟩
    rcases h2 with h2 | ⟨q, o, rfl, h2⟩
    · cases h2
    · exact ⟨q, o, c, rfl, h2 0 (by decide), h3 q o rfl, h1⟩
  go_upto_region 13 with (go_at_call 20; refine HM8.out.mono ?_; rintro e w9 ⟨qm, om, cm, rfl, hA9⟩; have A9 := Lib.hid hA9; clear hA9)
  have K9 := Lib.hid (K8.out.trans A9.out.2.2)
  have R9 := Lib.hid (S8.out.rk.kept A9.out.2.2)
  have I9 := Lib.hid S8.out.ti
  have M9 : Hid (w9.cell? ⟨qm, om, none⟩ = some (.int .i64 2) ∧ G + 2 + s8.n ≤ qm) := ⟨A9.out.1, Nat.le_trans S8.out.hB (Nat.le_trans S8.out.hBw A9.out.2.1)⟩
  clear HM8 K8 S8 A9 N8
  -- Load
  obtain ⟨c0, c1, c2, c3⟩ := HGB.out w9 K9.out
  have HL9 : Hid (Calls Tryz.prog 17 #[.pointer (some ⟨G + 1, 0, none⟩), .agg #[.int .i64 3, .int .i64 1, .int .i64 24, .int .i64 4], .int .u64 5] w9 fun r w' => ∃ (tb B c : Nat) (v : Value) (q o : Nat), r = .returned (.tuple #[.pointer (some ⟨tb, 0, none⟩), .slice (some ⟨q, o, none⟩) 1 c, .int .i64 0]) ∧ w'.cell? ⟨q, o, none⟩ = some (.string ⟨#[97]⟩) ∧ ∃ a, GotS G g3 5 [tA] (fun x => decide (x = 2)) s8 tb B v a w9 w') := by
    refine (load_got G s8 g3 5 [tA] _ w9 R9.out I9.out (not_down C8.out) ⟨0, by rw [drv3]; simp, rfl⟩).mono ?_
    rintro r w' ⟨tb, B, c, v, a, rfl, h⟩
    rcases h.hS with h2 | ⟨q, o, e, h2⟩
    · cases h2
    · exact ⟨tb, B, c, v, q, o, by rw [e]; rfl, h2 0 (by decide), a, h⟩
  go_upto_region 14 with (go_at_call 17; refine HL9.out.mono ?_; rintro e w10 ⟨tu, Bu, cu, vu, qx, ox, rfl, hx10, au, hA10⟩; have A10 := Lib.hid hA10; clear hA10)
  have K10 := Lib.hid (K9.out.trans A10.out.kp)
  have S10 := Lib.hid A10.out.st
  have M10 : Hid (w10.cell? ⟨qm, om, none⟩ = some (.int .i64 2) ∧ G + 2 + s8.n ≤ qm ∧ qm < Bu) := ⟨cell_keptT M9.out.1 A10.out.kp, M9.out.2, Nat.lt_of_lt_of_le (block_lt_of_cell M9.out.1) A10.out.h1⟩
  have L10 : Hid (Bu ≤ tu) := A10.out.h2
  clear HL9 K9 R9 I9 M9 A10 c0 c1 c2 c3
  go_upto_region 16 with fail
  clear hx10
  -- Mend
  have HM10 := Lib.hid (S10.out.mendn (.inl rfl) C8.out)
  go_upto_region 17 with (go_at_call 19; refine HM10.out.mono ?_; rintro e w11 ⟨rfl, s11, hA11⟩; have A11 := Lib.hid hA11; clear hA11)
  have K11 := Lib.hid (S10.out.low HG.out K10.out A11.out.fr)
  have S11 := Lib.hid A11.out.st
  have C11 := Lib.hid A11.out.cut
  have M11 : Hid (w11.cell? ⟨qm, om, none⟩ = some (.int .i64 2) ∧ G + 2 + s11.n ≤ qm ∧ qm < Bu) := by
    obtain ⟨m1, m2, m3⟩ := M10.out
    refine ⟨?_, by rw [A11.out.n]; exact m2, m3⟩
    rw [A11.out.fr.cell (p := ⟨qm, om, none⟩) (block_lt_of_cell m1) (.inr m2) (show qm ≠ tu by have := L10.out; omega) (fun e => by have := (S10.out.own qm e).1; omega)]
    exact m1
  clear HM10 K10 S10 C8 A11 M10
  -- Wipe 0
  have HW11 := Lib.hid (S11.out.wipe 0 (by decide) (by decide) (hit' := fun x => decide (x = 0)) (fun x hx => ⟨rfl, of_decide_eq_false hx⟩))
  go_upto_region 18 with (go_at_call 26; refine HW11.out.mono ?_; rintro e w12 ⟨rfl, hA12⟩; have A12 := Lib.hid hA12; clear hA12)
  have K12 := Lib.hid (only_low HG.out K11.out A12.out.fr)
  have S12 := Lib.hid A12.out.st
  have C12 : Hid ((s11.wipeS 0).cut = false) := (wipe_cut _ _).1.trans C11.out
  have N12 : Hid (¬ Rgt 5 [tA] (fN g3 5) (s11.wipeS 0) 0 0) := wiped_no 5 [tA] (fN g3 5) s11 0 S11.out.ti.rk (by unfold RSt.drive; have h := S11.out.ti.fit.1; exact decide_eq_true ⟨by decide, by rw [h]; decide⟩)
  have M12 : Hid (w12.cell? ⟨qm, om, none⟩ = some (.int .i64 2) ∧ G + 2 + (s11.wipeS 0).n ≤ qm ∧ qm < Bu) := by
    obtain ⟨m1, m2, m3⟩ := M11.out
    refine ⟨?_, by rw [(wipe_cut s11 0).2]; exact m2, m3⟩
    rw [A12.out.fr.cell (p := ⟨qm, om, none⟩) (block_lt_of_cell m1) (.inr m2)]
    exact m1
  clear HW11 K11 S11 C11 A12 M11
  generalize s11.wipeS 0 = s12 at *
  -- Load
  obtain ⟨c0, c1, c2, c3⟩ := HGB.out w12 K12.out
  have HL12 : Hid (Calls Tryz.prog 17 #[.pointer (some ⟨G + 1, 0, none⟩), .agg #[.int .i64 3, .int .i64 1, .int .i64 24, .int .i64 4], .int .u64 5] w12 fun r w' => ∃ (tb c : Nat) (a : Option Addr), r = .returned (.tuple #[.pointer (some ⟨tb, 0, none⟩), .slice a 1 c, .int .i64 0]) ∧ Kept w12 w') := by
    refine (load_got G s12 g3 5 [tA] _ w12 S12.out.rk S12.out.ti (not_down C12.out) ⟨2, by rw [drv3]; simp, rfl⟩).mono ?_
    rintro r w' ⟨tb, B, c, v, a, rfl, h⟩
    exact ⟨tb, c, a, rfl, h.kp⟩
  go_upto_region 19 with (go_at_call 17; refine HL12.out.mono ?_; rintro e w13 ⟨t13, c13, a13, rfl, k13⟩; have K13 := Lib.hid (K12.out.trans k13); have S13 := Lib.hid (S12.out.kept k13); have M13 : Hid (w13.cell? ⟨qm, om, none⟩ = some (.int .i64 2) ∧ G + 2 + s12.n ≤ qm ∧ qm < Bu) := ⟨cell_keptT M12.out.1 k13, M12.out.2⟩; clear k13)
  clear HL12 K12 S12 M12 c0 c1 c2 c3
  -- Wipe 2
  have HW13 := Lib.hid (S13.out.wipe 2 (by decide) (by decide) (hit' := fun x => true) (fun x hx => absurd hx (by decide)))
  go_upto_region 20 with (go_at_call 26; refine HW13.out.mono ?_; rintro e w14 ⟨rfl, hA14⟩; have A14 := Lib.hid hA14; clear hA14)
  have K14 := Lib.hid (only_low HG.out K13.out A14.out.fr)
  have S14 := Lib.hid A14.out.st
  have C14 : Hid ((s12.wipeS 2).cut = false) := (wipe_cut _ _).1.trans C12.out
  have N14 : Hid (¬ Rgt 5 [tA] (fN g3 5) (s12.wipeS 2) 0 0 ∧ ¬ Rgt 5 [tA] (fN g3 5) (s12.wipeS 2) 2 0) := ⟨wiped_keeps 5 [tA] (fN g3 5) s12 2 0 N12.out S13.out.ti.rk, wiped_no 5 [tA] (fN g3 5) s12 2 S13.out.ti.rk (by unfold RSt.drive; have h := S13.out.ti.fit.1; exact decide_eq_true ⟨by decide, by rw [h]; decide⟩)⟩
  have M14 : Hid (w14.cell? ⟨qm, om, none⟩ = some (.int .i64 2)) := by
    obtain ⟨m1, m2, m3⟩ := M13.out
    show _ = _
    rw [A14.out.fr.cell (p := ⟨qm, om, none⟩) (block_lt_of_cell m1) (.inr m2)]
    exact m1
  clear HW13 K13 S13 C12 A14 M13 N12
  generalize s12.wipeS 2 = s14 at *
  -- Load: lost
  obtain ⟨c0, c1, c2, c3⟩ := HGB.out w14 K14.out
  have HL14 : Hid (Calls Tryz.prog 17 #[.pointer (some ⟨G + 1, 0, none⟩), .agg #[.int .i64 3, .int .i64 1, .int .i64 24, .int .i64 4], .int .u64 5] w14 fun r w' => r = .returned (.tuple #[.pointer none, .slice none 0 0, .int .i64 90]) ∧ Kept w14 w') :=
    load_lost G s14 g3 5 [tA] [tA] _ w14 S14.out.rk S14.out.ti (not_down C14.out) (fun d hd => by
      rw [drv3] at hd
      rcases List.mem_cons.1 hd with rfl | hd
      · exact N14.out.2
      · rcases List.mem_cons.1 hd with rfl | hd
        · exact N14.out.1
        · cases hd)
  go_upto_region 21 with (go_at_call 17; refine HL14.out.mono ?_; rintro e w15 ⟨rfl, k15⟩; have K15 := Lib.hid (K14.out.trans k15); have S15 := Lib.hid (S14.out.kept k15); have M15 := Lib.hid (cell_keptT M14.out k15); clear k15)
  clear HL14 K14 S14 M14 N14 C14 c0 c1 c2 c3 HGB
  have m15 := M15.out
  obtain ⟨M, hmk, hcv⟩ := mkZ 103 (by decide)
  have hmk1 := hmk w15
  have hcv1 := hcv w15
  rw [show (((103 : Nat) : Int)) = 103 from rfl] at hmk1
  have hZ : (⟨(List.replicate 103 (0 : UInt8)).toArray⟩ : ByteArray).size = 103 := by decide
  generalize (⟨(List.replicate 103 (0 : UInt8)).toArray⟩ : ByteArray) = Z at *
  have HF : Hid (Calls Tryz.prog 14 #[.pointer (some ⟨tu, 0, none⟩), .string Z] (w15.alloc (.cells M 5)) fun r w' => r = .returned (.int .i64 6) ∧ Kept (w15.alloc (.cells M 5)) w') :=
    (S15.out.kept ((Kept.refl _).alloc _)).full (.inl rfl) Z (by omega) (by
      have e : partsN Z.size = 4 := by rw [hZ]; decide
      rw [e]; decide)
  have HK16 : Hid (Kept w (w15.alloc (.cells M 5))) := HKB.out.trans (K15.out.alloc _)
  clear hmk hcv M15 S15 K15
  go_wp2_with (go_at_call 14; refine HF.out.mono ?_; rintro e w17 ⟨rfl, k17⟩)
  go_ret
  exact ⟨rfl, HK16.out.trans k17⟩
end Go.Proofs.YtmgkkoajjdgmbaaGreatDoor

/- The law's texts: are two lists the same? -/
namespace Go.Proofs.YtmgkkoajjdgmbaaGreatDoor
open Go.RowKit Go.Shelf Sm Wr _root_.Go.Proofs.YtmgkkoajjdgmbaaGreatDoor.Nm
set_option linter.unusedVariables false
def nthT (ss : List ByteArray) (k : Nat) : ByteArray := ss.getD k ByteArray.empty
theorem nthT_get (ss : List ByteArray) (k : Nat) (h : k < ss.length) : ss[k] = nthT ss k := by unfold nthT; rw [List.getD_eq_getElem?_getD, List.getElem?_eq_getElem h]; rfl
theorem strs_atT {w : World} {a : Option Addr} {ss : List ByteArray} (hS : Strs w a ss) : ∃ b o, 0 < ss.length → a = some ⟨b, o, none⟩ ∧ ∀ i, i < ss.length → w.cell? ⟨b, o + i, none⟩ = some (.string (nthT ss i)) := by
  rcases hS with rfl | ⟨b, o, h1, h2⟩
  · exact ⟨0, 0, fun h => absurd h (by simp)⟩
  · exact ⟨b, o, fun _ => ⟨h1, h2⟩⟩
theorem listT_ext (a b : List ByteArray) (h : a.length = b.length) (e : ∀ i, i < a.length → nthT a i = nthT b i) : a = b := by
  apply List.ext_getElem h
  intro i h1 h2
  rw [nthT_get a i h1, nthT_get b i h2, e i h1]
theorem strT_beq (x y : ByteArray) : (x.toList == y.toList) = true ↔ x = y := by
  rw [ByteArray.toList_eq, ByteArray.toList_eq, beq_iff_eq]
  exact ⟨fun h => ByteArray.ext (Array.ext' h), fun h => by rw [h]⟩
set_option maxHeartbeats 1000000 in
set_option maxRecDepth 100000 in
theorem texts_any (a b : Option Addr) (ca cb : Nat) (ss ts : List ByteArray) (w : World) (hS : Strs w a ss) (hT : Strs w b ts) (hm : ss.length ≤ 1000) (hn : ts.length ≤ 1000) :
    Calls Tryz.prog 18 #[.slice a ss.length ca, .slice b ts.length cb] w fun e w' => e = .returned (.bool (decide (ss = ts))) ∧ Kept w w' := by
  obtain ⟨b1, o1, hc1⟩ := strs_atT hS
  obtain ⟨b2, o2, hc2⟩ := strs_atT hT
  have H1 := Lib.hid hc1
  have H2 := Lib.hid hc2
  clear hS hT hc1 hc2
  by_cases hl : ss.length = ts.length
  · have hb : ((ss.length : Int) == (ts.length : Int)) = true := by simp [hl]
    have HL := Lib.hid hl
    clear hl
    go_enter Tryz.func18, Tryz.ntmps18
    go_wp2_with fail
    have hne : ((ss.length : Int) != (ts.length : Int)) = false := by simp [HL.out]
    rw [hne]
    clear hne hb
    go_loopw [5] (fun i wr => ∃ j : Nat, j ≤ ss.length ∧ i = .int .i64 j ∧ Hid ((∀ q, q < j → nthT ss q = nthT ts q) ∧ Kept w wr)) (fun i _ => ss.length - (intOf i).toNat)
    case atStart => exact ⟨0, Nat.zero_le _, rfl, fun q h => absurd h (Nat.not_lt_zero _), Kept.refl _⟩
    case round =>
      obtain ⟨j, hj, rfl, HI⟩ := hrel
      by_cases hlt : j < ss.length
      · obtain ⟨ha, hd1⟩ := H1.out (by omega)
        obtain ⟨hb', hd2⟩ := H2.out (by have := HL.out; omega)
        have q1 := cell_keptT (hd1 j hlt) HI.out.2
        have q2 := cell_keptT (hd2 j (by have := HL.out; omega)) HI.out.2
        have hlt2 : j < ts.length := by have := HL.out; omega
        subst ha
        subst hb'
        clear hd1 hd2
        by_cases he : nthT ss j = nthT ts j
        · have HE := Lib.hid he
          have hbl : ((nthT ss j).toList == (nthT ts j).toList) = true := (strT_beq _ _).2 he
          clear he
          obtain ⟨p, hp⟩ : ∃ p, nthT ss j = p := ⟨_, rfl⟩
          obtain ⟨q, hq⟩ : ∃ q, nthT ts j = q := ⟨_, rfl⟩
          rw [hp] at q1 hbl HE
          rw [hq] at q2 hbl HE
          have HP := Lib.hid hp
          have HQ := Lib.hid hq
          clear hp hq
          go_wp2_with fail
          go_quiet (fail)
          go_wp2_with fail
          refine ⟨⟨j + 1, by omega, by go_num, fun x hx => ?_, HI.out.2.trans ((Kept.refl _).drewN _)⟩, by simp [intOf]; omega⟩
          by_cases e : x = j
          · rw [e, HP.out, HQ.out]
            exact HE.out
          · exact HI.out.1 x (by omega)
        · have hbl : ((nthT ss j).toList == (nthT ts j).toList) = false := by
            cases h : ((nthT ss j).toList == (nthT ts j).toList) with
            | false => rfl
            | true => exact absurd ((strT_beq _ _).1 h) he
          have HE : Hid (ss ≠ ts) := fun c => he (by rw [c])
          clear he
          generalize nthT ss j = p at *
          generalize nthT ts j = q at *
          go_wp2_with fail
          go_quiet (fail)
          go_wp2_with fail
          go_ret
          exact ⟨by rw [decide_eq_false HE.out]; rfl, HI.out.2.trans ((Kept.refl _).drewN _)⟩
      · obtain rfl : j = ss.length := by omega
        have HE : Hid (ss = ts) := listT_ext _ _ HL.out HI.out.1
        go_wp2_with fail
        go_ret
        exact ⟨by rw [decide_eq_true HE.out]; rfl, HI.out.2⟩
  · have hb : ((ss.length : Int) == (ts.length : Int)) = false := by simp; omega
    have HE : Hid (ss ≠ ts) := fun c => hl (by rw [c])
    clear hl
    go_enter Tryz.func18, Tryz.ntmps18
    go_wp2_with fail
    go_ret
    exact ⟨by rw [decide_eq_false HE.out]; rfl, Kept.refl _⟩
end Go.Proofs.YtmgkkoajjdgmbaaGreatDoor

/- The tails of three generations, one behind the other. -/
namespace Go.Proofs.YtmgkkoajjdgmbaaGreatDoor
open Go.RowKit Sm Wr _root_.Go.Proofs.YtmgkkoajjdgmbaaGreatDoor.Nm
set_option linter.unusedVariables false
def gT : Geo := ⟨4, 1, 74, 32⟩
theorem gT_ok (gen : Nat) (h1 : 1 ≤ gen) (h2 : gen ≤ 5000000000) : gOk gT gen := ⟨by decide, h1, by omega⟩
theorem fN_T (gen : Nat) : fN gT gen = 2 + gen % 2 * 32 := by
  show (2 + ((gen % 2 : Nat) : Int) * 32).toNat = _
  omega
theorem drv_T (gen : Nat) : drvL gT gen = [(((gen + 0) % 4 : Nat) : Int), (((gen + 1) % 4 : Nat) : Int)] := rfl
/-- The tails of two generations that are near each other have no sector in common. -/
theorem apart_T {a b : Nat} (hne : a ≠ b) (h1 : a ≤ b + 2) (h2 : b ≤ a + 2) {d : Int} (hd : d ∈ drvL gT b) {i : Nat} (hi : i < 32) :
    (∀ d' ∈ drvL gT a, d'.toNat ≠ d.toNat) ∨ fN gT b + i < fN gT a ∨ fN gT a + 32 ≤ fN gT b + i := by
  rw [fN_T, fN_T]
  by_cases hp : a % 2 = b % 2
  · refine .inl fun d' hd' => ?_
    rw [drv_T] at hd hd'
    simp only [List.mem_cons, List.not_mem_nil, or_false] at hd hd'
    omega
  · refine .inr ?_
    omega
theorem TInv.other {a b : Nat} {S R : List ByteArray} {hit : Nat → Bool} {s s' : RSt} (h : TInv gT b S R hit s) (o : OutR gT a s s') (hn : s'.n = s.n) (hm : s'.m = s.m) (hne : a ≠ b) (h1 : a ≤ b + 2) (h2 : b ≤ a + 2) : TInv gT b S R hit s' :=
  h.same hn hm fun d hd i hi => o d.toNat (fN gT b + i) (apart_T hne h1 h2 hd hi)
/-- Nothing stands where the tail of that generation will. -/
def ZeroT (b : Nat) (s : RSt) : Prop := ∀ d ∈ drvL gT b, ∀ i, i < 32 → s.bad d.toNat (fN gT b + i) = true ∨ s.T d.toNat (fN gT b + i) = zero64
theorem ZeroT.other {a b : Nat} {s s' : RSt} (h : ZeroT b s) (o : OutR gT a s s') (hne : a ≠ b) (h1 : a ≤ b + 2) (h2 : b ≤ a + 2) : ZeroT b s' := fun d hd i hi => by
  obtain ⟨e1, e2⟩ := o d.toNat (fN gT b + i) (apart_T hne h1 h2 hd hi)
  rw [e1, e2]
  exact h d hd i hi
/-- What stands beside the tail of generation a: the one ahead of it, the places of those behind. -/
structure Beside (gen j : Nat) (last : List ByteArray) (s : RSt) : Prop where
  l : 0 < j → TInv gT (gen + j - 1) last last (fun _ => false) s
  z : ∀ k, j < k → k ≤ 2 → ZeroT (gen + k) s
theorem Beside.other {gen j : Nat} {last : List ByteArray} {s s' : RSt} (h : Beside gen j last s) (hj : j ≤ 2) (o : OutR gT (gen + j) s s') (hn : s'.n = s.n) (hm : s'.m = s.m) : Beside gen j last s' :=
  ⟨fun h0 => (h.l h0).other o hn hm (by omega) (by omega) (by omega), fun k h1 h2 => (h.z k h1 h2).other o (by omega) (by omega) (by omega)⟩
/-- The same, ahead of the tail of generation a. -/
structure HeadT (gen j : Nat) (last : List ByteArray) (s : RSt) : Prop where
  l : 0 < j → TInv gT (gen + j - 1) last last (fun _ => false) s
  z : ∀ k, j ≤ k → k ≤ 2 → ZeroT (gen + k) s
theorem HeadT.beside {gen j : Nat} {last : List ByteArray} {s : RSt} (h : HeadT gen j last s) : Beside gen j last s := ⟨h.l, fun k h1 h2 => h.z k (by omega) h2⟩
theorem Beside.next {gen j : Nat} {last now : List ByteArray} {s : RSt} (h : Beside gen j last s) (t : TInv gT (gen + j) now now (fun _ => false) s) : HeadT gen (j + 1) now s :=
  ⟨fun _ => t, fun k h1 h2 => h.z k (by omega) h2⟩
theorem Gat.to {lo hi b Bq : Nat} {v u : Value} {ss : List ByteArray} {w w' : World} (h : Gat Bq u ss w) (k : TO lo hi b v w w') (h1 : hi ≤ Bq) (h2 : ∀ q, u.ownBlock = some q → q ≠ b ∧ v.ownBlock ≠ some q) : Gat Bq u ss w' := by
  have hlt := h.lt
  obtain ⟨e1, e2⟩ := h
  refine ⟨e1, ?_⟩
  rcases e2 with e2 | ⟨q, cap, cur, rfl, h3, h4, h5⟩
  · exact .inl e2
  · have hq := h2 q rfl
    exact .inr ⟨q, cap, cur, rfl, h3, by rw [k.block q (hlt q rfl).2 (.inr (by omega)) hq.1 hq.2]; exact h4, h5⟩
theorem Gat.grown {Bq : Nat} {u : Value} {ss : List ByteArray} {w w' : World} {r : Option Nat} (h : Gat Bq u ss w) (k : w.grownBy w' r) (h2 : ∀ q, u.ownBlock = some q → some q ≠ r) : Gat Bq u ss w' := by
  have hlt := h.lt
  obtain ⟨e1, e2⟩ := h
  refine ⟨e1, ?_⟩
  rcases e2 with e2 | ⟨q, cap, cur, rfl, h3, h4, h5⟩
  · exact .inl e2
  · exact .inr ⟨q, cap, cur, rfl, h3, by rw [k.block q (hlt q rfl).2 (h2 q rfl)]; exact h4, h5⟩
theorem wpList_gatsO {ops : Array Oper} {rest : List Oper} {o : Oper} {a : Act} {Q : Exit → Act → World → Prop} (W : World) (hgd : o.guard = none) (s x : Operand)
    (ho : o.op = .call { callee := .builtin .append, args := #[s, x], argTypes := #[38, 38] })
    (B : Nat) (hB : B ≤ W.heap.size) (v : Value) (ss : List ByteArray) (hs : a.eval s = v) (hG : Gat B v ss W) (str : ByteArray) (g : Nat) (hx : a.eval x = .slice (some ⟨g, 0, none⟩) 1 1) (hc : W.cell? ⟨g, 0, none⟩ = some (.string str)) (hl : ss.length ≤ 1000000)
    (h : ∀ v' w', Hid (Gat B v' (ss ++ [str]) w' ∧ W.grownBy w' v.ownBlock ∧ ∀ b, v'.ownBlock = some b → v.ownBlock = some b ∨ W.heap.size ≤ b) → wpList Tryz.prog ops Q rest (a.put o.dst v') w') : wpList Tryz.prog ops Q (o :: rest) a W := by
  obtain ⟨i0, hi, hzz⟩ := Option.map_eq_some_iff.1 info_string
  simp only [Prod.mk.injEq] at hzz
  refine wpList_append_lies W hgd s x 38 ho B 9 i0 (.string ByteArray.empty) 1 16 Tryz.underlying38 hi hzz.1 hzz.2.1 hzz.2.2 rfl (by decide) v ss.length (ss.map Value.string) hs hG ⟨g, 0, none⟩ 1 1 [.string str] hx rfl (cell_one W g str hc) (one_string str) (by decide) (by unfold maxLen; omega) (by omega) hB _ rfl ?_
  intro g2 cap w' h2 h3 h4 h5
  refine h _ w' ⟨?_, h3, fun b hb => ?_⟩
  · unfold Gat
    rw [List.map_append, List.length_append]
    exact h2
  · injection hb with hb
    rcases h4 with h4 | h4
    · exact .inl (by rw [h4, ← hb])
    · exact .inr (by rw [← hb, h4]; exact Nat.le_refl _)
/-- A tail under a row that was appended to. -/
theorem Sit.grown {tb B G : Nat} {g : Geo} {gen : Nat} {S R L : List ByteArray} {hit : Nat → Bool} {s : RSt} {v : Value} {br : Bool} {W W' : World} (h : Sit tb B G g gen S R L hit s v br W) {r : Option Nat} (k : W.grownBy W' r) (h1 : ∀ q, r = some q → G + 2 + s.n ≤ q ∧ q ≠ tb ∧ v.ownBlock ≠ some q) : Sit tb B G g gen S R L hit s v br W' := by
  have hlt := h.rk.lt
  refine ⟨h.rk.frame fun i hi1 hi2 => k.block i (by omega) (fun e => by have := (h1 i e.symm).1; omega), h.ti, h.tl.frame (k.block tb h.tl.ty.lt (fun e => (h1 tb e.symm).2.1 rfl)) (fun q hq => k.block q (h.own q hq).2 (fun e => (h1 q e.symm).2.2 hq)), h.hB, Nat.le_trans h.hBw k.size, h.htb⟩
end Go.Proofs.YtmgkkoajjdgmbaaGreatDoor

