/- That the known small cases come out: alive; more of a matrix than is looked at: Heavy. -/
import Derived.Test.YtlmoeaphikdjnaaMatCode8
import Derived.Test.YtlmoeaphikdjnaaMatRef6
namespace Go.Proofs.Ytlmoeaphikdjnaa
open Go.RowKit Gf
set_option linter.unusedVariables false
theorem strs_lit (w : World) (cs : Array Value) (t : TypeId) (ss : List ByteArray) (h : ∀ i, i < ss.length → cs[i]? = some (.string (nth ss i))) : Strs (w.alloc (.cells cs t)) (some ⟨w.heap.size, 0, none⟩) ss := by
  refine .inr ⟨_, _, rfl, fun i hi => ?_⟩
  rw [Nat.zero_add, World.cell?_alloc_mark, h i hi]
  rfl
theorem size_one (w : World) (o : Obj) : (w.alloc o).heap.size = w.heap.size + 1 := by show (w.heap.push o).size = _; simp
theorem strs_lit2 (w : World) (o : Obj) (cs : Array Value) (t : TypeId) (ss : List ByteArray) (h : ∀ i, i < ss.length → cs[i]? = some (.string (nth ss i))) : Strs ((w.alloc o).alloc (.cells cs t)) (some ⟨w.heap.size + 1, 0, none⟩) ss := by
  rw [← size_one w o]
  exact strs_lit _ _ _ _ h
theorem ints_lit2 (w : World) (o : Obj) (k : IntKind) (cs : Array Value) (t : TypeId) (rs : List Int) (h : ∀ i, i < rs.length → cs[i]? = some (.int k (nthI rs i))) : Ints k ((w.alloc o).alloc (.cells cs t)) (some ⟨w.heap.size + 1, 0, none⟩) rs := by
  rw [← size_one w o]
  refine .inr ⟨_, _, rfl, fun i hi => ?_⟩
  rw [Nat.zero_add, World.cell?_alloc_mark, h i hi]
theorem l1 (a : ByteArray) : ∀ i, i < [a].length → #[Value.string a][i]? = some (.string (nth [a] i)) := fun i hi => by
  match i, hi with
  | 0, _ => rfl
theorem l2 (a b : ByteArray) : ∀ i, i < [a, b].length → #[Value.string a, .string b][i]? = some (.string (nth [a, b] i)) := fun i hi => by
  match i, hi with
  | 0, _ => rfl
  | 1, _ => rfl
theorem l3 (a b c : ByteArray) : ∀ i, i < [a, b, c].length → #[Value.string a, .string b, .string c][i]? = some (.string (nth [a, b, c] i)) := fun i hi => by
  match i, hi with
  | 0, _ => rfl
  | 1, _ => rfl
  | 2, _ => rfl
theorem i3 (k : IntKind) (a b c : Int) : ∀ i, i < [a, b, c].length → #[Value.int k a, .int k b, .int k c][i]? = some (.int k (nthI [a, b, c] i)) := fun i hi => by
  match i, hi with
  | 0, _ => rfl
  | 1, _ => rfl
  | 2, _ => rfl
/-- What a call leaves, the rows' number said. -/
def GotN (rows : List ByteArray) (n : Nat) (err : Int) (w : World) (e : Ending) (w' : World) : Prop := ∃ a cap, e = .returned (.tuple #[.slice a n cap, .int .i64 err]) ∧ Strs w' a rows ∧ Kept w w'
theorem GotM.n {rows rows2 : List ByteArray} {err err2 : Int} {w w' : World} {e : Ending} (h : GotM rows err w e w') (n : Nat) (hr : rows = rows2) (he : err = err2) (hn : rows2.length = n) : GotN rows2 n err2 w e w' := by
  subst hr
  subst he
  subst hn
  exact h
def small (ss : List ByteArray) : Prop := ss.length ≤ maxLen ∧ ∀ s ∈ ss, s.size ≤ maxLen
theorem small_of (ss : List ByteArray) (h : (ss.all fun s => decide (s.size ≤ 200)) = true) (h2 : ss.length ≤ 200) : small ss := by
  refine ⟨by unfold maxLen; omega, fun s hs => ?_⟩
  rw [List.all_eq_true] at h
  have := of_decide_eq_true (h s hs)
  unfold maxLen
  omega
theorem pCauchy_c (n m : Int) (r : List ByteArray) (k : Nat) (y : Int) (w : World) (hn : 0 ≤ n ∧ n ≤ 200 ∧ 0 ≤ m ∧ m ≤ 200) (h : cauL n m = r ∧ cauE n m = y) (hk : r.length = k) : Calls Try.prog 19 #[.int .i64 n, .int .i64 m] w fun e w' => GotN r k y w e w' :=
  (pCauchy_any n m w (by omega) (by omega) (by omega) (by omega)).mono fun e w' hg => hg.n k h.1 h.2 hk
theorem pUndo_c (a : Option Addr) (n cap : Nat) (ss r : List ByteArray) (k : Nat) (y : Int) (w : World) (hS : Strs w a ss) (hn : ss.length = n) (hs : small ss) (h : undoE ss = y ∧ undoL ss = r) (hk : r.length = k) : Calls Try.prog 12 #[.slice a n cap] w fun e w' => GotN r k y w e w' := by
  subst hn
  exact (pUndo_any a cap ss w hS hs.1 hs.2).mono fun e w' hg => hg.n k h.2 h.1 hk
theorem pPick_c (a b : Option Addr) (n m ca cb : Nat) (ss : List ByteArray) (rs : List Int) (r : List ByteArray) (k : Nat) (y : Int) (w : World) (hS : Strs w a ss) (hR : Ints .i64 w b rs) (hn : ss.length = n) (hm : rs.length = m) (hs : small ss) (hr : m ≤ 200) (hb : (rs.all fun r => decide (-200 ≤ r ∧ r ≤ 200)) = true) (h : pickL ss rs = r ∧ pickE ss rs = y) (hk : r.length = k) : Calls Try.prog 21 #[.slice a n ca, .slice b m cb] w fun e w' => GotN r k y w e w' := by
  subst hn
  subst hm
  refine (pPick_any a b ca cb ss rs w hS hR hs.1 (by unfold maxLen; omega) hs.2 (fun r hr => ?_)).mono fun e w' hg => hg.n k h.1 h.2 hk
  rw [List.all_eq_true] at hb
  have := of_decide_eq_true (hb r hr)
  omega
theorem pBelow_c (a b : Option Addr) (n m ca cb : Nat) (ss ts r : List ByteArray) (k : Nat) (y : Int) (w : World) (hS : Strs w a ss) (hT : Strs w b ts) (hn : ss.length = n) (hm : ts.length = m) (hs : small ss) (ht : small ts) (h : belL ss ts = r ∧ belE ss ts = y) (hk : r.length = k) : Calls Try.prog 23 #[.slice a n ca, .slice b m cb] w fun e w' => GotN r k y w e w' := by
  subst hn
  subst hm
  exact (pBelow_any a b ca cb ss ts w hS hT hs.1 ht.1 hs.2 ht.2).mono fun e w' hg => hg.n k h.1 h.2 hk
theorem pTimes_c (a b : Option Addr) (n m ca cb : Nat) (ss ts r : List ByteArray) (k : Nat) (y : Int) (w : World) (hS : Strs w a ss) (hT : Strs w b ts) (hn : ss.length = n) (hm : ts.length = m) (hs : small ss) (ht : small ts) (h : prodL ss ts = r ∧ prodE ss ts = y) (hk : r.length = k) : Calls Try.prog 10 #[.slice a n ca, .slice b m cb] w fun e w' => GotN r k y w e w' := by
  subst hn
  subst hm
  exact (pTimes_any a b ca cb ss ts w hS hT hs.1 ht.1 hs.2 ht.2).mono fun e w' hg => hg.n k h.1 h.2 hk
theorem same_c (a b : Option Addr) (n m ca cb : Nat) (ss ts : List ByteArray) (v : Bool) (w : World) (hS : Strs w a ss) (hT : Strs w b ts) (hn : ss.length = n) (hm : ts.length = m) (hs : n ≤ 200) (ht : m ≤ 200) (h : decide (ss = ts) = v) : Calls Try.prog 16 #[.slice a n ca, .slice b m cb] w fun e w' => e = .returned (.bool v) ∧ Kept w w' := by
  subst hn
  subst hm
  subst h
  exact same_any a b ca cb ss ts w hS hT (by unfold maxLen; omega) (by unfold maxLen; omega)
theorem pMay_c (a : Option Addr) (n cap : Nat) (ss : List ByteArray) (v : Bool) (w : World) (hS : Strs w a ss) (hn : ss.length = n) (hs : small ss) (h : mayB ss = v) : Calls Try.prog 14 #[.slice a n cap] w fun e w' => e = .returned (.bool v) ∧ Kept w w' := by
  subst hn
  subst h
  exact pMay_any a cap ss w hS hs.1 hs.2
def GotK (rows : List ByteArray) (n : Nat) (w : World) (e : Ending) (w' : World) : Prop := ∃ a cap, e = .returned (.slice a n cap) ∧ Strs w' a rows ∧ Kept w w'
theorem pUnit_c (n : Int) (r : List ByteArray) (k : Nat) (w : World) (hn : 0 ≤ n ∧ n ≤ 200) (h : unitL n = r) (hk : r.length = k) : Calls Try.prog 17 #[.int .i64 n] w fun e w' => GotK r k w e w' := by
  subst h
  subst hk
  exact pUnit_any n w (by omega) (by omega)
theorem q1 : cauL 1 2 = [⟨#[142, 244]⟩] ∧ cauE 1 2 = 0 := by decide +kernel
def m2a : List ByteArray := [⟨#[1, 1]⟩, ⟨#[1, 2]⟩]
def m2u : List ByteArray := [⟨#[245, 244]⟩, ⟨#[244, 244]⟩]
def m2b : List ByteArray := [⟨#[1, 1]⟩, ⟨#[1, 1]⟩]
theorem eq2_of (A B : Nat → Nat → UInt8) (h : ∀ i j : Fin 2, A i.val j.val = B i.val j.val) : Eq2 2 A B := fun i j hi hj => h ⟨i, hi⟩ ⟨j, hj⟩
theorem q2 : undoE m2a = 0 ∧ undoL m2a = m2u := by
  have h := undo_is m2a (by decide +kernel) (by decide +kernel) (mt m2u) ⟨eq2_of _ _ (by decide +kernel), eq2_of _ _ (by decide +kernel)⟩
  refine ⟨h.1, h.2.trans ?_⟩
  decide +kernel
theorem q3 : undoE m2b = 51 ∧ undoL m2b = [] := undo_not m2b (by decide +kernel) (by decide +kernel) (by
  rintro ⟨U, hU⟩
  have h : ∀ i : Fin 2, mv 2 (mt m2b) (fun _ => 1) i.val = 0 := by decide +kernel
  exact no_ker hU.2 ⟨⟨0, by decide, by decide⟩, fun i hi => h ⟨i, hi⟩⟩)
theorem q4 : pickL [⟨#[97]⟩, ⟨#[98]⟩] [1, 0, 1] = [⟨#[98]⟩, ⟨#[97]⟩, ⟨#[98]⟩] ∧ pickE [⟨#[97]⟩, ⟨#[98]⟩] [1, 0, 1] = 0 := by decide +kernel
theorem q5 : belL [⟨#[97]⟩] [⟨#[98]⟩] = [⟨#[97]⟩, ⟨#[98]⟩] ∧ belE [⟨#[97]⟩] [⟨#[98]⟩] = 0 := by decide +kernel
theorem q6 : prodL [⟨#[2]⟩] [⟨#[128]⟩] = [⟨#[29]⟩] ∧ prodE [⟨#[2]⟩] [⟨#[128]⟩] = 0 := by decide +kernel
theorem q7 : unitL 2 = [⟨#[1, 0]⟩, ⟨#[0, 1]⟩] := by decide +kernel
set_option maxHeartbeats 2000000 in
set_option maxRecDepth 100000 in
theorem matAlive_any (w : World) : Calls Try.prog 9 #[] w fun e w' => e = .returned (.bool true) ∧ Kept w w' := by
  go_enter Try.func9, Try.ntmps9
  go_wp2_with fail
  refine (pCauchy_c 1 2 [⟨#[142, 244]⟩] 1 0 _ (by decide) q1 rfl).mono ?_
  rintro e w1 ⟨a1, c1, rfl, s1, j1⟩
  have k1 : Kept w w1 := j1
  have K1 : Kept w w1 := k1
  clear j1 k1
  go_wp2_with fail
  refine (pUndo_c _ 2 2 m2a m2u 2 0 _ (strs_lit _ _ _ _ (l2 _ _)) rfl (small_of _ (by decide +kernel) (by decide)) q2 rfl).mono ?_
  rintro e w2 ⟨a2, c2, rfl, s2, j2⟩
  have k2 : Kept w1 w2 := ((Kept.refl _).alloc _).trans j2
  have K2 : Kept w w2 := K1.trans k2
  replace s1 := s1.kept k2
  clear j2 k2
  go_wp2_with fail
  refine (pUndo_c _ 2 2 m2b [] 0 51 _ (strs_lit _ _ _ _ (l2 _ _)) rfl (small_of _ (by decide +kernel) (by decide)) q3 rfl).mono ?_
  rintro e w3 ⟨a3, c3, rfl, s3, j3⟩
  have k3 : Kept w2 w3 := ((Kept.refl _).alloc _).trans j3
  have K3 : Kept w w3 := K2.trans k3
  replace s1 := s1.kept k3
  replace s2 := s2.kept k3
  clear j3 k3
  go_wp2_with fail
  refine (pPick_c _ _ 2 3 2 3 [⟨#[97]⟩, ⟨#[98]⟩] [1, 0, 1] _ 3 0 _ ((strs_lit _ _ _ _ (l2 _ _)).kept ((Kept.refl _).alloc _)) (ints_lit2 _ _ _ _ _ _ (i3 _ _ _ _)) rfl rfl (small_of _ (by decide +kernel) (by decide)) (by decide) (by decide +kernel) q4 rfl).mono ?_
  rintro e w4 ⟨a4, c4, rfl, s4, j4⟩
  have k4 : Kept w3 w4 := (((Kept.refl _).alloc _).alloc _).trans j4
  have K4 : Kept w w4 := K3.trans k4
  replace s1 := s1.kept k4
  replace s2 := s2.kept k4
  replace s3 := s3.kept k4
  clear j4 k4
  go_wp2_with fail
  refine (pBelow_c _ _ 1 1 1 1 [⟨#[97]⟩] [⟨#[98]⟩] _ 2 0 _ ((strs_lit _ _ _ _ (l1 _)).kept ((Kept.refl _).alloc _)) (strs_lit2 _ _ _ _ _ (l1 _)) rfl rfl (small_of _ (by decide +kernel) (by decide)) (small_of _ (by decide +kernel) (by decide)) q5 rfl).mono ?_
  rintro e w5 ⟨a5, c5, rfl, s5, j5⟩
  have k5 : Kept w4 w5 := (((Kept.refl _).alloc _).alloc _).trans j5
  have K5 : Kept w w5 := K4.trans k5
  replace s1 := s1.kept k5
  replace s2 := s2.kept k5
  replace s3 := s3.kept k5
  replace s4 := s4.kept k5
  clear j5 k5
  go_wp2_with fail
  refine (pTimes_c _ _ 1 1 1 1 [⟨#[2]⟩] [⟨#[128]⟩] _ 1 0 _ ((strs_lit _ _ _ _ (l1 _)).kept ((Kept.refl _).alloc _)) (strs_lit2 _ _ _ _ _ (l1 _)) rfl rfl (small_of _ (by decide +kernel) (by decide)) (small_of _ (by decide +kernel) (by decide)) q6 rfl).mono ?_
  rintro e w6 ⟨a6, c6, rfl, s6, j6⟩
  have k6 : Kept w5 w6 := (((Kept.refl _).alloc _).alloc _).trans j6
  have K6 : Kept w w6 := K5.trans k6
  replace s1 := s1.kept k6
  replace s2 := s2.kept k6
  replace s3 := s3.kept k6
  replace s4 := s4.kept k6
  replace s5 := s5.kept k6
  clear j6 k6
  go_wp2_with fail
  refine (same_c _ _ 1 1 _ 1 _ _ true _ (s1.kept ((Kept.refl _).alloc _)) (strs_lit _ _ _ [⟨#[142, 244]⟩] (l1 _)) rfl rfl (by decide) (by decide) (by decide +kernel)).mono ?_
  rintro e w7 ⟨rfl, j7⟩
  have k7 : Kept w6 w7 := ((Kept.refl _).alloc _).trans j7
  have K7 : Kept w w7 := K6.trans k7
  replace s1 := s1.kept k7
  replace s2 := s2.kept k7
  replace s3 := s3.kept k7
  replace s4 := s4.kept k7
  replace s5 := s5.kept k7
  replace s6 := s6.kept k7
  clear j7 k7
  go_wp2_with fail
  refine (same_c _ _ 2 2 _ 2 _ _ true _ (s2.kept ((Kept.refl _).alloc _)) (strs_lit _ _ _ m2u (l2 _ _)) rfl rfl (by decide) (by decide) (by decide +kernel)).mono ?_
  rintro e w8 ⟨rfl, j8⟩
  have k8 : Kept w7 w8 := ((Kept.refl _).alloc _).trans j8
  have K8 : Kept w w8 := K7.trans k8
  replace s1 := s1.kept k8
  replace s2 := s2.kept k8
  replace s3 := s3.kept k8
  replace s4 := s4.kept k8
  replace s5 := s5.kept k8
  replace s6 := s6.kept k8
  clear j8 k8
  go_wp2_with fail
  refine (same_c _ _ 3 3 _ 3 _ _ true _ (s4.kept ((Kept.refl _).alloc _)) (strs_lit _ _ _ [⟨#[98]⟩, ⟨#[97]⟩, ⟨#[98]⟩] (l3 _ _ _)) rfl rfl (by decide) (by decide) (by decide +kernel)).mono ?_
  rintro e w9 ⟨rfl, j9⟩
  have k9 : Kept w8 w9 := ((Kept.refl _).alloc _).trans j9
  have K9 : Kept w w9 := K8.trans k9
  replace s1 := s1.kept k9
  replace s2 := s2.kept k9
  replace s3 := s3.kept k9
  replace s4 := s4.kept k9
  replace s5 := s5.kept k9
  replace s6 := s6.kept k9
  clear j9 k9
  go_wp2_with fail
  refine (same_c _ _ 2 2 _ 2 _ _ true _ (s5.kept ((Kept.refl _).alloc _)) (strs_lit _ _ _ [⟨#[97]⟩, ⟨#[98]⟩] (l2 _ _)) rfl rfl (by decide) (by decide) (by decide +kernel)).mono ?_
  rintro e w10 ⟨rfl, j10⟩
  have k10 : Kept w9 w10 := ((Kept.refl _).alloc _).trans j10
  have K10 : Kept w w10 := K9.trans k10
  replace s1 := s1.kept k10
  replace s2 := s2.kept k10
  replace s3 := s3.kept k10
  replace s4 := s4.kept k10
  replace s5 := s5.kept k10
  replace s6 := s6.kept k10
  clear j10 k10
  go_wp2_with fail
  refine (same_c _ _ 1 1 _ 1 _ _ true _ (s6.kept ((Kept.refl _).alloc _)) (strs_lit _ _ _ [⟨#[29]⟩] (l1 _)) rfl rfl (by decide) (by decide) (by decide +kernel)).mono ?_
  rintro e w11 ⟨rfl, j11⟩
  have k11 : Kept w10 w11 := ((Kept.refl _).alloc _).trans j11
  have K11 : Kept w w11 := K10.trans k11
  replace s1 := s1.kept k11
  replace s2 := s2.kept k11
  replace s3 := s3.kept k11
  replace s4 := s4.kept k11
  replace s5 := s5.kept k11
  replace s6 := s6.kept k11
  clear j11 k11
  go_wp2_with fail
  refine (pMay_c _ 1 1 [⟨#[97]⟩] true _ (strs_lit _ _ _ _ (l1 _)) rfl (small_of _ (by decide +kernel) (by decide)) (by decide +kernel)).mono ?_
  rintro e w12 ⟨rfl, j12⟩
  have k12 : Kept w11 w12 := ((Kept.refl _).alloc _).trans j12
  have K12 : Kept w w12 := K11.trans k12
  replace s1 := s1.kept k12
  replace s2 := s2.kept k12
  replace s3 := s3.kept k12
  replace s4 := s4.kept k12
  replace s5 := s5.kept k12
  replace s6 := s6.kept k12
  clear j12 k12
  go_wp2_with fail
  refine (pUnit_c 2 _ 2 _ (by decide) q7 rfl).mono ?_
  rintro e w13 ⟨a13, c13, rfl, s13, j13⟩
  have k13 : Kept w12 w13 := j13
  have K13 : Kept w w13 := K12.trans k13
  replace s1 := s1.kept k13
  replace s2 := s2.kept k13
  replace s3 := s3.kept k13
  replace s4 := s4.kept k13
  replace s5 := s5.kept k13
  replace s6 := s6.kept k13
  clear j13 k13
  go_wp2_with fail
  go_ret
  exact ⟨rfl, K13⟩
/-- More of a matrix than is looked at. -/
def heavyB (ss : List ByteArray) : Bool := decide (80 < ss.length) || (ss.any fun s => decide (80 < s.size)) || (decide (16 < ss.length) && decide (16 < (nth ss 0).size))
theorem heavy_no (ss : List ByteArray) (h : heavyB ss = false) : ss.length ≤ 80 ∧ ∀ s ∈ ss, s.size ≤ 80 := by
  unfold heavyB at h
  simp only [Bool.or_eq_false_iff, decide_eq_false_iff_not, List.any_eq_false, decide_eq_true_eq] at h
  exact ⟨by omega, fun s hs => by have := h.1.2 s hs; omega⟩
theorem heavy_len (ss : List ByteArray) (h : 80 < ss.length) : heavyB ss = true := by unfold heavyB; simp [h]
theorem heavy_one (ss : List ByteArray) (k : Nat) (hk : k < ss.length) (h : 80 < (nth ss k).size) : heavyB ss = true := by
  have h2 : (ss.any fun s => decide (80 < s.size)) = true := by
    rw [List.any_eq_true]
    exact ⟨_, List.getElem_mem hk, by rw [nth_get ss k hk]; simpa using h⟩
  unfold heavyB
  rw [h2]
  simp
theorem heavy_all (ss : List ByteArray) (h : ss.length ≤ 80) (hz : ∀ j, j < ss.length → (nth ss j).size ≤ 80) : heavyB ss = (decide (16 < ss.length) && decide (16 < (nth ss 0).size)) := by
  have h2 : (ss.any fun s => decide (80 < s.size)) = false := by
    rw [List.any_eq_false]
    intro s hs
    obtain ⟨i, hi, rfl⟩ := List.getElem_of_mem hs
    rw [nth_get ss i hi]
    have := hz i hi
    simp
    omega
  unfold heavyB
  rw [h2, decide_eq_false (by omega)]
  rfl
set_option maxRecDepth 100000 in
theorem heavy_any (a : Option Addr) (cap : Nat) (ss : List ByteArray) (w : World) (hS : Strs w a ss) (hm : ss.length ≤ maxLen) (hz : ∀ s ∈ ss, s.size ≤ maxLen) :
    Calls Try.prog 8 #[.slice a ss.length cap] w fun e w' => e = .returned (.bool (heavyB ss)) ∧ Kept w w' := by
  obtain ⟨b, o, hc⟩ := strs_at hS
  have HC := Lib.hid hc
  have HZ : Hid (∀ i, i < ss.length → (nth ss i).size ≤ maxLen) := fun i hi => hz _ (by rw [← nth_get ss i hi]; exact List.getElem_mem hi)
  clear hc hS hz
  unfold maxLen at hm
  rcases Nat.lt_or_ge 80 ss.length with h | h
  · have HE := Lib.hid (heavy_len ss h)
    go_enter Try.func8, Try.ntmps8
    go_wp2_with fail
    go_ret
    exact ⟨by rw [HE.out]; rfl, Kept.refl _⟩
  · go_enter Try.func8, Try.ntmps8
    go_wp2_with fail
    go_loop [3] (fun i => ∃ k : Nat, k ≤ ss.length ∧ i = .int .i64 k ∧ Hid (∀ j, j < k → (nth ss j).size ≤ 80)) (fun i => ss.length - (intOf i).toNat)
    case atStart => exact ⟨0, Nat.zero_le _, rfl, fun j hj => by omega⟩
    case round =>
      obtain ⟨k, hk, rfl, HY⟩ := hrel
      by_cases hlt : k < ss.length
      · obtain ⟨ha, hc⟩ := HC.out (by omega)
        have hck := hc k hlt
        have hzk := HZ.out k hlt
        have HLO := Lib.hid (heavy_one ss k hlt)
        have HN : Hid ((nth ss k).size ≤ 80 → ∀ j, j < k + 1 → (nth ss j).size ≤ 80) := fun h j hj => by
          by_cases e : j = k
          · subst e; exact h
          · exact HY.out j (by omega)
        rw [ha]
        clear hc ha
        generalize nth ss k = p at *
        unfold maxLen at hzk
        rcases Nat.lt_or_ge 80 p.size with hp | hp
        · have HL2 := Lib.hid (HLO.out hp)
          clear HN HLO
          go_wp2_with fail
          go_ret
          exact ⟨by rw [HL2.out]; rfl, Kept.refl _⟩
        · have HN2 := Lib.hid (HN.out hp)
          clear HN HLO
          go_wp2_with fail
          exact ⟨⟨k + 1, by omega, by go_num, HN2.out⟩, by simp [intOf]; omega⟩
      · obtain rfl : k = ss.length := by omega
        have HL2 := Lib.hid (heavy_all ss h HY.out)
        rcases Nat.lt_or_ge 16 ss.length with h16 | h16
        · obtain ⟨ha, hc⟩ := HC.out (by omega)
          have hc0 := hc 0 (by omega)
          have hz0 := HZ.out 0 (by omega)
          rw [Nat.add_zero] at hc0
          rw [ha]
          clear hc ha HC HZ HY
          generalize nth ss 0 = p at *
          unfold maxLen at hz0
          rcases Nat.lt_or_ge 16 p.size with hp | hp
          · have HE : Hid (heavyB ss = true) := by show _ = _; rw [HL2.out, decide_eq_true h16, decide_eq_true hp]; rfl
            go_wp2_with fail
            go_ret
            exact ⟨by rw [HE.out]; first | (simp; done) | (simp; omega), Kept.refl _⟩
          · have HE : Hid (heavyB ss = false) := by show _ = _; rw [HL2.out, decide_eq_false (show ¬ 16 < p.size by omega)]; simp
            go_wp2_with fail
            go_ret
            exact ⟨by rw [HE.out]; first | (simp; done) | (simp; omega), Kept.refl _⟩
        · have HE : Hid (heavyB ss = false) := by show _ = _; rw [HL2.out, decide_eq_false (show ¬ 16 < ss.length by omega)]; rfl
          clear HC HZ HY
          go_wp2_with fail
          go_ret
          exact ⟨by rw [HE.out]; first | (simp; done) | (simp; omega), Kept.refl _⟩
end Go.Proofs.Ytlmoeaphikdjnaa
