/- ShardSeq, StillIn, ShardWrite. -/
import Derived.Test.YtdpkmonlkdegjaaGreatDoorPart29
import Derived.RangeFuncNested
import Derived.RangeFuncBound
import Derived.RangeFuncCalls
import Derived.RangeFuncLeaves
import Derived.Shelf.Abstract
import Derived.Shelf.RegionOpen
import Derived.WalkKit
import Derived.OwnWalkIn
import Derived.TacticsInMore
import Derived.LoopNIn
import Derived.LoopIn
import Derived.StillTail
import Derived.OrdersIn
import Derived.TacticsIn
import Derived.StillTailTactics
import Derived.Deep.RegionHeld3
/- The program's shard: its sectors, told by an iterator. -/
namespace Go.Proofs.YtdpkmonlkdegjaaGreatDoor
open Go.RowKit Go.Shelf Sm Wr _root_.Go.Proofs.YtdpkmonlkdegjaaGreatDoor.Nm
attribute [local go_sem] Oper.semAt_some
set_option linter.unusedVariables false
set_option maxRecDepth 100000 in
theorem shSectors_any (a n : Int) (w : World) :
    Calls Tryz.prog 27 #[.int .i64 a, .int .i64 n] w fun e w' => e = .returned (.func (.func 59) #[] #[.pointer (some ⟨w.heap.size + 1, 0, none⟩), .pointer (some ⟨w.heap.size, 0, none⟩)]) ∧
      w' = (w.alloc (.cells #[.int .i64 a] 3)).alloc (.cells #[.int .i64 n] 3) := by
  go_enter Tryz.func27, Tryz.ntmps27
  go_wp2_with fail
  go_ret
  exact ⟨rfl, rfl⟩
/-- What a round of the loop is told. -/
def secV (a : Int) (n : Nat) (i : Nat) : Array Value := #[.int .i64 (wrap64 (wrap64 (a + 1) + (i : Int))), .agg #[.int .i64 ((i : Int) * 64), .int .i64 (min ((i : Int) * 64 + 64) (n : Int))]]
/-- The number of a sector that a text of n bytes takes. -/
abbrev Sec (n : Nat) := { i : Nat // i < nsec n }
set_option maxHeartbeats 1000000 in
set_option maxRecDepth 100000 in
theorem sectors_stops (N : Nat) (hN : 1 ≤ N) (ba bs : Nat) (a : Int) (n : Nat) (hn : n ≤ 1000000) (Kp : World → World → Prop)
    (hKp : ∀ A B, Kp A B → A.cell? ⟨ba, 0, none⟩ = some (.int .i64 a) → A.cell? ⟨bs, 0, none⟩ = some (.int .i64 (n : Nat)) → B.cell? ⟨ba, 0, none⟩ = some (.int .i64 a) ∧ B.cell? ⟨bs, 0, none⟩ = some (.int .i64 (n : Nat)))
    (w : World) (ha : w.cell? ⟨ba, 0, none⟩ = some (.int .i64 a)) (hs : w.cell? ⟨bs, 0, none⟩ = some (.int .i64 (n : Nat))) :
    SeqStopsK Fence.wide N Tryz.prog 59 #[.pointer (some ⟨bs, 0, none⟩), .pointer (some ⟨ba, 0, none⟩)] (fun i : Sec n => secV a n i.1) Kp (fun xs => xs.map Subtype.val = List.range (nsec n)) (fun pre => ∃ q, q ≤ nsec n ∧ pre.map Subtype.val = List.range q) (nsec n) w := fun l J Jx W hW hJ hJx hY h0 => by
  have ha1 : W.cell? ⟨ba, 0, none⟩ = some (.int .i64 a) := by rw [Below.cell hW (p := ⟨ba, 0, none⟩) (block_lt_of_cell ha)]; exact ha
  have hs1 : W.cell? ⟨bs, 0, none⟩ = some (.int .i64 (n : Nat)) := by rw [Below.cell hW (p := ⟨bs, 0, none⟩) (block_lt_of_cell hs)]; exact hs
  refine callsIn_of_wp Tryz.func59 rfl trivial ?_ rfl
  simp only [Tryz.ntmps59, List.size_toArray, List.length_cons, List.length_nil, Nat.reduceAdd, Nat.reduceSub, Array.replicate_succ, Array.replicate_zero, List.push_toArray, List.append_toArray, List.nil_append, List.cons_append]
  gi_wp2
  gi_loopw [4] (fun v wr => ∃ k : Nat, k ≤ nsec n ∧ v = .int .i64 ((k * 64 : Nat) : Int) ∧ (∃ pre : List (Sec n), pre.map Subtype.val = List.range k ∧ J pre wr) ∧ wr.cell? ⟨ba, 0, none⟩ = some (.int .i64 a) ∧ wr.cell? ⟨bs, 0, none⟩ = some (.int .i64 (n : Nat))) (fun v _ => nsec n * 64 - (intOf v).toNat)
  case atStart => exact ⟨0, Nat.zero_le _, rfl, ⟨[], rfl, h0⟩, ha1, hs1⟩
  case round =>
    obtain ⟨k, hk, rfl, ⟨pre, hpre, hJs⟩, hca, hcs⟩ := hrel
    have hpl : pre.length = k := by have := congrArg List.length hpre; simpa using this
    by_cases hlt : k * 64 < n
    · have hb : decide (((k * 64 : Nat) : Int) < (n : Int)) = true := decide_eq_true (by omega)
      have hkn : k < nsec n := by unfold nsec; omega
      obtain ⟨fn, tmps, assign, body, hy, hR⟩ := hY pre ⟨k, hkn⟩ wr hJs (by rw [hpl]; exact hkn)
      unfold secV at hy
      dsimp only at hy
      have hpre2 : (pre ++ [(⟨k, hkn⟩ : Sec n)]).map Subtype.val = List.range (k + 1) := by rw [List.map_append, hpre, List.range_succ]; rfl
      gi_wp2
      refine hR.mono ?_
      rintro e W3 (⟨rfl, hJ3, hk3⟩ | ⟨rfl, hJx3⟩)
      · obtain ⟨hca3, hcs3⟩ := hKp _ _ hk3 hca hcs
        gi_wp2
        refine ⟨⟨k + 1, hkn, by congr 1; omega, ⟨_, hpre2, hJ3⟩, hca3, hcs3⟩, ?_⟩
        simp [intOf]
        omega
      · gi_wp2
        refine bodyPost_ret (results_none rfl _ _ _) rfl ?_
        exact ⟨⟨_, rfl⟩, .inr ⟨_, ⟨k + 1, hkn, hpre2⟩, hJx3⟩⟩
    · have hb : decide (((k * 64 : Nat) : Int) < (n : Int)) = false := decide_eq_false (by omega)
      have hkn : k = nsec n := by unfold nsec at *; omega
      gi_wp2
      go_end0
      exact ⟨⟨_, rfl⟩, .inl ⟨pre, by rw [hpre, hkn], hJs⟩⟩
/-- What lay below n is as it was, the blocks from lo on below hi aside. -/
structure OnlyB (n lo hi : Nat) (w w' : World) : Prop where
  os : w'.os = w.os
  tape : w'.tape = w.tape
  output : w'.output = w.output
  size : w.heap.size ≤ w'.heap.size
  block : ∀ k, k < n → (k < lo ∨ hi ≤ k) → w'.heap[k]? = w.heap[k]?
theorem OnlyB.refl (n lo hi : Nat) (w : World) : OnlyB n lo hi w w := ⟨rfl, rfl, rfl, Nat.le_refl _, fun _ _ _ => rfl⟩
theorem OnlyB.trans {n lo hi : Nat} {u v w : World} (h : OnlyB n lo hi u v) (k : OnlyB n lo hi v w) : OnlyB n lo hi u w :=
  ⟨k.os.trans h.os, k.tape.trans h.tape, k.output.trans h.output, Nat.le_trans h.size k.size, fun i hi hb => (k.block i hi hb).trans (h.block i hi hb)⟩
theorem Only.b {n lo hi : Nat} {u v : World} (h : Only lo hi u v) (hn : n ≤ u.heap.size) : OnlyB n lo hi u v := ⟨h.os, h.tape, h.output, h.size, fun k hk hb => h.block k (by omega) hb⟩
theorem OnlyB.only {lo hi : Nat} {u v : World} (h : OnlyB u.heap.size lo hi u v) : Only lo hi u v := ⟨h.os, h.tape, h.output, h.size, h.block⟩
theorem OnlyB.grown {n lo hi : Nat} {u v v' : World} {row : Option Nat} (h : OnlyB n lo hi u v) (hg : v.grownBy v' row) (hr : ∀ r, row = some r → n ≤ r) (hn : n ≤ v.heap.size) : OnlyB n lo hi u v' :=
  h.trans ⟨hg.os, hg.tape, hg.output, hg.size, fun k hk _ => hg.block k (by omega) (fun e => by have := hr k e.symm; omega)⟩
theorem ownFrom_onlyB {β : Type} {n B lo hi : Nat} {u : World} (hn : n ≤ u.heap.size) (hB : n ≤ B) : OwnFrom B (fun (_ : β) W => OnlyB n lo hi u W) :=
  fun _ _ _ _ hs hg hr => hs.grown hg (fun r e => Nat.le_trans hB (hr r e).1) (Nat.le_trans hn hs.size)
theorem onlyB_putObj {n lo hi : Nat} {w : World} (hn : n ≤ w.heap.size) (W : World) (l : Nat) (o o' : Obj) (hl : w.heap.size ≤ l) (h : W.heap[l]? = some o) : OnlyB n lo hi W (W.putObj l o') :=
  (OnlyB.refl n lo hi W).grown (grownBy_putObj' W l o') (fun r e => by cases e; omega) (by have := (Array.getElem?_eq_some_iff.1 h).1; omega)
theorem RackAt.own {g B : Nat} {s : RSt} (hB : g + 2 + s.n ≤ B) : OwnFrom B (fun (_ : Unit) W => RackAt g s W) :=
  fun _ A A' row hs hg hr => hs.frame fun k h1 h2 => hg.block k (by have := hs.lt; omega) (fun e => by have := (hr k e.symm).1; omega)
theorem Only.grown {lo hi : Nat} {u v v' : World} {row : Option Nat} (h : Only lo hi u v) (hg : v.grownBy v' row) (hr : ∀ r, row = some r → u.heap.size ≤ r) : Only lo hi u v' :=
  ⟨hg.os.trans h.os, hg.tape.trans h.tape, hg.output.trans h.output, Nat.le_trans h.size hg.size, fun k hk hb => (hg.block k (Nat.lt_of_lt_of_le hk h.size) (fun e => by have := hr k e.symm; omega)).trans (h.block k hk hb)⟩
theorem Only.above {lo hi : Nat} {u v : World} (h : Only lo hi u v) (a : Addr) (x : Value) (ha : u.heap.size ≤ a.block) : Only lo hi u (v.setCell a x) :=
  ⟨h.os, h.tape, h.output, by rw [World.size_setCell]; exact h.size, fun k hk hb => (Below.heap_setCell _ _ _ _ (by omega)).trans (h.block k hk hb)⟩
theorem Only.keepsFrom {lo hi B : Nat} {A A' : World} (h : Only lo hi A A') (hB : hi ≤ B) : KeepsFrom B A A' :=
  ⟨h.size, fun k o hk ho _ => by rw [h.block k (Array.getElem?_eq_some_iff.1 ho).1 (.inr (by omega))]; exact ho⟩
end Go.Proofs.YtdpkmonlkdegjaaGreatDoor

/- A region that draws its order, in a round of a range over a function: whatever stands ahead of a forced tail only looks. Plain: no program. -/
namespace Go.Proofs.YtdpkmonlkdegjaaGreatDoor
open Go
set_option linter.unusedVariables false
def noDeferB (ops : List Oper) : Bool := ops.all fun o => match o.op with | .defer _ => false | _ => true
theorem noDefer_of {ops : List Oper} (h : noDeferB ops = true) {o : Oper} (ho : o ∈ ops) : ∀ c, o.op ≠ .defer c := by
  intro c e
  have := List.all_eq_true.1 h o ho
  rw [e] at this
  cases this
section
variable {P : Program} {n : Nat} {l : Nat} {ops : Array Oper}
theorem wpIn_of_still {o : Oper} {a : Act} {w : World} {K : Act → Prop} {K' : Act → World → Prop} {Q : Exit → Act → World → Prop} (hd : ∀ c, o.op ≠ .defer c) (h : ∀ a, K a → K' a w) (hh : o.still P a w K) : o.wpIn (Fence.wide.inRound l) n P a w K' Q := by
  refine ⟨fun _ _ => trivial, ?_⟩
  rw [show (Fence.wide.inRound l).round = some l from rfl, Oper.semAt_some l _ o hd]
  unfold Oper.still at hh
  generalize (execOp a.eval o).run P w = r at *
  cases r with
  | ok x w' =>
    cases x <;> simp only [Oper.stillUpon] at hh
    case value v => obtain ⟨rfl, hk⟩ := hh; exact h _ hk
    case skip => obtain ⟨rfl, hk⟩ := hh; exact h _ hk
    case enter f args =>
      obtain ⟨rfl, v, hc, hk⟩ := hh
      rw [Oper.uponIn_enter]
      refine ⟨(fun hs => nomatch hs), (CallsIn.inRound l (callsIn_wide.2 hc)).mono ?_⟩
      rintro e w2 ⟨rfl, rfl⟩
      exact h _ hk
  | halt x w' => simp only [Oper.stillUpon] at hh
theorem wpOpIn_of_stOp {i : Nat} {a : Act} {w : World} {K : Act → Prop} {K' : Act → World → Prop} {Q : Exit → Act → World → Prop} (hd : ∀ o, ops[i]? = some o → ∀ c, o.op ≠ .defer c) (h : ∀ a, K a → K' a w) (hh : stOp P ops w i K a) : wpOpIn (Fence.wide.inRound l) n P ops Q i K' a w := by
  unfold stOp at hh
  unfold wpOpIn
  cases hi : ops[i]? with
  | none => rw [hi] at hh; exact h _ hh
  | some o =>
    rw [hi] at hh
    dsimp only at hh ⊢
    split
    · rename_i hw; rw [if_pos hw] at hh; exact wpIn_of_still (hd o hi) h hh
    · rename_i hw; rw [if_neg hw] at hh; exact ⟨fun _ _ => trivial, h _ hh⟩
theorem wpAnyIn_of_head {md : Region.Mode} {w : World} {k g : Nat} {L : Array Bool → Act → Prop} {Q' : Exit → Act → World → Prop} (hd : ∀ (i : Nat) (o : Oper), ops[i]? = some o → ∀ c, o.op ≠ .defer c) (hL : ∀ listed a, L listed a → wpAnyIn (Fence.wide.inRound l) n P md ops Q' g listed a w) :
    ∀ (f : Nat) (listed : Array Bool) (a : Act), wpAnyL P md ops w k L f listed a → wpAnyIn (Fence.wide.inRound l) n P md ops Q' (f + g) listed a w
  | 0, listed, a, h => by rw [Nat.zero_add]; exact hL _ _ h
  | f + 1, listed, a, h => by
    rw [show f + 1 + g = (f + g) + 1 by omega]
    exact ⟨fun h0 => absurd h0 h.1, fun i hi => wpOpIn_of_stOp (hd i) (fun a' h' => wpAnyIn_of_head hd hL f _ a' h') (h.2 i hi).2⟩
theorem wpAnyIn_of_seq {md : Region.Mode} {Q' : Exit → Act → World → Prop} : ∀ (r : List Oper) (k : Nat) (listed : Array Bool) (a : Act) (w : World), (∀ j, r[j]? = ops[k + j]?) →
    Region.seqB md ops r.length k listed = true → wpListIn (Fence.wide.inRound l) n P ops Q' r a w → wpAnyIn (Fence.wide.inRound l) n P md ops Q' r.length listed a w
  | [], _, _, _, _, _, hB, h => ⟨by simpa [Region.seqB] using hB, h⟩
  | o :: r, k, listed, a, w, hl, hB, h => by
    have h0 : ops[k]? = some o := by simpa using (hl 0).symm
    simp only [List.length_cons, Region.seqB, Bool.and_eq_true, decide_eq_true_eq] at hB
    refine ⟨fun h1 => (by rw [hB.1] at h1; cases h1), fun i hi => ?_⟩
    rw [hB.1] at hi
    have hik : i = k := by simpa using hi
    subst hik
    have hw : wpOpIn (Fence.wide.inRound l) n P ops Q' i (wpListIn (Fence.wide.inRound l) n P ops Q' r) a w := by
      unfold wpOpIn; simp only [h0]
      exact h
    exact wpOpIn_mono (fun a' w' h' => wpAnyIn_of_seq r (i + 1) _ a' w' (fun j => by have := hl (j + 1); simpa [Nat.add_assoc, Nat.add_comm 1 j] using this) hB.2 h') hw
/-- A region that draws: its first k operations only look, in one world; the others stand in one order. -/
theorem wpIn_region_still_tail {id : Nat} {Q : Exit → Act → World → Prop} {a : Act} {w : World} {r : List Oper} (k : Nat) (hm : P.follows .mixedOrders = true) (hB : Region.lexTailB .any r.toArray k = true) (hD : noDeferB r = true)
    (h : wpStill P r.toArray w.drew (fun a' => wpListIn (Fence.wide.inRound l) n P r.toArray Q (r.drop k) a' w.drew) (r.take k) a) : (Code.region id r.toArray true).wpIn (Fence.wide.inRound l) n P Q a w := by
  simp only [Region.lexTailB, Bool.and_eq_true, decide_eq_true_eq] at hB
  obtain ⟨⟨⟨⟨hsel, hn⟩, hs⟩, hc⟩, hlex⟩ := hB
  have hn' : k < r.length := by simpa using hn
  have htl : (r.take k).length = k := by simp; omega
  have hdl : (r.drop k).length = r.toArray.size - k := by simp
  have inv0 : HeadInv .any r.toArray k (Array.replicate r.toArray.size false) :=
    ⟨by simp, fun j oj _ hl => (by rw [getD_replicate_false] at hl; cases hl), fun t _ ht => getD_in (by simpa using ht) (getD_replicate_false _ _)⟩
  have H := wpAnyL_lex (md := .any) (g := r.toArray.size - k) hsel hs hc hn (r.take k) 0 _ a (fun j hj => by
    have hj' : j < k := by rw [htl] at hj; exact hj
    simp [hj']) (by simpa using htl) inv0 (by rw [htl]; exact hlex) h
  refine wpIn_region_any hm ?_
  have := wpAnyIn_of_head (l := l) (n := n) (Q' := Q) (g := r.toArray.size - k) (fun i o hi => noDefer_of hD (by have := Array.mem_of_getElem? hi; simpa using this)) (fun listed a' hL => by
    have := wpAnyIn_of_seq (md := .any) (l := l) (n := n) (Q' := Q) (r.drop k) k listed a' w.drew (fun j => by simp [List.getElem?_drop]) (by rw [hdl]; exact hL.1) hL.2
    rwa [hdl] at this) _ _ _ H
  rw [htl, show k + (r.toArray.size - k) = r.toArray.size by omega] at this
  exact this
end
end Go.Proofs.YtdpkmonlkdegjaaGreatDoor

/- The program's shard: Write. -/
namespace Go.Proofs.YtdpkmonlkdegjaaGreatDoor
open Go.RowKit Go.Shelf Sm Wr _root_.Go.Proofs.YtdpkmonlkdegjaaGreatDoor.Nm
attribute [local go_sem] Oper.semAt_some
set_option linter.unusedVariables false
theorem uOf_nat (i : Int) (h0 : 0 ≤ i) (h1 : i ≤ 9223372036854775807) : uOf i = i.toNat := by
  unfold uOf
  rw [IntWalk.u64_in _ (by omega)]
theorem mayN_may (x : Shd) (h : x.Wf) : mayN x.st (uOf x.ix) (uOf x.tt) x.t.size = x.may := by
  have h1 := h.ix1
  have h2 := h.ix2
  have h3 := h.tt1
  have h4 := h.tt2
  have e1 := uOf_wrap x.ix
  have e2 := uOf_wrap x.tt
  rw [IntKind.wrap_u64] at e1 e2
  unfold mayN Shd.may
  rw [Bool.eq_iff_iff]
  simp only [Bool.and_eq_true, decide_eq_true_eq]
  omega
/-- What a call of Write lays first: the rack, the drive, the shard, the answer. -/
def wLaid (w : World) (p : Option Addr) (d : Int) (x : Shd) : World :=
  (((w.alloc (.cells #[.pointer p] 25)).alloc (.cells #[.int .i64 d] 3)).alloc (.cells #[.int .u64 (x.st : Nat), .int .i64 x.ix, .int .i64 x.tt, .string x.t] 34)).alloc (.cells #[.int .i64 0] 26)
structure WLaid (W : World) (b : Nat) (p : Option Addr) (d : Int) (x : Shd) (e : Int) : Prop where
  c4 : W.cell? ⟨b, 0, none⟩ = some (.pointer p)
  c5 : W.cell? ⟨b + 1, 0, none⟩ = some (.int .i64 d)
  c70 : W.cell? ⟨b + 1 + 1, 0, none⟩ = some (.int .u64 (x.st : Nat))
  c71 : W.cell? ⟨b + 1 + 1, 1, none⟩ = some (.int .i64 x.ix)
  c72 : W.cell? ⟨b + 1 + 1, 2, none⟩ = some (.int .i64 x.tt)
  c73 : W.cell? ⟨b + 1 + 1, 3, none⟩ = some (.string x.t)
  c8 : W.cell? ⟨b + 1 + 1 + 1, 0, none⟩ = some (.int .i64 e)
  f8 : W.frozen? ⟨b + 1 + 1 + 1, 0, none⟩ = false
theorem WLaid.lt {W : World} {b : Nat} {p : Option Addr} {d : Int} {x : Shd} {e : Int} (h : WLaid W b p d x e) : b + 4 ≤ W.heap.size := by
  have := block_lt_of_cell h.c8
  simp at this; omega
theorem WLaid.frame {W W' : World} {b : Nat} {p : Option Addr} {d : Int} {x : Shd} {e : Int} (h : WLaid W b p d x e) (k : ∀ i, b ≤ i → i < b + 4 → W'.heap[i]? = W.heap[i]?) : WLaid W' b p d x e := by
  have ce : ∀ i o, b ≤ i → i < b + 4 → W'.cell? ⟨i, o, none⟩ = W.cell? ⟨i, o, none⟩ := fun i o h1 h2 => World.cell?_of_block (w := W) (a := ⟨i, o, none⟩) (k i h1 h2)
  have fe : ∀ i o, b ≤ i → i < b + 4 → W'.frozen? ⟨i, o, none⟩ = W.frozen? ⟨i, o, none⟩ := fun i o h1 h2 => World.frozen?_of_block (w := W) (a := ⟨i, o, none⟩) (k i h1 h2)
  exact ⟨by rw [ce _ _ (by omega) (by omega)]; exact h.c4, by rw [ce _ _ (by omega) (by omega)]; exact h.c5, by rw [ce _ _ (by omega) (by omega)]; exact h.c70, by rw [ce _ _ (by omega) (by omega)]; exact h.c71, by rw [ce _ _ (by omega) (by omega)]; exact h.c72, by rw [ce _ _ (by omega) (by omega)]; exact h.c73, by rw [ce _ _ (by omega) (by omega)]; exact h.c8, by rw [fe _ _ (by omega) (by omega)]; exact h.f8⟩
theorem WLaid.kept {W W' : World} {b : Nat} {p : Option Addr} {d : Int} {x : Shd} {e : Int} (h : WLaid W b p d x e) (k : Kept W W') : WLaid W' b p d x e := h.frame fun i h1 h2 => k.block i (by have := h.lt; omega)
theorem WLaid.new (w : World) (p : Option Addr) (d : Int) (x : Shd) : WLaid (wLaid w p d x) w.heap.size p d x 0 := by
  unfold wLaid
  constructor
  · rw [World.cell?_alloc_lt _ _ _ (by first | (simp; done) | (simp; omega)), World.cell?_alloc_lt _ _ _ (by first | (simp; done) | (simp; omega)), World.cell?_alloc_lt _ _ _ (by simp), World.cell?_alloc_mark]; rfl
  · rw [World.cell?_alloc_lt _ _ _ (by first | (simp; done) | (simp; omega)), World.cell?_alloc_lt _ _ _ (by simp), show w.heap.size + 1 = (w.alloc (.cells #[.pointer p] 25)).heap.size by simp, World.cell?_alloc_mark]; rfl
  all_goals try (rw [World.cell?_alloc_lt _ _ _ (by simp), show w.heap.size + 1 + 1 = ((w.alloc (.cells #[.pointer p] 25)).alloc (.cells #[.int .i64 d] 3)).heap.size by simp, World.cell?_alloc_mark]; rfl)
  · rw [show w.heap.size + 1 + 1 + 1 = (((w.alloc (.cells #[.pointer p] 25)).alloc (.cells #[.int .i64 d] 3)).alloc (.cells #[.int .u64 (x.st : Nat), .int .i64 x.ix, .int .i64 x.tt, .string x.t] 34)).heap.size by simp, World.cell?_alloc_mark]; rfl
  · rw [show w.heap.size + 1 + 1 + 1 = (((w.alloc (.cells #[.pointer p] 25)).alloc (.cells #[.int .i64 d] 3)).alloc (.cells #[.int .u64 (x.st : Nat), .int .i64 x.ix, .int .i64 x.tt, .string x.t] 34)).heap.size by simp, World.frozen?_alloc_mark]; rfl
theorem wLaid_kept (w : World) (p : Option Addr) (d : Int) (x : Shd) : Kept w (wLaid w p d x) := ((((Kept.refl _).alloc _).alloc _).alloc _).alloc _
set_option maxHeartbeats 1000000 in
set_option maxRecDepth 100000 in
theorem shWrite_bad (p : Option Addr) (d a : Int) (x : Shd) (hx : x.Wf) (hs : x.t.size ≤ 9223372036854775807) (hm : x.may = false) (w : World) :
    Calls Tryz.prog 10 #[.pointer p, .int .i64 d, .int .i64 a, x.val] w fun r w' => r = .returned (.int .i64 2) ∧ Kept w w' := by
  have HN := Lib.hid (fun W => numbersOf_any x W hs)
  have HM := Lib.hid (fun W => may_any x.st (uOf x.ix) (uOf x.tt) x.t.size W)
  rw [mayN_may x hx, hm] at HM
  obtain ⟨st, ix, tt, t⟩ := x
  unfold Shd.val numsV at *
  dsimp only at *
  clear hx hs hm
  generalize uOf ix = ixu at *
  generalize uOf tt = ttu at *
  generalize t.size = n at *
  go_enter Tryz.func10, Tryz.ntmps10
  go_wp2_with fail
  have HW : Hid (WLaid (wLaid w p d ⟨st, ix, tt, t⟩) w.heap.size p d ⟨st, ix, tt, t⟩ 0) := WLaid.new w p d ⟨st, ix, tt, t⟩
  have HK : Hid (Kept w (wLaid w p d ⟨st, ix, tt, t⟩)) := wLaid_kept w p d _
  unfold wLaid at HW HK
  dsimp only at HW HK
  refine (HN.out _).mono ?_
  rintro e w1 ⟨rfl, hk⟩
  have HW1 := Lib.hid (HW.out.kept hk)
  have HK1 : Hid (Kept w w1) := HK.out.trans hk
  clear hk HN HW HK
  go_wp2_with fail
  have HK2 := Lib.hid ((Kept.refl w1).alloc (.cells #[.int .u64 (st : Nat), .int .u64 (ixu : Nat), .int .u64 (ttu : Nat), .int .u64 (n : Nat)] 72))
  refine (HM.out _).mono ?_
  rintro e w2 ⟨rfl, hk⟩
  have HK3 : Hid (Kept w w2) := (HK1.out.trans HK2.out).trans hk
  have h3 := HW1.out.kept (HK2.out.trans hk)
  have HW3 := Lib.hid h3
  have h8 := h3.c8
  have f8 := h3.f8
  clear hk HM HK1 HW1 HK2 h3
  go_wp2_with fail
  exact bodyPost_ret (v := .int .i64 2) (by simp [results, Tryz.results10, go_sem, h8]) rfl ⟨rfl, HK3.out.setCell (p := ⟨w.heap.size + 1 + 1 + 1, 0, none⟩) (by simp; omega) _⟩
/-- Between two rounds. -/
structure WLoop (g : Nat) (s : RSt) (d a : Int) (t : ByteArray) (wl : World) (l : List Nat) (W : World) : Prop where
  ok : (wL s d a t l).1 = 0
  r : RackAt g (wL s d a t l).2 W
  o : OnlyB wl.heap.size g (g + 2 + s.n) wl W
/-- A round has failed. -/
structure WStop (g : Nat) (s : RSt) (d a : Int) (t : ByteArray) (w : World) (l : List Nat) (W : World) : Prop where
  r : RackAt g (wL s d a t l).2 W
  o : Only g (g + 2 + s.n) w W
  c : W.cell? ⟨w.heap.size + 1 + 1 + 1, 0, none⟩ = some (.int .i64 ((wL s d a t l).1 : Nat))
def spanO (n : Nat) (x : Nat) : Obj := .cells #[.int .i64 ((x : Int) * 64), .int .i64 (min ((x : Int) * 64 + 64) (n : Int))] 78 (0, 0)
theorem frame_row {W W' : World} {row : Option Nat} {B k : Nat} (hg : W.grownBy W' row) (hr : ∀ r, row = some r → B ≤ r ∧ ∃ o : Obj, W.heap[r]? = some o ∧ o.isCells = false) (hk : k < W.heap.size) (hkB : k < B) : W'.heap[k]? = W.heap[k]? :=
  hg.block k hk (fun e => by have := (hr k e.symm).1; omega)
theorem WLoop.own {g : Nat} {s : RSt} {d a : Int} {t : ByteArray} {wl : World} (hB : g + 2 + s.n ≤ wl.heap.size) : OwnFrom wl.heap.size (fun l W => WLoop g s d a t wl l W) := fun l A A' row hs hg hr =>
  ⟨hs.ok, hs.r.frame fun k h1 h2 => frame_row hg hr (by have := hs.r.lt; omega) (by rw [(wL_n s d a t l).1] at h2; omega), hs.o.grown hg (fun r e => (hr r e).1) hs.o.size⟩
theorem WStop.own {g B : Nat} {s : RSt} {d a : Int} {t : ByteArray} {w : World} (hB : g + 2 + s.n ≤ B) (hw : w.heap.size + 4 ≤ B) : OwnFrom B (fun l W => WStop g s d a t w l W) := fun l A A' row hs hg hr =>
  ⟨hs.r.frame fun k h1 h2 => frame_row hg hr (by have := hs.r.lt; omega) (by rw [(wL_n s d a t l).1] at h2; omega),
   ⟨hg.os.trans hs.o.os, hg.tape.trans hs.o.tape, hg.output.trans hs.o.output, Nat.le_trans hs.o.size hg.size, fun k hk hb => (frame_row hg hr (Nat.lt_of_lt_of_le hk hs.o.size) (by omega)).trans (hs.o.block k hk hb)⟩,
   by rw [World.cell?_of_block (w := A) (a := ⟨w.heap.size + 1 + 1 + 1, 0, none⟩) (frame_row hg hr (block_lt_of_cell hs.c) (by simp; omega))]; exact hs.c⟩
set_option maxHeartbeats 2000000 in
set_option maxRecDepth 100000 in
theorem shWrite_ok (g : Nat) (s : RSt) (d a : Int) (hd1 : -9223372036854775808 ≤ d) (hd2 : d ≤ 9223372036854775807) (ha1 : -9223372036854775808 ≤ a) (ha2 : a ≤ 9223372036854775807) (x : Shd) (hx : x.Wf) (hm : x.may = true) (w : World) (hR : RackAt g s w) :
    Calls Tryz.prog 10 #[.pointer (some ⟨g + 1, 0, none⟩), .int .i64 d, .int .i64 a, x.val] w fun r w' => r = .returned (.int .i64 ((shW s d a x).1 : Nat)) ∧ RackAt g (shW s d a x).2 w' ∧ Only g (g + 2 + s.n) w w' := by
  obtain ⟨m1, m2, m3, m4, m5, m6, m7⟩ := Shd.may_iff hm
  have HN := Lib.hid (fun W => numbersOf_any x W (by omega))
  have HM := Lib.hid (fun W => may_any x.st (uOf x.ix) (uOf x.tt) x.t.size W)
  rw [mayN_may x hx, hm] at HM
  rw [uOf_nat x.ix (by omega) (by omega), uOf_nat x.tt (by omega) (by omega)] at HM HN
  have HSH : Hid (shW s d a x = if (wTo s d a x.t (nsec x.t.size)).1 = 0 then ((wTo s d a x.t (nsec x.t.size)).2.writeE d a (ofL x.head), (wTo s d a x.t (nsec x.t.size)).2.writeS d a (ofL x.head)) else wTo s d a x.t (nsec x.t.size)) := by
    show _ = _
    unfold shW
    rw [hm, if_neg (by decide)]
  have HHD : Hid (∀ W (q : ByteArray), q.size ≤ 4 → q.data.toList = b4 (crc x.t.data.toList) → Calls Tryz.prog 29 #[numsV x.st x.ix.toNat x.tt.toNat x.t.size, .string q] W fun e w' => e = .returned (.string (ofL x.head)) ∧ Kept W w') := fun W q hq hqe => by
    refine (head_any x.st x.ix.toNat x.tt.toNat x.t.size q W (by omega) (by omega) (by omega) (by omega) hq).mono ?_
    rintro e w' ⟨⟨r, rfl, hr⟩, hk⟩
    have he : r = ofL x.head := str_ext (by rw [hr.out, hqe]; rfl)
    rw [he]
    exact ⟨rfl, hk⟩
  have HRR := Lib.hid hR
  have HSZ : Hid (g + 2 + s.n ≤ w.heap.size) := hR.lt
  have HT : Hid (x.t.size ≤ 448) := m7
  have HHL := Lib.hid (Shd.head_length hm)
  obtain ⟨st, ix, tt, t⟩ := x
  unfold Shd.val numsV at *
  dsimp only at *
  clear hx hm m1 m2 m3 m4 m5 m6 m7 hR
  generalize ix.toNat = ixu at *
  generalize tt.toNat = ttu at *
  have HLD : Hid ((ofL (Shd.head ⟨st, ix, tt, t⟩)).size ≤ 9223372036854775807) := by show _ ≤ _; unfold ofL; rw [mk_len]; have := HHL.out; omega
  generalize Shd.head ⟨st, ix, tt, t⟩ = hd at *
  generalize hshw : shW s d a ⟨st, ix, tt, t⟩ = rs at *
  clear hshw
  generalize hn : t.size = n at *
  have hti : (t.size : Int) = n := by omega
  have HNN := Lib.hid hn
  clear hn
  refine (callsIn_wide (n := 6)).1 ?_
  refine callsIn_of_wp_marks Tryz.func10 rfl trivial ?_ rfl
  simp only [Tryz.ntmps10, List.size_toArray, List.length_cons, List.length_nil, Nat.reduceAdd, Nat.reduceSub, Array.replicate_succ, Array.replicate_zero, List.push_toArray, List.append_toArray, List.nil_append, List.cons_append]
  have HW : Hid (WLaid (wLaid w (some ⟨g + 1, 0, none⟩) d ⟨st, ix, tt, t⟩) w.heap.size (some ⟨g + 1, 0, none⟩) d ⟨st, ix, tt, t⟩ 0) := WLaid.new w _ d ⟨st, ix, tt, t⟩
  have HK : Hid (Kept w (wLaid w (some ⟨g + 1, 0, none⟩) d ⟨st, ix, tt, t⟩)) := wLaid_kept w _ d _
  unfold wLaid at HW HK
  dsimp only at HW HK
  gi_wp2_with (refine ⟨trivial, ?_⟩; gi_at_call 25; refine (callsIn_wide.2 (HN.out _)).mono ?_; clear HN; rintro e w1 ⟨rfl, hk⟩; have HW1 := Lib.hid (HW.out.kept hk); have HK1 : Hid (Kept w w1) := HK.out.trans hk; clear hk HW HK)
  have HK2 := Lib.hid (HK1.out.alloc (.cells #[.int .u64 (st : Nat), .int .u64 (ixu : Nat), .int .u64 (ttu : Nat), .int .u64 (n : Nat)] 72))
  have HW2 := Lib.hid (HW1.out.kept ((Kept.refl w1).alloc (.cells #[.int .u64 (st : Nat), .int .u64 (ixu : Nat), .int .u64 (ttu : Nat), .int .u64 (n : Nat)] 72)))
  have HN2 := Lib.hid (NumAt.laid w1 72 st ixu ttu n)
  have HB9 : Hid (w.heap.size + 4 ≤ w1.heap.size) := HW1.out.lt
  clear HW1 HK1
  generalize w1.alloc (.cells #[.int .u64 (st : Nat), .int .u64 (ixu : Nat), .int .u64 (ttu : Nat), .int .u64 (n : Nat)] 72) = w2 at *
  generalize w1.heap.size = b9 at *
  refine ⟨trivial, ?_⟩
  refine (callsIn_wide.2 (HM.out _)).mono ?_
  clear HM
  rintro e w3 ⟨rfl, hk⟩
  have HK3 : Hid (Kept w w3) := HK2.out.trans hk
  have hw3 := HW2.out.kept hk
  have HW3 := Lib.hid hw3
  have HN3 := Lib.hid (HN2.out.kept hk)
  have q3 := hw3.c73
  clear hk HK2 HW2 HN2 hw3
  gi_wp2
  refine ⟨trivial, ?_⟩
  refine (callsIn_wide.2 (shSectors_any a n w3)).mono ?_
  rintro e wl ⟨rfl, hwl⟩
  have hkl : Kept w3 wl := by rw [hwl]; exact ((Kept.refl _).alloc _).alloc _
  have HKL : Hid (Kept w wl) := HK3.out.trans hkl
  have HWL := Lib.hid (HW3.out.kept hkl)
  have HNL := Lib.hid (HN3.out.kept hkl)
  have HB3 : Hid (b9 < w3.heap.size) := HN3.out.lt
  have HCA : Hid (wl.cell? ⟨w3.heap.size, 0, none⟩ = some (.int .i64 a)) := by show _ = _; rw [hwl, World.cell?_alloc_lt _ _ _ (by simp), World.cell?_alloc_mark]; rfl
  have HCN : Hid (wl.cell? ⟨w3.heap.size + 1, 0, none⟩ = some (.int .i64 (n : Nat))) := by
    show _ = _
    rw [hwl, show w3.heap.size + 1 = (w3.alloc (.cells #[.int .i64 a] 3)).heap.size by simp, World.cell?_alloc_mark]; rfl
  have HLS : Hid (w3.heap.size + 2 ≤ wl.heap.size) := by show _ ≤ _; rw [hwl]; simp
  clear hwl hkl HK3 HW3 HN3 q3
  generalize w3.heap.size = bl at *
  have HRL := Lib.hid (HRR.out.kept HKL.out)
  have HBW : Hid (w.heap.size ≤ b9) := Nat.le_trans (Nat.le_add_right _ 4) HB9.out
  gi_wp2
  have HHI : Hid (g + 2 + s.n ≤ wl.heap.size) := Nat.le_trans HSZ.out (Nat.le_trans HKL.out.size (Nat.le_refl _))
  have HW4 : Hid (w.heap.size + 4 ≤ wl.heap.size) := HWL.out.lt
  have HBN : Hid (∀ k, w.heap.size ≤ k → (k < g ∨ g + 2 + s.n ≤ k)) := fun k hk => .inr (Nat.le_trans HSZ.out hk)
  have HCC : Hid (∀ b o W, w.heap.size ≤ b → b < wl.heap.size → OnlyB wl.heap.size g (g + 2 + s.n) wl W → W.cell? ⟨b, o, none⟩ = wl.cell? ⟨b, o, none⟩) := fun b o W h1 h2 h3 =>
    World.cell?_of_block (w := wl) (a := ⟨b, o, none⟩) (h3.block b h2 (HBN.out b h1))
  have HFF : Hid (∀ b o W, w.heap.size ≤ b → b < wl.heap.size → OnlyB wl.heap.size g (g + 2 + s.n) wl W → W.frozen? ⟨b, o, none⟩ = wl.frozen? ⟨b, o, none⟩) := fun b o W h1 h2 h3 =>
    World.frozen?_of_block (w := wl) (a := ⟨b, o, none⟩) (h3.block b h2 (HBN.out b h1))
  refine wpIn_rangeFunc_ownH rfl (by omega) (gf := 59) (lb := #[.pointer (some ⟨bl + 1, 0, none⟩), .pointer (some ⟨bl, 0, none⟩)]) rfl trivial (enters_of Tryz.func59 (by kernel_rfl) rfl)
    (sectors_stops _ (by omega) bl (bl + 1) a n (by have := HT.out; omega) (OnlyB wl.heap.size g (g + 2 + s.n))
      (fun A B h h1 h2 => ⟨by rw [World.cell?_of_block (w := A) (a := ⟨bl, 0, none⟩) (h.block bl (by have := HLS.out; omega) (HBN.out _ (by have := HB3.out; have := HBW.out; omega)))]; exact h1, by rw [World.cell?_of_block (w := A) (a := ⟨bl + 1, 0, none⟩) (h.block (bl + 1) (by have := HLS.out; omega) (HBN.out _ (by have := HB3.out; have := HBW.out; omega)))]; exact h2⟩)
      wl HCA.out HCN.out)
    (fun h k => OnlyB.trans h k) (fun W l o o' hl h _ _ => onlyB_putObj (Nat.le_refl _) W l o o' hl h) (Below.refl _ _) (fun _ => rfl)
    (fun pre W => WLoop g s d a t wl (pre.map Subtype.val) W)
    (fun c pre W => c = .ret ∧ (wL s d a t (pre.map Subtype.val)).1 ≠ 0 ∧ WStop g s d a t w (pre.map Subtype.val) W)
    (fun l A A' row hs hg hr => WLoop.own HHI.out _ A A' row hs hg hr)
    (fun c l A A' row hs hg hr => ⟨hs.1, hs.2.1, WStop.own HHI.out HW4.out _ A A' row hs.2.2 hg hr⟩)
    ⟨rfl, HRL.out, OnlyB.refl _ _ _ _⟩
    (fun x a' W => ∃ Bx, wl.heap.size ≤ Bx ∧ W.heap[Bx]? = some (spanO n x.1) ∧ a' = { tmps := #[.pointer (some ⟨g + 1, 0, none⟩), .int .i64 d, .int .i64 a, .agg #[.int .u64 (st : Nat), .int .i64 ix, .int .i64 tt, .string t], .pointer (some ⟨w.heap.size, 0, none⟩), .pointer (some ⟨w.heap.size + 1, 0, none⟩), undef, .pointer (some ⟨w.heap.size + 1 + 1, 0, none⟩), .pointer (some ⟨w.heap.size + 1 + 1 + 1, 0, none⟩), .pointer (some ⟨b9, 0, none⟩), .int .i64 (wrap64 (wrap64 (a + 1) + (x.1 : Int))), .pointer (some ⟨Bx, 0, none⟩), undef, .agg #[.int .u64 (st : Nat), .int .i64 ix, .int .i64 tt, .string t], .agg #[.int .u64 (st : Nat), .int .u64 (ixu : Nat), .int .u64 (ttu : Nat), .int .u64 (n : Nat)], .agg #[.int .u64 (st : Nat), .int .u64 (ixu : Nat), .int .u64 (ttu : Nat), .int .u64 (n : Nat)], .bool true, .bool false, .int .i64 a, .pointer (some ⟨w.heap.size + 1 + 1, 3, none⟩), .string t, .int .i64 (n : Nat), .func (.func 59) #[] #[.pointer (some ⟨bl + 1, 0, none⟩), .pointer (some ⟨bl, 0, none⟩)], .int .i64 (wrap64 (wrap64 (a + 1) + (x.1 : Int))), .agg #[.int .i64 ((x.1 : Int) * 64), .int .i64 (min ((x.1 : Int) * 64 + 64) (n : Int))], undef, undef, undef, undef, undef, undef, undef, undef, undef, undef, undef, undef, undef, undef, undef, undef, undef, undef, undef, undef, undef, undef, undef, undef, undef], defers := [] })
    (fun x a' => fun _ A A' row hs hg hr => by
      obtain ⟨Bx, h1, h2, h3⟩ := hs
      exact ⟨Bx, h1, by rw [hg.block Bx (Array.getElem?_eq_some_iff.1 h2).1 (fun e => by obtain ⟨_, o, ho, hc⟩ := hr Bx e.symm; rw [h2] at ho; injection ho with ho; subst ho; cases hc)]; exact h2, h3⟩)
    ?assign ?body ?done ?stop
  case assign =>
    rintro l pre x W K hi hK
    simp only [secV]
    gi_wp2
    have hka : Kept W (W.alloc (.cells #[.int .i64 ((x.1 : Int) * 64), .int .i64 (min ((x.1 : Int) * 64 + 64) (n : Int))] 78)) := (Kept.refl _).alloc _
    exact hK _ _ ((KeepsOthers.alloc _ _).from _) ((hka.only _ _).b hi.o.size) ⟨hi.ok, hi.r.kept hka, hi.o.trans ((hka.only _ _).b hi.o.size)⟩ ⟨W.heap.size, hi.o.size, heap_alloc_new W _, rfl⟩
  case body =>
    rintro l pre x a' W hl hrr hI ⟨Bx, hBx, hsp, rfl⟩ hlen
    have hwl := HWL.out
    have c4 : W.cell? ⟨w.heap.size, 0, none⟩ = some (.pointer (some ⟨g + 1, 0, none⟩)) := (HCC.out _ _ W (Nat.le_refl _) (by have := HW4.out; omega) hI.o).trans hwl.c4
    have c5 : W.cell? ⟨w.heap.size + 1, 0, none⟩ = some (.int .i64 d) := (HCC.out _ _ W (by omega) (by have := HW4.out; omega) hI.o).trans hwl.c5
    have c73 : W.cell? ⟨w.heap.size + 1 + 1, 3, none⟩ = some (.string t) := (HCC.out _ _ W (by omega) (by have := HW4.out; omega) hI.o).trans hwl.c73
    have c8 : W.cell? ⟨w.heap.size + 1 + 1 + 1, 0, none⟩ = some (.int .i64 0) := (HCC.out _ _ W (by omega) (by have := HW4.out; omega) hI.o).trans hwl.c8
    have f8 : W.frozen? ⟨w.heap.size + 1 + 1 + 1, 0, none⟩ = false := (HFF.out _ _ W (by omega) (by have := HW4.out; omega) hI.o).trans hwl.f8
    have p0 : W.cell? ⟨Bx, 0, none⟩ = some (.int .i64 ((x.1 : Int) * 64)) := by rw [World.cell?, hsp]; rfl
    have p1 : W.cell? ⟨Bx, 1, none⟩ = some (.int .i64 (min ((x.1 : Int) * 64 + 64) (n : Int))) := by rw [World.cell?, hsp]; rfl
    have hx := x.2
    have hx64 : x.1 * 64 < n := by unfold nsec at hx; omega
    have hmx : Tryz.prog.follows .mixedOrders = true := by kernel_rfl
    have hsl : ∀ W, (Instr.slice 9 (.string t) (some (.int .i64 ((x.1 : Int) * 64))) (some (.int .i64 (min ((x.1 : Int) * 64 + 64) (n : Int)))) none).run Tryz.prog W = .ok (.string (chunk t x.1)) W := fun W => by
      have hnn := HNN.out
      have h := run_slice_string (P := Tryz.prog) W 9 t .i64 .i64 ((x.1 : Int) * 64) (min ((x.1 : Int) * 64 + 64) (n : Int)) Tryz.underlying9 (by omega) (by omega) (by omega)
      rw [show (min ((x.1 : Int) * 64 + 64) (n : Int)).toNat = min t.size (x.1 * 64 + 64) from by omega, show ((x.1 : Int) * 64).toNat = x.1 * 64 from by omega] at h
      exact h
    have hsec := secAt_in a x.1
    have hss : wrap64 (wrap64 (a + 1) + (x.1 : Int)) = secAt a x.1 := rfl
    have HIW := Lib.hid hI
    have HCS := Lib.hid (chunk_size t x.1)
    obtain ⟨s1, hs1⟩ : ∃ s1, s1 = (wL s d a t (pre.map Subtype.val)).2 := ⟨_, rfl⟩
    have hsn : s1.n = s.n := by rw [hs1]; exact (wL_n s d a t _).1
    have HWR : Hid (∀ W', RackAt g s1 W' → Calls Tryz.prog 28 #[.pointer (some ⟨g + 1, 0, none⟩), .int .i64 d, .int .i64 (wrap64 (wrap64 (a + 1) + (x.1 : Int))), .string (chunk t x.1)] W' fun r w' => r = .returned (.int .i64 (s1.writeE d (secAt a x.1) (chunk t x.1) : Nat)) ∧ RackAt g (s1.writeS d (secAt a x.1) (chunk t x.1)) w' ∧ Only g (g + 2 + s.n) W' w') := fun W' h => by
      have := write_any g s1 d (secAt a x.1) hd1 hd2 hsec.1 hsec.2 (chunk t x.1) (by have := HCS.out; omega) W' h
      rw [hsn] at this
      exact this
    have HR1 : Hid (RackAt g s1 W) := by show RackAt _ _ _; rw [hs1]; exact hI.r
    have HNX : Hid (wL s d a t ((pre ++ [x]).map Subtype.val) = (s1.writeE d (secAt a x.1) (chunk t x.1), s1.writeS d (secAt a x.1) (chunk t x.1))) := by
      show _ = _
      rw [List.map_append, show ([x].map Subtype.val) = [x.1] from rfl, wL_snoc]
      unfold wStep
      rw [if_pos hI.ok, ← hs1]
    clear hsn hs1 hsec hss hx hlen hrr hI hwl
    generalize s1.writeS d (secAt a x.1) (chunk t x.1) = s2 at *
    generalize s1.writeE d (secAt a x.1) (chunk t x.1) = e2 at *
    generalize chunk t x.1 = ck at *
    gi_wp2
    refine wpIn_region_still_tail 10 hmx (by kernel_rfl) (by kernel_rfl) ?_
    simp only [List.take_succ_cons, List.take_zero, List.drop_succ_cons, List.drop_zero]
    have c4d : W.drew.cell? ⟨w.heap.size, 0, none⟩ = some (.pointer (some ⟨g + 1, 0, none⟩)) := c4
    have c5d : W.drew.cell? ⟨w.heap.size + 1, 0, none⟩ = some (.int .i64 d) := c5
    have c73d : W.drew.cell? ⟨w.heap.size + 1 + 1, 3, none⟩ = some (.string t) := c73
    have c8d : W.drew.cell? ⟨w.heap.size + 1 + 1 + 1, 0, none⟩ = some (.int .i64 0) := c8
    have f8d : W.drew.frozen? ⟨w.heap.size + 1 + 1 + 1, 0, none⟩ = false := f8
    have p0d : W.drew.cell? ⟨Bx, 0, none⟩ = some (.int .i64 ((x.1 : Int) * 64)) := p0
    have p1d : W.drew.cell? ⟨Bx, 1, none⟩ = some (.int .i64 (min ((x.1 : Int) * 64 + 64) (n : Int))) := p1
    have HRD : Hid (RackAt g s1 W.drew) := HR1.out.drewN 1
    have hK0 : Kept W W.drew := (Kept.refl W).drew
    clear c4 c5 c73 c8 f8 p0 p1 HR1 hsp
    generalize W.drew = Wd at *
    repeat still_step
    refine wpStill_nil ?_
    have HOW : Hid (OnlyB wl.heap.size g (g + 2 + s.n) wl W) := HIW.out.o
    have hBd : w.heap.size + 1 + 1 + 1 < Wd.heap.size := by have := block_lt_of_cell c8d; simpa using this
    clear hsl HCS hmx p0d p1d c4d c5d c73d
    by_cases he : e2 = 0
    · have hz : ((e2 : Int) != 0) = false := by rw [he]; rfl
      gi_wp2
      refine ⟨trivial, (CallsIn.inRound l (callsIn_wide.2 (HWR.out _ HRD.out))).mono ?_⟩
      rintro e wq ⟨rfl, hR2, hO2⟩
      have hoq : Only g (g + 2 + s.n) W wq := (hK0.only _ _).trans hO2
      have HF : Hid (KeepsFrom wl.heap.size W wq ∧ OnlyB wl.heap.size g (g + 2 + s.n) W wq ∧ WLoop g s d a t wl ((pre ++ [x]).map Subtype.val) wq) :=
        ⟨hoq.keepsFrom HHI.out, hoq.b HOW.out.size, ⟨by rw [HNX.out]; exact he, by rw [HNX.out]; exact hR2, HOW.out.trans (hoq.b HOW.out.size)⟩⟩
      clear hR2 hO2 hoq hK0 he
      gi_wp2
      exact HF.out
    · have hz : ((e2 : Int) != 0) = true := by simp; omega
      gi_wp2
      refine ⟨trivial, (CallsIn.inRound l (callsIn_wide.2 (HWR.out _ HRD.out))).mono ?_⟩
      rintro e wq ⟨rfl, hR2, hO2⟩
      have hoq : Only g (g + 2 + s.n) W wq := (hK0.only _ _).trans hO2
      have c8q : wq.cell? ⟨w.heap.size + 1 + 1 + 1, 0, none⟩ = some (.int .i64 0) := by rw [hO2.cell (p := ⟨w.heap.size + 1 + 1 + 1, 0, none⟩) hBd (HBN.out (w.heap.size + 1 + 1 + 1) (by omega))]; exact c8d
      have f8q : wq.frozen? ⟨w.heap.size + 1 + 1 + 1, 0, none⟩ = false := by rw [hO2.frozen (p := ⟨w.heap.size + 1 + 1 + 1, 0, none⟩) hBd (HBN.out (w.heap.size + 1 + 1 + 1) (by omega))]; exact f8d
      have HOWQ : Hid (Only g (g + 2 + s.n) w wq) := by
        have h1 : OnlyB wl.heap.size g (g + 2 + s.n) wl wq := HOW.out.trans (hoq.b HOW.out.size)
        exact (HKL.out.only _ _).trans ⟨h1.os, h1.tape, h1.output, h1.size, h1.block⟩
      have HF : Hid (KeepsFrom wl.heap.size W (wq.setCell ⟨w.heap.size + 1 + 1 + 1, 0, none⟩ (.int .i64 (e2 : Nat))) ∧ (wL s d a t ((pre ++ [x]).map Subtype.val)).1 ≠ 0 ∧ WStop g s d a t w ((pre ++ [x]).map Subtype.val) (wq.setCell ⟨w.heap.size + 1 + 1 + 1, 0, none⟩ (.int .i64 (e2 : Nat)))) := by
        refine ⟨(hoq.keepsFrom HHI.out).trans ((KeepsOthers.setCell _ _ _).from _), by rw [HNX.out]; exact he, ?_, ?_, ?_⟩
        · rw [HNX.out]
          refine hR2.frame fun k h1 h2 => Below.heap_setCell _ _ _ _ ?_
          have h3 : s2.n = s.n := by have h4 := (wL_n s d a t ((pre ++ [x]).map Subtype.val)).1; rw [HNX.out] at h4; exact h4
          have := HSZ.out
          dsimp only
          omega
        · exact ⟨HOWQ.out.os, HOWQ.out.tape, HOWQ.out.output, by rw [World.size_setCell]; exact HOWQ.out.size, fun k hk hb => (Below.heap_setCell _ _ _ _ (by dsimp only; omega)).trans (HOWQ.out.block k hk hb)⟩
        · rw [HNX.out]; exact World.cell?_setCell_same _ _ _ c8q
      clear hR2 hO2 hoq hK0 he
      gi_wp2
      exact ⟨HF.out.1, rfl, HF.out.2⟩
  case done =>
    rintro D ys W hD hys hI hK
    rw [hys] at hI
    have hR2 := hI.r
    have hok := hI.ok
    rw [wL_range] at hR2 hok
    have HSH2 := HSH.out
    rw [if_pos hok] at HSH2
    have hn2 := (wTo_n s d a t (nsec n)).1
    generalize wTo s d a t (nsec n) = wt at *
    obtain ⟨we, s2⟩ := wt
    dsimp only at hR2 hok HSH2 hn2
    have hwl := HWL.out
    have c4 : W.cell? ⟨w.heap.size, 0, none⟩ = some (.pointer (some ⟨g + 1, 0, none⟩)) := (HCC.out _ _ W (Nat.le_refl _) (by have := HW4.out; omega) hI.o).trans hwl.c4
    have c5 : W.cell? ⟨w.heap.size + 1, 0, none⟩ = some (.int .i64 d) := (HCC.out _ _ W (by omega) (by have := HW4.out; omega) hI.o).trans hwl.c5
    have c73 : W.cell? ⟨w.heap.size + 1 + 1, 3, none⟩ = some (.string t) := (HCC.out _ _ W (by omega) (by have := HW4.out; omega) hI.o).trans hwl.c73
    have c8 : W.cell? ⟨w.heap.size + 1 + 1 + 1, 0, none⟩ = some (.int .i64 0) := (HCC.out _ _ W (by omega) (by have := HW4.out; omega) hI.o).trans hwl.c8
    have f8 : W.frozen? ⟨w.heap.size + 1 + 1 + 1, 0, none⟩ = false := (HFF.out _ _ W (by omega) (by have := HW4.out; omega) hI.o).trans hwl.f8
    have hn9 := HNL.out
    have hlw : wl.heap.size ≤ W.heap.size := hI.o.size
    have c90 : W.cell? ⟨b9, 0, none⟩ = some (.int .u64 (st : Nat)) := (HCC.out _ _ W HBW.out hn9.lt hI.o).trans hn9.c0
    have c91 : W.cell? ⟨b9, 1, none⟩ = some (.int .u64 (ixu : Nat)) := (HCC.out _ _ W HBW.out hn9.lt hI.o).trans hn9.c1
    have c92 : W.cell? ⟨b9, 2, none⟩ = some (.int .u64 (ttu : Nat)) := (HCC.out _ _ W HBW.out hn9.lt hI.o).trans hn9.c2
    have c93 : W.cell? ⟨b9, 3, none⟩ = some (.int .u64 (n : Nat)) := (HCC.out _ _ W HBW.out hn9.lt hI.o).trans hn9.c3
    have HDK : Hid (W.heap[D]? = some (.deferred (some []))) := hK
    have HWO : Hid (Only g (g + 2 + s.n) w W) := (HKL.out.only _ _).trans ⟨hI.o.os, hI.o.tape, hI.o.output, hI.o.size, hI.o.block⟩
    have HRW : Hid (RackAt g s2 W) := hR2
    have HLW := Lib.hid hlw
    gi_wp2
    refine wpIn_wide.2 ?_
    have hWD : Kept W W.drew := (Kept.refl W).drew
    have HKD := Lib.hid hWD
    have HKEEP : Hid (∀ W', Kept W W' → W'.cell? ⟨w.heap.size, 0, none⟩ = some (.pointer (some ⟨g + 1, 0, none⟩)) ∧ W'.cell? ⟨w.heap.size + 1, 0, none⟩ = some (.int .i64 d) ∧ W'.cell? ⟨w.heap.size + 1 + 1, 3, none⟩ = some (.string t) ∧ W'.cell? ⟨b9, 0, none⟩ = some (.int .u64 (st : Nat)) ∧ W'.cell? ⟨b9, 1, none⟩ = some (.int .u64 (ixu : Nat)) ∧ W'.cell? ⟨b9, 2, none⟩ = some (.int .u64 (ttu : Nat)) ∧ W'.cell? ⟨b9, 3, none⟩ = some (.int .u64 (n : Nat))) := fun W' k =>
      ⟨cell_kept c4 k, cell_kept c5 k, cell_kept c73 k, cell_kept c90 k, cell_kept c91 k, cell_kept c92 k, cell_kept c93 k⟩
    have HC8 : Hid (W.cell? ⟨w.heap.size + 1 + 1 + 1, 0, none⟩ = some (.int .i64 0) ∧ W.frozen? ⟨w.heap.size + 1 + 1 + 1, 0, none⟩ = false) := ⟨c8, f8⟩
    obtain ⟨cr, hcr⟩ : ∃ cr, cr = crc t.data.toList := ⟨_, rfl⟩
    have hcrl : (cr : Int) ≤ 4294967295 := by have := crc_lt t.data.toList; omega
    have HOF : Hid (∀ W' T, Calls Tryz.prog 31 #[.slice (some ⟨W'.heap.size, 0, none⟩) 1 1] (W'.alloc (.cells #[.string t] T)) fun e w' => e = .returned (.int .u32 (cr : Nat)) ∧ Kept W' w') := fun W' T => by
      rw [hcr]; exact of_one t W' T (by have := HT.out; rw [HNN.out]; unfold maxLen; omega)
    obtain ⟨r4, hr4⟩ : ∃ r4 : ByteArray, r4 = ⟨(b4 cr).toArray⟩ := ⟨_, rfl⟩
    have HBY : Hid (∀ W', Calls Tryz.prog 30 #[.int .u32 (cr : Nat)] W' fun e w' => e = .returned (.string r4) ∧ Kept W' w') := fun W' => by
      rw [hr4]; exact bytes_any cr W' (by omega) hcrl
    have HHQ : Hid (∀ W', Calls Tryz.prog 29 #[.agg #[.int .u64 (st : Nat), .int .u64 (ixu : Nat), .int .u64 (ttu : Nat), .int .u64 (n : Nat)], .string r4] W' fun e w' => e = .returned (.string (ofL hd)) ∧ Kept W' w') := fun W' =>
      HHD.out W' r4 (by rw [hr4, mk_len]; exact Nat.le_of_eq rfl) (by rw [hr4, hcr])
    have HWQ : Hid (∀ W', Kept W W' → Calls Tryz.prog 28 #[.pointer (some ⟨g + 1, 0, none⟩), .int .i64 d, .int .i64 a, .string (ofL hd)] W' fun r w' => r = .returned (.int .i64 (s2.writeE d a (ofL hd) : Nat)) ∧ RackAt g (s2.writeS d a (ofL hd)) w' ∧ Only g (g + 2 + s.n) W' w') := fun W' k => by
      have h := write_any g s2 d a hd1 hd2 ha1 ha2 (ofL hd) HLD.out W' (HRW.out.kept k)
      rw [hn2] at h
      exact h
    have HN3 : Hid ((s2.writeS d a (ofL hd)).n = s.n) := (s2.wrS_n d a _).1.trans hn2
    clear hcr hr4 hwl hn9 hI hK c4 c5 c73 c8 f8 c90 c91 c92 c93 hR2 hlw hys hWD hn2
    obtain ⟨q4, q5, q7, q90, q91, q92, q93⟩ := HKEEP.out _ HKD.out
    have h8p : w.heap.size + 1 + 1 + 1 < W.heap.size := by have := block_lt_of_cell HC8.out.1; simpa using this
    have H8W : Hid (∀ W' W'', Kept W W' → Only g (g + 2 + s.n) W' W'' → W''.cell? ⟨w.heap.size + 1 + 1 + 1, 0, none⟩ = some (.int .i64 0) ∧ W''.frozen? ⟨w.heap.size + 1 + 1 + 1, 0, none⟩ = false) := fun W' W'' k o => by
      have hl : w.heap.size + 1 + 1 + 1 < W'.heap.size := Nat.lt_of_lt_of_le h8p k.size
      rw [o.cell (p := ⟨w.heap.size + 1 + 1 + 1, 0, none⟩) hl (HBN.out (w.heap.size + 1 + 1 + 1) (by omega)), o.frozen (p := ⟨w.heap.size + 1 + 1 + 1, 0, none⟩) hl (HBN.out (w.heap.size + 1 + 1 + 1) (by omega)), Below.cell k (p := ⟨w.heap.size + 1 + 1 + 1, 0, none⟩) h8p, Below.frozen k (p := ⟨w.heap.size + 1 + 1 + 1, 0, none⟩) h8p]
      exact HC8.out
    have HB9W : Hid (b9 < W.heap.size) := by have h := block_lt_of_cell (HKEEP.out W (Kept.refl W)).2.2.2.1; exact h
    have HKO : Hid (∀ W'' W' : World, Kept W W'' → Only g (g + 2 + s.n) W'' W' → W'.cell? ⟨w.heap.size, 0, none⟩ = some (.pointer (some ⟨g + 1, 0, none⟩)) ∧ W'.cell? ⟨w.heap.size + 1, 0, none⟩ = some (.int .i64 d) ∧ W'.cell? ⟨w.heap.size + 1 + 1, 3, none⟩ = some (.string t) ∧ W'.cell? ⟨b9, 0, none⟩ = some (.int .u64 (st : Nat)) ∧ W'.cell? ⟨b9, 1, none⟩ = some (.int .u64 (ixu : Nat)) ∧ W'.cell? ⟨b9, 2, none⟩ = some (.int .u64 (ttu : Nat)) ∧ W'.cell? ⟨b9, 3, none⟩ = some (.int .u64 (n : Nat))) := fun W'' W' k o => by
      obtain ⟨e4, e5, e7, e90, e91, e92, e93⟩ := HKEEP.out _ k
      have l8 : w.heap.size + 1 + 1 + 1 < W''.heap.size := Nat.lt_of_lt_of_le h8p k.size
      have l9 : b9 < W''.heap.size := Nat.lt_of_lt_of_le HB9W.out k.size
      have ce : ∀ b j, w.heap.size ≤ b → b < W''.heap.size → W'.cell? ⟨b, j, none⟩ = W''.cell? ⟨b, j, none⟩ := fun b j h1 h2 => o.cell (p := ⟨b, j, none⟩) h2 (HBN.out b h1)
      exact ⟨by rw [ce _ _ (by omega) (by omega)]; exact e4, by rw [ce _ _ (by omega) (by omega)]; exact e5, by rw [ce _ _ (by omega) (by omega)]; exact e7, by rw [ce _ _ HBW.out l9]; exact e90, by rw [ce _ _ HBW.out l9]; exact e91, by rw [ce _ _ HBW.out l9]; exact e92, by rw [ce _ _ HBW.out l9]; exact e93⟩
    have HKS : Hid (∀ (W'' W' : World) (v : Value), W' = W''.setCell ⟨w.heap.size + 1 + 1 + 1, 0, none⟩ v → (W''.cell? ⟨w.heap.size, 0, none⟩ = some (.pointer (some ⟨g + 1, 0, none⟩)) ∧ W''.cell? ⟨w.heap.size + 1, 0, none⟩ = some (.int .i64 d) ∧ W''.cell? ⟨w.heap.size + 1 + 1, 3, none⟩ = some (.string t) ∧ W''.cell? ⟨b9, 0, none⟩ = some (.int .u64 (st : Nat)) ∧ W''.cell? ⟨b9, 1, none⟩ = some (.int .u64 (ixu : Nat)) ∧ W''.cell? ⟨b9, 2, none⟩ = some (.int .u64 (ttu : Nat)) ∧ W''.cell? ⟨b9, 3, none⟩ = some (.int .u64 (n : Nat))) → W'.cell? ⟨w.heap.size, 0, none⟩ = some (.pointer (some ⟨g + 1, 0, none⟩)) ∧ W'.cell? ⟨w.heap.size + 1, 0, none⟩ = some (.int .i64 d) ∧ W'.cell? ⟨w.heap.size + 1 + 1, 3, none⟩ = some (.string t) ∧ W'.cell? ⟨b9, 0, none⟩ = some (.int .u64 (st : Nat)) ∧ W'.cell? ⟨b9, 1, none⟩ = some (.int .u64 (ixu : Nat)) ∧ W'.cell? ⟨b9, 2, none⟩ = some (.int .u64 (ttu : Nat)) ∧ W'.cell? ⟨b9, 3, none⟩ = some (.int .u64 (n : Nat))) := fun W'' W' v e h => by
      have h9 := HB9.out
      have ce : ∀ b j, b ≠ w.heap.size + 1 + 1 + 1 → W'.cell? ⟨b, j, none⟩ = W''.cell? ⟨b, j, none⟩ := fun b j hb => by rw [e]; exact World.cell?_setCell_other _ _ _ _ (fun c => by injection c with c1; exact hb c1.symm)
      obtain ⟨e4, e5, e7, e90, e91, e92, e93⟩ := h
      exact ⟨by rw [ce _ _ (by omega)]; exact e4, by rw [ce _ _ (by omega)]; exact e5, by rw [ce _ _ (by omega)]; exact e7, by rw [ce _ _ (by omega)]; exact e90, by rw [ce _ _ (by omega)]; exact e91, by rw [ce _ _ (by omega)]; exact e92, by rw [ce _ _ (by omega)]; exact e93⟩
    clear h8p
    generalize s2.writeE d a (ofL hd) = e3 at *
    generalize s2.writeS d a (ofL hd) = s3 at *
    generalize ofL hd = hdt at *
    go_region_held3 (fun W' => W'.cell? ⟨w.heap.size, 0, none⟩ = some (.pointer (some ⟨g + 1, 0, none⟩)) ∧ W'.cell? ⟨w.heap.size + 1, 0, none⟩ = some (.int .i64 d) ∧ W'.cell? ⟨w.heap.size + 1 + 1, 3, none⟩ = some (.string t) ∧ W'.cell? ⟨b9, 0, none⟩ = some (.int .u64 (st : Nat)) ∧ W'.cell? ⟨b9, 1, none⟩ = some (.int .u64 (ixu : Nat)) ∧ W'.cell? ⟨b9, 2, none⟩ = some (.int .u64 (ttu : Nat)) ∧ W'.cell? ⟨b9, 3, none⟩ = some (.int .u64 (n : Nat)))
      (first | exact ⟨q4, q5, q7, q90, q91, q92, q93⟩ | exact HKEEP.out _ (HKD.out.alloc _) | exact HKEEP.out _ hkA | exact HKEEP.out _ hkB | exact HKEEP.out _ hkC | exact HKO.out _ _ hkC hO3 | exact HKS.out _ _ _ rfl (HKO.out _ _ hkC hO3))
      (first
        | (go_at_call 31; refine (HOF.out W.drew _).mono ?_; rintro e wA ⟨rfl, hk⟩; have hkA := HKD.out.trans hk; clear hk)
        | (go_at_call 30; refine (HBY.out _).mono ?_; rintro e wB ⟨rfl, hk⟩; have hkB := Kept.trans hkA hk; clear hk)
        | (go_at_call 29; refine (HHQ.out _).mono ?_; rintro e wC ⟨rfl, hk⟩; have hkC := Kept.trans hkB hk; clear hk)
        | (go_at_call 28; refine (HWQ.out _ hkC).mono ?_; rintro e wE ⟨rfl, hR3, hO3⟩; obtain ⟨c8e, f8e⟩ := H8W.out _ _ hkC hO3))
    go_wp2_with fail
    have hDE : wE.heap[D]? = some (.deferred (some [])) := by
      have h1 : D < W.heap.size := (Array.getElem?_eq_some_iff.1 HDK.out).1
      rw [hO3.block D (Nat.lt_of_lt_of_le h1 hkC.size) (.inr (Nat.le_trans HHI.out hD)), hkC.block D h1]
      exact HDK.out
    have hDF : (wE.setCell ⟨w.heap.size + 1 + 1 + 1, 0, none⟩ (.int .i64 (e3 : Nat))).heap[D]? = some (.deferred (some [])) := by
      rw [Below.heap_setCell _ _ _ _ (by have := HW4.out; dsimp only; omega)]; exact hDE
    have hOF : Only g (g + 2 + s.n) w (wE.setCell ⟨w.heap.size + 1 + 1 + 1, 0, none⟩ (.int .i64 (e3 : Nat))) := (HWO.out.trans ((hkC.only _ _).trans hO3)).above _ _ (by dsimp only; omega)
    have hcF : (wE.setCell ⟨w.heap.size + 1 + 1 + 1, 0, none⟩ (.int .i64 (e3 : Nat))).cell? ⟨w.heap.size + 1 + 1 + 1, 0, none⟩ = some (.int .i64 (e3 : Nat)) := World.cell?_setCell_same _ _ _ c8e
    have hRF : RackAt g s3 (wE.setCell ⟨w.heap.size + 1 + 1 + 1, 0, none⟩ (.int .i64 (e3 : Nat))) := hR3.frame fun k h1 h2 => Below.heap_setCell _ _ _ _ (by have := HN3.out; have := HSZ.out; dsimp only; omega)
    gi_wp2
    refine ⟨by simp, .inl ⟨_, _, rfl, run_takeDeferred hDF, ?_⟩⟩
    have hc5 := _root_.Go.cell_kept hcF (grownBy_putObj' _ D (.deferred none)) (fun r e => by cases e; exact ⟨_, hDF, rfl⟩)
    refine ⟨.int .i64 (e3 : Nat), ?_, by rw [HSH2], ?_, ?_⟩
    · simp [results, Tryz.results10, go_sem, hc5]
    · rw [HSH2]
      exact hRF.frame fun k h1 h2 => World.putObj_heap_other (by have := HN3.out; have := HHI.out; omega)
    · exact hOF.grown (grownBy_putObj' _ D _) (fun r e => by cases e; have := HW4.out; omega)
  case stop =>
    rintro D c pre W hD ⟨q, hq, hpre⟩ ⟨rfl, hne, hS⟩ hK
    rw [hpre, wL_range] at hne
    have hr := hS.r
    have hc8 := hS.c
    rw [hpre, wL_range] at hr hc8
    have he := wTo_err s d a t q hne (nsec n) hq
    have HSH2 := HSH.out
    rw [he, if_neg hne] at HSH2
    gi_wp2
    refine ⟨by simp, .inl ⟨_, _, rfl, run_takeDeferred hK, ?_⟩⟩
    have hc5 := _root_.Go.cell_kept hc8 (grownBy_putObj' _ D (.deferred none)) (fun r e => by cases e; exact ⟨_, hK, rfl⟩)
    refine ⟨.int .i64 ((wTo s d a t q).1 : Nat), ?_, by rw [HSH2], ?_, ?_⟩
    · simp [results, Tryz.results10, go_sem, hc5]
    · rw [HSH2]
      exact hr.frame fun k h1 h2 => World.putObj_heap_other (by rw [(wTo_n s d a t q).1] at h2; have := HHI.out; omega)
    · exact hS.o.grown (grownBy_putObj' _ D _) (fun r e => by cases e; have := HW4.out; omega)
end Go.Proofs.YtdpkmonlkdegjaaGreatDoor

