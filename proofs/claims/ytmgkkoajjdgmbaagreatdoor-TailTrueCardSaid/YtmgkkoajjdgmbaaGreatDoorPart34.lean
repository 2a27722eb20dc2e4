/- TailPlace, TailIter, TailFold. -/
import Derived.Test.YtmgkkoajjdgmbaaGreatDoorPart33
import Derived.Test.YtmgkkoajjdgmbaaGreatDoorPart28
import Derived.Deep.RegionHeld3
import Derived.RangeFuncNested
import Derived.RangeFuncBound
import Derived.RangeFuncCalls
import Derived.RangeFuncLeaves
import Derived.Shelf.Abstract
import Derived.Shelf.RegionOpen
import Derived.WalkKit
import Derived.OwnWalkIn
import Derived.TacticsInMore
import Derived.LoopNIn
import Derived.LoopIn
set_option linter.unusedVariables false
set_option linter.unusedSimpArgs false
set_option linter.unusedSectionVars false
set_option linter.unnecessarySimpa false
set_option linter.deprecated false
/- The program's place of a tail: its first sector, a write there, its sectors told one by one. -/
namespace Go.Proofs.YtmgkkoajjdgmbaaGreatDoor
open Go.RowKit Go.Shelf Sm Wr _root_.Go.Proofs.YtmgkkoajjdgmbaaGreatDoor.Nm
attribute [local go_sem] Oper.semAt_some
set_option linter.unusedVariables false
/-- A place: the rack in the blocks from G on, a geo, a generation. -/
def plV (G : Nat) (g : Geo) (gen : Nat) : Value := .agg #[.pointer (some ⟨G + 1, 0, none⟩), .int .i64 g.n, .int .i64 g.p, .int .i64 g.m, .int .i64 g.t, .int .u64 (gen : Nat)]
structure PlAt (w : World) (b o G : Nat) (g : Geo) (gen : Nat) : Prop where
  c0 : w.cell? ⟨b, o, none⟩ = some (.pointer (some ⟨G + 1, 0, none⟩))
  c1 : w.cell? ⟨b, o + 1, none⟩ = some (.int .i64 g.n)
  c2 : w.cell? ⟨b, o + 2, none⟩ = some (.int .i64 g.p)
  c3 : w.cell? ⟨b, o + 3, none⟩ = some (.int .i64 g.m)
  c4 : w.cell? ⟨b, o + 4, none⟩ = some (.int .i64 g.t)
  c5 : w.cell? ⟨b, o + 5, none⟩ = some (.int .u64 (gen : Nat))
theorem PlAt.lt {w : World} {b o G : Nat} {g : Geo} {gen : Nat} (h : PlAt w b o G g gen) : b < w.heap.size := block_lt_of_cell h.c0
theorem PlAt.frame {w w' : World} {b o G : Nat} {g : Geo} {gen : Nat} (h : PlAt w b o G g gen) (e : w'.heap[b]? = w.heap[b]?) : PlAt w' b o G g gen := by
  have ce : ∀ o, w'.cell? ⟨b, o, none⟩ = w.cell? ⟨b, o, none⟩ := fun o => World.cell?_of_block (w := w) (a := ⟨b, o, none⟩) e
  exact ⟨by rw [ce]; exact h.c0, by rw [ce]; exact h.c1, by rw [ce]; exact h.c2, by rw [ce]; exact h.c3, by rw [ce]; exact h.c4, by rw [ce]; exact h.c5⟩
theorem PlAt.kept {w w' : World} {b o G : Nat} {g : Geo} {gen : Nat} (h : PlAt w b o G g gen) (k : Kept w w') : PlAt w' b o G g gen := h.frame (k.block b h.lt)
theorem PlAt.only {w w' : World} {b o G lo hi : Nat} {g : Geo} {gen : Nat} (h : PlAt w b o G g gen) (k : Only lo hi w w') (hb : b < lo ∨ hi ≤ b) : PlAt w' b o G g gen := h.frame (k.block b h.lt hb)
theorem PlAt.laid (w : World) (T : TypeId) (G : Nat) (g : Geo) (gen : Nat) : PlAt (w.alloc (.cells #[.pointer (some ⟨G + 1, 0, none⟩), .int .i64 g.n, .int .i64 g.p, .int .i64 g.m, .int .i64 g.t, .int .u64 (gen : Nat)] T)) w.heap.size 0 G g gen := by
  constructor
  all_goals (rw [World.cell?_alloc_mark]; rfl)
/-- The tail's first sector. -/
def fstS (t : Int) (gen : Nat) : Int := 2 + ((gen % 2 : Nat) : Int) * t
theorem fstS_in (t : Int) (gen : Nat) (h1 : 0 ≤ t) (h2 : t ≤ 512) : 0 ≤ fstS t gen ∧ fstS t gen ≤ 514 := by
  have : gen % 2 = 0 ∨ gen % 2 = 1 := by omega
  unfold fstS
  rcases this with e | e <;> rw [e] <;> constructor <;> simp <;> omega
set_option maxRecDepth 100000 in
set_option maxHeartbeats 1000000 in
theorem first_anyT (G : Nat) (g : Geo) (gen : Nat) (w : World) (h1 : 0 ≤ g.t) (h2 : g.t ≤ 512) :
    Calls Tryz.prog 58 #[plV G g gen] w fun e w' => e = .returned (.int .i64 (fstS g.t gen)) ∧ Kept w w' := by
  have X0 := Lib.hid (PlAt.laid w 79 G g gen)
  have ht1 : (gen : Int).tmod 2 = ((gen % 2 : Nat) : Int) := by rw [Int.tmod_eq_emod_of_nonneg (by omega)]; omega
  have hm2 : gen % 2 < 2 := Nat.mod_lt _ (by decide)
  obtain ⟨m, hm⟩ : ∃ m, m = gen % 2 := ⟨_, rfl⟩
  have HF : Hid (fstS g.t gen = 2 + (m : Int) * g.t) := by show _ = _; rw [hm]; rfl
  rw [← hm] at ht1 hm2
  clear hm
  have hw1 : IntKind.u64.wrap (m : Int) = (m : Int) := IntWalk.u64_in _ (by omega)
  have hw2 : IntKind.i64.wrap (m : Int) = (m : Int) := IntWalk.i64_in _ (by omega)
  have hmt : 0 ≤ (m : Int) * g.t ∧ (m : Int) * g.t ≤ 512 := by
    have : m = 0 ∨ m = 1 := by omega
    rcases this with e | e <;> rw [e] <;> constructor <;> simp <;> omega
  have hw3 : IntKind.i64.wrap ((m : Int) * g.t) = (m : Int) * g.t := IntWalk.i64_in _ (by omega)
  have hw4 : IntKind.i64.wrap (2 + (m : Int) * g.t) = 2 + (m : Int) * g.t := IntWalk.i64_in _ (by omega)
  clear hmt
  rw [HF.out]
  generalize fstS g.t gen = ff at *
  unfold plV
  obtain ⟨c0, c1, c2, c3, c4, c5⟩ := X0.out
  go_enter Tryz.func58, Tryz.ntmps58
  go_wp2_with fail
  go_ret
  exact ⟨rfl, (Kept.refl _).alloc _⟩
theorem first_agg (G : Nat) (g : Geo) (gen : Nat) (w : World) (h1 : 0 ≤ g.t) (h2 : g.t ≤ 512) :
    Calls Tryz.prog 58 #[.agg #[.pointer (some ⟨G + 1, 0, none⟩), .int .i64 g.n, .int .i64 g.p, .int .i64 g.m, .int .i64 g.t, .int .u64 (gen : Nat)]] w fun e w' => e = .returned (.int .i64 (fstS g.t gen)) ∧ Kept w w' := first_anyT G g gen w h1 h2
set_option maxRecDepth 100000 in
set_option maxHeartbeats 1000000 in
theorem pwrite_any (G : Nat) (s : RSt) (g : Geo) (gen : Nat) (d i : Int) (t : ByteArray) (w : World) (hR : RackAt G s w) (h1 : 0 ≤ g.t) (h2 : g.t ≤ 512) (hd1 : -9223372036854775808 ≤ d) (hd2 : d ≤ 9223372036854775807) (hi1 : 0 ≤ i) (hi2 : i ≤ 100000) (ht : t.size ≤ 100000) :
    Calls Tryz.prog 38 #[plV G g gen, .int .i64 d, .int .i64 i, .string t] w fun e w' => e = .returned (.int .i64 (s.writeE d (fstS g.t gen + i) t : Nat)) ∧ RackAt G (s.writeS d (fstS g.t gen + i) t) w' ∧ Only G (G + 2 + s.n) w w' := by
  obtain ⟨hf1, hf2⟩ := fstS_in g.t gen h1 h2
  have HFI := Lib.hid (fun W => first_agg G g gen W h1 h2)
  have X0 := Lib.hid (PlAt.laid w 79 G g gen)
  have HWR := Lib.hid (fun W k => write_any G s d (fstS g.t gen + i) hd1 hd2 (by omega) (by omega) t (by omega) W (hR.kept (w' := W) k))
  have hw1 : IntKind.i64.wrap (fstS g.t gen + i) = fstS g.t gen + i := IntWalk.i64_in _ (by omega)
  generalize fstS g.t gen = ff at *
  unfold plV
  have K0 : Hid (Kept w (w.alloc (.cells #[.pointer (some ⟨G + 1, 0, none⟩), .int .i64 g.n, .int .i64 g.p, .int .i64 g.m, .int .i64 g.t, .int .u64 (gen : Nat)] 79))) := (Kept.refl _).alloc _
  have HGL : Hid (G + 2 + s.n ≤ w.heap.size) := hR.lt
  clear hR
  go_enter Tryz.func38, Tryz.ntmps38
  go_upto_region 1 with fail
  generalize w.alloc (.cells #[.pointer (some ⟨G + 1, 0, none⟩), .int .i64 g.n, .int .i64 g.p, .int .i64 g.m, .int .i64 g.t, .int .u64 (gen : Nat)] 79) = W at *
  have HK : Hid (∀ W', Kept W W' → W'.cell? ⟨w.heap.size, 0, none⟩ = some (.pointer (some ⟨G + 1, 0, none⟩)) ∧ W'.cell? ⟨w.heap.size, 1, none⟩ = some (.int .i64 g.n) ∧ W'.cell? ⟨w.heap.size, 2, none⟩ = some (.int .i64 g.p) ∧ W'.cell? ⟨w.heap.size, 3, none⟩ = some (.int .i64 g.m) ∧ W'.cell? ⟨w.heap.size, 4, none⟩ = some (.int .i64 g.t) ∧ W'.cell? ⟨w.heap.size, 5, none⟩ = some (.int .u64 (gen : Nat))) := fun W' k => by
    have q := X0.out.kept k
    exact ⟨q.c0, q.c1, q.c2, q.c3, q.c4, q.c5⟩
  have KD : Hid (Kept W W.drew) := (Kept.refl _).drew
  have HKO : Hid (∀ W1 W2, Kept W W1 → Only G (G + 2 + s.n) W1 W2 → W2.cell? ⟨w.heap.size, 0, none⟩ = some (.pointer (some ⟨G + 1, 0, none⟩)) ∧ W2.cell? ⟨w.heap.size, 1, none⟩ = some (.int .i64 g.n) ∧ W2.cell? ⟨w.heap.size, 2, none⟩ = some (.int .i64 g.p) ∧ W2.cell? ⟨w.heap.size, 3, none⟩ = some (.int .i64 g.m) ∧ W2.cell? ⟨w.heap.size, 4, none⟩ = some (.int .i64 g.t) ∧ W2.cell? ⟨w.heap.size, 5, none⟩ = some (.int .u64 (gen : Nat))) := fun W1 W2 k ko => by
    have q := (X0.out.kept k).only ko (.inr HGL.out)
    exact ⟨q.c0, q.c1, q.c2, q.c3, q.c4, q.c5⟩
  have k0 := Kept.refl W
  go_region_held3 (fun W' => W'.cell? ⟨w.heap.size, 0, none⟩ = some (.pointer (some ⟨G + 1, 0, none⟩)) ∧ W'.cell? ⟨w.heap.size, 1, none⟩ = some (.int .i64 g.n) ∧ W'.cell? ⟨w.heap.size, 2, none⟩ = some (.int .i64 g.p) ∧ W'.cell? ⟨w.heap.size, 3, none⟩ = some (.int .i64 g.m) ∧ W'.cell? ⟨w.heap.size, 4, none⟩ = some (.int .i64 g.t) ∧ W'.cell? ⟨w.heap.size, 5, none⟩ = some (.int .u64 (gen : Nat)))
    (first | exact HK.out _ k0 | exact HK.out _ KD.out | exact HK.out _ kA | exact HKO.out _ _ kA hOB)
    (first
      | (go_at_call 58; refine (HFI.out _).mono ?_; rintro e wA ⟨rfl, hkA⟩; have kA := Kept.trans KD.out hkA; clear hkA)
      | (go_at_call 57; refine (HWR.out _ (Kept.trans K0.out kA)).mono ?_; rintro e wB ⟨rfl, hRB, hOB⟩))
  have HF : Hid (RackAt G (s.writeS d (ff + i) t) wB ∧ Only G (G + 2 + s.n) w wB) := ⟨hRB, ((K0.out.trans kA).only _ _).trans hOB⟩
  clear hRB hOB kA k0
  go_wp2_with fail
  go_ret
  exact ⟨rfl, HF.out⟩
set_option maxRecDepth 100000 in
theorem psectors_any (G : Nat) (g : Geo) (gen : Nat) (d : Int) (w : World) :
    Calls Tryz.prog 60 #[plV G g gen, .int .i64 d] w fun e w' => e = .returned (.func (.func 75) #[] #[.pointer (some ⟨w.heap.size, 0, none⟩), .pointer (some ⟨w.heap.size + 1, 0, none⟩)]) ∧
      PlAt w' w.heap.size 0 G g gen ∧ w'.cell? ⟨w.heap.size + 1, 0, none⟩ = some (.int .i64 d) ∧ w'.heap.size = w.heap.size + 2 ∧ Kept w w' := by
  have HF : Hid (PlAt ((w.alloc (.cells #[.pointer (some ⟨G + 1, 0, none⟩), .int .i64 g.n, .int .i64 g.p, .int .i64 g.m, .int .i64 g.t, .int .u64 (gen : Nat)] 79)).alloc (.cells #[.int .i64 d] 3)) w.heap.size 0 G g gen ∧ ((w.alloc (.cells #[.pointer (some ⟨G + 1, 0, none⟩), .int .i64 g.n, .int .i64 g.p, .int .i64 g.m, .int .i64 g.t, .int .u64 (gen : Nat)] 79)).alloc (.cells #[.int .i64 d] 3)).cell? ⟨w.heap.size + 1, 0, none⟩ = some (.int .i64 d) ∧ ((w.alloc (.cells #[.pointer (some ⟨G + 1, 0, none⟩), .int .i64 g.n, .int .i64 g.p, .int .i64 g.m, .int .i64 g.t, .int .u64 (gen : Nat)] 79)).alloc (.cells #[.int .i64 d] 3)).heap.size = w.heap.size + 2 ∧ Kept w ((w.alloc (.cells #[.pointer (some ⟨G + 1, 0, none⟩), .int .i64 g.n, .int .i64 g.p, .int .i64 g.m, .int .i64 g.t, .int .u64 (gen : Nat)] 79)).alloc (.cells #[.int .i64 d] 3))) := by
    refine ⟨(PlAt.laid w _ G g gen).kept ((Kept.refl _).alloc _), ?_, by simp, ((Kept.refl w).alloc _).alloc _⟩
    have h : ((w.alloc (.cells #[.pointer (some ⟨G + 1, 0, none⟩), .int .i64 g.n, .int .i64 g.p, .int .i64 g.m, .int .i64 g.t, .int .u64 (gen : Nat)] 79)).alloc (.cells #[.int .i64 d] 3)).cell? ⟨(w.alloc (.cells #[.pointer (some ⟨G + 1, 0, none⟩), .int .i64 g.n, .int .i64 g.p, .int .i64 g.m, .int .i64 g.t, .int .u64 (gen : Nat)] 79)).heap.size, 0, none⟩ = some (.int .i64 d) := by rw [World.cell?_alloc_mark]; rfl
    rw [size_alloc] at h
    exact h
  unfold plV
  go_enter Tryz.func60, Tryz.ntmps60
  go_wp2_with fail
  go_ret
  exact ⟨rfl, HF.out⟩
/-- What a round of the loop is told. -/
def tsecV (s : RSt) (d f : Int) (i : Nat) : Array Value := #[.int .i64 (i : Nat), .agg #[.string (s.readT d (f + (i : Nat))), .int .i64 (s.readE d (f + (i : Nat)) : Nat)]]
/-- The number of a sector of a tail. -/
abbrev TSec (n : Nat) := { i : Nat // i < n }
/-- What the iterator looks at. -/
structure TIt (G : Nat) (s : RSt) (g : Geo) (gen : Nat) (d : Int) (bp bd : Nat) (W : World) : Prop where
  pl : PlAt W bp 0 G g gen
  cd : W.cell? ⟨bd, 0, none⟩ = some (.int .i64 d)
  rk : RackAt G s W
theorem TIt.kept {G : Nat} {s : RSt} {g : Geo} {gen : Nat} {d : Int} {bp bd : Nat} {w w' : World} (h : TIt G s g gen d bp bd w) (k : Kept w w') : TIt G s g gen d bp bd w' :=
  ⟨h.pl.kept k, by rw [Below.cell k (p := ⟨bd, 0, none⟩) (block_lt_of_cell h.cd)]; exact h.cd, h.rk.kept k⟩
theorem abides_kept {β : Type} {B : Nat} {J : β → World → Prop} (h : AbidesFrom B J) {x : β} {w w' : World} (hj : J x w) (k : Kept w w') : J x w' := h x w w' none hj ⟨k.os, k.tape, k.output, k.size, fun j hj _ => k.block j hj⟩ (fun r e => by cases e)
end Go.Proofs.YtmgkkoajjdgmbaaGreatDoor

/- The program's place of a tail: the iterator over its sectors. -/
namespace Go.Proofs.YtmgkkoajjdgmbaaGreatDoor
open Go.RowKit Go.Shelf Sm Wr _root_.Go.Proofs.YtmgkkoajjdgmbaaGreatDoor.Nm
attribute [local go_sem] Oper.semAt_some
set_option linter.unusedVariables false
set_option maxHeartbeats 600000 in
set_option maxRecDepth 100000 in
theorem tsec_stops (N : Nat) (hN : 1 ≤ N) (G : Nat) (s : RSt) (g : Geo) (gen : Nat) (d : Int) (bp bd : Nat) (hd1 : -9223372036854775808 ≤ d) (hd2 : d ≤ 9223372036854775807) (n : Nat) (hn : g.t = (n : Int)) (hn2 : n ≤ 512) (Kp : World → World → Prop)
    (hKp : ∀ A B, Kp A B → TIt G s g gen d bp bd A → TIt G s g gen d bp bd B)
    (w : World) (hI : TIt G s g gen d bp bd w) :
    SeqStopsK Fence.wide N Tryz.prog 75 #[.pointer (some ⟨bp, 0, none⟩), .pointer (some ⟨bd, 0, none⟩)] (fun i : TSec n => tsecV s d (fstS g.t gen) i.1) Kp (fun xs => xs.map Subtype.val = List.range n) (fun pre => ∃ q, q ≤ n ∧ pre.map Subtype.val = List.range q) n w := fun l J Jx W hW hJ hJx hY h0 => by
  have HI1 := Lib.hid (hI.kept (w' := W) hW)
  obtain ⟨hf1, hf2⟩ := fstS_in g.t gen (by omega) (by omega)
  have HFI := Lib.hid (fun W => first_agg G g gen W (by omega) (by omega))
  have HRD := Lib.hid (fun (i : Nat) (hi : i < n) W (h : TIt G s g gen d bp bd W) => read_any G s d (fstS g.t gen + (i : Nat)) hd1 hd2 (by omega) (by omega) W h.rk)
  have HJ := Lib.hid hJ
  have HY := Lib.hid hY
  have HKP := Lib.hid hKp
  generalize hff : fstS g.t gen = ff at *
  clear hff hI hW hJ hJx hY hKp
  refine callsIn_of_wp Tryz.func75 rfl trivial ?_ rfl
  simp only [Tryz.ntmps75, List.size_toArray, List.length_cons, List.length_nil, Nat.reduceAdd, Nat.reduceSub, Array.replicate_succ, Array.replicate_zero, List.push_toArray, List.append_toArray, List.nil_append, List.cons_append]
  obtain ⟨c0, c1, c2, c3, c4, c5⟩ := HI1.out.pl
  rw [hn] at c4
  clear hn
  gi_wp2
  gi_loopw [10] (fun v wr => ∃ k : Nat, k ≤ n ∧ v = .int .i64 (k : Int) ∧ (∃ pre : List (TSec n), pre.map Subtype.val = List.range k ∧ J pre wr) ∧ Hid (TIt G s g gen d bp bd wr)) (fun v _ => n - (intOf v).toNat)
  case atStart => exact ⟨0, Nat.zero_le _, rfl, ⟨[], rfl, h0⟩, HI1⟩
  case round =>
    obtain ⟨k, hk, rfl, ⟨pre, hpre, hJs⟩, HIT⟩ := hrel
    have hpl : pre.length = k := by have := congrArg List.length hpre; simpa using this
    by_cases hlt : k < n
    · have hb : decide ((k : Int) < (n : Int)) = true := decide_eq_true (by omega)
      have KD : Hid (Kept wr wr.drew) := (Kept.refl _).drew
      have HI2 := Lib.hid (HIT.out.kept KD.out)
      have HC : Hid (∀ W', TIt G s g gen d bp bd W' → W'.cell? ⟨bp, 0, none⟩ = some (.pointer (some ⟨G + 1, 0, none⟩)) ∧ W'.cell? ⟨bp, 1, none⟩ = some (.int .i64 g.n) ∧ W'.cell? ⟨bp, 2, none⟩ = some (.int .i64 g.p) ∧ W'.cell? ⟨bp, 3, none⟩ = some (.int .i64 g.m) ∧ W'.cell? ⟨bp, 4, none⟩ = some (.int .i64 g.t) ∧ W'.cell? ⟨bp, 5, none⟩ = some (.int .u64 (gen : Nat)) ∧ W'.cell? ⟨bd, 0, none⟩ = some (.int .i64 d)) := fun W' h => by
        obtain ⟨⟨q0, q1, q2, q3, q4, q5⟩, q6, _⟩ := h
        rw [Nat.zero_add] at q1 q2 q3 q4 q5
        exact ⟨q0, q1, q2, q3, q4, q5, q6⟩
      have hw1 : IntKind.i64.wrap (ff + (k : Int)) = ff + (k : Int) := IntWalk.i64_in _ (by omega)
      have hw2 : IntKind.i64.wrap ((k : Int) + 1) = ((k + 1 : Nat) : Int) := by rw [IntWalk.i64_in _ (by omega)]; omega
      have HRK := Lib.hid (HRD.out k hlt)
      have HHY := Lib.hid (fun W1 hj => HY.out pre ⟨k, hlt⟩ W1 hj (by rw [hpl]; exact hlt))
      have HJS := Lib.hid hJs
      have HPRE : Hid ((pre ++ [(⟨k, hlt⟩ : TSec n)]).map Subtype.val = List.range (k + 1)) := by show _ = _; rw [List.map_append, hpre, List.range_succ]; rfl
      have hrI := HIT.out
      have hr0 := Kept.refl wr
      clear hJs hpre hpl HRD HY HI1 c0 c1 c2 c3 c4 c5
      gi_wp2
      refine wpIn_wide.2 ?_
      go_region_held3 (fun W' => W'.cell? ⟨bp, 0, none⟩ = some (.pointer (some ⟨G + 1, 0, none⟩)) ∧ W'.cell? ⟨bp, 1, none⟩ = some (.int .i64 g.n) ∧ W'.cell? ⟨bp, 2, none⟩ = some (.int .i64 g.p) ∧ W'.cell? ⟨bp, 3, none⟩ = some (.int .i64 g.m) ∧ W'.cell? ⟨bp, 4, none⟩ = some (.int .i64 g.t) ∧ W'.cell? ⟨bp, 5, none⟩ = some (.int .u64 (gen : Nat)) ∧ W'.cell? ⟨bd, 0, none⟩ = some (.int .i64 d))
        (first | exact HC.out _ hrI | exact HC.out _ HI2.out | exact HC.out _ hIA | exact HC.out _ hIB)
        (first
          | (go_at_call 58; refine (HFI.out _).mono ?_; rintro e wA ⟨rfl, hkA⟩; have kA := Kept.trans KD.out hkA; have hIA := hrI.kept kA; clear hkA)
          | (go_at_call 76; refine (HRK.out _ hIA).mono ?_; rintro e wB ⟨rfl, hkB⟩; have kB := Kept.trans kA hkB; have hIB := hrI.kept kB; clear hkB))
      have HF : Hid (J pre wB ∧ TIt G s g gen d bp bd wB) := ⟨abides_kept HJ.out HJS.out kB, hIB⟩
      clear hIA hIB kA kB hrI hr0 KD HI2 HC HRK HFI
      obtain ⟨fn, tmps, assign, body, hy, hR⟩ := HHY.out wB HF.out.1
      unfold tsecV at hy
      gi_wp2
      refine hR.mono ?_
      rintro e W3 (⟨rfl, hJ3, hk3⟩ | ⟨rfl, hJx3⟩)
      · have HIN := Lib.hid (HKP.out _ _ hk3 HF.out.2)
        gi_wp2
        refine ⟨⟨k + 1, hlt, by go_num, ⟨_, HPRE.out, hJ3⟩, HIN⟩, ?_⟩
        simp [intOf]
        omega
      · gi_wp2
        refine bodyPost_ret (results_none rfl _ _ _) rfl ?_
        exact ⟨⟨_, rfl⟩, .inr ⟨_, ⟨k + 1, hlt, HPRE.out⟩, hJx3⟩⟩
    · have hb : decide ((k : Int) < (n : Int)) = false := decide_eq_false (by omega)
      have hkn : k = n := by omega
      gi_wp2
      go_end0
      exact ⟨⟨_, rfl⟩, .inl ⟨pre, by rw [hpre, hkn], hJs⟩⟩
end Go.Proofs.YtmgkkoajjdgmbaaGreatDoor

/- What is told of a drive's sectors, plain: the fold over them. -/
namespace Go.Proofs.YtmgkkoajjdgmbaaGreatDoor
open Go.RowKit Sm Wr _root_.Go.Proofs.YtmgkkoajjdgmbaaGreatDoor.Nm
set_option linter.unusedVariables false
/-- Where the look at a drive's sectors stands. -/
inductive GR where
  | go (k : Wk)
  | down
  | bad
  | stop (t : List ByteArray)
/-- The next sector: what is wrong, its bytes. -/
noncomputable def gStep (gen : Nat) (rd : Nat → Nat × List UInt8) (r : GR) (i : Nat) : GR :=
  match r with
  | .go k => if (rd i).1 = 71 then .down else if (rd i).1 = 0 then (match k.take gen (rd i).2 with | some k' => .go k' | none => .stop k.texts) else .bad
  | r => r
noncomputable def gL (gen : Nat) (rd : Nat → Nat × List UInt8) (l : List Nat) : GR := l.foldl (gStep gen rd) (.go ⟨[], []⟩)
theorem gL_snoc (gen : Nat) (rd : Nat → Nat × List UInt8) (l : List Nat) (i : Nat) : gL gen rd (l ++ [i]) = gStep gen rd (gL gen rd l) i := by unfold gL; rw [List.foldl_append]; rfl
/-- What is told at last: what is wrong, the texts. -/
def gRes : GR → Nat × List ByteArray
  | .go k => (0, k.texts)
  | .down => (71, [])
  | .bad => (0, [])
  | .stop t => (0, t)
def GR.ends : GR → Prop
  | .go _ => False
  | _ => True
theorem gL_ends (gen : Nat) (rd : Nat → Nat × List UInt8) (q : Nat) (h : (gL gen rd (List.range q)).ends) : ∀ n, q ≤ n → gL gen rd (List.range n) = gL gen rd (List.range q)
  | n, hn => by
    by_cases e : q = n
    · rw [e]
    · obtain ⟨m, rfl⟩ : ∃ m, n = m + 1 := ⟨n - 1, by omega⟩
      have ih := gL_ends gen rd q h m (by omega)
      rw [List.range_succ, gL_snoc, ih]
      cases hg : gL gen rd (List.range q) with
      | go k => rw [hg] at h; exact h.elim
      | down => rfl
      | bad => rfl
      | stop t => rfl
/-- What a drive's sectors tell. -/
noncomputable def gAll (gen : Nat) (rd : Nat → Nat × List UInt8) (n : Nat) : Nat × List ByteArray := gRes (gL gen rd (List.range n))
/-- What the rack tells of a sector of a tail. -/
def rdT (s : RSt) (d f : Int) (i : Nat) : Nat × List UInt8 := (s.readE d (f + (i : Nat)), (s.readT d (f + (i : Nat))).data.toList)
/-- Whatever is found so far, the next sector can be looked at. -/
def Fine (gen : Nat) (rd : Nat → Nat × List UInt8) (n : Nat) : Prop := ∀ (l : List Nat) q k, (∀ i ∈ l, i < n) → q < n → gL gen rd l = .go k → (rd q).1 = 0 →
  Sect (rd q).2 ∧ k.texts.length ≤ 900 ∧ k.op.length ≤ 900 ∧ (∀ y ∈ k.op, y.piece.size ≤ 34) ∧
    ∀ x, lookR (rd q).2 = some x → k.goes gen x = true → ¬ (x.idx + 1 < x.parts) → crc (catP (k.op ++ [x])) = ((k.op ++ [x]).headD Pt.none).sum
end Go.Proofs.YtmgkkoajjdgmbaaGreatDoor

