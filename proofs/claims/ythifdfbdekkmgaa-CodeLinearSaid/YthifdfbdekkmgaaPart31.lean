/- MillTail, MillTake, MillTake2, MillBack, MillReal, MillPhase. -/
import Derived.Test.YthifdfbdekkmgaaPart30
import Derived.Deep.OwnRows
import Derived.Room.Make
import Derived.Test.YthifdfbdekkmgaaPart3
set_option linter.unusedVariables false
set_option linter.unusedSimpArgs false
set_option linter.unusedSectionVars false
set_option linter.unnecessarySimpa false
set_option linter.deprecated false
/- code.sums, behind Wait: the parts are taken and put to their places. -/
namespace Go.Proofs.Ythifdfbdekkmgaa
open Go.Conc Go.ConcN Go.RowKit Go.Conc.Lib Go.ConcR.Gen Go.ConcN.Gen
open Go.ConcR (KK wgBlock WgAt stA smA rd wr mk Payload Aside2 DC0)
set_option linter.unusedVariables false
set_option linter.unusedSectionVars false
section
variable {P : Program} {main : Bool} {b : Frame} {a : Act} {k : List Item} {cs : List Frame} {w : World} {ops : Array Oper} {i : Nat} {rest : List Nat} {o : Oper} {T : TypeId} {v old : Value} {x y : Operand} {ad : Addr}
theorem events_make_small (t e : TypeId) (i : TypeInfo) (ht : P.underlying t = some (.slice e)) (hi : P.info? e = some i) {z : Value} (hz : i.zero = some z) (n : Nat) (hb : i.bytes * n ≤ 1000000) (hn : n ≤ 1000000) (w : World) (es : Array Event) :
    (Instr.makeSlice t (.int .i64 (n : Int)) (.int .i64 (n : Int))).events P w es = es := by
  have wl : IntKind.i64.wrap (n : Int) = n := by rw [IntKind.wrap_i64]; omega
  have hb' : (i.bytes : Int) * (n : Int) ≤ 1000000 := by
    have h : ((i.bytes * n : Nat) : Int) ≤ 1000000 := by omega
    rwa [Int.natCast_mul] at h
  have n2 : ¬ (281474976710656 < (i.bytes : Int) * (n : Int)) := by omega
  have n3 : ¬ ((n : Int) < 0) := by omega
  have n4 : ¬ ((n : Int) < n) := by omega
  have n5 : ¬ (n * i.bytes > roomBytes) := by rw [Nat.mul_comm]; unfold roomBytes; omega
  simp [-Sem.runT_eq, Instr.makeSlice, Room.Sem.bind_def, Room.Sem.pure_def', underlying, typeInfo, sizeOf, program, asInt, asIntOf, Sem.bind, Sem.runT, Sem.events, ht, hi, wl, n2, n3, n4, askRoom, n5, zeroValue, newRow, newObj]
  by_cases h : n * i.size = 0
  · rw [if_pos h]; rfl
  · rw [if_neg h]
    simp [-Sem.runT_eq, Sem.runT, hi, hz, Sem.bind, Sem.pure]
    try rfl
theorem stepG_makeRowOp {n N : Nat} {c : Array Value} {e : TypeId} (hN : w.heap.size = N) (ho : ops[i]? = some o) (hw : Region.wanted o (yielded ops a.tmps) = true) (hk : b.kind ≠ .early) (hop : o.op = .makeSlice T x y) (hx : a.eval x = .int .i64 n) (hy : a.eval y = .int .i64 n)
    (hr : ∀ w, (Instr.makeSlice T (.int .i64 n) (.int .i64 n)).run P w = .ok (.slice (some ⟨w.heap.size, 0, none⟩) n n) (w.alloc (.cells c e))) (he : ∀ w es, (Instr.makeSlice T (.int .i64 n) (.int .i64 n)).events P w es = es) :
    stepG P main (G (b.at a (.inRegion ops (i :: rest) :: k)) cs) w = .go (G (b.at (a.put o.dst (.slice (some ⟨N, 0, none⟩) n n)) (.inRegion ops rest :: k)) cs) (w.alloc (.cells c e)) #[] := by
  subst hN
  have h1 : (execOp a.eval o).run P w = .ok (.value (.slice (some ⟨w.heap.size, 0, none⟩) n n)) (w.alloc (.cells c e)) := by
    unfold execOp
    simp only [hop, hx, hy]
    simp [go_sem, hr]
  have h2 : (execOp a.eval o).events P w #[] = #[] := by
    unfold execOp
    simp only [hop, hx, hy]
    simp [go_sem, hr, he]
  rw [stepG_value ho hw hk h1]
  unfold listed
  rw [h2, seen_none]
/-- A store of a value of two cells. -/
theorem stepG_storeTwo {A B : Value} {p q : Value} {c : Nat} {e : TypeId} (ho : ops[i]? = some o) (hw : Region.wanted o (yielded ops a.tmps) = true) (hk : b.kind ≠ .early) (hop : o.op = .store T x y) (hx : a.eval x = .pointer (some ⟨c, 0, none⟩)) (hy : a.eval y = .agg #[A, B]) (hA : A.oneCell' = true) (hB : B.oneCell' = true)
    (hc : w.heap[c]? = some (.cells #[p, q] e (0, 0))) (hsz : ∀ w, (sizeOf T).run P w = .ok 2 w) (hq : (P.funcs[b.fn]?).any (·.norace) = false) :
    stepG P main (G (b.at a (.inRegion ops (i :: rest) :: k)) cs) w = .go (G (b.at (a.put o.dst undef) (.inRegion ops rest :: k)) cs) ((w.setCell ⟨c, 0, none⟩ A).setCell ⟨c, 1, none⟩ B) #[⟨.cell ⟨c, 0, none⟩, true, false⟩, ⟨.cell ⟨c, 1, none⟩, true, false⟩] := by
  have c0 : w.cell? ⟨c, 0, none⟩ = some p := by simp [World.cell?, hc]
  have f0 : w.frozen? ⟨c, 0, none⟩ = false := by simp [World.frozen?, hc]
  have hc1 : (w.setCell ⟨c, 0, none⟩ A).heap[c]? = some (.cells #[A, q] e (0, 0)) := by simp [World.setCell, hc, Array.getElem?_modify]
  have c1 : (w.setCell ⟨c, 0, none⟩ A).cell? ⟨c, 1, none⟩ = some q := by simp [World.cell?, hc1]
  have f1 : (w.setCell ⟨c, 0, none⟩ A).frozen? ⟨c, 1, none⟩ = false := by simp [World.frozen?, hc1]
  have e1 := fun m => run_store (P := P) w ⟨c, 0, none⟩ A m hA
  have e2 := fun m es => events_store (P := P) (w := w) (es := es) ⟨c, 0, none⟩ A m hA
  have e3 := fun m => run_store (P := P) (w.setCell ⟨c, 0, none⟩ A) ⟨c, 1, none⟩ B m hB
  have e4 := fun m es => events_store (P := P) (w := w.setCell ⟨c, 0, none⟩ A) (es := es) ⟨c, 1, none⟩ B m hB
  have h1 : (execOp a.eval o).run P w = .ok .skip ((w.setCell ⟨c, 0, none⟩ A).setCell ⟨c, 1, none⟩ B) := by
    unfold execOp
    simp only [hop, hx, hy]
    simp [go_sem, hsz, c0, f0, c1, f1, e1, e3, storeCells]
  have h2 : (execOp a.eval o).events P w #[] = #[⟨.cell ⟨c, 0, none⟩, true, false⟩, ⟨.cell ⟨c, 1, none⟩, true, false⟩] := by
    unfold execOp
    simp only [hop, hx, hy]
    simp [go_sem, hsz, c0, f0, c1, f1, e1, e2, e3, e4, storeCells]
  rw [stepG_none ho hw hk h1]
  unfold listed
  rw [h2, seen_eq hq (by simp)]
theorem stepG_selOp {t : Tmp} {c : Nat} {z : Value} (ho : ops[i]? = some o) (hw : Region.wanted o (yielded ops a.tmps) = true) (hk : b.kind ≠ .early) (hop : o.op = .select #[{ chan := .tmp t, send := none, elem := T }] false) (hx : a.tmps[t]? = some (.chan (some c))) (hz : ∀ w, (zeroValue T).run P w = .ok z w) :
    stepG P main (G (b.at a (.inRegion ops (i :: rest) :: k)) cs) w = .comm (G (b.at a (.inRegion ops (i :: rest) :: k)) cs) #[rcase c z] false .select w #[] := by
  have hr : (execOp a.eval o).run P w = .ok (.comm #[rcase c z] false .select) w := by
    unfold execOp
    simp only [hop]
    simp [go_sem, hx, hz, rcase]
  have he : (execOp a.eval o).events P w #[] = #[] := by
    unfold execOp
    simp only [hop]
    simp [go_sem, hx, hz]
  rw [stepG_comm ho hw hk hr]
  unfold listed
  rw [he, seen_none]
theorem comm_took {c : Nat} {z v : Value} : commResult #[rcase c z] .select 0 v true = .tuple #[.int .i64 0, .bool true, v] := by simp [commResult, rcase, goInt]
theorem comm_none {c : Nat} {z : Value} : commResult #[rcase c z] .select (-1) undef false = .tuple #[.int .i64 (-1), .bool false, z] := by simp [commResult, rcase, goInt]
theorem finish_sel {cases : Array CommCase} {kk : Int} {v : Value} {ok : Bool} : (G (b.at a (.inRegion ops (i :: rest) :: k)) cs).finishComm P cases .select kk v ok = G (b.at (a.put ((ops[i]?).bind (·.dst)) (commResult cases .select kk v ok)) (.inRegion ops rest :: k)) cs := by
  unfold Goroutine.finishComm
  simp only [G]
  rw [Frame.finish_at]
end
end Go.Proofs.Ythifdfbdekkmgaa

/- code.sums takes the parts and puts them to their places. -/
namespace Go.Proofs.Ythifdfbdekkmgaa
open Go.Conc Go.ConcN Go.RowKit Go.Conc.Lib Go.ConcR.Gen Go.ConcN.Gen
open Go.ConcR (KK wgBlock WgAt stA smA rd wr mk Payload Aside2 DC0)
set_option linter.unusedVariables false
set_option linter.unusedSectionVars false
variable [NoCx Try.prog] [Payload]
noncomputable def tkC : Code := match tailC with | .seq _ (.seq _ (.seq (.block _ (.loop c)) _)) => c | _ => .skip
noncomputable def endC : Code := match tailC with | .seq _ (.seq _ (.seq _ c)) => c | _ => .skip
/-- At the head of the loop that takes. -/
def AtTk (rv y : Value) (n Gb : Nat) (Ch Bx Mv Wg : Nat) (k : List Item) (cs : List Frame) (g : Goroutine) : Prop :=
  ∃ (v7 v8 v10 v17 v18 v19 v20 v21 v22 v23 v24 v28 v29 v30 v31 v32 v33 v34 v35 v36 v37 v38 : Value), g = G ((base 22).at ⟨#[rv, y, undef, .pointer (some ⟨Bx, 0, none⟩), .slice none 0 0, .pointer (some ⟨Mv, 0, none⟩), .pointer (some ⟨Wg, 0, none⟩), v7, v8, .slice (some ⟨Gb, 0, none⟩) n n, v10, rv, .int .i64 n, .chan (some Ch), rv, .int .i64 n, .int .i64 n, v17, v18, v19, v20, v21, v22, v23,
    v24, rv, .int .i64 n, .slice (some ⟨Gb, 0, none⟩) n n, v28, v29, v30, v31, v32, v33, v34, v35, v36, v37, v38, undef], []⟩ (.code tkC :: .inLoop tkC :: .inBlock 2 :: .code endC :: k)) cs
/-- On its way back. -/
def AtBack (n Gb : Nat) (cs : List Frame) (g : Goroutine) : Prop :=
  ∃ T todo, g = G { (base 22).at ⟨T, []⟩ todo with mode := .returning } cs ∧ T.getD 4 undef = .slice (some ⟨Gb, 0, none⟩) n n
/-- What the world holds meanwhile. -/
structure TkW (n Gb Ch Mv N0 : Nat) (W0 : World) (buf : List Value) (s r : Nat) (R : Array Value) (W : World) : Prop where
  chan : W.heap[Ch]? = some (.chan n buf.toArray false s r false)
  res : W.heap[Gb]? = some (.cells R 9 (0, 0))
  var : W.cell? ⟨Mv, 0, none⟩ = some (.chan (some Ch))
  old : ∀ c, c < N0 → W.heap[c]? = W0.heap[c]?
  tape : W.tape = W0.tape
  os : W.os = W0.os
  out : W.output = W0.output
set_option maxRecDepth 100000 in
set_option maxHeartbeats 4000000 in
theorem sums_took {Shun : Loc → Prop} {Q : Goroutine → World → Prop} {rv y : Value} {n Gb Ch Bx Mv Wg N0 : Nat} {W0 : World} {k : List Item} {cs : List Frame} {s r : Nat} {R : Array Value} (hn : n ≤ 1000) (d1 : Gb ≠ Ch) (d2 : Gb ≠ Mv) (d3 : Ch ≠ Mv) (d4 : N0 ≤ Gb) (d5 : N0 ≤ Ch) (d6 : N0 ≤ Mv) (hs : ∀ c, N0 ≤ c → (∀ a : Addr, a.block = c → c ≠ Wg → ¬ Shun (.cell a)))
    (d7 : Gb ≠ Wg) (d8 : Mv ≠ Wg) (W : World) (hW : TkW n Gb Ch Mv N0 W0 [] s r R W) (hQ : ∀ g' w', AtBack n Gb cs g' → (∃ d, w' = W.at d) → Q g' w') (g : Goroutine) (hA : AtTk rv y n Gb Ch Bx Mv Wg k cs g) (w : World) (hF : ∃ d, w = W.at d) : To Try.prog Shun Q g w := by
  obtain ⟨v7, v8, v10, v17, v18, v19, v20, v21, v22, v23, v24, v28, v29, v30, v31, v32, v33, v34, v35, v36, v37, v38, rfl⟩ := hA
  simp only [tkC, endC, tailC, restC, sumsBody, Try.f22, Option.getD_some]
  refine To.goes 20 _ _ ?_
  u_c stepG_block (rlAt W) hF
  u_c stepG_seq (rlAt W) hF
  u_reg (rlAt W) hF
  refine Goes.stop (fun w₁ h₁ => ?_)
  obtain ⟨d0, rfl⟩ := rlAt W hF h₁
  clear h₁ hF
  have hMz : Mv < W.heap.size := cell_lt hW.var
  refine To.reads (ad := ⟨Mv, 0, none⟩) rfl hMz (hs Mv d6 _ rfl d8) (fun d => stepG_load1 rfl rfl (by decide) rfl rfl (show ((W.at d0).at d).cell? _ = _ from hW.var) Try.isAgg63 loud_sums) (fun d => ?_)
  have hF : ∃ e, (W.at d0).at d = W.at e := ⟨d, rfl⟩
  generalize (W.at d0).at d = w₂ at *
  clear d0 d
  walk_nrm
  refine To.goes 20 _ _ ?_
  u_c stepG_region_end (rlAt W) hF
  u_c stepG_seq (rlAt W) hF
  u_reg (rlAt W) hF
  refine Goes.stop (fun w₁ h₁ => ?_)
  obtain ⟨d0, rfl⟩ := rlAt W hF h₁
  clear h₁ hF
  refine To.dflt (c := Ch) (cap := n) (s := s) (r := r) (tm := false) rfl (fun d => stepG_selOp rfl rfl (by decide) rfl rfl Try.zeroValue44) (show (W.at d0).heap[Ch]? = _ from hW.chan) (fun d => ?_)
  rw [finish_sel, comm_none]
  have hF : ∃ e, (W.at d0).at d = W.at e := ⟨d, rfl⟩
  generalize (W.at d0).at d = w₃ at *
  clear d0 d
  walk_nrm
  refine To.goes 30 _ _ ?_
  u_op (rlAt W) hF
  u_op (rlAt W) hF
  u_c stepG_region_end (rlAt W) hF
  u_c stepG_block (rlAt W) hF
  u_cond false (rlAt W) hF
  u_exit (rlAt W) hF
  u_c stepG_seq (rlAt W) hF
  u_reg (rlAt W) hF
  u_op (rlAt W) hF
  u_op (rlAt W) hF
  u_c stepG_region_end (rlAt W) hF
  u_c stepG_ret' (rlAt W) hF
  exact Goes.stop (fun w₄ h₄ => To.done fun d => hQ _ _ ⟨_, _, rfl, rfl⟩ (rlAt W (rlAt W hF h₄) ⟨d, rfl⟩))
end Go.Proofs.Ythifdfbdekkmgaa

/- A round of code.sums' taking. -/
namespace Go.Proofs.Ythifdfbdekkmgaa
open Go.Conc Go.ConcN Go.RowKit Go.Conc.Lib Go.ConcR.Gen Go.ConcN.Gen
open Go.ConcR (KK wgBlock WgAt stA smA rd wr mk Payload Aside2 DC0)
set_option linter.unusedVariables false
set_option linter.unusedSectionVars false
variable [NoCx Try.prog] [Payload]
section
variable {n Gb Ch Mv N0 : Nat} {W0 W : World} {buf : List Value} {s r : Nat} {R : Array Value}
theorem TkW.took {v : Value} (d1 : Gb ≠ Ch) (d3 : Ch ≠ Mv) (d5 : N0 ≤ Ch) (h : TkW n Gb Ch Mv N0 W0 (v :: buf) s r R W) : TkW n Gb Ch Mv N0 W0 buf s (r + 1) R (W.setChan Ch n buf.toArray false s (r + 1) false) := by
  have hz : Ch < W.heap.size := (Array.getElem?_eq_some_iff.1 h.chan).1
  have hk : ∀ c, c ≠ Ch → (W.setChan Ch n buf.toArray false s (r + 1) false).heap[c]? = W.heap[c]? := fun c hc => by simp [World.setChan, Array.getElem?_setIfInBounds, Ne.symm hc]
  exact ⟨by simp [World.setChan, hz], (hk _ d1).trans h.res, (cell_kept (hk _ (Ne.symm d3)) 0).trans h.var, fun c hc => (hk c (by omega)).trans (h.old c hc), h.tape, h.os, h.out⟩
theorem TkW.alloc (d4 : N0 ≤ Gb) (h : TkW n Gb Ch Mv N0 W0 buf s r R W) (o : Obj) : TkW n Gb Ch Mv N0 W0 buf s r R (W.alloc o) := by
  have g1 := (Array.getElem?_eq_some_iff.1 h.chan).1
  have g2 := (Array.getElem?_eq_some_iff.1 h.res).1
  have g3 : Mv < W.heap.size := cell_lt h.var
  have hk : ∀ c, c < W.heap.size → (W.alloc o).heap[c]? = W.heap[c]? := fun c hc => by rw [alloc_new, if_neg (by omega)]
  exact ⟨(hk _ g1).trans h.chan, (hk _ g2).trans h.res, (cell_kept (hk _ g3) 0).trans h.var, fun c hc => (hk c (by omega)).trans (h.old c hc), h.tape, h.os, h.out⟩
theorem TkW.aside {ad : Addr} {x : Value} (h : TkW n Gb Ch Mv N0 W0 buf s r R W) (c1 : Ch ≠ ad.block) (c2 : Gb ≠ ad.block) (c3 : Mv ≠ ad.block) (c4 : N0 ≤ ad.block) : TkW n Gb Ch Mv N0 W0 buf s r R (W.setCell ad x) := by
  have ha := aside_setCell W ad x
  exact ⟨(ha.block _ c1).trans h.chan, (ha.block _ c2).trans h.res, (cell_kept (ha.block _ c3) 0).trans h.var, fun c hc => (ha.block c (by omega)).trans (h.old c hc), ha.tape.trans h.tape, ha.os.trans h.os, ha.output.trans h.out⟩
theorem TkW.put {i : Nat} {x : Value} (h : TkW n Gb Ch Mv N0 W0 buf s r R W) (c1 : Ch ≠ Gb) (c3 : Mv ≠ Gb) (c4 : N0 ≤ Gb) : TkW n Gb Ch Mv N0 W0 buf s r (R.setIfInBounds i x) (W.setCell ⟨Gb, i, none⟩ x) := by
  have ha := aside_setCell W ⟨Gb, i, none⟩ x
  have hz := (Array.getElem?_eq_some_iff.1 h.res).1
  exact ⟨(ha.block _ c1).trans h.chan, by simp [World.setCell, h.res, Array.getElem?_modify], (cell_kept (ha.block _ c3) 0).trans h.var, fun c hc => (ha.block c (by simp only; omega)).trans (h.old c hc), ha.tape.trans h.tape, ha.os.trans h.os, ha.output.trans h.out⟩
end
set_option maxRecDepth 100000 in
set_option maxHeartbeats 4000000 in
theorem sums_take {Shun : Loc → Prop} {Q : Goroutine → World → Prop} {rv y : Value} {n Gb Ch Bx Mv Wg N0 : Nat} {W0 : World} {k : List Item} {cs : List Frame} {s r : Nat} {R : Array Value} (hn : n ≤ 1000) (d1 : Gb ≠ Ch) (d2 : Gb ≠ Mv) (d3 : Ch ≠ Mv) (d4 : N0 ≤ Gb) (d5 : N0 ≤ Ch) (d6 : N0 ≤ Mv) (hs : ∀ c, N0 ≤ c → (∀ a : Addr, a.block = c → c ≠ Wg → ¬ Shun (.cell a)))
    (d7 : Gb ≠ Wg) (d8 : Mv ≠ Wg) {i : Nat} {t : ByteArray} {buf : List Value} (hi : i < n) (hR : R.size = n) (W : World) (hWg : Wg < W.heap.size) (hW : TkW n Gb Ch Mv N0 W0 (.agg #[.int .i64 i, .string t] :: buf) s r R W)
    (hnext : ∀ g' W' w', Wg < W'.heap.size → TkW n Gb Ch Mv N0 W0 buf s (r + 1) (R.setIfInBounds i (.string t)) W' → AtTk rv y n Gb Ch Bx Mv Wg k cs g' → (∃ d, w' = W'.at d) → To Try.prog Shun Q g' w') (g : Goroutine) (hA : AtTk rv y n Gb Ch Bx Mv Wg k cs g) (w : World) (hF : ∃ d, w = W.at d) : To Try.prog Shun Q g w := by
  obtain ⟨v7, v8, v10, v17, v18, v19, v20, v21, v22, v23, v24, v28, v29, v30, v31, v32, v33, v34, v35, v36, v37, v38, rfl⟩ := hA
  have hiZ : decide ((i : Int) < (n : Int)) = true := decide_eq_true (by omega)
  simp only [tkC, endC, tailC, restC, sumsBody, Try.f22, Option.getD_some]
  refine To.goes 20 _ _ ?_
  u_c stepG_block (rlAt W) hF
  u_c stepG_seq (rlAt W) hF
  u_reg (rlAt W) hF
  refine Goes.stop (fun w₁ h₁ => ?_)
  obtain ⟨d0, rfl⟩ := rlAt W hF h₁
  clear h₁ hF
  have hMz : Mv < W.heap.size := cell_lt hW.var
  refine To.reads (ad := ⟨Mv, 0, none⟩) rfl hMz (hs Mv d6 _ rfl d8) (fun d => stepG_load1 rfl rfl (by decide) rfl rfl (show ((W.at d0).at d).cell? _ = _ from hW.var) Try.isAgg63 loud_sums) (fun d => ?_)
  have hF : ∃ e, (W.at d0).at d = W.at e := ⟨d, rfl⟩
  generalize (W.at d0).at d = w₂ at *
  clear d0 d
  walk_nrm
  refine To.goes 20 _ _ ?_
  u_c stepG_region_end (rlAt W) hF
  u_c stepG_seq (rlAt W) hF
  u_reg (rlAt W) hF
  refine Goes.stop (fun w₁ h₁ => ?_)
  obtain ⟨d0, rfl⟩ := rlAt W hF h₁
  clear h₁ hF
  refine To.recv (c := Ch) (cap := n) (s := s) (r := r) (tm := false) (closed := false) (v := .agg #[.int .i64 i, .string t]) (buf := buf) rfl (fun d => stepG_selOp rfl rfl (by decide) rfl rfl Try.zeroValue44) (show (W.at d0).heap[Ch]? = _ from hW.chan) (fun d => ?_)
  rw [finish_sel, comm_took]
  have hW1 := hW.took d1 d3 d5
  have hF : ∃ e, ((W.at d0).setChan Ch n buf.toArray false s (r + 1) false).at d = (W.setChan Ch n buf.toArray false s (r + 1) false).at e := ⟨d, rfl⟩
  have z1 : (W.setChan Ch n buf.toArray false s (r + 1) false).heap.size = W.heap.size := by simp [World.setChan]
  generalize ((W.at d0).setChan Ch n buf.toArray false s (r + 1) false).at d = w₃ at *
  generalize W.setChan Ch n buf.toArray false s (r + 1) false = W1 at *
  have hWg1 : Wg < W1.heap.size := by omega
  clear d0 d hW z1
  walk_nrm
  refine To.goes 30 _ _ ?_
  u_op (rlAt W1) hF
  u_op (rlAt W1) hF
  u_c stepG_region_end (rlAt W1) hF
  u_c stepG_block (rlAt W1) hF
  u_cond true (rlAt W1) hF
  u_c stepG_seq (rlAt W1) hF
  u_reg (rlAt W1) hF
  u_op (rlAt W1) hF
  refine Goes.stop (fun w₁ h₁ => ?_)
  obtain ⟨d0, rfl⟩ := rlAt W1 hF h₁
  clear h₁ hF
  have hCz : Ch < W1.heap.size := (Array.getElem?_eq_some_iff.1 hW1.chan).1
  have hMz1 : Mv < W1.heap.size := cell_lt hW1.var
  have hGz : Gb < W1.heap.size := (Array.getElem?_eq_some_iff.1 hW1.res).1
  refine To.makes rfl (fun d => stepG_allocN (N := W1.heap.size) rfl rfl rfl (by decide) rfl Try.zeroValue44) (fun d => ?_)
  have hF : ∃ e, ((W1.at d0).alloc (.cells (Value.agg #[.int .i64 0, .string ⟨#[]⟩]).cells 44 (0, 0))).at d = (W1.alloc (.cells (Value.agg #[.int .i64 0, .string ⟨#[]⟩]).cells 44 (0, 0))).at e := ⟨d, rfl⟩
  have hO : (W1.alloc (.cells (Value.agg #[.int .i64 0, .string ⟨#[]⟩]).cells 44 (0, 0))).heap[W1.heap.size]? = some (.cells #[.int .i64 0, .string ⟨#[]⟩] 44 (0, 0)) := by rw [alloc_new, if_pos rfl]; rfl
  have hW2 := hW1.alloc d4 (.cells (Value.agg #[.int .i64 0, .string ⟨#[]⟩]).cells 44 (0, 0))
  have z2 : (W1.alloc (.cells (Value.agg #[.int .i64 0, .string ⟨#[]⟩]).cells 44 (0, 0))).heap.size = W1.heap.size + 1 := by show (W1.heap.push _).size = _; simp
  generalize ((W1.at d0).alloc (.cells (Value.agg #[.int .i64 0, .string ⟨#[]⟩]).cells 44 (0, 0))).at d = w₃ at *
  generalize W1.alloc (.cells (Value.agg #[.int .i64 0, .string ⟨#[]⟩]).cells 44 (0, 0)) = W2 at *
  clear d0 d
  walk_nrm
  refine To.goes 2 _ _ ?_
  refine Goes.stop (fun w₁ h₁ => ?_)
  obtain ⟨d0, rfl⟩ := rlAt W2 hF h₁
  clear h₁ hF
  have hsP : ∀ o, ¬ Shun (.cell ⟨W1.heap.size, o, none⟩) := fun o => hs W1.heap.size (by omega) _ rfl (by omega)
  refine To.go rfl (C := W2.heap.size) (fun d => ⟨_, _, _, stepG_storeTwo (A := .int .i64 i) (B := .string t) rfl rfl (by decide) rfl rfl rfl rfl rfl (show ((W2.at d0).at d).heap[W1.heap.size]? = _ from hO) Try.sizeOf44 loud_sums, ?_, Nat.le_refl _, ?_, fun d2 => ?_⟩)
  · intro e he
    simp only [List.mem_toArray, List.mem_cons, List.not_mem_nil, or_false] at he
    rcases he with rfl | rfl
    · exact evL_cell _ _ (hsP 0) (by simp only; omega)
    · exact evL_cell _ _ (hsP 1) (by simp only; omega)
  · exact (aside_setCell _ _ _).size.trans (aside_setCell _ _ _).size
  have hF : ∃ e, ((((W2.at d0).at d).setCell ⟨W1.heap.size, 0, none⟩ (.int .i64 i)).setCell ⟨W1.heap.size, 1, none⟩ (.string t)).at d2 = ((W2.setCell ⟨W1.heap.size, 0, none⟩ (.int .i64 i)).setCell ⟨W1.heap.size, 1, none⟩ (.string t)).at e := ⟨d2, rfl⟩
  have hW3 := (hW2.aside (ad := ⟨W1.heap.size, 0, none⟩) (x := .int .i64 i) (by simp only; omega) (by simp only; omega) (by simp only; omega) (by simp only; omega)).aside (ad := ⟨W1.heap.size, 1, none⟩) (x := .string t) (by simp only; omega) (by simp only; omega) (by simp only; omega) (by simp only; omega)
  have z3 : ((W2.setCell ⟨W1.heap.size, 0, none⟩ (.int .i64 i)).setCell ⟨W1.heap.size, 1, none⟩ (.string t)).heap.size = W1.heap.size + 1 := ((aside_setCell _ _ _).size.trans (aside_setCell _ _ _).size).trans z2
  have hP3 : ((W2.setCell ⟨W1.heap.size, 0, none⟩ (.int .i64 i)).setCell ⟨W1.heap.size, 1, none⟩ (.string t)).heap[W1.heap.size]? = some (.cells #[.int .i64 i, .string t] 44 (0, 0)) := by
    simp [World.setCell, hO, Array.getElem?_modify]
  generalize ((((W2.at d0).at d).setCell ⟨W1.heap.size, 0, none⟩ (.int .i64 i)).setCell ⟨W1.heap.size, 1, none⟩ (.string t)).at d2 = w₃ at *
  generalize (W2.setCell ⟨W1.heap.size, 0, none⟩ (.int .i64 i)).setCell ⟨W1.heap.size, 1, none⟩ (.string t) = W3 at *
  clear d0 d d2
  have c0 : W3.cell? ⟨W1.heap.size, 0, none⟩ = some (.int .i64 i) := by simp [World.cell?, hP3]
  have c1 : W3.cell? ⟨W1.heap.size, 1, none⟩ = some (.string t) := by simp [World.cell?, hP3]
  walk_nrm
  refine To.goes 30 _ _ ?_
  u_c stepG_region_end (rlAt W3) hF
  u_reg (rlAt W3) hF
  u_op (rlAt W3) hF
  u_op (rlAt W3) hF
  refine Goes.stop (fun w₁ h₁ => ?_)
  obtain ⟨d0, rfl⟩ := rlAt W3 hF h₁
  clear h₁ hF
  refine To.reads (ad := ⟨W1.heap.size, 0, none⟩) rfl (show W1.heap.size < W3.heap.size by omega) (hsP 0) (fun d => stepG_load1 rfl rfl (by decide) rfl rfl (show ((W3.at d0).at d).cell? _ = _ from c0) Try.isAgg3 loud_sums) (fun d => ?_)
  have hF : ∃ e, (W3.at d0).at d = W3.at e := ⟨d, rfl⟩
  generalize (W3.at d0).at d = w₂ at *
  clear d0 d
  walk_nrm
  refine To.goes 30 _ _ ?_
  u_op (rlAt W3) hF
  refine Goes.stop (fun w₁ h₁ => ?_)
  obtain ⟨d0, rfl⟩ := rlAt W3 hF h₁
  clear h₁ hF
  refine To.reads (ad := ⟨W1.heap.size, 1, none⟩) rfl (show W1.heap.size < W3.heap.size by omega) (hsP 1) (fun d => stepG_load1 rfl rfl (by decide) rfl rfl (show ((W3.at d0).at d).cell? _ = _ from c1) Try.isAgg9 loud_sums) (fun d => ?_)
  have hF : ∃ e, (W3.at d0).at d = W3.at e := ⟨d, rfl⟩
  generalize (W3.at d0).at d = w₂ at *
  clear d0 d
  walk_nrm
  refine To.goes 30 _ _ ?_
  u_op (rlAt W3) hF
  refine Goes.stop (fun w₁ h₁ => ?_)
  obtain ⟨d0, rfl⟩ := rlAt W3 hF h₁
  clear h₁ hF
  have cG : W3.cell? ⟨Gb, i, none⟩ = some (R[i]'(by omega)) := by simp [World.cell?, hW3.res, hR, hi]
  have fG : W3.frozen? ⟨Gb, i, none⟩ = false := by simp [World.frozen?, hW3.res]
  refine To.stores (ad := ⟨Gb, i, none⟩) (v := .string t) rfl (show Gb < W3.heap.size by omega) (hs Gb d4 _ rfl d7) (fun d => stepG_storeOp rfl rfl (by decide) rfl (by simp [Act.eval]) rfl (.inr ⟨_, rfl⟩) (show ((W3.at d0).at d).cell? _ = _ from cG) (show ((W3.at d0).at d).frozen? _ = _ from fG) Try.sizeOf9 loud_sums) (fun d => ?_)
  have hF : ∃ e, ((W3.at d0).setCell ⟨Gb, i, none⟩ (.string t)).at d = (W3.setCell ⟨Gb, i, none⟩ (.string t)).at e := ⟨d, rfl⟩
  have hW4 := hW3.put (i := i) (x := .string t) (Ne.symm d1) (Ne.symm d2) d4
  have z4 : (W3.setCell ⟨Gb, i, none⟩ (.string t)).heap.size = W3.heap.size := (aside_setCell _ _ _).size
  generalize ((W3.at d0).setCell ⟨Gb, i, none⟩ (.string t)).at d = w₂ at *
  generalize W3.setCell ⟨Gb, i, none⟩ (.string t) = W4 at *
  clear d0 d
  walk_nrm
  refine To.goes 30 _ _ ?_
  u_c stepG_region_end (rlAt W4) hF
  u_c stepG_inBlock (rlAt W4) hF
  u_c stepG_inBlock (rlAt W4) hF
  u_c stepG_inLoop (rlAt W4) hF
  refine Goes.stop (fun w₅ h₅ => hnext _ W4 _ (by omega) hW4 ?_ (rlAt W4 hF h₅))
  simp only [AtTk, tkC, endC, tailC, restC, sumsBody, Try.f22, Option.getD_some]
  exact ⟨_, _, _, _, _, _, _, _, _, _, _, _, _, _, _, _, _, _, _, _, _, _, rfl⟩
end Go.Proofs.Ythifdfbdekkmgaa

/- code.sums, from Wait to its way back. -/
namespace Go.Proofs.Ythifdfbdekkmgaa
open Go.Conc Go.ConcN Go.RowKit Go.Conc.Lib Go.ConcR.Gen Go.ConcN.Gen
open Go.ConcR (KK wgBlock WgAt stA smA rd wr mk Payload Aside2 DC0)
set_option linter.unusedVariables false
set_option linter.unusedSectionVars false
def putAll (S : Nat → ByteArray) (τ : List Nat) (R : Array Value) : Array Value := τ.foldl (fun R i => R.setIfInBounds i (.string (S i))) R
theorem putAll_size (S : Nat → ByteArray) : ∀ (τ : List Nat) (R : Array Value), (putAll S τ R).size = R.size
  | [], R => rfl
  | i :: τ, R => by
    show (putAll S τ (R.setIfInBounds i (.string (S i)))).size = _
    rw [putAll_size S τ]
    simp
theorem putAll_get (S : Nat → ByteArray) : ∀ (τ : List Nat) (R : Array Value) (j : Nat), j < R.size → (putAll S τ R)[j]? = if j ∈ τ then some (.string (S j)) else R[j]?
  | [], R, j, h => by simp [putAll]
  | i :: τ, R, j, h => by
    show (putAll S τ (R.setIfInBounds i (.string (S i))))[j]? = _
    rw [putAll_get S τ _ j (by simpa using h)]
    by_cases hj : j ∈ τ
    · rw [if_pos hj, if_pos (by simp [hj])]
    · rw [if_neg hj, Array.getElem?_setIfInBounds]
      by_cases e : i = j
      · subst e
        rw [if_pos rfl, if_pos h, if_pos (by simp)]
      · rw [if_neg e, if_neg (by simp [hj]; exact Ne.symm e)]
theorem putAll_all (S : Nat → ByteArray) {n : Nat} {σ : List Nat} (hσ : ∀ i, i ∈ σ ↔ i < n) {R : Array Value} (hR : R.size = n) : putAll S σ R = Array.ofFn (n := n) fun j => .string (S j.val) := by
  apply Array.ext
  · rw [putAll_size, hR]; simp
  · intro j h1 h2
    have hj : j < R.size := by rw [putAll_size] at h1; exact h1
    have := putAll_get S σ R j hj
    rw [if_pos ((hσ j).2 (by omega)), Array.getElem?_eq_getElem h1] at this
    rw [Option.some.inj this]
    simp
variable [NoCx Try.prog] [Payload]
theorem sums_takes {Shun : Loc → Prop} {Q : Goroutine → World → Prop} {rv y : Value} {n Gb Ch Bx Mv Wg N0 : Nat} {W0 : World} {k : List Item} {cs : List Frame} (S : Nat → ByteArray) (hn : n ≤ 1000) (d1 : Gb ≠ Ch) (d2 : Gb ≠ Mv) (d3 : Ch ≠ Mv) (d4 : N0 ≤ Gb) (d5 : N0 ≤ Ch) (d6 : N0 ≤ Mv) (hs : ∀ c, N0 ≤ c → (∀ a : Addr, a.block = c → c ≠ Wg → ¬ Shun (.cell a)))
    (d7 : Gb ≠ Wg) (d8 : Mv ≠ Wg) {s : Nat} {R0 : Array Value} {σ : List Nat} (hQ : ∀ g' W' w' r', TkW n Gb Ch Mv N0 W0 [] s r' (putAll S σ R0) W' → AtBack n Gb cs g' → (∃ d, w' = W'.at d) → Q g' w') :
    ∀ (τ : List Nat) (r : Nat) (R : Array Value) (W : World) (g : Goroutine) (w : World), putAll S τ R = putAll S σ R0 → (∀ i ∈ τ, i < n) → R.size = n → Wg < W.heap.size → TkW n Gb Ch Mv N0 W0 (τ.map fun (i : Nat) => Value.agg #[.int .i64 (i : Int), .string (S i)]) s r R W → AtTk rv y n Gb Ch Bx Mv Wg k cs g → (∃ d, w = W.at d) → To Try.prog Shun Q g w
  | [], r, R, W, g, w, he, hτ, hR, hWg, hW, hA, hF => sums_took hn d1 d2 d3 d4 d5 d6 hs d7 d8 W hW (fun g' w' hb hd => hQ g' W w' r (by rw [← he]; exact hW) hb hd) g hA w hF
  | i :: τ, r, R, W, g, w, he, hτ, hR, hWg, hW, hA, hF => sums_take hn d1 d2 d3 d4 d5 d6 hs d7 d8 (hτ i (by simp)) hR W hWg hW (fun g' W' w' hz hW' hA' hF' =>
      sums_takes S hn d1 d2 d3 d4 d5 d6 hs d7 d8 hQ τ (r + 1) (R.setIfInBounds i (.string (S i))) W' g' w' he (fun x hx => hτ x (by simp [hx])) (by simpa using hR) hz hW' hA' hF') g hA w hF
set_option maxRecDepth 100000 in
set_option maxHeartbeats 4000000 in
theorem sums_back {Shun : Loc → Prop} {Q : Goroutine → World → Prop} {a : Option Addr} {capR : Nat} {y : Value} {n Ch Bx Mv Wg N0 : Nat} {W0 : World} {cs : List Frame} (S : Nat → ByteArray) (hn : n ≤ 1000) (d3 : Ch ≠ Mv) (d5 : N0 ≤ Ch) (d6 : N0 ≤ Mv) (hs : ∀ c, N0 ≤ c → (∀ a : Addr, a.block = c → c ≠ Wg → ¬ Shun (.cell a)))
    (d8 : Mv ≠ Wg) {s : Nat} {σ : List Nat} {R0 : Array Value} (hR0 : R0.size = n) (hσ : ∀ i, i ∈ σ ↔ i < n)
    (hmk : ∀ w, (Instr.makeSlice 23 (.int .i64 n) (.int .i64 n)).run Try.prog w = .ok (.slice (some ⟨w.heap.size, 0, none⟩) n n) (w.alloc (.cells R0 9))) (hme : ∀ w es, (Instr.makeSlice 23 (.int .i64 n) (.int .i64 n)).events Try.prog w es = es)
    (W : World) (hWg : Wg < W.heap.size) (hN : N0 ≤ W.heap.size) (hch : W.heap[Ch]? = some (.chan n (σ.map fun (i : Nat) => Value.agg #[.int .i64 (i : Int), .string (S i)]).toArray false s 0 false)) (hmv : W.cell? ⟨Mv, 0, none⟩ = some (.chan (some Ch))) (hold : ∀ c, c < N0 → W.heap[c]? = W0.heap[c]?) (h1 : W.tape = W0.tape) (h2 : W.os = W0.os) (h3 : W.output = W0.output)
    (hQ : ∀ g' W' w' r', TkW n W.heap.size Ch Mv N0 W0 [] s r' (Array.ofFn (n := n) fun j => .string (S j.val)) W' → AtBack n W.heap.size cs g' → (∃ d, w' = W'.at d) → Q g' w') (g : Goroutine) (hA : AtOut (.slice a n capR) y n Ch Bx Mv Wg [.inScope scopeC] cs g) (w : World) (hF : ∃ d, w = W.at d) : To Try.prog Shun Q g w := by
  obtain ⟨v7, v8, v17, v18, v19, v20, v21, v22, v23, v24, rfl⟩ := hA
  simp only [opsW, tailC, restC, sumsBody, Try.f22, Option.getD_some]
  refine To.goes 20 _ _ ?_
  u_c stepG_region_end (rlAt W) hF
  u_c stepG_seq (rlAt W) hF
  u_reg (rlAt W) hF
  u_op (rlAt W) hF
  u_op (rlAt W) hF
  refine Goes.stop (fun w₁ h₁ => ?_)
  obtain ⟨d0, rfl⟩ := rlAt W hF h₁
  clear h₁ hF
  refine To.makes rfl (fun d => stepG_makeRowOp (n := n) (N := W.heap.size) rfl rfl rfl (by decide) rfl rfl rfl hmk hme) (fun d => ?_)
  have hF : ∃ e, ((W.at d0).alloc (.cells R0 9)).at d = (W.alloc (.cells R0 9)).at e := ⟨d, rfl⟩
  have hCz : Ch < W.heap.size := (Array.getElem?_eq_some_iff.1 hch).1
  have hMz : Mv < W.heap.size := cell_lt hmv
  have hk : ∀ c, c < W.heap.size → (W.alloc (.cells R0 9)).heap[c]? = W.heap[c]? := fun c hc => by rw [alloc_new, if_neg (by omega)]
  have hW1 : TkW n W.heap.size Ch Mv N0 W0 (σ.map fun (i : Nat) => Value.agg #[.int .i64 (i : Int), .string (S i)]) s 0 R0 (W.alloc (.cells R0 9)) := ⟨(hk _ hCz).trans hch, by rw [alloc_new, if_pos rfl], (cell_kept (hk _ hMz) 0).trans hmv, fun c hc => (hk c (by omega)).trans (hold c hc), h1, h2, h3⟩
  have z1 : Wg < (W.alloc (.cells R0 9)).heap.size := by show Wg < (W.heap.push _).size; simp; omega
  generalize ((W.at d0).alloc (.cells R0 9)).at d = w₃ at *
  generalize W.alloc (.cells R0 9) = W1 at *
  clear d0 d
  walk_nrm
  refine To.goes 20 _ _ ?_
  u_op (rlAt W1) hF
  u_c stepG_region_end (rlAt W1) hF
  u_c stepG_seq (rlAt W1) hF
  u_c stepG_label (rlAt W1) hF
  u_c stepG_seq (rlAt W1) hF
  u_c stepG_block (rlAt W1) hF
  u_c stepG_loop (rlAt W1) hF
  refine Goes.stop (fun w₂ h₂ => ?_)
  refine sums_takes (rv := .slice a n capR) (y := y) (k := [.inScope scopeC]) (Bx := Bx) S hn (by omega) (by omega) d3 hN d5 d6 hs (by omega) d8 (σ := σ) (R0 := R0) (fun g' W' w' r' t1 t2 t3 => hQ g' W' w' r' (by rw [← putAll_all S hσ hR0]; exact t1) t2 t3) σ 0 R0 W1 _ w₂ rfl (fun i hi => (hσ i).1 hi) hR0 z1 hW1 ?_ (rlAt W1 hF h₂)
  simp only [AtTk, tkC, endC, tailC, restC, sumsBody, Try.f22, Option.getD_some]
  exact ⟨_, _, _, _, _, _, _, _, _, _, _, _, _, _, _, _, _, _, _, _, _, _, rfl⟩
end Go.Proofs.Ythifdfbdekkmgaa

/- code.sums with its goroutines, whole. -/
namespace Go.Proofs.Ythifdfbdekkmgaa
open Go.Conc Go.ConcN Go.RowKit Go.Conc.Lib Go.ConcR.Gen Go.ConcN.Gen
open Go.ConcR (KK wgBlock WgAt stA smA rd wr mk Payload Aside2 DC0)
set_option linter.unusedVariables false
set_option linter.unusedSectionVars false
theorem vr_slice {r : Ren} {a : Option Addr} {l m : Nat} {v : Value} (h : VR r (.slice a l m) v) : ∃ a', v = .slice a' l m := by
  cases h with
  | nilSlice => exact ⟨_, rfl⟩
  | slice => exact ⟨_, rfl⟩
theorem real_chan (n : Nat) (hn : n ≤ 1000) (w : World) : (Instr.makeChan 63 (.int .i64 n)).run Try.prog w = .ok (.chan (some w.heap.size)) (w.alloc (.chan n #[] false 0 0 false)) := by
  have h : (Try.prog.info? 44).map (·.bytes) = some 24 := by kernel_rfl
  obtain ⟨i, hi, hz⟩ := Option.map_eq_some_iff.1 h
  exact run_makeChan Try.underlying63 hi .i64 n (by omega) (by rw [hz]; omega)
theorem real_chan_ev (n : Nat) (hn : n ≤ 1000) (w : World) (es : Array Event) : (Instr.makeChan 63 (.int .i64 n)).events Try.prog w es = es := by
  have h : (Try.prog.info? 44).map (·.bytes) = some 24 := by kernel_rfl
  obtain ⟨i, hi, hz⟩ := Option.map_eq_some_iff.1 h
  exact events_makeChan Try.underlying63 hi .i64 n (by omega) (by rw [hz]; omega) es
theorem real_make (n : Nat) (hn : n ≤ 1000) (w : World) : (Instr.makeSlice 23 (.int .i64 n) (.int .i64 n)).run Try.prog w = .ok (.slice (some ⟨w.heap.size, 0, none⟩) n n) (w.alloc (.cells (madeCells #[.string ByteArray.empty] n) 9)) := by
  have h : (Try.prog.info? 9).map (fun i => (i.zero, i.size, i.bytes)) = some (some (.string ByteArray.empty), 1, 16) := by kernel_rfl
  exact run_make_row' (P := Try.prog) 23 9 (.string ByteArray.empty) 16 Try.underlying23 h rfl .i64 .i64 n (by omega) (by omega) w
theorem real_make_ev (n : Nat) (hn : n ≤ 1000) (w : World) (es : Array Event) : (Instr.makeSlice 23 (.int .i64 n) (.int .i64 n)).events Try.prog w es = es := by
  have h : (Try.prog.info? 9).map (fun i => (i.zero, i.size, i.bytes)) = some (some (.string ByteArray.empty), 1, 16) := by kernel_rfl
  obtain ⟨i, hi, hz⟩ := Option.map_eq_some_iff.1 h
  simp only [Prod.mk.injEq] at hz
  exact events_make_small 23 9 i Try.underlying23 hi hz.1 n (by rw [hz.2.2]; omega) (by omega) w es
variable [NoCx Try.prog] [Payload]
set_option maxHeartbeats 1000000 in
theorem sums_real (hz0 : Zs Try.prog) {r : Ren} {u w : World} {rv y : Value} {aL aR : Option Addr} {cap capR : Nat} {ss rows : List ByteArray} (hr : HR Try.prog (fun c => ∃ b, r b c) r u w)
    (hv : VR r (.slice aR rows.length capR) rv) (hy : VR r (.slice aL ss.length cap) y) (hSR : Kid.Strs u aR rows) (hS : Kid.Strs u aL ss) (hl' : ss.length ≤ 64) (hlr : rows.length ≤ 64) (hz : ∀ s ∈ ss, s.size ≤ 100000000) (hcs : ∀ s ∈ rows, s.size ≤ 100000000)
    {cs : List Frame} {Shun : Loc → Prop} {gs : Array Goroutine} {sl : Option (Nat × Nat)} {t : Trace} (hF : Fr Try.prog Shun w.heap.size gs (G (Frame.enter Try.prog 22 #[rv, y] .normal) cs) t)
    (hfree : ∀ b c, r b c → Free Shun c) (hnew : ∀ c, w.heap.size ≤ c → Free Shun c) :
    ∃ (N : Nat) (gs' : Array Goroutine) (g' : Goroutine) (w' : World) (sl' : Option (Nat × Nat)) (t' : Trace) (Gb Wg : Nat), runNT Try.prog N (crowd gs w sl) t = (.next (crowd gs' w' sl'), t') ∧ Fr Try.prog (fun l => Shun l ∨ ShN Wg l) w'.heap.size gs' g' t' ∧ AtBack rows.length Gb cs g' ∧
      w.heap.size ≤ Gb ∧ w.heap.size ≤ Wg ∧ Gb ≠ Wg ∧ Wg < w'.heap.size ∧ w'.heap[Gb]? = some (.cells (Array.ofFn (n := rows.length) fun j => .string (Kid.sumS (rows.getD j.val ByteArray.empty) ss)) 9 (0, 0)) ∧ (∀ c, c < w.heap.size → w'.heap[c]? = w.heap[c]?) ∧ w'.tape = w.tape ∧ w'.os = w.os ∧ w'.output = w.output := by
  obtain ⟨a', rfl⟩ := vr_slice hv
  obtain ⟨b', rfl⟩ := vr_slice hy
  obtain ⟨n, hn⟩ : ∃ n, rows.length = n := ⟨_, rfl⟩
  rw [hn] at hF hlr ⊢
  obtain ⟨N, hN⟩ : ∃ N, w.heap.size = N := ⟨_, rfl⟩
  -- to its group
  obtain ⟨W4, hW4⟩ : ∃ W4, W4 = (((w.alloc (.cells (Value.slice b' ss.length cap).cells 23 (0, 0))).alloc (.chan n #[] false 0 0 false)).alloc (.cells (Value.chan none).cells 63 (0, 0))).setCell ⟨w.heap.size + 2, 0, none⟩ (.chan (some (w.heap.size + 1))) := ⟨_, rfl⟩
  obtain ⟨N1, gs1, g1, w1, sl1, t1, hr1, hF1, _, hA1, d1, hd1⟩ := sums_pro (Shun := Shun) (Q := fun g' w' => AtWg (.slice a' n capR) (.slice b' ss.length cap) n (w.heap.size + 1) w.heap.size (w.heap.size + 2) cs g' ∧ ∃ d, w' = W4.at d) (a := a') (n := n) (capR := capR) (y := .slice b' ss.length cap) (by omega) (cs := cs) w (fun w => real_chan n (by omega) w) (fun w es => real_chan_ev n (by omega) w es) hnew (fun g' w' hA hd => ⟨hA, by rw [hW4]; exact hd⟩) w ⟨w.drawn, rfl⟩ gs w.drawn sl t hF
  subst hd1
  -- the world then
  have z1 : (w.alloc (.cells (Value.slice b' ss.length cap).cells 23 (0, 0))).heap.size = N + 1 := by rw [← hN]; show (w.heap.push _).size = _; simp
  have z2 : ((w.alloc (.cells (Value.slice b' ss.length cap).cells 23 (0, 0))).alloc (.chan n #[] false 0 0 false)).heap.size = N + 2 := by rw [show N + 2 = N + 1 + 1 from rfl, ← z1]; show (Array.push _ _).size = _; simp
  have z3 : (((w.alloc (.cells (Value.slice b' ss.length cap).cells 23 (0, 0))).alloc (.chan n #[] false 0 0 false)).alloc (.cells (Value.chan none).cells 63 (0, 0))).heap.size = N + 3 := by rw [show N + 3 = N + 2 + 1 from rfl, ← z2]; show (Array.push _ _).size = _; simp
  have z4 : W4.heap.size = N + 3 := by rw [hW4]; exact (aside_setCell _ _ _).size.trans z3
  have k1 : ∀ c, c ≠ N + 2 → W4.heap[c]? = if c = N + 1 then some (.chan n #[] false 0 0 false) else if c = N then some (.cells #[.slice b' ss.length cap] 23 (0, 0)) else w.heap[c]? := by
    intro c hc
    rw [hW4, (aside_setCell _ ⟨w.heap.size + 2, 0, none⟩ _).block c (by simp only; omega), alloc_new, z2, if_neg hc, alloc_new, z1, alloc_new, hN]
    rfl
  have k2 : W4.cell? ⟨N + 2, 0, none⟩ = some (.chan (some (N + 1))) := by
    have hO : One (N + 2) (.chan none) (((w.alloc (.cells (Value.slice b' ss.length cap).cells 23 (0, 0))).alloc (.chan n #[] false 0 0 false)).alloc (.cells (Value.chan none).cells 63 (0, 0))) := ⟨_, by rw [alloc_new, z2, if_pos rfl]; rfl⟩
    rw [hW4, hN]
    exact hO.set.cell
  have e1 : W4.tape = w.tape := by rw [hW4]; exact (aside_setCell _ _ _).tape
  have e2 : W4.os = w.os := by rw [hW4]; exact (aside_setCell _ _ _).os
  have e3 : W4.output = w.output := by rw [hW4]; exact (aside_setCell _ _ _).output
  rw [hN] at hA1 hnew
  clear hW4
  -- to the head of the loop
  obtain ⟨N2, gs2, g2, w2, sl2, t2, hr2, hF2, _, hA2, d2, hd2⟩ := sums_pro2 (Shun := Shun) (B := N + 3) (Q := fun g' w' => AtLp (.slice a' n capR) (.slice b' ss.length cap) n (N + 1) N (N + 2) W4.heap.size (.code restC :: [.inScope scopeC]) cs 0 g' ∧ ∃ d, w' = (W4.alloc (wgBlock lnk.tWg 0 0)).at d) W4 (fun g' w' hA hd => ⟨hA, hd⟩) g1 hA1 (W4.at d1) ⟨d1, rfl⟩ gs1 d1 sl1 t1 (by rw [show (W4.at d1).heap.size = N + 3 from z4] at hF1; exact hF1)
  rw [z4] at hA2
  obtain ⟨W5, hW5⟩ : ∃ W5, W5 = W4.alloc (wgBlock lnk.tWg 0 0) := ⟨_, rfl⟩
  have z5 : W5.heap.size = N + 4 := by rw [hW5, show N + 4 = N + 3 + 1 from rfl, ← z4]; show (Array.push _ _).size = _; simp
  have k3 : ∀ c, W5.heap[c]? = if c = N + 3 then some (wgBlock lnk.tWg 0 0) else W4.heap[c]? := fun c => by rw [hW5, alloc_new, z4]
  rw [← hW5] at hd2
  have f1 : W5.tape = w.tape := by rw [hW5]; exact e1
  have f2 : W5.os = w.os := by rw [hW5]; exact e2
  have f3 : W5.output = w.output := by rw [hW5]; exact e3
  clear hW5
  subst hd2
  have k4 : ∀ c, c < N → W5.heap[c]? = w.heap[c]? := fun c hc => by rw [k3, if_neg (by omega), k1 c (by omega), if_neg (by omega), if_neg (by omega)]
  have hr5 : HR Try.prog (fun c => ∃ b, r b c) r u (W5.at d2) := hr.turned (fun b c x => k4 c (by have := (hr.lt x).2; omega)) (by show _ ≤ W5.heap.size; omega)
  have hrN : ∀ b c, r b c → c < N := fun b c x => by have := (hr.lt x).2; omega
  -- they work
  obtain ⟨N3, gs3, g3, w3, sl3, t3, hr3, hF3, hA3, o1, o2, o3, o4, o5, o6, buf, s, hbuf, σ, hσ1, hσ2, hσ3⟩ := mill_sums hz0 (rv := .slice a' n capR) (y := .slice b' ss.length cap) (Bx := N) (Mv := N + 2) (Wg := N + 3) (Ch := N + 1) (n := n) (by rw [← hn]; exact hv) hy hSR hS (by omega) hz hcs hn (by omega) (k := [.inScope scopeC]) (cs := cs) (sl := sl2) hF2 (Nat.le_refl _) hA2 hr5
    (by show W5.cell? _ = _; simp only [World.cell?]; rw [k3, if_neg (by omega), k1 N (by omega), if_neg (by omega), if_pos rfl]; rfl)
    (by show W5.cell? _ = _; rw [cell_kept (w := W4) (by rw [k3, if_neg (by omega)]) 0]; exact k2)
    (by show W5.heap[N + 3]? = _; rw [k3, if_pos rfl])
    (by show W5.heap[N + 1]? = _; rw [k3, if_neg (by omega), k1 (N + 1) (by omega), if_pos rfl])
    (fun c h => h.elim (fun ⟨b, hb⟩ => hfree b c hb) fun h => hnew c (by omega))
    (fun b hb => by have := hrN _ _ hb; omega) (fun b hb => by have := hrN _ _ hb; omega) (by omega) (by omega) (by omega) (by omega) (by omega)
  have z6 : N + 4 ≤ w3.heap.size := by rw [← z5]; exact o2
  have k5 : ∀ c, c < N + 4 → c ≠ N + 3 → c ≠ N + 1 → w3.heap[c]? = W5.heap[c]? := fun c c1 c2 c3 => o1 c (by rw [show (W5.at d2).heap.size = N + 4 from z5]; exact c1) c2 c3
  have hsh : ∀ c, N ≤ c → ∀ a : Addr, a.block = c → c ≠ N + 3 → ¬ (Shun (.cell a) ∨ ShN (N + 3) (.cell a)) := by
    rintro c hc a rfl hne (h | ⟨b, e, hb⟩)
    · exact (hnew _ hc).1 a rfl h
    · cases e
      exact hne hb
  obtain ⟨N4, gs4, g4, w4, sl4, t4, hr4, hF4, _, W', r', hT, hA4, d4, hd4⟩ := sums_back (Shun := fun l => Shun l ∨ ShN (N + 3) l) (Q := fun g' w' => ∃ W' r', TkW n w3.heap.size (N + 1) (N + 2) N w [] s r' (Array.ofFn (n := n) fun j => .string (Kid.sumS (rows.getD j.val ByteArray.empty) ss)) W' ∧ AtBack n w3.heap.size cs g' ∧ ∃ d, w' = W'.at d)
    (a := a') (capR := capR) (y := .slice b' ss.length cap) (n := n) (Ch := N + 1) (Bx := N) (Mv := N + 2) (Wg := N + 3) (N0 := N) (W0 := w) (cs := cs) (fun i => Kid.sumS (rows.getD i ByteArray.empty) ss) (by omega) (by omega) (by omega) (by omega) hsh (by omega) (s := s) (σ := σ) (R0 := madeCells #[.string ByteArray.empty] n)
    (by rw [← Array.length_toList, toList_madeCells_one]; simp) hσ3 (fun w => real_make n (by omega) w) (fun w es => real_make_ev n (by omega) w es) w3 (by omega) (by omega)
    (by rw [hbuf]; congr 2; apply Array.ext'; rw [hσ1]) (by rw [cell_kept (w := W5) (k5 (N + 2) (by omega) (by omega) (by omega)) 0, cell_kept (w := W4) (by rw [k3, if_neg (by omega)]) 0]; exact k2)
    (fun c hc => (k5 c (by omega) (by omega) (by omega)).trans (k4 c hc)) (o3.trans f1) (o4.trans f2) (o5.trans f3) (fun g' W' w' r' h1 h2 h3 => ⟨W', r', h1, h2, h3⟩) g3 hA3 w3 ⟨w3.drawn, rfl⟩ gs3 w3.drawn sl3 t3 hF3
  subst hd4
  obtain ⟨st, sm, hlive⟩ := o6
  refine ⟨N1 + (N2 + (N3 + N4)), gs4, g4, _, sl4, t4, w3.heap.size, N + 3, Go.ConcX.runNT_trans hr1 (Go.ConcX.runNT_trans hr2 (Go.ConcX.runNT_trans hr3 hr4)), hF4, hA4, by omega, by omega, by omega, ?_, hT.res, fun c hc => hT.old c (by omega), hT.tape, hT.os, hT.out⟩
  have := (Array.getElem?_eq_some_iff.1 hT.res).1
  show N + 3 < W'.heap.size
  omega
end Go.Proofs.Ythifdfbdekkmgaa

/- code.sums is come through, on both sides. -/
namespace Go.Proofs.Ythifdfbdekkmgaa
open Go.Conc
open Go.ConcN (ShN)
open Go.ConcR (Payload DC0)
set_option linter.unusedVariables false
set_option linter.unusedSectionVars false
/-- What the one alone does at code.sums. -/
def LoneAt (Q : Program) (Stop : Goroutine → World → Prop) (bl : List Frame) (a : Array Value) (l : List Frame) (u : World) : Prop :=
  ∃ (rows ss : List ByteArray) (aR aL : Option Addr) (capR cap : Nat), a = #[.slice aR rows.length capR, .slice aL ss.length cap] ∧ Kid.Strs u aR rows ∧ Kid.Strs u aL ss ∧ rows.length ≤ 64 ∧ ss.length ≤ 64 ∧ (∀ s ∈ ss, s.size ≤ 100000000) ∧ (∀ s ∈ rows, s.size ≤ 100000000) ∧
    ∀ c l0, l = c :: l0 → ∃ (Gl : Nat) (u' : World), (∃ τ g1 u1 es, stepG Q true (G (Frame.enter Q 22 a .normal) (l ++ bl)) (W2 u τ 0) = .go g1 u1 es ∧ Desc Q Stop g1 u1 (G (c.finish (.slice (some ⟨Gl, 0, none⟩) rows.length rows.length)) (l0 ++ bl)) u') ∧
      u.heap.size ≤ Gl ∧ u'.heap[Gl]? = some (.cells (Array.ofFn (n := rows.length) fun j => .string (Kid.sumS (rows.getD j.val ByteArray.empty) ss)) 9 (0, 0)) ∧ (∀ b, b < u.heap.size → u'.heap[b]? = u.heap[b]?) ∧ u.heap.size ≤ u'.heap.size
variable [NoCx Try.prog] [Payload]
theorem strs_stony {u : World} {a : Option Addr} {ss : List ByteArray} (h : Kid.Strs u a ss) : Kid.Strs (Go.Proofs.Ythifdfbdekkmgaa.stony u) a ss := by
  rcases h with h | ⟨b, o, ha, h⟩
  · exact .inl h
  · exact .inr ⟨b, o, ha, fun i hi => (stony_cell u _).trans (h i hi)⟩
theorem SR.self {P : Program} {bq : Bool} {F : Array Func} {sp : FuncId → Bool} {r : Ren} {l l' : List Frame} (h : SR P bq F sp r l l') : SR P bq F sp (selfR r) l l := by
  induction h with
  | nil => exact .nil
  | cons h1 h2 h3 _ ih => exact .cons h1 h2 h3.self ih
theorem free_wg {Shun : Loc → Prop} {Wg c : Nat} (h : Free Shun c) (hc : c ≠ Wg) : Free (fun l => Shun l ∨ ShN Wg l) c := by
  refine ⟨fun a ha => ?_, ?_⟩
  · rintro (x | ⟨b, e, hb⟩)
    · exact h.1 a ha x
    · cases e
      exact hc (ha.symm.trans hb)
  · rintro (x | ⟨b, e, hb⟩)
    · exact h.2 x
    · cases e
set_option maxHeartbeats 1000000 in
theorem phase_sums (hz0 : Zs Try.prog) {bq : Bool} {F : Array Func} {sp : FuncId → Bool} {bl br : List Frame} {Stop : Goroutine → World → Prop}
    (hlone : ∀ a l u, l ≠ [] → (∃ fn, F[22]? = some fn ∧ fn.params.size = a.size) → (∃ r : Ren, HR (Wi Try.prog F) (fun _ => False) r u u ∧ AR r a a ∧ SR Try.prog bq F sp r l l) → Will (Wi Try.prog F) Stop (G (Frame.enter (Wi Try.prog F) 22 a .normal) (l ++ bl)) u → LoneAt (Wi Try.prog F) Stop bl a l u) : PhaseAt Try.prog bq F sp bl br Stop 22 := by
  intro a a' l l' r u w gs sl t Shun h1 h2 hRel hA hL hl hF hW hst
  have hlo := hlone a l u hl h2 ⟨selfR r, hRel.heap.self, hA.self, hL.self⟩ hW
  obtain ⟨rows, ss, aR, aL, capR, cap, rfl, hSR, hS, b1, b2, b3, b4, hrun⟩ := hlo
  obtain ⟨rv, e1, hv⟩ := hA.get (i := 0) rfl
  obtain ⟨y, e2, hy⟩ := hA.get (i := 1) rfl
  have ha' : a' = #[rv, y] := by
    have hz := hA.1
    apply Array.ext
    · rw [← hz]; rfl
    · intro i i1 i2
      match i with
      | 0 => exact (Array.getElem?_eq_some_iff.1 e1).2
      | 1 => exact (Array.getElem?_eq_some_iff.1 e2).2
      | i + 2 => simp at i2; omega
  subst ha'
  have hr := hRel.heap.stony
  obtain ⟨N, gs', g', w', sl', t', Gb, Wg, r1, f1, hB, o1, o2, o3, o4, o5, o6, o7, o8, o9⟩ := sums_real hz0 (cs := l' ++ br) hr hv hy (strs_stony hSR) (strs_stony hS) b2 b1 b3 b4 hF hRel.free hRel.above
  cases hL with
  | nil => exact absurd rfl hl
  | cons m1 m2 m3 m4 =>
    rename_i f b b' todo l l'
    obtain ⟨Gl, u', hd, p1, p2, p3, p4⟩ := hrun _ _ rfl
    obtain ⟨T, todo2, rfl, hT4⟩ := hB
    have hstep : ∀ d, stepG Try.prog true (G { (base 22).at ⟨T, []⟩ todo2 with mode := .returning } ((fz f b' todo false :: l') ++ br)) (w'.at d) = .go (G ((fz f b' todo false).finish (.slice (some ⟨Gb, 0, none⟩) rows.length rows.length)) (l' ++ br)) (w'.at d) #[] := by
      intro d
      have h := step_back (Q := Try.prog) (m := true) (f := 22) (a := T) (todo := todo2) (c := fz f b' todo false) (cs := l' ++ br) (z := w'.at d) Try.func22
      rw [results_tmp (t := 4) rfl, events_results_tmp (t := 4) rfl] at h
      simp only [hT4, seen_none] at h
      exact h
    obtain ⟨N2, gs2, g2, w2, sl2, t2, q1, q2, _, rfl, d, rfl⟩ := To.go (Shun := fun l => Shun l ∨ ShN Wg l) (Q := fun g2 w2 => g2 = G ((fz f b' todo false).finish (.slice (some ⟨Gb, 0, none⟩) rows.length rows.length)) (l' ++ br) ∧ ∃ d, w2 = w'.at d) rfl (C := w'.heap.size)
      (fun d => ⟨_, w'.at d, #[], hstep d, fun e he => by simp at he, Nat.le_refl _, rfl, fun d2 => To.done fun d3 => ⟨rfl, d3, rfl⟩⟩) gs' w'.drawn sl' t' f1
    obtain ⟨s, hs⟩ : ∃ s : Ren, s = fun b c => r b c ∨ (b = Gl ∧ c = Gb) := ⟨_, rfl⟩
    have hle : RLe r s := fun b c x => by rw [hs]; exact .inl x
    have hlt : ∀ {b c}, r b c → b < u.heap.size ∧ c < w.heap.size := fun x => hRel.heap.lt x
    obtain ⟨c, c', t', z1, z2, z3, z4⟩ := finish_alike (P := Try.prog) (bq := bq) (F := F) f m2 (m3.mono hle) (VR.slice (r := s) (b := Gl) (c := Gb) (o := 0) (s := none) rows.length rows.length (by rw [hs]; exact .inr ⟨rfl, rfl⟩))
    have hGb : Gb < w'.heap.size := (Array.getElem?_eq_some_iff.1 o5).1
    refine ⟨N + N2, _, u', s, _, _, gs2, sl2, t2, fun l => Shun l ∨ ShN Wg l, Go.ConcX.runNT_trans r1 q1, hd, ⟨⟨fun b c x => ?_, fun b c d x y => ?_, fun b c d x y => ?_, fun _ h => h.elim, fun b c x => ?_, Nat.le_trans hRel.heap.ug p4, Nat.le_trans hRel.heap.wg (Nat.le_trans o2 (Nat.le_of_lt o4))⟩, fun b c x => ?_, fun c hc => ?_, ?_⟩, q2, ⟨fun b c x => ?_, fun c hc _ => o6 c hc, Nat.le_trans o2 (Nat.le_of_lt o4), o8, o9, o7⟩⟩
    · rw [hs] at x
      rcases x with x | ⟨rfl, rfl⟩
      · obtain ⟨o, o', k1, k2, k3⟩ := hRel.heap.obj b c x
        exact ⟨o, o', (p3 b (hlt x).1).trans k1, (o6 c (hlt x).2).trans k2, k3.mono hle⟩
      · refine ⟨_, _, p2, o5, .cells ⟨rfl, fun i v v' e e' => ?_⟩ (fun _ => rfl) False.elim⟩
        rw [e] at e'
        cases e'
        obtain ⟨hi, rfl⟩ := Array.getElem?_eq_some_iff.1 e
        rw [Array.getElem_ofFn]
        constructor
    · rw [hs] at x y
      rcases x with x | ⟨rfl, rfl⟩ <;> rcases y with y | ⟨h, rfl⟩
      · exact hRel.heap.one b c d x y
      · have := (hlt x).1; omega
      · have := (hlt y).1; omega
      · rfl
    · rw [hs] at x y
      rcases x with x | ⟨rfl, h⟩ <;> rcases y with y | ⟨rfl, h'⟩
      · exact hRel.heap.inj b c d x y
      · have := (hlt x).2; omega
      · have := (hlt y).2; omega
      · rfl
    · rw [hs] at x
      rcases x with x | ⟨rfl, rfl⟩
      · exact hRel.heap.glo b c x
      · exact ⟨Nat.le_trans hRel.heap.ug p1, Nat.le_trans hRel.heap.wg o1⟩
    · rw [hs] at x
      rcases x with x | ⟨rfl, rfl⟩
      · exact free_wg (hRel.free b c x) (by have := (hlt x).2; omega)
      · exact free_wg (hRel.above _ o1) o3
    · exact free_wg (hRel.above c (by have : w'.heap.size ≤ c := hc; omega)) (by have : w'.heap.size ≤ c := hc; omega)
    · rw [z1, z2]
      exact .go (back := false) m1 z4 z3 (m4.mono hle)
    · rw [hs] at x
      rcases x with x | ⟨rfl, rfl⟩
      · exact .inl x
      · exact .inr o1
end Go.Proofs.Ythifdfbdekkmgaa

