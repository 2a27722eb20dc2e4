/- MillKidRun, MillPx, MillSums, MillSumsR, MillWt1, MillSumsW, MillTo, MillGo, MillPro. -/
import Derived.Test.YthifdfbdekkmgaaPart22
import Derived.Test.YthifdfbdekkmgaaPart23
import Derived.Conc.WgWords
import Derived.Test.YthifdfbdekkmgaaPart29
import Derived.Conc.SmallLaws
set_option linter.unusedVariables false
set_option linter.unusedSimpArgs false
set_option linter.unusedSectionVars false
set_option linter.unnecessarySimpa false
set_option linter.deprecated false
/- What each goroutine of code.sums does. -/
namespace Go.Proofs.Ythifdfbdekkmgaa
open Go.Conc Go.ConcN Go.RowKit Go.Conc.Lib Go.ConcR.Gen Go.ConcN.Gen
open Go.ConcR (KK wgBlock WgAt stA smA rd wr mk Payload Aside2 DC0)
set_option linter.unusedVariables false
set_option linter.unusedSectionVars false
variable [Payload]
noncomputable def botF : Frame := { (default : Frame) with fn := Try.prog.funcs.size, defers := [], mode := .panicking [goexitEntry] }
def fKid : FuncId := 35
def kidCall (Wg Rb Bx Mv Ci : Nat) : Deferred := { target := .fn (.func 35) #[.pointer (some ⟨Wg, 0, none⟩), .pointer (some ⟨Rb, 0, none⟩), .pointer (some ⟨Bx, 0, none⟩), .pointer (some ⟨Mv, 0, none⟩), .pointer (some ⟨Ci, 0, none⟩)], args := #[] }
section
variable {m : Mill} {P : Program} {i C : Nat} {R : Nat → Prop} {snt : Bool} {M : Nat → Prop} {g : Goroutine} {w : World}
def SomeCW (m : Mill) (i C : Nat) (R : Nat → Prop) (snt : Bool) (M : Nat → Prop) (g : Goroutine) (w : World) : Prop := ∃ ρ, CW m i C R ρ snt M g w
theorem cw_mk (hP : m.P = P) (hr : g.status = .running)
    (h : ∀ w1, Still m (fun c => M c ∨ R c) w w1 →
      (∃ g' w' es M', stepG P false g w1 = .go g' w' es ∧ Mine M M' w1 w' ∧ (∀ e ∈ es, EvC m M' R w'.heap.size e) ∧ SomeCW m i C R snt M' g' w') ∨
      (snt = false ∧ ∃ g2 z, stepG P false g w1 = .comm g2 #[scase m.Ch (m.val i) z] true .send w1 #[] ∧ SomeCW m i C R true M ({ g2 with frame := g2.frame.finish undef, status := .running, offers := none } : Goroutine) w1) ∨
      (snt = true ∧ AtR0 P m.ty m.Wg C 1 0 1 (m.cval i) g w1)) : SomeCW m i C R snt M g w := by
  subst hP
  exact CW.mk' hr h
theorem cw_goes (hP : m.P = P) {n : Nat} (h : Goes P false (Still m (fun c => M c ∨ R c)) DC0 (SomeCW m i C R snt M) n g w) : SomeCW m i C R snt M g w := by
  subst hP
  exact CW.goes h
theorem cw_reads (hP : m.P = P) (hs : g.status = .running)
    (h : ∀ w1, Still m (fun c => M c ∨ R c) w w1 → ∃ g' ad, stepG P false g w1 = .go g' w1 #[⟨.cell ad, false, false⟩] ∧ (M ad.block ∨ R ad.block) ∧ ad.block < w1.heap.size ∧ SomeCW m i C R snt M g' w1) : SomeCW m i C R snt M g w := by
  subst hP
  exact CW.reads hs h
theorem cw_sim [NoCx P] (hP : m.P = P) (hz : Zs P) {ro : Nat → Prop} {f0 : FuncId} {R0 : Value → World → Prop} {br : List Frame} {Z : Nat → Prop} (hro : ∀ c, ro c → R c) {gl : Goroutine} {u : World} (hw : Will (Wi P (kidF P)) (OutOf (Wi P (kidF P)) f0 R0) gl u)
    (r : Ren) (M : Nat → Prop) (g : Goroutine) (w : World) (h1 : HR P ro r u w) (h2 : ∀ b c, r b c → M c ∨ ro c) (h3 : ∀ c, Z c → c < w.heap.size ∧ (M c ∨ R c)) (h4 : ∀ b c, r b c → Z c → ro c) (h5 : m.Wg < w.heap.size) (h6 : ¬ M m.Wg) (h7 : Out P false (kidF P) (kidSp P) r [trap (Wi P (kidF P))] br gl g)
    (h8 : ∀ gl' u' s M' g' w', OutOf (Wi P (kidF P)) f0 R0 gl' u' → HR P ro s u' w' → (∀ c, M c → M' c) → Out P false (kidF P) (kidSp P) s [trap (Wi P (kidF P))] br gl' g' → Still m Z w w' → SomeCW m i C R false M' g' w') : SomeCW m i C R false M g w := by
  subst hP
  exact CW.sim hz hro hw r M g w h1 h2 h3 h4 h5 h6 h7 h8
theorem cw_done (hP : m.P = P) (hC : M C) {n : Nat} (h : Goes P false (RW m.ty m.Wg C 1 0 0) DC0 (AtR0 P m.ty m.Wg C 1 0 1 (m.cval i)) n g w) : SomeCW m i C R true M g w := by
  subst hP
  exact CW.done hC h
end
/-- What one of them knows. -/
structure Kn (m : Mill) (Rb Bx Mv Ci i : Nat) (row : ByteArray) (y : Value) (w : World) : Prop where
  live : WgLive m.ty m.Wg w
  row : w.cell? ⟨Rb, 0, none⟩ = some (.string row)
  box : w.cell? ⟨Bx, 0, none⟩ = some y
  chan : w.cell? ⟨Mv, 0, none⟩ = some (.chan (some m.Ch))
  ix : w.cell? ⟨Ci, 0, none⟩ = some (.int .i64 i)
theorem cell_kept {w w1 : World} {b : Nat} (h : w1.heap[b]? = w.heap[b]?) (o : Nat) : w1.cell? ⟨b, o, none⟩ = w.cell? ⟨b, o, none⟩ := by simp only [World.cell?, h]
theorem Kn.rely {m : Mill} {Rb Bx Mv Ci i : Nat} {row : ByteArray} {y : Value} {w w1 : World} {H : Nat → Prop} (hH : H Rb ∧ H Bx ∧ H Mv ∧ H Ci) (h : Kn m Rb Bx Mv Ci i row y w) (k : Still m H w w1) : Kn m Rb Bx Mv Ci i row y w1 :=
  ⟨k.live h.live, (cell_kept (k.keep _ hH.1) 0).trans h.row, (cell_kept (k.keep _ hH.2.1) 0).trans h.box, (cell_kept (k.keep _ hH.2.2.1) 0).trans h.chan, (cell_kept (k.keep _ hH.2.2.2) 0).trans h.ix⟩
theorem cell_lt {w : World} {b o : Nat} {v : Value} (h : w.cell? ⟨b, o, none⟩ = some v) : b < w.heap.size := by
  unfold World.cell? at h
  simp only at h
  cases e : w.heap[b]? with
  | none => rw [e] at h; cases h
  | some x => exact (Array.getElem?_eq_some_iff.1 e).1
theorem loud_kid : (Try.prog.funcs[fKid]?).any (·.norace) = false := by kernel_rfl
/-- A plain load of a value of one cell, as one step. -/
theorem stepG_load1 {main : Bool} {b : Frame} {a : Act} {kk : List Item} {cs : List Frame} {w : World} {ops : Array Oper} {i : Nat} {rest : List Nat} {o : Oper} {T : TypeId} {x : Operand} (ho : ops[i]? = some o) (hw : Region.wanted o (yielded ops a.tmps) = true) (hk : b.kind ≠ .early) (hop : o.op = .load T x)
    {ad : Addr} {v : Value} (hx : a.eval x = .pointer (some ad)) (hc : w.cell? ad = some v) (hagg : ∀ w, (isAgg T).run Try.prog w = .ok false w) (hq : (Try.prog.funcs[b.fn]?).any (·.norace) = false) :
    stepG Try.prog main (G (b.at a (.inRegion ops (i :: rest) :: kk)) cs) w = .go (G (b.at (a.put o.dst v) (.inRegion ops rest :: kk)) cs) w #[⟨.cell ad, false, false⟩] := by
  have hr2 : (execOp a.eval o).run Try.prog w = .ok (.value v) w := by
    unfold execOp
    simp only [hop, hx]
    simp [go_sem, hagg, hc]
  have he2 : (execOp a.eval o).events Try.prog w #[] = #[⟨.cell ad, false, false⟩] := by
    unfold execOp
    simp only [hop, hx]
    simp [go_sem, hagg, hc]
  rw [stepG_value ho hw hk hr2]
  unfold listed
  rw [he2, seen_eq hq (by simp)]
theorem goes_callE {P : Program} {main : Bool} {b : Frame} {a : Act} {k : List Item} {cs : List Frame} {w : World} {ops : Array Oper} {i : Nat} {rest : List Nat} {o : Oper} {K : Goroutine → World → Array Event → Prop} {f : FuncId} {fn : Func} {c : Code} {args : Array Operand} {ats : Array TypeId} (vs : Array Value)
    (ho : ops[i]? = some o) (hw : Region.wanted o (yielded ops a.tmps) = true) (hk : b.kind ≠ .early) (hop : o.op = .call { callee := .value (.func f), args, argTypes := ats })
    (hf : P.funcs[f]? = some fn) (hname : (fn.name == "runtime.NumGoroutine") = false) (hb : fn.body = some c) (hv : args.map a.eval = vs)
    (h : K (G (Frame.enter P f vs .normal) (b.at a (.inRegion ops (i :: rest) :: k) :: cs)) w #[]) :
    (stepG P main (G (b.at a (.inRegion ops (i :: rest) :: k)) cs) w).goes K := by
  have hb' : fn.body.isNone = false := by rw [hb]; rfl
  rw [stepG_enter ho hw hk (run_call_body hop hf hname hb'), hv]
  have : listed P b.fn a o w = #[] := by unfold listed; rw [events_call_body hop hf hname hb']; exact seen_none P _
  rw [this]
  exact h
/-- The record of code.sums' goroutine, with what it keeps. -/
noncomputable def kidBody : Code := Try.f35.body.getD .skip
theorem kid_born (Wg Rb Bx Mv Ci : Nat) (w : World) : stepG Try.prog false (born Try.prog (kidCall Wg Rb Bx Mv Ci)) w =
    .go (G ((baseD 35).at ⟨#[.pointer (some ⟨Wg, 0, none⟩), .pointer (some ⟨Rb, 0, none⟩), .pointer (some ⟨Bx, 0, none⟩), .pointer (some ⟨Mv, 0, none⟩), .pointer (some ⟨Ci, 0, none⟩), undef, undef, undef, undef, undef, undef, undef, undef, undef, undef, undef, undef], []⟩ [.code kidBody]) [botF]) w #[] := by
  simp [born, kidCall, stepG, unwind, callDeferred, invoke, callFunc, Try.func35, Try.f35, seen, GStep.after, G, Frame.enter, Frame.at, baseD, botF, kidBody]
theorem kid_out (T : Array Value) : QuitsD Try.prog 2 0 (G { (baseD 35).at ⟨T, []⟩ [] with mode := .returning } [botF]) := by
  refine QuitsD.ctl (g' := G botF []) rfl (fun w => ?_) ?_
  · simp [G, stepG, unwind, doReturn, results, Frame.at, baseD, botF, Try.func35, Try.f35, seen, GStep.after, goexitEntry]
  refine QuitsD.ctl (g' := { G botF [] with status := .finished }) rfl (fun w => ?_) ⟨rfl, rfl⟩
  simp [G, stepG, unwind, botF, goexitEntry, Frame.catches]
  rfl
section
variable {m : Mill} {Rb Bx Mv Ci i : Nat} {row : ByteArray} {y : Value} {R M : Nat → Prop}
theorem stepG_sendOp {P : Program} {main : Bool} {b : Frame} {a : Act} {k : List Item} {cs : List Frame} {w : World} {ops : Array Oper} {i : Nat} {rest : List Nat} {o : Oper} {x y : Operand} {c : Nat} {v : Value} (ho : ops[i]? = some o) (hw : Region.wanted o (yielded ops a.tmps) = true) (hk : b.kind ≠ .early)
    (hop : o.op = .send x y) (hx : a.eval x = .chan (some c)) (hy : a.eval y = v) : stepG P main (G (b.at a (.inRegion ops (i :: rest) :: k)) cs) w = .comm (G (b.at a (.inRegion ops (i :: rest) :: k)) cs) #[scase c v undef] true .send w #[] := by
  have hr : (execOp a.eval o).run P w = .ok (.comm #[scase c v undef] true .send) w := by
    unfold execOp
    simp only [hop, hx, hy]
    rfl
  have he : (execOp a.eval o).events P w #[] = #[] := by
    unfold execOp
    simp only [hop, hx, hy]
    rfl
  rw [stepG_comm ho hw hk hr]
  unfold listed
  rw [he, seen_none]
theorem served_at {b : Frame} {a : Act} {k : List Item} {cs : List Frame} {ops : Array Oper} {i : Nat} {rest : List Nat} {v : Value} :
    ({ G (b.at a (.inRegion ops (i :: rest) :: k)) cs with frame := (G (b.at a (.inRegion ops (i :: rest) :: k)) cs).frame.finish v, status := .running, offers := none } : Goroutine) = G (b.at (a.put ((ops[i]?).bind (·.dst)) v) (.inRegion ops rest :: k)) cs := by
  simp only [G]
  rw [Frame.finish_at]
noncomputable def kidOps1 : Array Oper := match kidBody with | .seq _ (.seq (.region _ ops _) _) => ops | _ => #[]
noncomputable def kidOps2 : Array Oper := match kidBody with | .seq _ (.seq _ (.region _ ops _)) => ops | _ => #[]
set_option maxRecDepth 100000 in
set_option maxHeartbeats 2000000 in
theorem kid_ends (hP : m.P = Try.prog) (hty : m.ty = lnk.tWg) (hH : R Rb ∧ R Bx ∧ R Mv) (hM : M Ci) {res : ByteArray} {e : Int} (hval : m.val i = .agg #[.int .i64 i, .string res]) (hcv : m.cval i = .int .i64 i) (w : World) (hF : Kn m Rb Bx Mv Ci i row y w) :
    SomeCW m i Ci R false M (G ((baseD 35).at ⟨#[.pointer (some ⟨m.Wg, 0, none⟩), .pointer (some ⟨Rb, 0, none⟩), .pointer (some ⟨Bx, 0, none⟩), .pointer (some ⟨Mv, 0, none⟩), .pointer (some ⟨Ci, 0, none⟩), undef, undef, undef, .string row, y, .tuple #[.string res, .int .i64 e], undef, undef, undef, undef, undef, undef], [dcall 36 #[.pointer (some ⟨m.Wg, 0, none⟩)]]⟩ [.inRegion kidOps1 [3, 4, 5, 6, 7], .code (.region 2 kidOps2 false)]) [botF]) w := by
  have hH2 : ∀ {w w1 : World}, Kn m Rb Bx Mv Ci i row y w → Still m (fun c => M c ∨ R c) w w1 → Kn m Rb Bx Mv Ci i row y w1 := fun h k => h.rely (H := fun c => M c ∨ R c) ⟨.inr hH.1, .inr hH.2.1, .inr hH.2.2, .inl hM⟩ k
  simp only [kidOps1, kidOps2, kidBody, Try.f35, Option.getD_some]
  refine cw_goes hP (n := 30) ?_
  u_op hH2 hF
  u_op hH2 hF
  u_op hH2 hF
  u_op hH2 hF
  u_op hH2 hF
  u_c stepG_region_end hH2 hF
  u_reg hH2 hF
  refine Goes.stop (fun w₁ h₁ => ?_)
  replace hF := hH2 hF h₁
  clear h₁
  refine cw_reads hP rfl (fun w₂ h₂ => ⟨_, _, stepG_load1 rfl rfl (by decide) rfl rfl (hH2 hF h₂).chan Try.isAgg63 loud_kid, .inr hH.2.2, cell_lt (hH2 hF h₂).chan, ?_⟩)
  replace hF := hH2 hF h₂
  clear h₂
  walk_nrm
  refine cw_reads hP rfl (fun w₂ h₂ => ⟨_, _, stepG_load1 rfl rfl (by decide) rfl rfl (hH2 hF h₂).ix Try.isAgg3 loud_kid, .inl hM, cell_lt (hH2 hF h₂).ix, ?_⟩)
  replace hF := hH2 hF h₂
  clear h₂
  walk_nrm
  refine cw_goes hP (n := 30) ?_
  u_op hH2 hF
  have b1 := fun w => part_run (i : Int) res w
  have b2 := fun w es => part_events (i : Int) res w es
  u_op hH2 hF
  refine Goes.stop (fun w₁ h₁ => ?_)
  replace hF := hH2 hF h₁
  clear h₁
  -- it sends
  refine cw_mk hP rfl (fun w₂ h₂ => .inr (.inl ⟨rfl, _, _, (stepG_sendOp rfl rfl (by decide) rfl rfl rfl).trans (by rw [hval]; rfl), ?_⟩))
  replace hF := hH2 hF h₂
  clear h₂ b1 b2
  rw [served_at]
  walk_nrm
  refine cw_goes hP (n := 30) ?_
  u_c stepG_region_end hH2 hF
  u_c stepG_end hH2 hF
  g_unwB hH2 hF Try.func36 (nm_done lnk) Try.f36
  refine Goes.stop (fun w₁ h₁ => ?_)
  replace hF := hH2 hF h₁
  clear h₁
  obtain ⟨n, h⟩ := done_c (C := Ci) (val := m.cval i) wgLib rfl (kid_out _) w₁ ⟨hty ▸ hF.live, by rw [hcv]; exact hF.ix⟩
  refine cw_done hP hM (n := n) ?_
  rw [hty]
  exact h
noncomputable def kidFr (Wg Rb Bx Mv Ci : Nat) (row : ByteArray) (y : Value) : Frame := (baseD 35).at ⟨#[.pointer (some ⟨Wg, 0, none⟩), .pointer (some ⟨Rb, 0, none⟩), .pointer (some ⟨Bx, 0, none⟩), .pointer (some ⟨Mv, 0, none⟩), .pointer (some ⟨Ci, 0, none⟩), undef, undef, undef, .string row, y, undef, undef, undef, undef, undef, undef, undef], [dcall 36 #[.pointer (some ⟨Wg, 0, none⟩)]]⟩ [.inRegion kidOps1 [2, 3, 4, 5, 6, 7], .code (.region 2 kidOps2 false)]
theorem vr_str {r : Ren} {s : ByteArray} {v : Value} (h : VR r (.string s) v) : v = .string s := by cases h; rfl
theorem vr_int {r : Ren} {k : IntKind} {n : Int} {v : Value} (h : VR r (.int k n) v) : v = .int k n := by cases h; rfl
theorem kid_sp_sum : kidSp Try.prog 37 = false := by
  unfold kidSp
  rw [Try.func37]
  kernel_rfl
/-- The sum, as the one alone has it. -/
def SumR (row : ByteArray) (ss : List ByteArray) (v : Value) (_ : World) : Prop := v = .tuple #[.string (Kid.sumS row ss), .int .i64 (Kid.sumE row ss)]
theorem cw_sum [NoCx Try.prog] (hz0 : Zs Try.prog) (hP : m.P = Try.prog) {r : Ren} {u : World} {aL : Option Addr} {cap : Nat} {ss : List ByteArray}
    (hy : VR r (.slice aL ss.length cap) y) (hR : ∀ b c, r b c → R c) (hS : Kid.Strs u aL ss) (hl : ss.length ≤ 100000000) (hz : ∀ s ∈ ss, s.size ≤ 100000000) (hcs : row.size ≤ 100000000)
    {Z : Nat → Prop} (w : World) (hr : HR Try.prog (fun c => ∃ b, r b c) r u w) (hZ : ∀ c, Z c → c < w.heap.size ∧ (M c ∨ R c)) (hWg : m.Wg < w.heap.size) (hMw : ¬ M m.Wg) {br : List Frame}
    (hnext : ∀ a' todo w' M', a'.getD 4 undef = .string (Kid.sumS row ss) → a'.getD 5 undef = .int .i64 (Kid.sumE row ss) → (∀ c, M c → M' c) → Still m Z w w' → SomeCW m i Ci R false M' (G { (base 37).at ⟨a', []⟩ todo with mode := .returning } br) w') :
    SomeCW m i Ci R false M (G (Frame.enter Try.prog 37 #[.string row, y] .normal) br) w := by
  have hQ : Kid.prog = Wi Try.prog (kidF Try.prog) := rfl
  have ha : AR r #[.string row, .slice aL ss.length cap] #[.string row, y] := by
    refine ⟨rfl, fun i v v' e e' => ?_⟩
    match i with
    | 0 => simp at e e'; subst e e'; constructor
    | 1 => simp at e e'; subst e e'; exact hy
    | i + 2 => simp at e
  have hzQ : Zs (Wi Try.prog (kidF Try.prog)) := hz0
  have hL : LI (Wi Try.prog (kidF Try.prog)) [trap (Wi Try.prog (kidF Try.prog))] (G (Frame.enter (Wi Try.prog (kidF Try.prog)) 37 #[.string row, .slice aL ss.length cap] .normal) [trap (Wi Try.prog (kidF Try.prog))]) u :=
    li_of kid_lone Kid.func37 rfl hr.self ha.self
  have hW : Will (Wi Try.prog (kidF Try.prog)) (OutOf (Wi Try.prog (kidF Try.prog)) 37 (SumR row ss)) (G (Frame.enter (Wi Try.prog (kidF Try.prog)) 37 #[.string row, .slice aL ss.length cap] .normal) [trap (Wi Try.prog (kidF Try.prog))]) u :=
    will_of hzQ kid_lone (OutOf.halts _ _) hL (comes1_of hzQ kid_lone (fun v w T D h => h) hL fun τ => (Kid.sum_any row aL cap ss (W2 u τ 0) hS hl hz hcs).mono fun e w' h => ⟨_, h.1, rfl⟩)
  have hfQ : (kidF Try.prog)[(37 : FuncId)]? = some Try.f37 := Kid.func37
  have hO : Out Try.prog false (kidF Try.prog) (kidSp Try.prog) r [trap (Wi Try.prog (kidF Try.prog))] br (G (Frame.enter (Wi Try.prog (kidF Try.prog)) 37 #[.string row, .slice aL ss.length cap] .normal) [trap (Wi Try.prog (kidF Try.prog))]) (G (Frame.enter Try.prog 37 #[.string row, y] .normal) br) := by
    rw [enter_at (P := Wi Try.prog (kidF Try.prog)) _ Kid.func37 rfl, enter_at (P := Try.prog) _ Try.func37 rfl]
    exact Out.go (l := []) (l' := []) (back := false) ⟨kid_sp_sum, _, hfQ⟩ (by simp only [List.all_cons, List.all_nil, Bool.and_true, itemW]; exact (kid_fs (P := Try.prog) (fun c => ∃ b, r b c)).code _ _ _ kid_sp_sum hfQ rfl) (pad_alike ha _) .nil
  refine cw_sim hP hz0 (ro := fun c => ∃ b, r b c) (fun c ⟨b, h⟩ => hR b c h) hW r M _ w hr (fun b c h => .inr ⟨b, h⟩) hZ (fun b c h _ => ⟨b, h⟩) hWg hMw hO ?_
  rintro gl' u' s M' g' w' ⟨a, todo, v, fn, rfl, hfn, hres, hv⟩ hr' hM' hO' hk
  rcases hO'.inv with ⟨f, b, b', todo2, back, l, l', k1, k2, k3, k4, e1, rfl⟩ | ⟨f, b, b', l, l', k1, k0, k3, k4, k5, e1, rfl⟩
  · have e2 : fz 37 a todo true = fz f b todo2 back ∧ [trap (Wi Try.prog (kidF Try.prog))] = l ++ [trap (Wi Try.prog (kidF Try.prog))] := by
      unfold G at e1
      simpa using e1
    obtain ⟨e2, e3⟩ := e2
    have hl0 : l = [] := by simpa using e3
    subst hl0
    cases k4
    have hf : (37 : FuncId) = f := congrArg Frame.fn e2
    have hb : a = b := congrArg Frame.tmps e2
    have hm := congrArg Frame.mode e2
    subst hf hb
    have hbk : back = true := by
      cases back
      · simp [fz] at hm
      · rfl
    subst hbk
    have hfn' : some Try.f37 = some fn := hfQ.symm.trans hfn
    cases hfn'
    have h1 := hres (fun _ _ => 0) 0
    rw [results_tmp2 (t := 4) (u := 5) rfl] at h1
    have h2 : v = .tuple #[.string (Kid.sumS row ss), .int .i64 (Kid.sumE row ss)] := hv (fun _ _ => 0) 0
    rw [h2] at h1
    have h3 : a.getD 4 undef = .string (Kid.sumS row ss) ∧ a.getD 5 undef = .int .i64 (Kid.sumE row ss) := by simpa using h1
    have h4 := k3.getD 4 (.undef s)
    have h5 := k3.getD 5 (.undef s)
    rw [h3.1] at h4
    rw [h3.2] at h5
    refine hnext b' todo2 w' M' (vr_str h4) (vr_int h5) hM' hk
  · exfalso
    have e2 : l ++ [trap (Wi Try.prog (kidF Try.prog))] = [trap (Wi Try.prog (kidF Try.prog))] := by
      unfold G at e1
      simp only [Goroutine.mk.injEq] at e1
      exact e1.2.1.symm
    exact k5 (by simpa using e2)
set_option maxRecDepth 100000 in
set_option maxHeartbeats 2000000 in
theorem kid_starts [NoCx Try.prog] (hz0 : Zs Try.prog) (hP : m.P = Try.prog) (hty : m.ty = lnk.tWg) (hH : R Rb ∧ R Bx ∧ R Mv) (hCi : Ci ≠ m.Wg) {r : Ren} {u : World} {aL : Option Addr} {cap : Nat} {ss : List ByteArray}
    (hy : VR r (.slice aL ss.length cap) y) (hR : ∀ b c, r b c → R c) (hS : Kid.Strs u aL ss) (hl : ss.length ≤ 100000000) (hz : ∀ s ∈ ss, s.size ≤ 100000000) (hcs : row.size ≤ 100000000)
    (hval : m.val i = .agg #[.int .i64 i, .string (Kid.sumS row ss)]) (hcv : m.cval i = .int .i64 i) (w : World) (hF : Kn m Rb Bx Mv Ci i row y w ∧ HR Try.prog (fun c => ∃ b, r b c) r u w) : SomeCW m i Ci R false (fun c => c = Ci) (born Try.prog (kidCall m.Wg Rb Bx Mv Ci)) w := by
  have hH2 : ∀ {w w1 : World}, (Kn m Rb Bx Mv Ci i row y w ∧ HR Try.prog (fun c => ∃ b, r b c) r u w) → Still m (fun c => c = Ci ∨ R c) w w1 → (Kn m Rb Bx Mv Ci i row y w1 ∧ HR Try.prog (fun c => ∃ b, r b c) r u w1) := fun h k => ⟨h.1.rely (H := fun c => c = Ci ∨ R c) ⟨.inr hH.1, .inr hH.2.1, .inr hH.2.2, .inl rfl⟩ k, h.2.turned (fun b c x => k.keep c (.inr (hR b c x))) k.size⟩
  refine cw_goes hP (n := 30) ?_
  refine Goes.step rfl fun w₁ r₁ => ?_
  rw [kid_born]
  refine ⟨⟨rfl, rfl⟩, ?_⟩
  replace hF := hH2 hF r₁
  clear r₁
  simp only [kidBody, Try.f35, Option.getD_some]
  u_c stepG_seq hH2 hF
  u_reg hH2 hF
  u_defer hH2 hF
  u_c stepG_region_end hH2 hF
  u_c stepG_seq hH2 hF
  u_reg hH2 hF
  refine Goes.stop (fun w₁ h₁ => ?_)
  replace hF := hH2 hF h₁
  clear h₁
  refine cw_reads hP rfl (fun w₂ h₂ => ⟨_, _, stepG_load1 rfl rfl (by decide) rfl rfl (hH2 hF h₂).1.row Try.isAgg9 loud_kid, .inr hH.1, cell_lt (hH2 hF h₂).1.row, ?_⟩)
  replace hF := hH2 hF h₂
  clear h₂
  walk_nrm
  refine cw_reads hP rfl (fun w₂ h₂ => ⟨_, _, stepG_load1 rfl rfl (by decide) rfl rfl (hH2 hF h₂).1.box Try.isAgg23 loud_kid, .inr hH.2.1, cell_lt (hH2 hF h₂).1.box, ?_⟩)
  replace hF := hH2 hF h₂
  clear h₂
  walk_nrm
  refine cw_goes hP (n := 1) ?_
  refine Goes.step rfl fun w₁ r₁ => ?_
  refine goes_callE #[.string row, y] rfl rfl (by decide) rfl Try.func37 (by kernel_rfl) rfl (by simp [Act.eval]) ⟨⟨rfl, rfl⟩, ?_⟩
  refine Goes.stop (fun w₂ h₂ => ?_)
  replace hF := hH2 (hH2 hF r₁) h₂
  clear r₁ h₂
  have hK := hF.1
  have hWl : m.Wg < w₂.heap.size := by
    obtain ⟨st, sm, e⟩ := hK.live
    exact (Array.getElem?_eq_some_iff.1 e).1
  refine cw_sum hz0 hP hy hR hS hl hz hcs (Z := fun c => c = Rb ∨ c = Bx ∨ c = Mv ∨ c = Ci) w₂ hF.2 ?_ hWl (fun h => hCi h.symm) ?_
  · rintro c (rfl | rfl | rfl | rfl)
    · exact ⟨cell_lt hK.row, .inr hH.1⟩
    · exact ⟨cell_lt hK.box, .inr hH.2.1⟩
    · exact ⟨cell_lt hK.chan, .inr hH.2.2⟩
    · exact ⟨cell_lt hK.ix, .inl rfl⟩
  intro a' todo w' M' h4 h5 hM' hk
  have hK' : Kn m Rb Bx Mv Ci i row y w' := hK.rely (H := fun c => c = Rb ∨ c = Bx ∨ c = Mv ∨ c = Ci) ⟨.inl rfl, .inr (.inl rfl), .inr (.inr (.inl rfl)), .inr (.inr (.inr rfl))⟩ hk
  refine cw_goes hP (n := 1) ?_
  refine Goes.step rfl fun w₁ r₁ => ?_
  refine goes_leave2 (t := 4) (u := 5) rfl rfl Try.func37 rfl ⟨⟨rfl, rfl⟩, ?_⟩
  refine Goes.stop (fun w₃ h₃ => ?_)
  rw [h4, h5]
  exact kid_ends hP hty hH (hM' _ rfl) hval hcv w₃ ((hK'.rely (H := fun c => M' c ∨ R c) ⟨.inr hH.1, .inr hH.2.1, .inr hH.2.2, .inl (hM' _ rfl)⟩ r₁).rely (H := fun c => M' c ∨ R c) ⟨.inr hH.1, .inr hH.2.1, .inr hH.2.2, .inl (hM' _ rfl)⟩ h₃)
end
end Go.Proofs.Ythifdfbdekkmgaa

/- What the one that starts reads, makes, stores and starts. -/
namespace Go.Proofs.Ythifdfbdekkmgaa
open Go.Conc Go.ConcN Go.RowKit Go.Conc.Lib Go.ConcR.Gen Go.ConcN.Gen
open Go.ConcR (KK wgBlock WgAt stA smA rd wr mk Payload Aside2 DC0)
set_option linter.unusedVariables false
set_option linter.unusedSectionVars false
section
variable {P : Program} {main : Bool} {b : Frame} {a : Act} {k : List Item} {cs : List Frame} {w : World} {ops : Array Oper} {i : Nat} {rest : List Nat} {o : Oper} {T : TypeId} {v old : Value} {x y : Operand} {ad : Addr}
theorem stepG_allocOp (ho : ops[i]? = some o) (hw : Region.wanted o (yielded ops a.tmps) = true) (hk : b.kind ≠ .early) (hop : o.op = .alloc T) (hz : ∀ w, (zeroValue T).run P w = .ok v w) (hze : ∀ w es, (zeroValue T).events P w es = es) :
    stepG P main (G (b.at a (.inRegion ops (i :: rest) :: k)) cs) w = .go (G (b.at (a.put o.dst (.pointer (some ⟨w.heap.size, 0, none⟩))) (.inRegion ops rest :: k)) cs) (w.alloc (.cells v.cells T (0, 0))) #[] := by
  have h1 : (execOp a.eval o).run P w = .ok (.value (.pointer (some ⟨w.heap.size, 0, none⟩))) (w.alloc (.cells v.cells T (0, 0))) := by
    unfold execOp
    simp only [hop]
    simp [go_sem, hz]
  have h2 : (execOp a.eval o).events P w #[] = #[] := by
    unfold execOp
    simp only [hop]
    simp [go_sem, hz, hze]
  rw [stepG_value ho hw hk h1]
  unfold listed
  rw [h2, seen_none]
theorem stepG_storeOp (ho : ops[i]? = some o) (hw : Region.wanted o (yielded ops a.tmps) = true) (hk : b.kind ≠ .early) (hop : o.op = .store T x y) (hx : a.eval x = .pointer (some ad)) (hy : a.eval y = v) (hv : (∃ k n, v = .int k n) ∨ ∃ s, v = .string s) (hc : w.cell? ad = some old) (hf : w.frozen? ad = false) (hsz : ∀ w, (sizeOf T).run P w = .ok 1 w)
    (hq : (P.funcs[b.fn]?).any (·.norace) = false) :
    stepG P main (G (b.at a (.inRegion ops (i :: rest) :: k)) cs) w = .go (G (b.at (a.put o.dst undef) (.inRegion ops rest :: k)) cs) (w.setCell ad v) #[⟨.cell ad, true, false⟩] := by
  have hv2 : v.oneCell' = true := by rcases hv with ⟨k, n, rfl⟩ | ⟨s, rfl⟩ <;> rfl
  have e1 := fun m => run_store (P := P) w ad v m hv2
  have e2 := fun m => events_store (P := P) (w := w) (es := #[]) ad v m hv2
  have h1 : (execOp a.eval o).run P w = .ok .skip (w.setCell ad v) := by
    unfold execOp
    simp only [hop, hx, hy]
    rcases hv with ⟨k, n, rfl⟩ | ⟨s, rfl⟩ <;> simp [go_sem, hsz, hc, hf, e1, stored]
  have h2 : (execOp a.eval o).events P w #[] = #[⟨.cell ad, true, false⟩] := by
    unfold execOp
    simp only [hop, hx, hy]
    rcases hv with ⟨k, n, rfl⟩ | ⟨s, rfl⟩ <;> simp [go_sem, hsz, hc, hf, e2, stored]
  rw [stepG_none ho hw hk h1]
  unfold listed
  rw [h2, seen_eq hq (by simp)]
theorem stepG_goOp {t : Tmp} {f : FuncId} {caps : Array Value} {ats : Array TypeId} (ho : ops[i]? = some o) (hw : Region.wanted o (yielded ops a.tmps) = true) (hk : b.kind ≠ .early) (hop : o.op = .go { callee := .value (.tmp t), args := #[], argTypes := ats }) (hx : a.tmps[t]? = some (.func (.func f) #[] caps)) :
    stepG P main (G (b.at a (.inRegion ops (i :: rest) :: k)) cs) w = .spawn (G (b.at (a.put o.dst undef) (.inRegion ops rest :: k)) cs) (born P { target := .fn (.func f) caps, args := #[] }) w #[] := by
  have h1 : (execOp a.eval o).run P w = .ok (.spawn { target := .fn (.func f) caps, args := #[] }) w := by
    unfold execOp
    simp only [hop]
    simp [go_sem, hx]
  have h2 : (execOp a.eval o).events P w #[] = #[] := by
    unfold execOp
    simp only [hop]
    simp [go_sem, hx]
  rw [stepG_spawn ho hw hk h1 rfl]
  unfold listed
  rw [h2, seen_none]
end
theorem alloc_new (w : World) (o : Obj) (c : Nat) : (w.alloc o).heap[c]? = if c = w.heap.size then some o else w.heap[c]? := by
  show (w.heap.push o)[c]? = _
  rw [Array.getElem?_push]
section
variable {m : Mill} [Payload] {P : Program} {pt : PT} {j d : Nat} {K X : Nat → Prop} {g : Goroutine} {w : World}
theorem PW.reads (hP : m.P = P) (hpt : pt ≠ .ret) (hXK : ∀ c, X c → K c) (hr : g.status = .running) (h : ∀ w1, Still m K w w1 → WgLive m.ty m.Wg w1 → ∃ g' ad, stepG P true g w1 = .go g' w1 #[⟨.cell ad, false, false⟩] ∧ K ad.block ∧ ad.block < w1.heap.size ∧ SomePW m pt j d K X g' w1) : SomePW m pt j d K X g w := by
  refine PW.mk' hP hr fun w1 h1 hl => .inl ⟨hpt, ?_⟩
  obtain ⟨g', ad, e, hb, hz, hg⟩ := h w1 h1 hl
  refine ⟨g', w1, _, K, X, e, .refl X w1, fun _ h => h, fun _ h => .inl h, hXK, fun e he => ?_, hg.running, hg⟩
  rw [Array.mem_singleton] at he
  subst he
  refine ⟨fun x hx => ?_, by simp, by simp, by simp, hz⟩
  cases hx
  exact .inr ⟨ad.block, .inl ⟨ad, rfl, rfl⟩, hb, by simp⟩
theorem PW.makes (hP : m.P = P) (hpt : pt ≠ .ret) (hXK : ∀ c, X c → K c) (hr : g.status = .running) (h : ∀ w1, Still m K w w1 → WgLive m.ty m.Wg w1 → ∃ g' o, stepG P true g w1 = .go g' (w1.alloc o) #[] ∧ SomePW m pt j d (fun c => K c ∨ c = w1.heap.size) (fun c => X c ∨ c = w1.heap.size) g' (w1.alloc o)) : SomePW m pt j d K X g w := by
  refine PW.mk' hP hr fun w1 h1 hl => .inl ⟨hpt, ?_⟩
  obtain ⟨g', o, e, hg⟩ := h w1 h1 hl
  have hz : (w1.alloc o).heap.size = w1.heap.size + 1 := by show (w1.heap.push o).size = _; simp
  have hn : ∀ c, c = w1.heap.size → w1.heap.size ≤ c ∧ c < (w1.alloc o).heap.size := fun c hc => by rw [hz]; omega
  refine ⟨g', w1.alloc o, #[], _, _, e, ⟨fun c x => .inl x, fun c x => x.imp id (hn c), fun c hc _ => ?_, by omega, rfl, rfl, rfl⟩, fun c x => .inl x, fun c x => x.imp id (hn c), fun c x => x.imp (hXK c) id, fun e he => by simp at he, hg.running, hg⟩
  rw [alloc_new, if_neg (by omega)]
theorem PW.stores (hP : m.P = P) (hpt : pt ≠ .ret) (hXK : ∀ c, X c → K c) (hr : g.status = .running) (h : ∀ w1, Still m K w w1 → WgLive m.ty m.Wg w1 → ∃ g' ad v, stepG P true g w1 = .go g' (w1.setCell ad v) #[⟨.cell ad, true, false⟩] ∧ X ad.block ∧ ad.block < w1.heap.size ∧ SomePW m pt j d K X g' (w1.setCell ad v)) : SomePW m pt j d K X g w := by
  refine PW.mk' hP hr fun w1 h1 hl => .inl ⟨hpt, ?_⟩
  obtain ⟨g', ad, v, e, hb, hz, hg⟩ := h w1 h1 hl
  have ha := aside_setCell w1 ad v
  refine ⟨g', _, _, K, X, e, ⟨fun c x => x, fun c x => .inl x, fun c hc hn => ha.block c (fun e => hn (e ▸ hb)), Nat.le_of_eq ha.size.symm, ha.tape, ha.os, ha.output⟩, fun _ h => h, fun _ h => .inl h, hXK, fun e he => ?_, hg.running, hg⟩
  rw [Array.mem_singleton] at he
  subst he
  refine ⟨fun x hx => ?_, by simp, by simp, by simp, ?_⟩
  · cases hx
    exact .inr ⟨ad.block, .inl ⟨ad, rfl, rfl⟩, hXK _ hb, fun _ => hb⟩
  · show ad.block < _
    rw [ha.size]
    exact hz
end
end Go.Proofs.Ythifdfbdekkmgaa

/- What code.sums does beside those that it started: a round of its loop. -/
namespace Go.Proofs.Ythifdfbdekkmgaa
open Go.Conc Go.ConcN Go.RowKit Go.Conc.Lib Go.ConcR.Gen Go.ConcN.Gen
open Go.ConcR (KK wgBlock WgAt stA smA rd wr mk Payload Aside2 DC0)
set_option linter.unusedVariables false
set_option linter.unusedSectionVars false
variable [NoCx Try.prog] [Payload]
noncomputable def sumsBody : Code := Try.f22.body.getD .skip
noncomputable def lpC : Code := match sumsBody with | .seq _ (.scope (.seq _ (.seq _ (.seq (.seq _ (.block _ (.loop c))) _)))) => c | _ => .skip
theorem loud_sums : (Try.prog.funcs[(22 : FuncId)]?).any (·.norace) = false := by kernel_rfl
/-- What the one that starts knows. -/
structure PF (m : Mill) (r : Ren) (u : World) (Bx Mv : Nat) (y : Value) (w : World) : Prop where
  hr : HR Try.prog (fun c => ∃ b, r b c) r u w
  live : WgLive m.ty m.Wg w
  box : w.cell? ⟨Bx, 0, none⟩ = some y
  chan : w.cell? ⟨Mv, 0, none⟩ = some (.chan (some m.Ch))
/-- What it keeps. -/
structure Need (r : Ren) (Bx Mv Wg : Nat) (K : Nat → Prop) : Prop where
  old : ∀ b c, r b c → K c
  box : K Bx
  chan : K Mv
  wg : ¬ K Wg
theorem PF.rely {m : Mill} {r : Ren} {u : World} {Bx Mv : Nat} {y : Value} {K : Nat → Prop} (hK : Need r Bx Mv m.Wg K) {w w1 : World} (h : PF m r u Bx Mv y w) (k : Still m K w w1) : PF m r u Bx Mv y w1 :=
  ⟨h.hr.turned (fun b c x => k.keep c (hK.old b c x)) k.size, k.live h.live, (cell_kept (k.keep _ hK.box) 0).trans h.box, (cell_kept (k.keep _ hK.chan) 0).trans h.chan⟩
theorem live_lt {ty : TypeId} {Wg : Nat} {w : World} (h : WgLive ty Wg w) : Wg < w.heap.size := by
  obtain ⟨st, sm, e⟩ := h
  exact (Array.getElem?_eq_some_iff.1 e).1
theorem PF.fresh {m : Mill} {r : Ren} {u : World} {Bx Mv : Nat} {y : Value} {w : World} (h : PF m r u Bx Mv y w) : (∀ b c, r b c → c ≠ w.heap.size) ∧ Bx ≠ w.heap.size ∧ Mv ≠ w.heap.size ∧ m.Wg ≠ w.heap.size :=
  ⟨fun b c x e => absurd (h.hr.lt x).2 (by omega), Nat.ne_of_lt (cell_lt h.box), Nat.ne_of_lt (cell_lt h.chan), Nat.ne_of_lt (live_lt h.live)⟩
theorem PF.alloc {m : Mill} {r : Ren} {u : World} {Bx Mv : Nat} {y : Value} {w : World} (h : PF m r u Bx Mv y w) (o : Obj) : PF m r u Bx Mv y (w.alloc o) := by
  have hk : ∀ c, c ≠ w.heap.size → (w.alloc o).heap[c]? = w.heap[c]? := fun c hc => by rw [alloc_new, if_neg hc]
  have hz : (w.alloc o).heap.size = w.heap.size + 1 := by show (w.heap.push o).size = _; simp
  obtain ⟨f1, f2, f3, f4⟩ := h.fresh
  refine ⟨h.hr.turned (fun b c x => hk c (f1 b c x)) (by omega), ?_, (cell_kept (hk _ f2) 0).trans h.box, (cell_kept (hk _ f3) 0).trans h.chan⟩
  obtain ⟨st, sm, e⟩ := h.live
  exact ⟨st, sm, (hk _ f4).trans e⟩
theorem PF.store {m : Mill} {r : Ren} {u : World} {Bx Mv : Nat} {y : Value} {w : World} (h : PF m r u Bx Mv y w) {ad : Addr} {v : Value} (f1 : ∀ b c, r b c → c ≠ ad.block) (f2 : Bx ≠ ad.block) (f3 : Mv ≠ ad.block) (f4 : m.Wg ≠ ad.block) : PF m r u Bx Mv y (w.setCell ad v) := by
  have ha := aside_setCell w ad v
  refine ⟨h.hr.turned (fun b c x => ha.block c (f1 b c x)) (Nat.le_of_eq ha.size.symm), ?_, (cell_kept (ha.block _ f2) 0).trans h.box, (cell_kept (ha.block _ f3) 0).trans h.chan⟩
  obtain ⟨st, sm, e⟩ := h.live
  exact ⟨st, sm, (ha.block _ f4).trans e⟩
/-- A block of one cell. -/
def One (b : Nat) (v : Value) (w : World) : Prop := ∃ t, w.heap[b]? = some (.cells #[v] t (0, 0))
theorem One.cell {b : Nat} {v : Value} {w : World} (h : One b v w) : w.cell? ⟨b, 0, none⟩ = some v := by
  obtain ⟨t, e⟩ := h
  simp [World.cell?, e]
theorem One.soft {b : Nat} {v : Value} {w : World} (h : One b v w) : w.frozen? ⟨b, 0, none⟩ = false := by
  obtain ⟨t, e⟩ := h
  simp [World.frozen?, e]
theorem One.rely {m : Mill} {K : Nat → Prop} {b : Nat} {v : Value} {w w1 : World} (h : One b v w) (hb : K b) (k : Still m K w w1) : One b v w1 := by
  obtain ⟨t, e⟩ := h
  exact ⟨t, (k.keep b hb).trans e⟩
theorem One.set {b : Nat} {v v' : Value} {w : World} (h : One b v w) : One b v' (w.setCell ⟨b, 0, none⟩ v') := by
  obtain ⟨t, e⟩ := h
  refine ⟨t, ?_⟩
  have hb := (Array.getElem?_eq_some_iff.1 e).1
  simp [World.setCell, e, Array.getElem?_modify]
theorem One.aside {b : Nat} {v : Value} {w : World} (h : One b v w) {ad : Addr} {x : Value} (hn : b ≠ ad.block) : One b v (w.setCell ad x) := by
  obtain ⟨t, e⟩ := h
  exact ⟨t, ((aside_setCell w ad x).block b hn).trans e⟩
theorem One.kept {b : Nat} {v : Value} {w : World} (h : One b v w) (o : Obj) : One b v (w.alloc o) := by
  obtain ⟨t, e⟩ := h
  have hb := (Array.getElem?_eq_some_iff.1 e).1
  exact ⟨t, by rw [alloc_new, if_neg (by omega)]; exact e⟩
/-- The row of texts, in the other's world. -/
theorem strs_real {ro : Nat → Prop} {r : Ren} {u w : World} (h : HR Try.prog ro r u w) {a : Option Addr} {cap : Nat} {ss : List ByteArray} {rv : Value} (hv : VR r (.slice a ss.length cap) rv) (hS : Kid.Strs u a ss) {i : Nat} (hi : i < ss.length) :
    ∃ b c o, rv = .slice (some ⟨c, o, none⟩) ss.length cap ∧ r b c ∧ ∀ w1, HR Try.prog ro r u w1 → w1.cell? ⟨c, o + i, none⟩ = some (.string (ss.getD i ByteArray.empty)) := by
  rcases hS with rfl | ⟨b, o, rfl, hc⟩
  · cases hi
  · cases hv with
    | slice l mm x =>
      refine ⟨b, _, o, rfl, x, fun w1 h1 => ?_⟩
      obtain ⟨v', e, hv⟩ := h1.cell (a := ⟨b, o + i, none⟩) (a' := ⟨_, o + i, none⟩) ⟨x, rfl, rfl⟩ (hc i hi)
      rw [e, vr_str hv]
end Go.Proofs.Ythifdfbdekkmgaa

/- A round of code.sums' loop. -/
namespace Go.Proofs.Ythifdfbdekkmgaa
open Go.Conc Go.ConcN Go.RowKit Go.Conc.Lib Go.ConcR.Gen Go.ConcN.Gen
open Go.ConcR (KK wgBlock WgAt stA smA rd wr mk Payload Aside2 DC0)
set_option linter.unusedVariables false
set_option linter.unusedSectionVars false
variable [NoCx Try.prog] [Payload]
/-- At the head of its loop. -/
def AtLp (rv y : Value) (n : Nat) (Ch Bx Mv Wg : Nat) (k : List Item) (cs : List Frame) (j : Nat) (g : Goroutine) : Prop :=
  ∃ v7 v8 v17 v18 v19 v20 v21 v22 v23 : Value, g = G ((base 22).at ⟨#[rv, y, undef, .pointer (some ⟨Bx, 0, none⟩), .slice none 0 0, .pointer (some ⟨Mv, 0, none⟩), .pointer (some ⟨Wg, 0, none⟩), v7, v8, undef, undef, rv, .int .i64 n, .chan (some Ch), rv, .int .i64 n, .int .i64 j, v17, v18, v19, v20, v21, v22, v23,
    undef, undef, undef, undef, undef, undef, undef, undef, undef, undef, undef, undef, undef, undef, undef, undef], []⟩ (.code lpC :: .inLoop lpC :: .inBlock 0 :: k)) cs
set_option maxRecDepth 100000 in
set_option maxHeartbeats 4000000 in
theorem sums_round (hz0 : Zs Try.prog) {m : Mill} (hP : m.P = Try.prog) (hty : m.ty = lnk.tWg) {r : Ren} {u : World} {Bx Mv : Nat} {rv y : Value} {aL aR : Option Addr} {cap capR : Nat} {ss rows : List ByteArray}
    (hv : VR r (.slice aR rows.length capR) rv) (hy : VR r (.slice aL ss.length cap) y) (hSR : Kid.Strs u aR rows) (hS : Kid.Strs u aL ss) (hl' : ss.length ≤ 100000000) (hz : ∀ s ∈ ss, s.size ≤ 100000000) (hcs : ∀ s ∈ rows, s.size ≤ 100000000)
    (hn : rows.length = m.n) (hn2 : m.n < 2147483647) (hval : ∀ i, i < m.n → m.val i = .agg #[.int .i64 i, .string (Kid.sumS (rows.getD i ByteArray.empty) ss)]) (hcv : ∀ i, m.cval i = .int .i64 i)
    {k : List Item} {cs : List Frame} {j : Nat} (hj : j < m.n) {K : Nat → Prop} (hK : Need r Bx Mv m.Wg K)
    (hnext : ∀ K' g w, Need r Bx Mv m.Wg K' → AtLp rv y m.n m.Ch Bx Mv m.Wg k cs (j + 1) g → PF m r u Bx Mv y w → SomePW m .sp (j + 1) 0 K' (fun _ => False) g w)
    (g : Goroutine) (w : World) (hA : AtLp rv y m.n m.Ch Bx Mv m.Wg k cs j g) (hF : PF m r u Bx Mv y w) : SomePW m .sp j 0 K (fun _ => False) g w := by
  obtain ⟨v7, v8, v17, v18, v19, v20, v21, v22, v23, rfl⟩ := hA
  have rl : ∀ {w w1 : World}, PF m r u Bx Mv y w → Still m K w w1 → PF m r u Bx Mv y w1 := fun h k => h.rely hK k
  obtain ⟨bR, cR, oR, hrv, hrR, hcell⟩ := strs_real hF.hr hv hSR (hn ▸ hj : j < rows.length)
  rw [hn] at hrv
  have hjZ : decide ((j : Int) < (m.n : Int)) = true := decide_eq_true (by omega)
  have hXK : ∀ c, (fun _ : Nat => False) c → K c := fun c h => h.elim
  subst hrv
  simp only [lpC, sumsBody, Try.f22, Option.getD_some]
  refine PW.goes hP (by simp) hXK (n := 40) ?_
  u_c stepG_seq rl hF
  u_reg rl hF
  u_op rl hF
  u_c stepG_region_end rl hF
  u_c stepG_seq rl hF
  u_cnd true rl hF
  u_c stepG_skip rl hF
  u_c stepG_seq rl hF
  u_c stepG_block rl hF
  u_c stepG_seq rl hF
  u_reg rl hF
  u_op rl hF
  u_op rl hF
  refine Goes.stop (fun w₁ h₁ => ?_)
  replace hF := rl hF h₁
  clear h₁
  -- the row is read
  refine PW.reads hP (by simp) hXK rfl (fun w₂ h₂ hl => ⟨_, _, stepG_load1 rfl rfl (by decide) rfl rfl (hcell w₂ (rl hF h₂).hr) Try.isAgg9 loud_sums, hK.old _ _ hrR, cell_lt (hcell w₂ (rl hF h₂).hr), ?_⟩)
  replace hF := rl hF h₂
  clear h₂ hl
  walk_nrm
  -- the two variables are made
  refine PW.makes hP (by simp) hXK rfl (fun w₂ h₂ hl => ⟨_, _, stepG_allocOp rfl rfl (by decide) rfl Try.zeroValue3 (fun w es => events_zeroValue _ w es _), ?_⟩)
  replace hF := rl hF h₂
  clear h₂ hl
  obtain ⟨f1, f2, f3, f4⟩ := hF.fresh
  have hO : One w₂.heap.size (.int .i64 0) (w₂.alloc (.cells (Value.int .i64 0).cells 3 (0, 0))) := ⟨_, by rw [alloc_new, if_pos rfl]; rfl⟩
  replace hF := hF.alloc (.cells (Value.int .i64 0).cells 3 (0, 0))
  generalize hw3 : w₂.alloc (.cells (Value.int .i64 0).cells 3 (0, 0)) = w₃ at *
  generalize w₂.heap.size = Ci at *
  clear hw3
  have hK1 : Need r Bx Mv m.Wg (fun c => K c ∨ c = Ci) := ⟨fun b c x => .inl (hK.old b c x), .inl hK.box, .inl hK.chan, fun h => h.elim hK.wg f4⟩
  have hXK1 : ∀ c, (False ∨ c = Ci) → K c ∨ c = Ci := fun c h => h.elim False.elim .inr
  replace hF : PF m r u Bx Mv y w₃ ∧ One Ci (.int .i64 0) w₃ := ⟨hF, hO⟩
  have rl1 : ∀ {w w1 : World}, PF m r u Bx Mv y w ∧ One Ci (.int .i64 0) w → Still m (fun c => K c ∨ c = Ci) w w1 → PF m r u Bx Mv y w1 ∧ One Ci (.int .i64 0) w1 := fun h k => ⟨h.1.rely hK1 k, h.2.rely (.inr rfl) k⟩
  clear hO
  walk_nrm
  refine PW.makes hP (by simp) hXK1 rfl (fun w₂ h₂ hl => ⟨_, _, stepG_allocOp rfl rfl (by decide) rfl Try.zeroValue9 (fun w es => events_zeroValue _ w es _), ?_⟩)
  replace hF := rl1 hF h₂
  clear h₂ hl
  obtain ⟨e1, e2, e3, e4⟩ := hF.1.fresh
  have e5 : Ci ≠ w₂.heap.size := Nat.ne_of_lt (cell_lt hF.2.cell)
  have hO : One w₂.heap.size (.string ⟨#[]⟩) (w₂.alloc (.cells (Value.string ⟨#[]⟩).cells 9 (0, 0))) := ⟨_, by rw [alloc_new, if_pos rfl]; rfl⟩
  replace hF : _ ∧ _ := ⟨hF.1.alloc (.cells (Value.string ⟨#[]⟩).cells 9 (0, 0)), hF.2.kept (.cells (Value.string ⟨#[]⟩).cells 9 (0, 0))⟩
  generalize hw3 : w₂.alloc (.cells (Value.string ⟨#[]⟩).cells 9 (0, 0)) = w₄ at *
  generalize w₂.heap.size = Rb at *
  clear hw3
  have hK2 : Need r Bx Mv m.Wg (fun c => (K c ∨ c = Ci) ∨ c = Rb) := ⟨fun b c x => .inl (hK1.old b c x), .inl hK1.box, .inl hK1.chan, fun h => h.elim hK1.wg e4⟩
  have hXK2 : ∀ c, ((False ∨ c = Ci) ∨ c = Rb) → (K c ∨ c = Ci) ∨ c = Rb := fun c h => h.imp (hXK1 c) id
  replace hF : PF m r u Bx Mv y w₄ ∧ One Ci (.int .i64 0) w₄ ∧ One Rb (.string ⟨#[]⟩) w₄ := ⟨hF.1, hF.2, hO⟩
  have rl2 : ∀ (a b : Value) {w w1 : World}, PF m r u Bx Mv y w ∧ One Ci a w ∧ One Rb b w → Still m (fun c => (K c ∨ c = Ci) ∨ c = Rb) w w1 → PF m r u Bx Mv y w1 ∧ One Ci a w1 ∧ One Rb b w1 := fun a b _ _ h k => ⟨h.1.rely hK2 k, h.2.1.rely (.inl (.inr rfl)) k, h.2.2.rely (.inr rfl) k⟩
  clear hO rl1
  walk_nrm
  -- and stored
  refine PW.stores hP (by simp) hXK2 rfl (fun w₂ h₂ hl => ⟨_, ⟨Ci, 0, none⟩, .int .i64 j, stepG_storeOp rfl rfl (by decide) rfl rfl rfl (.inl ⟨_, _, rfl⟩) (rl2 _ _ hF h₂).2.1.cell (rl2 _ _ hF h₂).2.1.soft Try.sizeOf3 loud_sums, .inl (.inr rfl), cell_lt (rl2 _ _ hF h₂).2.1.cell, ?_⟩)
  replace hF := rl2 _ _ hF h₂
  clear h₂ hl
  replace hF : PF m r u Bx Mv y (w₂.setCell ⟨Ci, 0, none⟩ (.int .i64 j)) ∧ One Ci (.int .i64 j) (w₂.setCell ⟨Ci, 0, none⟩ (.int .i64 j)) ∧ One Rb (.string ⟨#[]⟩) (w₂.setCell ⟨Ci, 0, none⟩ (.int .i64 j)) := ⟨hF.1.store (ad := ⟨Ci, 0, none⟩) f1 f2 f3 f4, hF.2.1.set, hF.2.2.aside (ad := ⟨Ci, 0, none⟩) (Ne.symm e5)⟩
  walk_nrm
  refine PW.stores hP (by simp) hXK2 rfl (fun w₂ h₂ hl => ⟨_, ⟨Rb, 0, none⟩, .string (rows.getD j ByteArray.empty), stepG_storeOp rfl rfl (by decide) rfl rfl rfl (.inr ⟨_, rfl⟩) (rl2 _ _ hF h₂).2.2.cell (rl2 _ _ hF h₂).2.2.soft Try.sizeOf9 loud_sums, .inr rfl, cell_lt (rl2 _ _ hF h₂).2.2.cell, ?_⟩)
  replace hF := rl2 _ _ hF h₂
  clear h₂ hl
  replace hF : PF m r u Bx Mv y (w₂.setCell ⟨Rb, 0, none⟩ (.string (rows.getD j ByteArray.empty))) ∧ One Ci (.int .i64 j) (w₂.setCell ⟨Rb, 0, none⟩ (.string (rows.getD j ByteArray.empty))) ∧ One Rb (.string (rows.getD j ByteArray.empty)) (w₂.setCell ⟨Rb, 0, none⟩ (.string (rows.getD j ByteArray.empty))) := ⟨hF.1.store (ad := ⟨Rb, 0, none⟩) e1 e2 e3 e4, hF.2.1.aside (ad := ⟨Rb, 0, none⟩) e5, hF.2.2.set⟩
  walk_nrm
  -- Add(1)
  refine PW.goes hP (by simp) hXK2 (n := 10) ?_
  u_c stepG_region_end (rl2 _ _) hF
  u_c stepG_seq (rl2 _ _) hF
  u_reg (rl2 _ _) hF
  refine Goes.step rfl fun w₁ r₁ => ?_
  replace hF := rl2 _ _ hF r₁
  refine goes_callE #[.pointer (some ⟨m.Wg, 0, none⟩), .int .i64 1] rfl rfl (by decide) rfl wgLib.f_add (nm_add lnk) rfl (by simp [Act.eval]) ⟨⟨rfl, rfl⟩, ?_⟩
  refine Goes.stop (fun w₂ h₂ => ?_)
  replace hF := rl2 _ _ hF h₂
  clear r₁ h₂
  rw [enter_at (P := Try.prog) _ wgLib.f_add rfl]
  refine par_add (K := (fun c => (K c ∨ c = Ci) ∨ c = Rb)) hP hty wgLib hXK2 hK2.wg hj hn2 (F := fun w => PF m r u Bx Mv y w ∧ One Ci (.int .i64 j) w ∧ One Rb (.string (rows.getD j ByteArray.empty)) w) (fun w w1 k h => rl2 _ _ h k) ?_ w₂ ⟨hF, hty ▸ hF.1.live⟩
  intro w₃ hF
  replace hF := hF.1
  walk_nrm
  -- and one is started
  refine PW.goes hP (by simp) hXK2 (n := 10) ?_
  u_c stepG_region_end (rl2 _ _) hF
  u_reg (rl2 _ _) hF
  u_op (rl2 _ _) hF
  refine Goes.stop (fun w₄ h₄ => ?_)
  replace hF := rl2 _ _ hF h₄
  clear h₄
  refine PW.mk' hP rfl (fun w₅ h₅ hl => .inr (.inr (.inr (.inr (.inl ⟨rfl, rfl, _, _, Ci, stepG_goOp rfl rfl (by decide) rfl rfl, .inl (.inr rfl), ?_, ?_⟩)))))
  · replace hF := rl2 _ _ hF h₅
    have hmem : rows.getD j ByteArray.empty ∈ rows := by
      rw [List.getD_eq_getElem?_getD, List.getElem?_eq_getElem (by omega)]
      exact List.getElem_mem _
    exact kid_starts (R := (fun c => ((K c ∨ c = Ci) ∨ c = Rb) ∧ c ≠ Ci)) (Rb := Rb) (Bx := Bx) (Mv := Mv) (row := rows.getD j ByteArray.empty) hz0 hP hty ⟨⟨.inr rfl, Ne.symm e5⟩, ⟨hK2.box, f2⟩, ⟨hK2.chan, f3⟩⟩ (Ne.symm f4) hy (fun b c x => ⟨hK2.old b c x, f1 b c x⟩) hS hl' hz (hcs _ hmem) (hval j hj) (hcv j) w₅ ⟨⟨hF.1.live, hF.2.2.cell, hF.1.box, hF.1.chan, hF.2.1.cell⟩, hF.1.hr⟩
  · replace hF := (rl2 _ _ hF h₅).1
    have hK3 : Need r Bx Mv m.Wg (fun c => ((K c ∨ c = Ci) ∨ c = Rb) ∧ c ≠ Ci) := ⟨fun b c x => ⟨hK2.old b c x, f1 b c x⟩, ⟨hK2.box, f2⟩, ⟨hK2.chan, f3⟩, fun h => hK2.wg h.1⟩
    have rl3 : ∀ {w w1 : World}, PF m r u Bx Mv y w → Still m (fun c => ((K c ∨ c = Ci) ∨ c = Rb) ∧ c ≠ Ci) w w1 → PF m r u Bx Mv y w1 := fun h k => h.rely hK3 k
    have hw1 : IntKind.i64.wrap ((j : Int) + 1) = (j : Int) + 1 := by rw [IntKind.wrap_i64]; omega
    walk_nrm
    refine PW.goes hP (by simp) (fun c h => h.elim) (n := 10) ?_
    u_c stepG_region_end rl3 hF
    u_c stepG_inBlock rl3 hF
    u_reg rl3 hF
    u_op rl3 hF
    u_op rl3 hF
    u_c stepG_region_end rl3 hF
    u_c stepG_inLoop rl3 hF
    refine Goes.stop (fun w₆ h₆ => hnext _ _ _ hK3 ?_ (rl3 hF h₆))
    simp only [AtLp, lpC, sumsBody, Try.f22, Option.getD_some]
    exact ⟨_, _, _, _, _, _, _, _, _, rfl⟩
end Go.Proofs.Ythifdfbdekkmgaa

/- Wait's loop, beside those that were started. -/
namespace Go.Proofs.Ythifdfbdekkmgaa
open Go.Conc Go.ConcN Go.RowKit Go.Conc.Lib Go.ConcR.Gen Go.ConcN.Gen
open Go.ConcR (KK wgBlock WgAt stA smA rd wr mk Payload Aside2 DC0)
set_option linter.unusedVariables false
set_option linter.unusedSectionVars false
variable [Payload] {L : WgLink}
set_option maxRecDepth 100000 in
set_option maxHeartbeats 8000000 in
theorem wait_round {m : Mill} {P : Program} (hP : m.P = P) (hty : m.ty = L.tWg) (H : WgLib P L) {j : Nat} {K X : Nat → Prop} (hXK : ∀ c, X c → K c) (hKw : ¬ K m.Wg) (hjn : j < 2147483647) {F : World → Prop} (hF2 : ∀ w w1, Still m K w w1 → F w → F w1)
    {b₀ : Frame} {a₀ : Act} {ops₀ : Array Oper} {i₀ : Nat} {rest₀ : List Nat} {k₀ : List Item} {cs : List Frame}
    (hStop : ∀ g w, F w ∧ WgLive L.tWg m.Wg w → (∃ k, Goes P true (Still m K) DC0 (fun g' w' => g' = G (b₀.at (a₀.put ((ops₀[i₀]?).bind (·.dst)) (.tuple #[])) (.inRegion ops₀ rest₀ :: k₀)) cs ∧ F w' ∧ WgLive L.tWg m.Wg w') k g w) → m.Stop j K g w) :
    ∀ (b : Nat), b ≤ j → ∀ g w, AtHead L m.Wg (b₀.at a₀ (.inRegion ops₀ (i₀ :: rest₀) :: k₀)) cs g → F w ∧ WgLive L.tWg m.Wg w → SomePW m (.wt b) j 1 K X g w := by
  have rl := @fl _ L m K F hty hF2
  lib_facts
  intro b
  induction b using Nat.strongRecOn with
  | _ b ih =>
    intro hbj g w hA hF
    obtain ⟨T, rfl, hT84, t0⟩ := hA
    obtain ⟨l, hl83, rfl⟩ := arr84 hT84 t0
    clear hT84 t0
    obtain ⟨v1, l1, rfl, hh1⟩ := list_cons hl83
    obtain ⟨v2, l2, rfl, hh2⟩ := list_cons hh1
    obtain ⟨v3, l3, rfl, hh3⟩ := list_cons hh2
    obtain ⟨v4, l4, rfl, hh4⟩ := list_cons hh3
    obtain ⟨v5, l5, rfl, hh5⟩ := list_cons hh4
    obtain ⟨v6, l6, rfl, hh6⟩ := list_cons hh5
    obtain ⟨v7, l7, rfl, hh7⟩ := list_cons hh6
    obtain ⟨v8, l8, rfl, hh8⟩ := list_cons hh7
    obtain ⟨v9, l9, rfl, hh9⟩ := list_cons hh8
    obtain ⟨v10, l10, rfl, hh10⟩ := list_cons hh9
    obtain ⟨v11, l11, rfl, hh11⟩ := list_cons hh10
    obtain ⟨v12, l12, rfl, hh12⟩ := list_cons hh11
    obtain ⟨v13, l13, rfl, hh13⟩ := list_cons hh12
    obtain ⟨v14, l14, rfl, hh14⟩ := list_cons hh13
    obtain ⟨v15, l15, rfl, hh15⟩ := list_cons hh14
    obtain ⟨v16, l16, rfl, hh16⟩ := list_cons hh15
    obtain ⟨v17, l17, rfl, hh17⟩ := list_cons hh16
    obtain ⟨v18, l18, rfl, hh18⟩ := list_cons hh17
    obtain ⟨v19, l19, rfl, hh19⟩ := list_cons hh18
    obtain ⟨v20, l20, rfl, hh20⟩ := list_cons hh19
    obtain ⟨v21, l21, rfl, hh21⟩ := list_cons hh20
    obtain ⟨v22, l22, rfl, hh22⟩ := list_cons hh21
    obtain ⟨v23, l23, rfl, hh23⟩ := list_cons hh22
    obtain ⟨v24, l24, rfl, hh24⟩ := list_cons hh23
    obtain ⟨v25, l25, rfl, hh25⟩ := list_cons hh24
    obtain ⟨v26, l26, rfl, hh26⟩ := list_cons hh25
    obtain ⟨v27, l27, rfl, hh27⟩ := list_cons hh26
    obtain ⟨v28, l28, rfl, hh28⟩ := list_cons hh27
    obtain ⟨v29, l29, rfl, hh29⟩ := list_cons hh28
    obtain ⟨v30, l30, rfl, hh30⟩ := list_cons hh29
    obtain ⟨v31, l31, rfl, hh31⟩ := list_cons hh30
    obtain ⟨v32, l32, rfl, hh32⟩ := list_cons hh31
    obtain ⟨v33, l33, rfl, hh33⟩ := list_cons hh32
    obtain ⟨v34, l34, rfl, hh34⟩ := list_cons hh33
    obtain ⟨v35, l35, rfl, hh35⟩ := list_cons hh34
    obtain ⟨v36, l36, rfl, hh36⟩ := list_cons hh35
    obtain ⟨v37, l37, rfl, hh37⟩ := list_cons hh36
    obtain ⟨v38, l38, rfl, hh38⟩ := list_cons hh37
    obtain ⟨v39, l39, rfl, hh39⟩ := list_cons hh38
    obtain ⟨v40, l40, rfl, hh40⟩ := list_cons hh39
    obtain ⟨v41, l41, rfl, hh41⟩ := list_cons hh40
    obtain ⟨v42, l42, rfl, hh42⟩ := list_cons hh41
    obtain ⟨v43, l43, rfl, hh43⟩ := list_cons hh42
    obtain ⟨v44, l44, rfl, hh44⟩ := list_cons hh43
    obtain ⟨v45, l45, rfl, hh45⟩ := list_cons hh44
    obtain ⟨v46, l46, rfl, hh46⟩ := list_cons hh45
    obtain ⟨v47, l47, rfl, hh47⟩ := list_cons hh46
    obtain ⟨v48, l48, rfl, hh48⟩ := list_cons hh47
    obtain ⟨v49, l49, rfl, hh49⟩ := list_cons hh48
    obtain ⟨v50, l50, rfl, hh50⟩ := list_cons hh49
    obtain ⟨v51, l51, rfl, hh51⟩ := list_cons hh50
    obtain ⟨v52, l52, rfl, hh52⟩ := list_cons hh51
    obtain ⟨v53, l53, rfl, hh53⟩ := list_cons hh52
    obtain ⟨v54, l54, rfl, hh54⟩ := list_cons hh53
    obtain ⟨v55, l55, rfl, hh55⟩ := list_cons hh54
    obtain ⟨v56, l56, rfl, hh56⟩ := list_cons hh55
    obtain ⟨v57, l57, rfl, hh57⟩ := list_cons hh56
    obtain ⟨v58, l58, rfl, hh58⟩ := list_cons hh57
    obtain ⟨v59, l59, rfl, hh59⟩ := list_cons hh58
    obtain ⟨v60, l60, rfl, hh60⟩ := list_cons hh59
    obtain ⟨v61, l61, rfl, hh61⟩ := list_cons hh60
    obtain ⟨v62, l62, rfl, hh62⟩ := list_cons hh61
    obtain ⟨v63, l63, rfl, hh63⟩ := list_cons hh62
    obtain ⟨v64, l64, rfl, hh64⟩ := list_cons hh63
    obtain ⟨v65, l65, rfl, hh65⟩ := list_cons hh64
    obtain ⟨v66, l66, rfl, hh66⟩ := list_cons hh65
    obtain ⟨v67, l67, rfl, hh67⟩ := list_cons hh66
    obtain ⟨v68, l68, rfl, hh68⟩ := list_cons hh67
    obtain ⟨v69, l69, rfl, hh69⟩ := list_cons hh68
    obtain ⟨v70, l70, rfl, hh70⟩ := list_cons hh69
    obtain ⟨v71, l71, rfl, hh71⟩ := list_cons hh70
    obtain ⟨v72, l72, rfl, hh72⟩ := list_cons hh71
    obtain ⟨v73, l73, rfl, hh73⟩ := list_cons hh72
    obtain ⟨v74, l74, rfl, hh74⟩ := list_cons hh73
    obtain ⟨v75, l75, rfl, hh75⟩ := list_cons hh74
    obtain ⟨v76, l76, rfl, hh76⟩ := list_cons hh75
    obtain ⟨v77, l77, rfl, hh77⟩ := list_cons hh76
    obtain ⟨v78, l78, rfl, hh78⟩ := list_cons hh77
    obtain ⟨v79, l79, rfl, hh79⟩ := list_cons hh78
    obtain ⟨v80, l80, rfl, hh80⟩ := list_cons hh79
    obtain ⟨v81, l81, rfl, hh81⟩ := list_cons hh80
    obtain ⟨v82, l82, rfl, hh82⟩ := list_cons hh81
    obtain ⟨v83, l83, rfl, hh83⟩ := list_cons hh82
    obtain rfl : l83 = [] := List.length_eq_zero_iff.1 hh83
    clear hh83
    simp only [L7, body_wait, waitFn, Option.getD_some]
    refine PW.goes hP (by simp) hXK (n := 40) ?_
    u_c stepG_block rl hF
    u_c stepG_seq rl hF
    u_reg rl hF
    iterate 3 (u_op rl hF)
    u_call H.f_uLoad (nm_uLoad L) uLoadFn rl hF
    u_c stepG_seq rl hF
    u_reg rl hF
    u_op rl hF
    u_c stepG_region_end rl hF
    u_c stepG_seq rl hF
    u_reg rl hF
    iterate 3 (u_op rl hF)
    refine Goes.stop (fun w₁ hs => ?_)
    replace hF := rl hF hs
    clear hs
    refine PW.mk' hP rfl (fun w₂ h₂ hl => .inr (.inr (.inr (.inr (.inr (.inl ⟨rfl, b, rfl, fun v hv hw => ?_⟩))))))
    replace hF := rl hF h₂
    clear h₂ hl
    rw [hty] at hw
    rcases Nat.eq_zero_or_pos v with rfl | hvp
    · replace hw : WgAt L.tWg m.Wg w₂ 0 0 := by simpa using hw
      refine ⟨_, stepG_load_atomic (v := 0) rfl rfl (by k_ne) rfl H.f_loadU64 (x_loadU64_n L) (x_loadU64_b L) (x_loadU64_x L) .u64 (x_loadU64_f L) rfl hw.cellSt, ?_⟩
      clear hw
      rw [if_pos rfl]
      walk_nrm
      refine PW.goes hP (by simp) hXK (n := 80) ?_
      u_op rl hF
      u_c stepG_region_end rl hF
      u_c stepG_ret' rl hF
      u_leave1 H.f_uLoad rl hF
      u_op rl hF
      u_c stepG_region_end rl hF
      u_c stepG_seq rl hF
      u_reg rl hF
      iterate 4 (u_op rl hF)
      u_c stepG_region_end rl hF
      u_c stepG_seq rl hF
      u_reg rl hF
      iterate 4 (u_op rl hF)
      u_c stepG_region_end rl hF
      u_c stepG_seq rl hF
      u_c stepG_seq rl hF
      u_reg rl hF
      iterate 2 (u_op rl hF)
      u_c stepG_region_end rl hF
      u_cond true rl hF
      u_c stepG_seq rl hF
      u_cond true rl hF
      u_c stepG_seq rl hF
      u_reg rl hF
      refine Goes.stop (fun w₅ hs => ?_)
      replace hF := rl hF hs
      clear hs
      refine PW.mk' hP rfl (fun w₅ h₅ hl => .inr (.inr (.inl ⟨rfl, .inr (.inr rfl), _, stepG_mark0 .enable (by simp) rfl rfl (by k_ne) rfl H.f_enable (x_enable_n L) (x_enable_b L) (x_enable_x L) (x_enable_f L), ?_⟩)))
      replace hF := rl hF h₅
      clear h₅ hl
      walk_nrm
      refine PW.goes hP (by simp) hXK (n := 10) ?_
      u_c stepG_region_end rl hF
      u_reg rl hF
      u_op rl hF
      u_conv H.underlying_tWgP H.room_tWg (WgLive.cell0 hF.2).choose_spec rl hF
      refine Goes.stop (fun w₆ hs => ?_)
      replace hF := rl hF hs
      clear hs
      refine PW.mk' hP rfl (fun w₆ h₆ hl => .inr (.inr (.inr (.inr (.inr (.inr (.inr (.inr (.inr (.inl ⟨rfl, rfl, _, stepG_markAt .acquire (by simp) rfl rfl (by k_ne) rfl H.f_acquire (x_acquire_n L) (x_acquire_b L) (x_acquire_x L) (x_acquire_f L) (by simp [Act.eval, stA]), ?_⟩))))))))))
      replace hF := rl hF h₆
      clear h₆ hl
      walk_nrm
      refine PW.mk' hP rfl (fun w₇ h₇ hl => .inr (.inr (.inr (.inr (.inr (.inr (.inr (.inr (.inr (.inr ⟨rfl, rfl, hStop _ _ (rl hF h₇) ⟨40, ?_⟩⟩))))))))))
      replace hF := rl hF h₇
      clear h₇ hl
      u_c stepG_region_end rl hF
      u_c stepG_seq rl hF
      u_c stepG_seq rl hF
      u_reg rl hF
      iterate 8 (u_op rl hF)
      iterate 2 (u_skip rl hF)
      u_op rl hF
      u_c stepG_region_end rl hF
      u_cond false rl hF
      u_c stepG_skip rl hF
      u_c stepG_ret' rl hF
      u_leave0 H.f_wait rl hF
      exact Goes.stop (fun w₈ h₈ => ⟨rfl, rl hF h₈⟩)
    · obtain ⟨S, hS⟩ : ∃ S : Int, (v : Int) * KK = S := ⟨_, rfl⟩
      have a1 : S / 4294967296 = (v : Int) := by rw [← hS]; simp only [KK]; omega
      have b1 : bits .and .u64 S 2147483648 = 0 := by rw [← hS]; have := st_flag v 0 (by omega) (by omega); simpa [KK] using this
      have b2 : bits .and .u64 S 2147483647 = 0 := by rw [← hS]; have := st_waiters v 0 (by omega) (by omega); simpa [KK] using this
      have c1 : IntKind.i32.wrap (v : Int) = (v : Int) := by rw [IntKind.wrap_i32]; omega
      have w1 : IntKind.u64.wrap (S + 1) = S + 1 := by rw [IntKind.wrap_u64, ← hS]; simp only [KK]; omega
      have q3 : decide ((v : Int) < 0) = false := decide_eq_false (by omega)
      have q4 : decide (0 < (v : Int)) = true := decide_eq_true (by omega)
      have q5 : ((v : Int) == 0) = false := by simp; omega
      have q6 : decide ((v : Int) = 0) = false := decide_eq_false (by omega)
      rw [hS] at hw
      refine ⟨_, stepG_load_atomic (v := S) rfl rfl (by k_ne) rfl H.f_loadU64 (x_loadU64_n L) (x_loadU64_b L) (x_loadU64_x L) .u64 (x_loadU64_f L) rfl hw.cellSt, ?_⟩
      clear hw
      rw [if_neg (by omega)]
      walk_nrm
      refine PW.goes hP (by simp) hXK (n := 80) ?_
      u_op rl hF
      u_c stepG_region_end rl hF
      u_c stepG_ret' rl hF
      u_leave1 H.f_uLoad rl hF
      u_op rl hF
      u_c stepG_region_end rl hF
      u_c stepG_seq rl hF
      u_reg rl hF
      iterate 4 (u_op rl hF)
      u_c stepG_region_end rl hF
      u_c stepG_seq rl hF
      u_reg rl hF
      iterate 4 (u_op rl hF)
      u_c stepG_region_end rl hF
      u_c stepG_seq rl hF
      u_c stepG_seq rl hF
      u_reg rl hF
      iterate 2 (u_op rl hF)
      u_c stepG_region_end rl hF
      u_cnd false rl hF
      u_c stepG_skip rl hF
      u_c stepG_seq rl hF
      u_reg rl hF
      iterate 6 (u_op rl hF)
      u_call H.f_uCas (nm_uCas L) uCasFn rl hF
      u_c stepG_seq rl hF
      u_reg rl hF
      u_op rl hF
      u_c stepG_region_end rl hF
      u_c stepG_seq rl hF
      u_reg rl hF
      iterate 5 (u_op rl hF)
      refine Goes.stop (fun w₃ hs => ?_)
      replace hF := rl hF hs
      clear hs
      refine PW.mk' hP rfl (fun w₃ h₃ hl => .inr (.inr (.inr (.inr (.inr (.inr (.inl ⟨rfl, v, rfl, fun v' hv' hw => ?_⟩)))))))
      replace hF := rl hF h₃
      clear h₃ hl
      by_cases e : v' = v
      · subst e
        rw [hS] at hw ⊢
        refine .inl ⟨rfl, _, (stepG_cas_hit (v := S) (n := S + 1) rfl rfl (by k_ne) rfl H.f_casU64 (x_casU64_n L) (x_casU64_b L) (x_casU64_x L) .u64 (x_casU64_f L) rfl rfl rfl hw.cellSt (hw.thaw 0)).trans (by rfl), ?_⟩
        replace hF := rl hF (still_set hKw (a := stA m.Wg) rfl (v := .int .u64 (S + 1)) ⟨_, _, hw.setSt _⟩)
        clear hw
        walk_nrm
        refine PW.goes hP (by simp) hXK (n := 80) ?_
        u_op rl hF
        u_c stepG_region_end rl hF
        u_c stepG_ret' rl hF
        u_leave1 H.f_uCas rl hF
        u_c stepG_region_end rl hF
        u_cond true rl hF
        u_c stepG_seq rl hF
        u_c stepG_seq rl hF
        u_reg rl hF
        iterate 4 (u_op rl hF)
        u_c stepG_region_end rl hF
        u_cond true rl hF
        u_reg rl hF
        iterate 3 (u_op rl hF)
        u_conv H.underlying_tPU32 H.room_tU32 (WgLive.cell1 hF.2).choose_spec rl hF
        refine Goes.stop (fun w₄ hs => ?_)
        replace hF := rl hF hs
        clear hs
        refine PW.said hP (by simp) hXK rfl (fun w₄ h₄ hl => ⟨_, .inr (stepG_markAt .write (by simp) rfl rfl (by k_ne) rfl H.f_raceWrite (x_raceWrite_n L) (x_raceWrite_b L) (x_raceWrite_x L) (x_raceWrite_f L) (ad := ⟨m.Wg, 1, none⟩) (by simp [Act.eval])), ?_⟩)
        replace hF := rl hF h₄
        clear h₄ hl
        walk_nrm
        refine PW.goes hP (by simp) hXK (n := 80) ?_
        u_c stepG_region_end rl hF
        u_c stepG_seq rl hF
        u_reg rl hF
        u_op rl hF
        u_c stepG_region_end rl hF
        u_c stepG_seq rl hF
        u_c stepG_seq rl hF
        u_reg rl hF
        iterate 4 (u_op rl hF)
        u_skip rl hF
        u_op rl hF
        u_c stepG_region_end rl hF
        u_cond false rl hF
        u_c stepG_skip rl hF
        u_c stepG_seq rl hF
        u_reg rl hF
        iterate 4 (u_op rl hF)
        refine Goes.stop (fun w₄ hs => ?_)
        replace hF := rl hF hs
        clear hs
        refine PW.mk' hP rfl (fun w₅ h₅ hl => .inr (.inr (.inr (.inr (.inr (.inr (.inr (.inl ⟨rfl, rfl, rfl, fun ⟨st, hw⟩ => stepG_semacquire_wait rfl rfl rfl H.f_semacquire (x_semacquire_n L) (x_semacquire_b L) (x_semacquire_x L) (x_semacquire_f L) (by simp [Act.eval, smA]) hw.cellSm, fun hf => ?_⟩))))))))
        replace hF := rl hF h₅
        clear h₅ hl
        refine ⟨_, (stepG_semacquire (n := 1) rfl rfl (by k_ne) rfl H.f_semacquire (x_semacquire_n L) (x_semacquire_b L) (x_semacquire_x L) (x_semacquire_f L) (by simp [Act.eval, smA]) hf.cellSm (by k_ne) (hf.thaw 1)).trans (by rfl), ?_⟩
        replace hF := rl hF (still_set hKw (a := smA m.Wg) rfl (v := .int .u32 0) ⟨_, _, hf.setSm 0⟩)
        clear hf
        walk_nrm
        refine PW.goes hP (by simp) hXK (n := 40) ?_
        u_c stepG_region_end rl hF
        u_c stepG_seq rl hF
        u_reg rl hF
        iterate 3 (u_op rl hF)
        u_call H.f_uLoad (nm_uLoad L) uLoadFn rl hF
        u_c stepG_seq rl hF
        u_reg rl hF
        u_op rl hF
        u_c stepG_region_end rl hF
        u_c stepG_seq rl hF
        u_reg rl hF
        iterate 3 (u_op rl hF)
        refine Goes.stop (fun w₆ hs => ?_)
        replace hF := rl hF hs
        clear hs
        refine PW.mk' hP rfl (fun w₇ h₇ hl => .inr (.inr (.inr (.inr (.inr (.inr (.inr (.inr (.inl ⟨rfl, rfl, fun hw => ⟨_, stepG_load_atomic (v := 0) rfl rfl (by k_ne) rfl H.f_loadU64 (x_loadU64_n L) (x_loadU64_b L) (x_loadU64_x L) .u64 (x_loadU64_f L) rfl hw.cellSt, ?_⟩⟩)))))))))
        replace hF := rl hF h₇
        clear h₇ hl
        walk_nrm
        refine PW.goes hP (by simp) hXK (n := 40) ?_
        u_op rl hF
        u_c stepG_region_end rl hF
        u_c stepG_ret' rl hF
        u_leave1 H.f_uLoad rl hF
        iterate 2 (u_op rl hF)
        u_c stepG_region_end rl hF
        u_c stepG_seq rl hF
        u_cond true rl hF
        u_c stepG_seq rl hF
        u_reg rl hF
        refine Goes.stop (fun w₅ hs => ?_)
        replace hF := rl hF hs
        clear hs
        refine PW.mk' hP rfl (fun w₅ h₅ hl => .inr (.inr (.inl ⟨rfl, .inr (.inr rfl), _, stepG_mark0 .enable (by simp) rfl rfl (by k_ne) rfl H.f_enable (x_enable_n L) (x_enable_b L) (x_enable_x L) (x_enable_f L), ?_⟩)))
        replace hF := rl hF h₅
        clear h₅ hl
        walk_nrm
        refine PW.goes hP (by simp) hXK (n := 10) ?_
        u_c stepG_region_end rl hF
        u_reg rl hF
        u_op rl hF
        u_conv H.underlying_tWgP H.room_tWg (WgLive.cell0 hF.2).choose_spec rl hF
        refine Goes.stop (fun w₆ hs => ?_)
        replace hF := rl hF hs
        clear hs
        refine PW.mk' hP rfl (fun w₆ h₆ hl => .inr (.inr (.inr (.inr (.inr (.inr (.inr (.inr (.inr (.inl ⟨rfl, rfl, _, stepG_markAt .acquire (by simp) rfl rfl (by k_ne) rfl H.f_acquire (x_acquire_n L) (x_acquire_b L) (x_acquire_x L) (x_acquire_f L) (by simp [Act.eval, stA]), ?_⟩))))))))))
        replace hF := rl hF h₆
        clear h₆ hl
        walk_nrm
        refine PW.mk' hP rfl (fun w₇ h₇ hl => .inr (.inr (.inr (.inr (.inr (.inr (.inr (.inr (.inr (.inr ⟨rfl, rfl, hStop _ _ (rl hF h₇) ⟨40, ?_⟩⟩))))))))))
        replace hF := rl hF h₇
        clear h₇ hl
        u_c stepG_region_end rl hF
        u_c stepG_seq rl hF
        u_c stepG_seq rl hF
        u_reg rl hF
        u_op rl hF
        u_c stepG_region_end rl hF
        u_cond false rl hF
        u_c stepG_skip rl hF
        u_c stepG_ret' rl hF
        u_leave0 H.f_wait rl hF
        exact Goes.stop (fun w₈ h₈ => ⟨rfl, rl hF h₈⟩)
      · refine .inr ⟨e, _, stepG_cas_miss (v := (v' : Int) * KK) (old := S) (n := S + 1) rfl rfl (by k_ne) rfl H.f_casU64 (x_casU64_n L) (x_casU64_b L) (x_casU64_x L) .u64 (x_casU64_f L) rfl rfl rfl hw.cellSt (hw.thaw 0) (by rw [← hS]; simp only [KK]; omega), ?_⟩
        clear hw
        walk_nrm
        refine PW.goes hP (by simp) hXK (n := 20) ?_
        u_op rl hF
        u_c stepG_region_end rl hF
        u_c stepG_ret' rl hF
        u_leave1 H.f_uCas rl hF
        u_c stepG_region_end rl hF
        u_cond false rl hF
        u_c stepG_skip rl hF
        u_c stepG_inBlock rl hF
        u_c stepG_inLoop rl hF
        refine Goes.stop (fun w₄ h₄ => ?_)
        exact ih v' (by omega) (by omega) _ _ ⟨_, rfl, by simp, by simp⟩ (rl hF h₄)
end Go.Proofs.Ythifdfbdekkmgaa

/- What code.sums does, to where it is back from Wait. -/
namespace Go.Proofs.Ythifdfbdekkmgaa
open Go.Conc Go.ConcN Go.RowKit Go.Conc.Lib Go.ConcR.Gen Go.ConcN.Gen
open Go.ConcR (KK wgBlock WgAt stA smA rd wr mk Payload Aside2 DC0)
set_option linter.unusedVariables false
set_option linter.unusedSectionVars false
variable [NoCx Try.prog] [Payload]
noncomputable def restC : Code := match sumsBody with | .seq _ (.scope (.seq _ (.seq _ (.seq _ c)))) => c | _ => .skip
noncomputable def tailC : Code := match restC with | .seq _ c => c | _ => .skip
noncomputable def opsW : Array Oper := match restC with | .seq (.region _ ops _) _ => ops | _ => #[]
/-- Behind Wait. -/
def AtOut (rv y : Value) (n : Nat) (Ch Bx Mv Wg : Nat) (k : List Item) (cs : List Frame) (g : Goroutine) : Prop :=
  ∃ v7 v8 v17 v18 v19 v20 v21 v22 v23 v24 : Value, g = G ((base 22).at ⟨#[rv, y, undef, .pointer (some ⟨Bx, 0, none⟩), .slice none 0 0, .pointer (some ⟨Mv, 0, none⟩), .pointer (some ⟨Wg, 0, none⟩), v7, v8, undef, undef, rv, .int .i64 n, .chan (some Ch), rv, .int .i64 n, .int .i64 n, v17, v18, v19, v20, v21, v22, v23,
    v24, undef, undef, undef, undef, undef, undef, undef, undef, undef, undef, undef, undef, undef, undef, undef], []⟩ (.inRegion opsW [] :: .code tailC :: k)) cs
set_option maxRecDepth 100000 in
set_option maxHeartbeats 4000000 in
theorem sums_end {m : Mill} (hP : m.P = Try.prog) (hty : m.ty = lnk.tWg) {r : Ren} {u : World} {Bx Mv : Nat} {rv y : Value} (hn2 : m.n < 2147483647) {k : List Item} {cs : List Frame}
    (hStop : ∀ K g w, Need r Bx Mv m.Wg K → PF m r u Bx Mv y w → (∃ d, Goes Try.prog true (Still m K) DC0 (fun g' w' => AtOut rv y m.n m.Ch Bx Mv m.Wg k cs g' ∧ PF m r u Bx Mv y w') d g w) → m.Stop m.n K g w)
    {K : Nat → Prop} (hK : Need r Bx Mv m.Wg K) (g : Goroutine) (w : World) (hA : AtLp rv y m.n m.Ch Bx Mv m.Wg (.code restC :: k) cs m.n g) (hF : PF m r u Bx Mv y w) : SomePW m .sp m.n 0 K (fun _ => False) g w := by
  obtain ⟨v7, v8, v17, v18, v19, v20, v21, v22, v23, rfl⟩ := hA
  have rl : ∀ {w w1 : World}, PF m r u Bx Mv y w → Still m K w w1 → PF m r u Bx Mv y w1 := fun h k => h.rely hK k
  have hXK : ∀ c, (fun _ : Nat => False) c → K c := fun c h => h.elim
  simp only [lpC, restC, sumsBody, Try.f22, Option.getD_some]
  refine PW.goes hP (by simp) hXK (n := 40) ?_
  u_c stepG_seq rl hF
  u_reg rl hF
  u_op rl hF
  u_c stepG_region_end rl hF
  u_c stepG_seq rl hF
  u_cnd false rl hF
  u_exit rl hF
  u_c stepG_seq rl hF
  u_reg rl hF
  refine Goes.step rfl fun w₁ r₁ => ?_
  replace hF := rl hF r₁
  refine goes_callE #[.pointer (some ⟨m.Wg, 0, none⟩)] rfl rfl (by decide) rfl wgLib.f_wait (nm_wait lnk) rfl (by simp [Act.eval]) ⟨⟨rfl, rfl⟩, ?_⟩
  refine Goes.stop (fun w₂ h₂ => ?_)
  replace hF := rl hF h₂
  clear r₁ h₂
  rw [enter_at (P := Try.prog) _ wgLib.f_wait rfl]
  refine wait_start (L := lnk) (F := PF m r u Bx Mv y) hP hty wgLib hXK (fun w w1 k h => rl h k) (fun g w hA hF => ?_) w₂ ⟨hF, hty ▸ hF.live⟩
  refine wait_round hP hty wgLib hXK hK.wg hn2 (fun w w1 k h => rl h k) (fun g w hF ⟨d, hg⟩ => hStop K g w hK hF.1 ⟨d, goes_to (fun g' w' ⟨e, hF⟩ => ⟨?_, hF.1⟩) d g w hg⟩) m.n (Nat.le_refl _) g w hA hF
  subst e
  simp only [AtOut, opsW, tailC, restC, sumsBody, Try.f22, Option.getD_some]
  exact ⟨_, _, _, _, _, _, _, _, _, _, rfl⟩
theorem sums_loop (hz0 : Zs Try.prog) {m : Mill} (hP : m.P = Try.prog) (hty : m.ty = lnk.tWg) {r : Ren} {u : World} {Bx Mv : Nat} {rv y : Value} {aL aR : Option Addr} {cap capR : Nat} {ss rows : List ByteArray}
    (hv : VR r (.slice aR rows.length capR) rv) (hy : VR r (.slice aL ss.length cap) y) (hSR : Kid.Strs u aR rows) (hS : Kid.Strs u aL ss) (hl' : ss.length ≤ 100000000) (hz : ∀ s ∈ ss, s.size ≤ 100000000) (hcs : ∀ s ∈ rows, s.size ≤ 100000000)
    (hn : rows.length = m.n) (hn2 : m.n < 2147483647) (hval : ∀ i, i < m.n → m.val i = .agg #[.int .i64 i, .string (Kid.sumS (rows.getD i ByteArray.empty) ss)]) (hcv : ∀ i, m.cval i = .int .i64 i)
    {k : List Item} {cs : List Frame}
    (hStop : ∀ K g w, Need r Bx Mv m.Wg K → PF m r u Bx Mv y w → (∃ d, Goes Try.prog true (Still m K) DC0 (fun g' w' => AtOut rv y m.n m.Ch Bx Mv m.Wg k cs g' ∧ PF m r u Bx Mv y w') d g w) → m.Stop m.n K g w) :
    ∀ (d j : Nat), j + d = m.n → ∀ (K : Nat → Prop) (g : Goroutine) (w : World), Need r Bx Mv m.Wg K → AtLp rv y m.n m.Ch Bx Mv m.Wg (.code restC :: k) cs j g → PF m r u Bx Mv y w → SomePW m .sp j 0 K (fun _ => False) g w
  | 0, j, e, K, g, w, hK, hA, hF => by
    obtain rfl : j = m.n := by omega
    exact sums_end hP hty hn2 hStop hK g w hA hF
  | d + 1, j, e, K, g, w, hK, hA, hF =>
    sums_round hz0 hP hty hv hy hSR hS hl' hz hcs hn hn2 hval hcv (by omega) hK (fun K' g w hK' hA' hF' => sums_loop hz0 hP hty hv hy hSR hS hl' hz hcs hn hn2 hval hcv hStop d (j + 1) (by omega) K' g w hK' hA' hF') g w hA hF
end Go.Proofs.Ythifdfbdekkmgaa

/- Goroutine 0 goes on, beside goroutines that only leave: own steps, receives out of a buffer. -/
namespace Go.Proofs.Ythifdfbdekkmgaa
open Go.Conc
open Go.ConcN (sumTo upd sumTo_upd upd_ne upd_same)
open Go.ConcR (DC0)
set_option linter.unusedVariables false
set_option linter.unusedSectionVars false
section
variable {P : Program} {Shun : Loc → Prop}
/-- One own step of goroutine 0's, of whatever kind. -/
theorem fr_one {g : Goroutine} (hrun : g.status = .running) (K : Goroutine → World → Prop) (w0 : World) {B C : Nat}
    (own : ∀ (d : Nat) (gs : Array Goroutine) (sl : Option (Nat × Nat)) (t : Trace) (q : Nat → Nat), gs[0]? = some g → Leavers P t gs q → Past Shun B t → ∃ gs' g' w' ops, runT P (crowd gs (w0.at d) sl) 0 = (.next (crowd gs' w' sl), ops) ∧ gs'[0]? = some g' ∧ gs'.size = gs.size ∧ Leavers P (t ++ ops) gs' q ∧ Past Shun C (t ++ ops) ∧ K g' w') :
    ∀ (M : Nat) (gs : Array Goroutine) (d0 : Nat) (sl : Option (Nat × Nat)) (t : Trace) (q : Nat → Nat), sumTo gs.size q < M → gs[0]? = some g → Leavers P t gs q → Past Shun B t →
      ∃ (N : Nat) (gs' : Array Goroutine) (g' : Goroutine) (w' : World) (sl' : Option (Nat × Nat)) (t' : Trace),
        runNT P N (crowd gs (w0.at d0) sl) t = (.next (crowd gs' w' sl'), t') ∧ Fr P Shun C gs' g' t' ∧ gs'.size = gs.size ∧ K g' w' := by
  intro M
  induction M with
  | zero => intro gs d0 sl t q hM; omega
  | succ M ih =>
    intro gs d0 sl t q hM h0 hL hP
    have haw : ∀ x ∈ gs, awake x := by
      intro x hx
      obtain ⟨i, hi, rfl⟩ := Array.mem_iff_getElem.1 hx
      rcases Nat.eq_zero_or_pos i with rfl | hpos
      · have : gs[0] = g := by simpa [Array.getElem?_eq_getElem hi] using h0
        rw [this]; exact awake_of (.inl hrun)
      · exact awake_of ((hL.old i _ hpos (Array.getElem?_eq_getElem hi)).status.elim .inl fun x => .inr (.inr x))
    obtain ⟨i, x, d, sl', hi, hx, hst⟩ := crowd_pick (P := P) (w := w0.at d0) (sl := sl) haw ⟨0, g, h0, hrun⟩
    have hat : (w0.at d0).at d = w0.at d := rfl
    rw [hat] at hst
    have hlt : i < gs.size := (Array.getElem?_eq_some_iff.1 hi).1
    rcases Nat.eq_zero_or_pos i with rfl | hpos
    · obtain ⟨gs', g', w', ops, e, h1, h2, h3, h4, hK⟩ := own d gs sl' t q h0 hL hP
      exact ⟨1, gs', g', w', sl', t ++ ops, by simp only [runNT, hst, e], ⟨h1, ⟨q, h3⟩, h4⟩, h2, hK⟩
    · have hq := hL.old i x hpos hi
      have hi0 : (i == 0) = false := by simp; omega
      cases hqi : q i with
      | zero => rw [hqi] at hq; rw [hq.1] at hx; cases hx
      | succ k =>
        rw [hqi] at hq
        rcases hq with ⟨hf, _⟩ | ⟨_, g', es, hm, hstp, hq'⟩
        · rw [hf] at hx; cases hx
        have hrunT := runT_crowd_go (P := P) (sl := sl') (i := i) hi (by rw [hi0]; exact hstp (w0.at d))
        have hsum : sumTo gs.size (upd q i k) + (k + 1) = sumTo gs.size q + k := by
          have := sumTo_upd q k id hlt
          simpa [hqi] using this
        obtain ⟨N, gs', g2, w', sl2, t', hr, hF, hz, hK⟩ := ih ((gs.map (woken P x g' (w0.at d))).setIfInBounds i g') d sl' (t ++ MemOp.ofEvents i x.frame.fn x.frame.place es) (upd q i k) (by simp; omega)
          (by
            have hne : i ≠ 0 := by omega
            rw [Array.getElem?_setIfInBounds_ne hne, Array.getElem?_map, h0]
            simp [woken_run hrun])
          (leavers_slip hL hpos hi hq') (hP.mute (by omega) hm)
        exact ⟨N + 1, gs', g2, w', sl2, t', by simp only [runNT, hst, hrunT]; exact hr, hF, by simpa using hz, hK⟩
theorem leavers_comm {t : Trace} {gs : Array Goroutine} {q : Nat → Nat} (h : Leavers P t gs q) (hz : 0 < gs.size) (g' : Goroutine) (u : Trace) (hu : ∀ op ∈ u, op.g = 0) : Leavers P (t ++ u) (gs.setIfInBounds 0 g') q := by
  refine ⟨fun j x hj hx => ?_, fun j hj => ?_⟩
  · have hne : 0 ≠ j := by omega
    rw [Array.getElem?_setIfInBounds_ne hne] at hx
    rw [Deaf_other t (g' := 0) (show (0 : Nat) ≠ j by omega) _ hu]
    exact h.old j x hj hx
  · rw [Deaf_other t (g' := 0) (by simp at hj; omega) _ hu]
    exact h.above j (by simpa using hj)
theorem leavers_alone {t : Trace} {gs : Array Goroutine} {q : Nat → Nat} (h : Leavers P t gs q) (c : Nat) (b : Bool) : partners (gs.setIfInBounds 0 ph) c b = [] := by
  refine partners_nil fun k x hx => ?_
  rcases getElem?_stand gs 0 k x hx with ⟨_, rfl⟩ | ⟨hk, hx⟩
  · exact offersAt_ph _ _
  · have := (h.old k x (Nat.pos_of_ne_zero hk) hx).status
    exact offersAt_of_not_blocked (by rcases this with h | h <;> rw [h] <;> decide) _ _
/-- From here it comes to Q, beside leavers. -/
def To (P : Program) (Shun : Loc → Prop) (Q : Goroutine → World → Prop) (g : Goroutine) (w : World) : Prop :=
  ∀ (gs : Array Goroutine) (d : Nat) (sl : Option (Nat × Nat)) (t : Trace), Fr P Shun w.heap.size gs g t → ∃ (N : Nat) (gs' : Array Goroutine) (g' : Goroutine) (w' : World) (sl' : Option (Nat × Nat)) (t' : Trace),
    runNT P N (crowd gs (w.at d) sl) t = (.next (crowd gs' w' sl'), t') ∧ Fr P Shun w'.heap.size gs' g' t' ∧ gs'.size = gs.size ∧ Q g' w'
variable {Q : Goroutine → World → Prop} {g : Goroutine} {w : World}
theorem To.done (hQ : ∀ d, Q g (w.at d)) : To P Shun Q g w := fun gs d sl t hF => ⟨0, gs, g, w.at d, sl, t, rfl, hF, rfl, hQ d⟩
theorem To.go (hr : g.status = .running) {C : Nat} (h : ∀ d, ∃ g' w' es, stepG P true g (w.at d) = .go g' w' es ∧ (∀ e ∈ es, EvL Shun C e) ∧ w.heap.size ≤ C ∧ w'.heap.size = C ∧ ∀ d, To P Shun Q g' (w'.at d)) : To P Shun Q g w := by
  intro gs d sl t hF
  obtain ⟨q, hq⟩ := hF.leave
  obtain ⟨N, gs1, g1, w1, sl1, t1, h1, h2, h3, h4, h5⟩ := fr_one hr (fun g' w' => w'.heap.size = C ∧ To P Shun Q g' w') w (B := w.heap.size) (C := C) (fun d gs sl t q h0 hL hP => by
    obtain ⟨g', w', es, e, hev, hz, hz2, hT⟩ := h d
    refine ⟨_, g', w', MemOp.ofEvents 0 g.frame.fn g.frame.place es, runT_crowd_go (P := P) (sl := sl) (i := 0) h0 (show stepG P (0 == 0) g (w.at d) = _ from e), by simp [(Array.getElem?_eq_some_iff.1 h0).1], by simp, leavers_own hL (Array.getElem?_eq_some_iff.1 h0).1 g g' w' _ ofEv_g, (hP.mono hz).own hev, hz2, hT w'.drawn⟩) _ gs d sl t q (Nat.lt_succ_self _) hF.first hq hF.past
  subst h4
  obtain ⟨N2, gs2, g2, w2, sl2, t2, k1, k2, k3, k4⟩ := h5 gs1 w1.drawn sl1 t1 h2
  exact ⟨N + N2, gs2, g2, w2, sl2, t2, Go.ConcX.runNT_trans h1 k1, k2, k3.trans h3, k4⟩
/-- Steps that touch nothing. -/
theorem To.goes [Go.ConcR.Payload] : ∀ (k : Nat) (g : Goroutine) (w : World), Goes P true Go.Conc.AtRel DC0 (To P Shun Q) k g w → To P Shun Q g w
  | 0, g, w, h => h w ⟨w.drawn, rfl⟩
  | k + 1, g, w, h => by
    rcases h with h | ⟨hs, h⟩
    · exact h w ⟨w.drawn, rfl⟩
    · refine To.go hs (C := w.heap.size) fun d => ?_
      obtain ⟨g', w', es, e, ⟨rfl, rfl⟩, hg⟩ := goes_elim (h (w.at d) ⟨d, rfl⟩)
      exact ⟨g', w.at d, #[], e, fun e he => by simp at he, Nat.le_refl _, rfl, fun d2 => To.goes k _ _ (Goes.rely atRel_trans hg ⟨d2, rfl⟩)⟩
theorem To.goesAt [Go.ConcR.Payload] (W : World) : ∀ (k : Nat) (g : Goroutine) (w : World), Goes P true Go.Conc.AtRel DC0 Q k g w → (∃ d, w = W.at d) → To P Shun (fun g' w' => Q g' w' ∧ ∃ d, w' = W.at d) g w
  | 0, g, w, h, ⟨e, hw⟩ => To.done fun d => ⟨h _ ⟨d, rfl⟩, d, by rw [hw]; rfl⟩
  | k + 1, g, w, h, ⟨e, hw⟩ => by
    rcases h with h | ⟨hs, h⟩
    · exact To.done fun d => ⟨h _ ⟨d, rfl⟩, d, by rw [hw]; rfl⟩
    · refine To.go hs (C := w.heap.size) fun d => ?_
      obtain ⟨g', w', es, e, ⟨rfl, rfl⟩, hg⟩ := goes_elim (h (w.at d) ⟨d, rfl⟩)
      exact ⟨g', w.at d, #[], e, fun e he => by simp at he, Nat.le_refl _, rfl, fun d2 => To.goesAt W k _ _ (Goes.rely atRel_trans hg ⟨d2, rfl⟩) ⟨d2, by rw [hw]; rfl⟩⟩
/-- A select's receive out of a buffer. -/
theorem To.recv (hr : g.status = .running) {c cap s r : Nat} {v : Value} {buf : List Value} {closed tm : Bool} {shape : CommShape} {blocking : Bool} {g2 : Goroutine} {z : Value}
    (h : ∀ d, stepG P true g (w.at d) = .comm g2 #[rcase c z] blocking shape (w.at d) #[]) (hc : w.heap[c]? = some (.chan cap (v :: buf).toArray closed s r tm))
    (hT : ∀ d, To P Shun Q (g2.finishComm P #[rcase c z] shape 0 v true) ((w.setChan c cap buf.toArray closed s (r + 1) tm).at d)) : To P Shun Q g w := by
  have hcz : c < w.heap.size := (Array.getElem?_eq_some_iff.1 hc).1
  have hz : (w.setChan c cap buf.toArray closed s (r + 1) tm).heap.size = w.heap.size := by simp [World.setChan]
  intro gs d sl t hF
  obtain ⟨q, hq⟩ := hF.leave
  obtain ⟨N, gs1, g1, w1, sl1, t1, h1, h2, h3, h4, h5⟩ := fr_one hr (fun g' w' => w'.heap.size = w.heap.size ∧ To P Shun Q g' w') w (B := w.heap.size) (C := w.heap.size) (fun d gs sl t q h0 hL hP => by
    have hgz := (Array.getElem?_eq_some_iff.1 h0).1
    have e := crowd_sel_recv_buf (P := P) (gs := gs) (i := 0) (sl := sl) (k := 0) h0 (h d) rfl (fun mm c' hm hc' => by cases mm with | zero => exact absurd rfl hm | succ mm => simp at hc') (show (w.at d).heap[c]? = _ from hc) (by simp) (leavers_alone hL c true)
    have e2 : ((v :: buf).toArray.extract 1 (v :: buf).toArray.size) = buf.toArray := by simp
    have e3 : (v :: buf).toArray.getD 0 undef = v := by simp
    rw [e2, e3] at e
    have e4 : MemOp.ofEvents 0 g.frame.fn g.frame.place #[] = #[] := rfl
    rw [e4, Array.empty_append] at e
    refine ⟨_, _, _, _, e, by simp [hgz], by simp, leavers_comm hL hgz _ _ (fun op hop => ?_), hP.app0 (fun op hop => ?_) (fun op hop b hb => ?_) ?_ (fun op hop => ?_), hz, hT d⟩
    · simp at hop; rcases hop with rfl | rfl <;> rfl
    · simp at hop; rcases hop with rfl | rfl <;> rfl
    · simp at hop; rcases hop with rfl | rfl <;> cases hb
    · exact Go.ConcN.Deaf_still t 0 _ fun op hop => by simp at hop; rcases hop with rfl | rfl <;> simp
    · simp at hop; rcases hop with rfl | rfl <;> exact hcz) _ gs d sl t q (Nat.lt_succ_self _) hF.first hq hF.past
  rw [← h4] at h2
  obtain ⟨N2, gs2, g2, w2, sl2, t2, k1, k2, k3, k4⟩ := h5 gs1 w1.drawn sl1 t1 h2
  exact ⟨N + N2, gs2, g2, w2, sl2, t2, Go.ConcX.runNT_trans h1 k1, k2, k3.trans h3, k4⟩
/-- A select's default. -/
theorem To.dflt (hr : g.status = .running) {c cap s r : Nat} {tm : Bool} {shape : CommShape} {g2 : Goroutine} {z : Value}
    (h : ∀ d, stepG P true g (w.at d) = .comm g2 #[rcase c z] false shape (w.at d) #[]) (hc : w.heap[c]? = some (.chan cap #[] false s r tm))
    (hT : ∀ d, To P Shun Q (g2.finishComm P #[rcase c z] shape (-1) undef false) (w.at d)) : To P Shun Q g w := by
  intro gs d sl t hF
  obtain ⟨q, hq⟩ := hF.leave
  obtain ⟨N, gs1, g1, w1, sl1, t1, h1, h2, h3, h4, h5⟩ := fr_one hr (fun g' w' => w'.heap.size = w.heap.size ∧ To P Shun Q g' w') w (B := w.heap.size) (C := w.heap.size) (fun d gs sl t q h0 hL hP => by
    have hgz := (Array.getElem?_eq_some_iff.1 h0).1
    have e := crowd_default (P := P) (gs := gs) (i := 0) (sl := sl) h0 (h d) (fun cc hcc => by
      simp at hcc
      subst hcc
      refine ⟨made_recv z (show (w.at d).heap[c]? = _ from hc), ?_⟩
      have hp := leavers_alone hL c true
      have hc2 : (w.at d).heap[c]? = some (.chan cap #[] false s r tm) := hc
      simp [ways, rcase, hc2, hp])
    have e4 : MemOp.ofEvents 0 g.frame.fn g.frame.place #[] = #[] := rfl
    rw [e4] at e
    exact ⟨_, _, _, _, e, by simp [hgz], by simp, leavers_comm hL hgz _ _ (fun op hop => by simp at hop), by simpa using hP, rfl, hT d⟩) _ gs d sl t q (Nat.lt_succ_self _) hF.first hq hF.past
  rw [← h4] at h2
  obtain ⟨N2, gs2, g2, w2, sl2, t2, k1, k2, k3, k4⟩ := h5 gs1 w1.drawn sl1 t1 h2
  exact ⟨N + N2, gs2, g2, w2, sl2, t2, Go.ConcX.runNT_trans h1 k1, k2, k3.trans h3, k4⟩
/-- A step that reads, makes or stores. -/
theorem To.reads (hr : g.status = .running) {ad : Addr} {g' : Goroutine} (hb : ad.block < w.heap.size) (hs : ¬ Shun (.cell ad)) (h : ∀ d, stepG P true g (w.at d) = .go g' (w.at d) #[⟨.cell ad, false, false⟩]) (hT : ∀ d, To P Shun Q g' (w.at d)) : To P Shun Q g w :=
  To.go hr (C := w.heap.size) fun d => ⟨g', w.at d, _, h d, fun e he => by rw [Array.mem_singleton] at he; subst he; exact evL_cell ad false hs hb, Nat.le_refl _, rfl, fun d2 => hT d2⟩
theorem To.makes (hr : g.status = .running) {g' : Goroutine} {o : Obj} (h : ∀ d, stepG P true g (w.at d) = .go g' ((w.at d).alloc o) #[]) (hT : ∀ d, To P Shun Q g' ((w.alloc o).at d)) : To P Shun Q g w :=
  To.go hr (C := w.heap.size + 1) fun d => ⟨g', (w.at d).alloc o, _, h d, fun e he => by simp at he, Nat.le_succ _, by show (w.heap.push o).size = _; simp, fun d2 => hT d2⟩
theorem To.stores (hr : g.status = .running) {ad : Addr} {v : Value} {g' : Goroutine} (hb : ad.block < w.heap.size) (hs : ¬ Shun (.cell ad)) (h : ∀ d, stepG P true g (w.at d) = .go g' ((w.at d).setCell ad v) #[⟨.cell ad, true, false⟩]) (hT : ∀ d, To P Shun Q g' ((w.setCell ad v).at d)) : To P Shun Q g w :=
  To.go hr (C := w.heap.size) fun d => ⟨g', (w.at d).setCell ad v, _, h d, fun e he => by rw [Array.mem_singleton] at he; subst he; exact evL_cell ad true hs hb, Nat.le_refl _, (aside_setCell (w.at d) ad v).size, fun d2 => hT d2⟩
/-- From here it comes to Q, and nothing that it says names a block from B on. -/
def ToB (P : Program) (Shun : Loc → Prop) (B : Nat) (Q : Goroutine → World → Prop) (g : Goroutine) (w : World) : Prop :=
  ∀ (gs : Array Goroutine) (d : Nat) (sl : Option (Nat × Nat)) (t : Trace), Fr P Shun B gs g t → ∃ (N : Nat) (gs' : Array Goroutine) (g' : Goroutine) (w' : World) (sl' : Option (Nat × Nat)) (t' : Trace),
    runNT P N (crowd gs (w.at d) sl) t = (.next (crowd gs' w' sl'), t') ∧ Fr P Shun B gs' g' t' ∧ gs'.size = gs.size ∧ Q g' w'
theorem ToB.done {B : Nat} (hQ : ∀ d, Q g (w.at d)) : ToB P Shun B Q g w := fun gs d sl t hF => ⟨0, gs, g, w.at d, sl, t, rfl, hF, rfl, hQ d⟩
theorem ToB.go {B : Nat} (hr : g.status = .running) (h : ∀ d, ∃ g' w', stepG P true g (w.at d) = .go g' w' #[] ∧ ∀ d, ToB P Shun B Q g' (w'.at d)) : ToB P Shun B Q g w := by
  intro gs d sl t hF
  obtain ⟨q, hq⟩ := hF.leave
  obtain ⟨N, gs1, g1, w1, sl1, t1, h1, h2, h3, h5⟩ := fr_one hr (fun g' w' => ToB P Shun B Q g' w') w (B := B) (C := B) (fun d gs sl t q h0 hL hP => by
    obtain ⟨g', w', e, hT⟩ := h d
    refine ⟨_, g', w', MemOp.ofEvents 0 g.frame.fn g.frame.place #[], runT_crowd_go (P := P) (sl := sl) (i := 0) h0 (show stepG P (0 == 0) g (w.at d) = _ from e), by simp [(Array.getElem?_eq_some_iff.1 h0).1], by simp, leavers_own hL (Array.getElem?_eq_some_iff.1 h0).1 g g' w' _ ofEv_g, hP.own (fun e he => by simp at he), hT w'.drawn⟩) _ gs d sl t q (Nat.lt_succ_self _) hF.first hq hF.past
  obtain ⟨N2, gs2, g2, w2, sl2, t2, k1, k2, k3, k4⟩ := h5 gs1 w1.drawn sl1 t1 h2
  exact ⟨N + N2, gs2, g2, w2, sl2, t2, Go.ConcX.runNT_trans h1 k1, k2, k3.trans h3, k4⟩
theorem ToB.makes {B : Nat} (hr : g.status = .running) {g' : Goroutine} {o : Obj} (h : ∀ d, stepG P true g (w.at d) = .go g' ((w.at d).alloc o) #[]) (hT : ∀ d, ToB P Shun B Q g' ((w.alloc o).at d)) : ToB P Shun B Q g w :=
  ToB.go hr fun d => ⟨g', (w.at d).alloc o, h d, fun d2 => hT d2⟩
theorem ToB.goes [Go.ConcR.Payload] {B : Nat} : ∀ (k : Nat) (g : Goroutine) (w : World), Goes P true Go.Conc.AtRel DC0 (ToB P Shun B Q) k g w → ToB P Shun B Q g w
  | 0, g, w, h => h w ⟨w.drawn, rfl⟩
  | k + 1, g, w, h => by
    rcases h with h | ⟨hs, h⟩
    · exact h w ⟨w.drawn, rfl⟩
    · refine ToB.go hs fun d => ?_
      obtain ⟨g', w', es, e, ⟨rfl, rfl⟩, hg⟩ := goes_elim (h (w.at d) ⟨d, rfl⟩)
      exact ⟨g', w.at d, e, fun d2 => ToB.goes k _ _ (Goes.rely atRel_trans hg ⟨d2, rfl⟩)⟩
end
end Go.Proofs.Ythifdfbdekkmgaa

/- code.sums' goroutines, from the head of its loop to where it is back from Wait. -/
namespace Go.Proofs.Ythifdfbdekkmgaa
open Go.Conc Go.ConcN Go.RowKit Go.Conc.Lib Go.ConcR.Gen Go.ConcN.Gen
open Go.ConcR (KK wgBlock WgAt stA smA rd wr mk Payload Aside2 DC0)
set_option linter.unusedVariables false
set_option linter.unusedSectionVars false
theorem goes_less {P : Program} {main : Bool} {R R' : World → World → Prop} {D : World → World → Array Event → Prop} {Q : Goroutine → World → Prop} (hr : ∀ a b, R' a b → R a b) : ∀ (k : Nat) (g : Goroutine) (w : World), Goes P main R D Q k g w → Goes P main R' D Q k g w
  | 0, g, w, h => fun w1 r => h w1 (hr _ _ r)
  | k + 1, g, w, h => by
    rcases h with h | ⟨hs, h⟩
    · exact .inl fun w1 r => h w1 (hr _ _ r)
    · refine .inr ⟨hs, fun w1 r => ?_⟩
      obtain ⟨g', w', es, e, hd, hg⟩ := goes_elim (h w1 (hr _ _ r))
      rw [e]
      exact ⟨hd, goes_less hr k _ _ hg⟩
variable [NoCx Try.prog] [Payload]
/-- The mill of code.sums, but for where it stops. -/
noncomputable def mill0 (Wg Ch n base T0 : Nat) (Shun : Loc → Prop) (val : Nat → Value) (w0 : World) : Mill :=
  { P := Try.prog, ty := lnk.tWg, Wg, Ch, n, base, T0, Shun, val, cval := fun i => .int .i64 i, w0, Fz := fun c => c < w0.heap.size ∧ c ≠ Wg ∧ c ≠ Ch, tm := false, Stop := fun _ _ _ _ => True }
noncomputable def mill1 (Wg Ch n base T0 : Nat) (Shun : Loc → Prop) (val : Nat → Value) (w0 : World) (St : Nat → (Nat → Prop) → Goroutine → World → Prop) : Mill := { mill0 Wg Ch n base T0 Shun val w0 with Stop := St }
theorem mill_sums (hz0 : Zs Try.prog) {r : Ren} {u : World} {Bx Mv Wg Ch n : Nat} {rv y : Value} {aL aR : Option Addr} {cap capR : Nat} {ss rows : List ByteArray}
    (hv : VR r (.slice aR rows.length capR) rv) (hy : VR r (.slice aL ss.length cap) y) (hSR : Kid.Strs u aR rows) (hS : Kid.Strs u aL ss) (hl' : ss.length ≤ 100000000) (hz : ∀ s ∈ ss, s.size ≤ 100000000) (hcs : ∀ s ∈ rows, s.size ≤ 100000000)
    (hn : rows.length = n) (hn2 : n < 2147483647) {k : List Item} {cs : List Frame} {Shun : Loc → Prop} {B : Nat} {gs : Array Goroutine} {g : Goroutine} {w : World} {sl : Option (Nat × Nat)} {t : Trace}
    (hF : Fr Try.prog Shun B gs g t) (hBW : B ≤ Wg) (hA : AtLp rv y n Ch Bx Mv Wg (.code restC :: k) cs 0 g)
    (hr : HR Try.prog (fun c => ∃ b, r b c) r u w) (hbox : w.cell? ⟨Bx, 0, none⟩ = some y) (hmv : w.cell? ⟨Mv, 0, none⟩ = some (.chan (some Ch))) (hwg : WgAt lnk.tWg Wg w 0 0) (hch : w.heap[Ch]? = some (.chan n #[] false 0 0 false))
    (hfree : ∀ c, ((∃ b, r b c) ∨ c = Bx ∨ c = Mv) → Free Shun c) (hW : ∀ b, ¬ r b Wg) (hCh : ∀ b, ¬ r b Ch) (d1 : Bx ≠ Wg) (d2 : Mv ≠ Wg) (d3 : Bx ≠ Ch) (d4 : Mv ≠ Ch) (d5 : Ch ≠ Wg) :
    ∃ (N : Nat) (gs' : Array Goroutine) (g' : Goroutine) (w' : World) (sl' : Option (Nat × Nat)) (t' : Trace), runNT Try.prog N (crowd gs w sl) t = (.next (crowd gs' w' sl'), t') ∧ Fr Try.prog (fun l => Shun l ∨ ShN Wg l) w'.heap.size gs' g' t' ∧
      AtOut rv y n Ch Bx Mv Wg k cs g' ∧ (∀ c, c < w.heap.size → c ≠ Wg → c ≠ Ch → w'.heap[c]? = w.heap[c]?) ∧ w.heap.size ≤ w'.heap.size ∧ w'.tape = w.tape ∧ w'.os = w.os ∧ w'.output = w.output ∧ WgLive lnk.tWg Wg w' ∧
      ∃ buf s, w'.heap[Ch]? = some (.chan n buf false s 0 false) ∧ ∃ σ : List Nat, buf.toList = σ.map (fun i => .agg #[.int .i64 i, .string (Kid.sumS (rows.getD i ByteArray.empty) ss)]) ∧ σ.Nodup ∧ ∀ i, i ∈ σ ↔ i < n := by
  obtain ⟨m0, hm0⟩ : ∃ m0 : Mill, m0 = mill0 Wg Ch n gs.size t.size Shun (fun i => .agg #[.int .i64 i, .string (Kid.sumS (rows.getD i ByteArray.empty) ss)]) w := ⟨_, rfl⟩
  obtain ⟨St, hSt⟩ : ∃ St : Nat → (Nat → Prop) → Goroutine → World → Prop, St = fun j K g w => j = n ∧ PF m0 r u Bx Mv y w ∧ ∃ d, Goes Try.prog true (Still m0 K) DC0 (fun g' w' => AtOut rv y n Ch Bx Mv Wg k cs g') d g w := ⟨_, rfl⟩
  obtain ⟨m, hm⟩ : ∃ m : Mill, m = mill1 Wg Ch n gs.size t.size Shun (fun i => .agg #[.int .i64 i, .string (Kid.sumS (rows.getD i ByteArray.empty) ss)]) w St := ⟨_, rfl⟩
  have hK0 : Need r Bx Mv Wg (fun c => (∃ b, r b c) ∨ c = Bx ∨ c = Mv) := ⟨fun b c x => .inl ⟨b, x⟩, .inr (.inl rfl), .inr (.inr rfl), fun h => h.elim (fun ⟨b, hb⟩ => hW b hb) fun h => h.elim (fun e => d1 e.symm) fun e => d2 e.symm⟩
  subst hm
  have hpw : SomePW (mill1 Wg Ch n gs.size t.size Shun (fun i => .agg #[.int .i64 i, .string (Kid.sumS (rows.getD i ByteArray.empty) ss)]) w St) .sp 0 0 (fun c => (∃ b, r b c) ∨ c = Bx ∨ c = Mv) (fun _ => False) g w := by
    refine sums_loop hz0 (k := k) (cs := cs) (Bx := Bx) (Mv := Mv) (ss := ss) (rows := rows) rfl rfl hv hy hSR hS hl' hz hcs hn hn2 (fun i _ => rfl) (fun i => rfl) (fun K g w hK hP ⟨d, hg⟩ => ?_) n 0 (Nat.zero_add _) _ g w hK0 hA ⟨hr, ⟨0, 0, hwg⟩, hbox, hmv⟩
    show St n K g w
    rw [hSt]
    subst hm0
    exact ⟨rfl, ⟨hP.hr, hP.live, hP.box, hP.chan⟩, d, goes_to (fun _ _ h => h.1) d _ _ (goes_less (fun a b h => ⟨h.size, h.keep, h.tape, h.os, h.output, h.live⟩) d _ _ hg)⟩
  obtain ⟨ρ, hpw⟩ := hpw
  obtain ⟨q, hq⟩ := hF.leave
  obtain ⟨S, hS0⟩ : ∃ S : Sets, S = ⟨fun c => (∃ b, r b c) ∨ c = Bx ∨ c = Mv, fun _ => False, fun _ _ => False, fun _ _ => False, fun _ => 0⟩ := ⟨_, rfl⟩
  have hWz : Wg < w.heap.size := (Array.getElem?_eq_some_iff.1 hwg).1
  have ti : TI Wg gs.size 0 t.size Shun S w.heap.size t := by
    have := TI.begin (base := gs.size) hF.past S hBW (by subst hS0; exact hfree) (by subst hS0; exact fun _ h => h.elim) (by subst hS0; exact fun _ _ h => h) (by subst hS0; exact fun _ _ h => h)
    exact { this with low := fun op hop => MemAct.low_mono (by omega) (this.low op hop) }
  subst hS0
  have hMI : MI (mill1 Wg Ch n gs.size t.size Shun (fun i => .agg #[.int .i64 i, .string (Kid.sumS (rows.getD i ByteArray.empty) ss)]) w St) .sp false 0 0 ⟨fun c => (∃ b, r b c) ∨ c = Bx ∨ c = Mv, fun _ => False, fun _ _ => False, fun _ _ => False, fun _ => 0⟩ (fun _ => ⟨7, 0, 0⟩) (fun _ => false) (fun _ => ρ) q ρ gs w t := by
    refine ⟨rfl, ⟨g, hF.first, hpw, fun h => (by cases h)⟩, fun i hi => absurd hi (Nat.not_lt_zero _), fun i g h1 _ hg => hq.old i g h1 hg, hq.above, hF.past.hears, fun i hi => absurd hi (Nat.not_lt_zero _), ti, fun i hi => absurd hi (Nat.not_lt_zero _),
      ⟨fun _ h => h.elim, fun _ _ h => h.elim, fun _ _ _ h => h.elim, fun _ _ h => h.elim, hK0.wg, fun _ h => h⟩, ?_, fun _ _ h => h.elim, fun k _ => ⟨fun _ h => h, fun _ h => h⟩, fun i hi => absurd hi (Nat.not_lt_zero _), ?_, fun _ h => h, ⟨#[], 0, hch, [], rfl, List.nodup_nil, fun i => by simp⟩,
      ⟨0, 0, hwg, ?_⟩, fun b h => (by cases h), fun h => (by cases h), Nat.zero_le _, fun h => (by cases h), fun c hc => ⟨id, fun _ => id, hc.1, rfl⟩, ⟨rfl, rfl, rfl⟩, Nat.le_refl _⟩
    · rintro c (⟨b, hb⟩ | rfl | rfl)
      · exact (hr.lt hb).2
      · exact cell_lt hbox
      · exact cell_lt hmv
    · rintro (⟨b, hb⟩ | h | h)
      · exact hCh b hb
      · exact d3 h.symm
      · exact d4 h.symm
    · have := Go.ConcN.Mode.opn (j := 0) (D := fun _ => (⟨7, 0, 0⟩ : WD)) (tag := .sp 0 5) trivial ?_ (fun vs h => by cases h)
      · simpa [Go.ConcN.Vc, Go.ConcN.sumTo, Go.ConcN.pend, PT.c] using this
      · intro i hi
        exact absurd hi (Nat.not_lt_zero _)
  have hOk : (mill1 Wg Ch n gs.size t.size Shun (fun i => .agg #[.int .i64 i, .string (Kid.sumS (rows.getD i ByteArray.empty) ss)]) w St).Ok := ⟨(Array.getElem?_eq_some_iff.1 hF.first).1, hn2, d5, fun h => h.2.1 rfl, fun h => h.2.2 rfl⟩
  obtain ⟨N, gs', w', sl', t', bk', j', S', D', snt', kr', q', ρ', a, h1, h2, h3, h4⟩ := mill_run hOk ρ .sp false 0 0 _ _ _ _ q gs w sl t hMI
  obtain ⟨hF2, buf, s, hc, σ, k1, k2, k3⟩ := h2.after hOk h3
  replace h4 : St j' S'.K a w' := h4
  rw [hSt] at h4
  obtain ⟨rfl, hP2, d, hg⟩ := h4
  obtain ⟨N2, gs2, g2, w2, sl2, t2, e1, e2, e3, e4, d2', rfl⟩ := To.goesAt w' d a w' (goes_less (fun _ b ⟨d, h⟩ => h ▸ .at _ _ d) d _ _ hg) ⟨w'.drawn, rfl⟩ gs' w'.drawn sl' t' hF2
  refine ⟨N + N2, gs2, g2, _, sl2, t2, Go.ConcX.runNT_trans h1 e1, e2, e4, fun c c1 c2 c3 => (h2.fz c ⟨c1, c2, c3⟩).2.2.2, h2.wz, h2.env.1, h2.env.2.1, h2.env.2.2, ?_, buf, s, hc, σ, k1, k2, k3⟩
  subst hm0
  exact hP2.live
end Go.Proofs.Ythifdfbdekkmgaa

/- code.sums, from its entry to the head of its loop. -/
namespace Go.Proofs.Ythifdfbdekkmgaa
open Go.Conc Go.ConcN Go.RowKit Go.Conc.Lib Go.ConcR.Gen Go.ConcN.Gen
open Go.ConcR (KK wgBlock WgAt stA smA rd wr mk Payload Aside2 DC0)
set_option linter.unusedVariables false
set_option linter.unusedSectionVars false
section
variable {P : Program} {main : Bool} {b : Frame} {a : Act} {k : List Item} {cs : List Frame} {w : World} {ops : Array Oper} {i : Nat} {rest : List Nat} {o : Oper} {T : TypeId} {v old : Value} {x y : Operand} {ad : Addr}
theorem stepG_scope {c : Code} : stepG P main (G (b.at a (.code (.scope c) :: k)) cs) w = .go (G (b.at a (.code c :: .inScope c :: k)) cs) w := by simp [G, stepG, stepG.exec, Frame.at]
theorem stepG_boxOp {N : Nat} (hN : w.heap.size = N) (ho : ops[i]? = some o) (hw : Region.wanted o (yielded ops a.tmps) = true) (hk : b.kind ≠ .early) (hop : o.op = .box T x) (hx : a.eval x = v) :
    stepG P main (G (b.at a (.inRegion ops (i :: rest) :: k)) cs) w = .go (G (b.at (a.put o.dst (.pointer (some ⟨N, 0, none⟩))) (.inRegion ops rest :: k)) cs) (w.alloc (.cells v.cells T (0, 0))) #[] := by
  subst hN
  have h1 : (execOp a.eval o).run P w = .ok (.value (.pointer (some ⟨w.heap.size, 0, none⟩))) (w.alloc (.cells v.cells T (0, 0))) := by
    unfold execOp
    simp only [hop, hx]
    simp [go_sem]
  have h2 : (execOp a.eval o).events P w #[] = #[] := by
    unfold execOp
    simp only [hop, hx]
    simp [go_sem]
  rw [stepG_value ho hw hk h1]
  unfold listed
  rw [h2, seen_none]
theorem stepG_makeChanOp {n N : Nat} {k' : IntKind} (hN : w.heap.size = N) (ho : ops[i]? = some o) (hw : Region.wanted o (yielded ops a.tmps) = true) (hk : b.kind ≠ .early) (hop : o.op = .makeChan T x) (hx : a.eval x = .int k' n)
    (hr : ∀ w, (Instr.makeChan T (.int k' n)).run P w = .ok (.chan (some w.heap.size)) (w.alloc (.chan n #[] false 0 0 false))) (he : ∀ w es, (Instr.makeChan T (.int k' n)).events P w es = es) :
    stepG P main (G (b.at a (.inRegion ops (i :: rest) :: k)) cs) w = .go (G (b.at (a.put o.dst (.chan (some N))) (.inRegion ops rest :: k)) cs) (w.alloc (.chan n #[] false 0 0 false)) #[] := by
  subst hN
  have h1 : (execOp a.eval o).run P w = .ok (.value (.chan (some w.heap.size))) (w.alloc (.chan n #[] false 0 0 false)) := by
    unfold execOp
    simp only [hop, hx]
    simp [go_sem, hr]
  have h2 : (execOp a.eval o).events P w #[] = #[] := by
    unfold execOp
    simp only [hop, hx]
    simp [go_sem, hr, he]
  rw [stepG_value ho hw hk h1]
  unfold listed
  rw [h2, seen_none]
theorem stepG_allocN {N : Nat} (hN : w.heap.size = N) (ho : ops[i]? = some o) (hw : Region.wanted o (yielded ops a.tmps) = true) (hk : b.kind ≠ .early) (hop : o.op = .alloc T) (hz : ∀ w, (zeroValue T).run P w = .ok v w) :
    stepG P main (G (b.at a (.inRegion ops (i :: rest) :: k)) cs) w = .go (G (b.at (a.put o.dst (.pointer (some ⟨N, 0, none⟩))) (.inRegion ops rest :: k)) cs) (w.alloc (.cells v.cells T (0, 0))) #[] := by
  subst hN
  exact stepG_allocOp ho hw hk hop hz fun w es => events_zeroValue _ w es _
/-- A store of a channel. -/
theorem stepG_storeChan {c : Nat} (ho : ops[i]? = some o) (hw : Region.wanted o (yielded ops a.tmps) = true) (hk : b.kind ≠ .early) (hop : o.op = .store T x y) (hx : a.eval x = .pointer (some ad)) (hy : a.eval y = .chan (some c)) (hc : w.cell? ad = some old) (hf : w.frozen? ad = false) (hsz : ∀ w, (sizeOf T).run P w = .ok 1 w)
    (hq : (P.funcs[b.fn]?).any (·.norace) = false) :
    stepG P main (G (b.at a (.inRegion ops (i :: rest) :: k)) cs) w = .go (G (b.at (a.put o.dst undef) (.inRegion ops rest :: k)) cs) (w.setCell ad (.chan (some c))) #[⟨.cell ad, true, false⟩] := by
  have e1 := fun m => run_store (P := P) w ad (.chan (some c)) m rfl
  have e2 := fun m => events_store (P := P) (w := w) (es := #[]) ad (.chan (some c)) m rfl
  have h1 : (execOp a.eval o).run P w = .ok .skip (w.setCell ad (.chan (some c))) := by
    unfold execOp
    simp only [hop, hx, hy]
    simp [go_sem, hsz, hc, hf, e1, stored]
  have h2 : (execOp a.eval o).events P w #[] = #[⟨.cell ad, true, false⟩] := by
    unfold execOp
    simp only [hop, hx, hy]
    simp [go_sem, hsz, hc, hf, e2, stored]
  rw [stepG_none ho hw hk h1]
  unfold listed
  rw [h2, seen_eq hq (by simp)]
end
theorem rlAt (W : World) {w w1 : World} (h : ∃ d, w = W.at d) (k : Go.Conc.AtRel w w1) : ∃ d, w1 = W.at d := by
  obtain ⟨d, rfl⟩ := h
  obtain ⟨e, rfl⟩ := k
  exact ⟨e, rfl⟩
variable [NoCx Try.prog] [Payload]
noncomputable def scopeC : Code := match sumsBody with | .seq _ (.scope c) => c | _ => .skip
noncomputable def wgOps : Array Oper := match scopeC with | .seq _ (.seq (.region _ ops _) _) => ops | _ => #[]
noncomputable def wgC : Code := match scopeC with | .seq _ (.seq _ c) => c | _ => .skip
/-- About to make its group. -/
def AtWg (rv y : Value) (n : Nat) (Ch Bx Mv : Nat) (cs : List Frame) (g : Goroutine) : Prop :=
  g = G ((base 22).at ⟨#[rv, y, undef, .pointer (some ⟨Bx, 0, none⟩), .slice none 0 0, .pointer (some ⟨Mv, 0, none⟩), undef, undef, undef, undef, undef, rv, .int .i64 n, .chan (some Ch), undef, undef, undef, undef, undef, undef, undef, undef, undef, undef,
    undef, undef, undef, undef, undef, undef, undef, undef, undef, undef, undef, undef, undef, undef, undef, undef], []⟩ [.inRegion wgOps [0], .code wgC, .inScope scopeC]) cs
set_option maxRecDepth 100000 in
set_option maxHeartbeats 4000000 in
theorem sums_pro {Shun : Loc → Prop} {Q : Goroutine → World → Prop} {a : Option Addr} {n capR : Nat} {y : Value} (hn : n ≤ 1000) {cs : List Frame} (W : World)
    (hmk : ∀ w, (Instr.makeChan 63 (.int .i64 n)).run Try.prog w = .ok (.chan (some w.heap.size)) (w.alloc (.chan n #[] false 0 0 false))) (hme : ∀ w es, (Instr.makeChan 63 (.int .i64 n)).events Try.prog w es = es)
    (hnew : ∀ c, W.heap.size ≤ c → Free Shun c)
    (hQ : ∀ g' w', AtWg (.slice a n capR) y n (W.heap.size + 1) W.heap.size (W.heap.size + 2) cs g' → (∃ d, w' = ((((W.alloc (.cells y.cells 23 (0, 0))).alloc (.chan n #[] false 0 0 false)).alloc (.cells (Value.chan none).cells 63 (0, 0))).setCell ⟨W.heap.size + 2, 0, none⟩ (.chan (some (W.heap.size + 1)))).at d) → Q g' w')
    (w : World) (hF : ∃ d, w = W.at d) : To Try.prog Shun Q (G (Frame.enter Try.prog 22 #[.slice a n capR, y] .normal) cs) w := by
  rw [enter_at (P := Try.prog) _ Try.func22 rfl]
  simp only [Try.f22]
  walk_nrm
  refine To.goes 5 _ _ ?_
  u_c stepG_seq (rlAt W) hF
  u_reg (rlAt W) hF
  refine Goes.stop (fun w₁ h₁ => ?_)
  obtain ⟨d0, rfl⟩ := rlAt W hF h₁
  clear h₁ hF
  refine To.makes rfl (fun d => stepG_boxOp (v := y) (N := W.heap.size) rfl rfl rfl (by decide) rfl rfl) (fun d => ?_)
  have hF : ∃ e, ((W.at d0).alloc (.cells y.cells 23 (0, 0))).at d = (W.alloc (.cells y.cells 23 (0, 0))).at e := ⟨d, rfl⟩
  obtain ⟨W1, hW1⟩ : ∃ W1, W.alloc (.cells y.cells 23 (0, 0)) = W1 := ⟨_, rfl⟩
  have z1 : W1.heap.size = W.heap.size + 1 := by rw [← hW1]; show (W.heap.push _).size = _; simp
  rw [hW1] at hF hQ
  generalize ((W.at d0).alloc (.cells y.cells 23 (0, 0))).at d = w₂ at *
  clear d0 d
  walk_nrm
  refine To.goes 20 _ _ ?_
  u_op (rlAt W1) hF
  u_c stepG_region_end (rlAt W1) hF
  u_c stepG_scope (rlAt W1) hF
  u_c stepG_seq (rlAt W1) hF
  u_reg (rlAt W1) hF
  u_op (rlAt W1) hF
  u_op (rlAt W1) hF
  refine Goes.stop (fun w₃ h₃ => ?_)
  obtain ⟨d0, rfl⟩ := rlAt W1 hF h₃
  clear h₃ hF
  refine To.makes rfl (fun d => stepG_makeChanOp (n := n) (N := W.heap.size + 1) z1 rfl rfl (by decide) rfl rfl hmk hme) (fun d => ?_)
  have hF : ∃ e, ((W1.at d0).alloc (.chan n #[] false 0 0 false)).at d = (W1.alloc (.chan n #[] false 0 0 false)).at e := ⟨d, rfl⟩
  obtain ⟨W2, hW2⟩ : ∃ W2, W1.alloc (.chan n #[] false 0 0 false) = W2 := ⟨_, rfl⟩
  have z2 : W2.heap.size = W.heap.size + 2 := by rw [← hW2]; show (W1.heap.push _).size = _; simp [z1]
  rw [hW2] at hF hQ
  generalize ((W1.at d0).alloc (.chan n #[] false 0 0 false)).at d = w₃ at *
  clear d0 d
  walk_nrm
  refine To.goes 2 _ _ ?_
  refine Goes.stop (fun w₃ h₃ => ?_)
  obtain ⟨d0, rfl⟩ := rlAt W2 hF h₃
  clear h₃ hF
  refine To.makes rfl (fun d => stepG_allocN (N := W.heap.size + 2) z2 rfl rfl (by decide) rfl Try.zeroValue63) (fun d => ?_)
  have hF : ∃ e, ((W2.at d0).alloc (.cells (Value.chan none).cells 63 (0, 0))).at d = (W2.alloc (.cells (Value.chan none).cells 63 (0, 0))).at e := ⟨d, rfl⟩
  have hO : One (W.heap.size + 2) (.chan none) (W2.alloc (.cells (Value.chan none).cells 63 (0, 0))) := ⟨_, by rw [alloc_new, if_pos z2.symm]; rfl⟩
  obtain ⟨W3, hW3⟩ : ∃ W3, W2.alloc (.cells (Value.chan none).cells 63 (0, 0)) = W3 := ⟨_, rfl⟩
  have z3 : W3.heap.size = W.heap.size + 3 := by rw [← hW3]; show (W2.heap.push _).size = _; simp [z2]
  rw [hW3] at hF hQ hO
  generalize ((W2.at d0).alloc (.cells (Value.chan none).cells 63 (0, 0))).at d = w₃ at *
  clear d0 d
  walk_nrm
  refine To.goes 2 _ _ ?_
  refine Goes.stop (fun w₃ h₃ => ?_)
  obtain ⟨d0, rfl⟩ := rlAt W3 hF h₃
  clear h₃ hF
  refine To.stores (ad := ⟨W.heap.size + 2, 0, none⟩) (v := .chan (some (W.heap.size + 1))) rfl (show W.heap.size + 2 < W3.heap.size by omega) ((hnew (W.heap.size + 2) (by omega)).1 _ rfl) (fun d => stepG_storeChan (c := W.heap.size + 1) rfl rfl (by decide) rfl rfl rfl hO.cell hO.soft Try.sizeOf63 loud_sums) (fun d => ?_)
  have hF : ∃ e, ((W3.at d0).setCell ⟨W.heap.size + 2, 0, none⟩ (.chan (some (W.heap.size + 1)))).at d = (W3.setCell ⟨W.heap.size + 2, 0, none⟩ (.chan (some (W.heap.size + 1)))).at e := ⟨d, rfl⟩
  obtain ⟨W4, hW4⟩ : ∃ W4, W3.setCell ⟨W.heap.size + 2, 0, none⟩ (.chan (some (W.heap.size + 1))) = W4 := ⟨_, rfl⟩
  have z4 : W4.heap.size = W.heap.size + 3 := by rw [← hW4]; exact (aside_setCell _ _ _).size.trans z3
  rw [hW4] at hF hQ
  generalize ((W3.at d0).setCell ⟨W.heap.size + 2, 0, none⟩ (.chan (some (W.heap.size + 1)))).at d = w₃ at *
  clear d0 d hO
  walk_nrm
  refine To.goes 20 _ _ ?_
  u_c stepG_region_end (rlAt W4) hF
  u_c stepG_seq (rlAt W4) hF
  u_reg (rlAt W4) hF
  refine Goes.stop (fun w₃ h₃ => To.done fun d => hQ _ _ ?_ (rlAt W4 (rlAt W4 hF h₃) ⟨d, rfl⟩))
  simp only [AtWg, wgOps, wgC, scopeC, sumsBody, Try.f22, Option.getD_some]
set_option maxRecDepth 100000 in
set_option maxHeartbeats 4000000 in
theorem sums_pro2 {Shun : Loc → Prop} {Q : Goroutine → World → Prop} {a : Option Addr} {n capR Ch Bx Mv B : Nat} {y : Value} {cs : List Frame} (W4 : World)
    (hQ : ∀ g' w', AtLp (.slice a n capR) y n Ch Bx Mv W4.heap.size (.code restC :: [.inScope scopeC]) cs 0 g' → (∃ d, w' = (W4.alloc (wgBlock lnk.tWg 0 0)).at d) → Q g' w')
    (g : Goroutine) (hA : AtWg (.slice a n capR) y n Ch Bx Mv cs g) (w : World) (hF : ∃ d, w = W4.at d) : ToB Try.prog Shun B Q g w := by
  unfold AtWg at hA
  subst hA
  simp only [wgOps, wgC, scopeC, sumsBody, Try.f22, Option.getD_some]
  obtain ⟨d0, rfl⟩ := hF
  refine ToB.makes rfl (fun d => stepG_allocN (N := W4.heap.size) rfl rfl rfl (by decide) rfl Try.zeroValue73) (fun d => ?_)
  have hF : ∃ e, ((W4.at d0).alloc (wgBlock lnk.tWg 0 0)).at d = (W4.alloc (wgBlock lnk.tWg 0 0)).at e := ⟨d, rfl⟩
  obtain ⟨W5, hW5⟩ : ∃ W5, W4.alloc (wgBlock lnk.tWg 0 0) = W5 := ⟨_, rfl⟩
  rw [hW5] at hF hQ
  show ToB Try.prog Shun B Q _ (((W4.at d0).alloc (wgBlock lnk.tWg 0 0)).at d)
  generalize ((W4.at d0).alloc (wgBlock lnk.tWg 0 0)).at d = w₃ at *
  clear d0 d
  walk_nrm
  refine ToB.goes 20 _ _ ?_
  u_c stepG_region_end (rlAt W5) hF
  u_c stepG_seq (rlAt W5) hF
  u_c stepG_seq (rlAt W5) hF
  u_reg (rlAt W5) hF
  u_op (rlAt W5) hF
  u_op (rlAt W5) hF
  u_op (rlAt W5) hF
  u_c stepG_region_end (rlAt W5) hF
  u_c stepG_block (rlAt W5) hF
  u_c stepG_loop (rlAt W5) hF
  refine Goes.stop (fun w₃ h₃ => ToB.done fun d => hQ _ _ ?_ (rlAt W5 (rlAt W5 hF h₃) ⟨d, rfl⟩))
  simp only [AtLp, lpC, restC, scopeC, sumsBody, Try.f22, Option.getD_some]
  exact ⟨_, _, _, _, _, _, _, _, _, rfl⟩
end Go.Proofs.Ythifdfbdekkmgaa

