/- A law whose arguments name no memory, over the program whose code.sums starts goroutines: what it answers over the program with the stub it answers on every schedule. -/
import Derived.Test.YthifdfbdekkmgaaPart32
import Derived.Test.YthifdfbdekkmgaaPart33
set_option linter.unusedVariables false
set_option linter.unusedSimpArgs false
set_option linter.unusedSectionVars false
set_option linter.unnecessarySimpa false
set_option linter.deprecated false
namespace Go.Proofs.Ythifdfbdekkmgaa
open Go.Conc Go.ConcR
set_option linter.unusedVariables false
set_option linter.unusedSectionVars false
theorem law_good {f : FuncId} {fn : Func} {c : Code} {t : Tmp} {args : Array Value} {W : World}
    (hi : Try.prog.inits.idxOf? f = none) (hsp : seqSp Try.prog 22 f = false) (hf : (seqF Try.prog 22 Seq.stub)[f]? = some fn) (hc : fn.body = some c) (hres : fn.results = #[.tmp t]) (hflat : args.all flatV = true) (hg : Try.prog.globals.size ≤ W.heap.size)
    (h : ∀ W : World, Calls Seq.prog f args W fun e w' => e = .returned (.bool true)) :
    ∃ M last o w' t', runNT Try.prog (M + 1) (solo (G (Frame.enter Try.prog f args .normal) []) W) #[] = (.ended o w', t') ∧ runN Try.prog M (solo (G (Frame.enter Try.prog f args .normal) []) W) = .next last ∧
      step Try.prog last = .ended o w' ∧ Go.Conc.Good Try.prog (fun v w' => v = .bool true ∧ Go.RowKit.Below W.heap.size W w') last o w' t' := by
  letI : Payload := ⟨0⟩
  exact good_lone Seq.zs Seq.is hi hsp hf hc hres hflat hg h (phase_sums Seq.zs fun a l u hl hsz hr hw => lone_at (OutOf.halts _ _) a l u hl hsz hr hw)
#print axioms law_good
end Go.Proofs.Ythifdfbdekkmgaa
