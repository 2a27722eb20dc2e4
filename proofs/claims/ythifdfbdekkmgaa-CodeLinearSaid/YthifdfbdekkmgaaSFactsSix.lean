/- More facts of the program with code.sums in one goroutine. -/
import Derived.Test.YthifdfbdekkmgaaPart4
namespace Go.Proofs.Ythifdfbdekkmgaa
set_option linter.unusedVariables false
set_option linter.defProp false
def Seq.ntmps6 := @Try.ntmps6
def Seq.results6 := @Try.results6
def Seq.params6 := @Try.params6
def Seq.nfree6 := @Try.nfree6
theorem Seq.func6 : Seq.prog.funcs[6]? = some Try.f6 := seq_func (by decide) Try.func6 (by kernel_rfl)
@[simp] theorem Seq.call6 (args : Array Value) (w : World) : (callFunc 6 args).run Seq.prog w = .ok (.enter 6 args) w := enters_of Seq.func6 (by kernel_rfl) rfl args w
end Go.Proofs.Ythifdfbdekkmgaa
