/- The facts of the program with what one that was started may do, under the names that its own have. -/
import Derived.Test.YthifdfbdekkmgaaPart22
import Derived.Test.YthifdfbdekkmgaaPart3
import Derived.Shelf.Abstract
set_option linter.unusedVariables false
set_option linter.unusedSimpArgs false
set_option linter.unusedSectionVars false
set_option linter.unnecessarySimpa false
set_option linter.deprecated false
namespace Go.Proofs.Ythifdfbdekkmgaa
set_option linter.unusedVariables false
set_option linter.defProp false
theorem Kid.wi_typeInfo (t : TypeId) (w : World) : (Go.typeInfo t).run Kid.prog w = (Go.typeInfo t).run Try.prog w := wig_typeInfo t w
theorem Kid.wi_sizeOf (t : TypeId) (w : World) : (Go.sizeOf t).run Kid.prog w = (Go.sizeOf t).run Try.prog w := wig_sizeOf t w
theorem Kid.wi_isAgg (t : TypeId) (w : World) : (Go.isAgg t).run Kid.prog w = (Go.isAgg t).run Try.prog w := wig_isAgg t w
theorem Kid.wi_zeroValue (t : TypeId) (w : World) : (Go.zeroValue t).run Kid.prog w = (Go.zeroValue t).run Try.prog w := wig_zeroValue t w
theorem Kid.wi_underlying (t : TypeId) (w : World) : (Go.underlying t).run Kid.prog w = (Go.underlying t).run Try.prog w := wig_underlying t w
theorem Kid.wi_under (t : TypeId) : Kid.prog.underlying t = Try.prog.underlying t := wig_under t
attribute [simp] Kid.wi_typeInfo Kid.wi_sizeOf Kid.wi_isAgg Kid.wi_zeroValue Kid.wi_underlying Kid.wi_under
def Kid.underlying5 := (Kid.wi_under 5).trans Try.underlying5
def Kid.underlying9 := (Kid.wi_under 9).trans Try.underlying9
def Kid.underlying41 := (Kid.wi_under 41).trans Try.underlying41
def Kid.underlying115 := (Kid.wi_under 115).trans Try.underlying115
def Kid.ntmps37 := @Try.ntmps37
def Kid.results37 := @Try.results37
def Kid.params37 := @Try.params37
def Kid.nfree37 := @Try.nfree37
def Kid.ntmps68 := @Try.ntmps68
def Kid.results68 := @Try.results68
def Kid.params68 := @Try.params68
def Kid.nfree68 := @Try.nfree68
def Kid.ntmps69 := @Try.ntmps69
def Kid.results69 := @Try.results69
def Kid.params69 := @Try.params69
def Kid.nfree69 := @Try.nfree69
def Kid.ntmps70 := @Try.ntmps70
def Kid.results70 := @Try.results70
def Kid.params70 := @Try.params70
def Kid.nfree70 := @Try.nfree70
def Kid.ntmps77 := @Try.ntmps77
def Kid.results77 := @Try.results77
def Kid.params77 := @Try.params77
def Kid.nfree77 := @Try.nfree77
def Kid.ntmps78 := @Try.ntmps78
def Kid.results78 := @Try.results78
def Kid.params78 := @Try.params78
def Kid.nfree78 := @Try.nfree78
def Kid.ntmps94 := @Try.ntmps94
def Kid.results94 := @Try.results94
def Kid.params94 := @Try.params94
def Kid.nfree94 := @Try.nfree94
def Kid.ntmps96 := @Try.ntmps96
def Kid.results96 := @Try.results96
def Kid.params96 := @Try.params96
def Kid.nfree96 := @Try.nfree96
def Kid.ntmps102 := @Try.ntmps102
def Kid.results102 := @Try.results102
def Kid.params102 := @Try.params102
def Kid.nfree102 := @Try.nfree102
def Kid.ntmps104 := @Try.ntmps104
def Kid.results104 := @Try.results104
def Kid.params104 := @Try.params104
def Kid.nfree104 := @Try.nfree104
theorem Kid.func37 : Kid.prog.funcs[37]? = some Try.f37 := kid_func Try.func37 (by kernel_rfl)
theorem Kid.func68 : Kid.prog.funcs[68]? = some Try.f68 := kid_func Try.func68 (by kernel_rfl)
theorem Kid.func69 : Kid.prog.funcs[69]? = some Try.f69 := kid_func Try.func69 (by kernel_rfl)
theorem Kid.func70 : Kid.prog.funcs[70]? = some Try.f70 := kid_func Try.func70 (by kernel_rfl)
theorem Kid.func77 : Kid.prog.funcs[77]? = some Try.f77 := kid_func Try.func77 (by kernel_rfl)
theorem Kid.func78 : Kid.prog.funcs[78]? = some Try.f78 := kid_func Try.func78 (by kernel_rfl)
theorem Kid.func94 : Kid.prog.funcs[94]? = some Try.f94 := kid_func Try.func94 (by kernel_rfl)
theorem Kid.func96 : Kid.prog.funcs[96]? = some Try.f96 := kid_func Try.func96 (by kernel_rfl)
theorem Kid.func102 : Kid.prog.funcs[102]? = some Try.f102 := kid_func Try.func102 (by kernel_rfl)
theorem Kid.func104 : Kid.prog.funcs[104]? = some Try.f104 := kid_func Try.func104 (by kernel_rfl)
@[simp] theorem Kid.call37 (args : Array Value) (w : World) : (callFunc 37 args).run Kid.prog w = .ok (.enter 37 args) w := enters_of Kid.func37 (by kernel_rfl) rfl args w
@[simp] theorem Kid.call68 (args : Array Value) (w : World) : (callFunc 68 args).run Kid.prog w = .ok (.enter 68 args) w := enters_of Kid.func68 (by kernel_rfl) rfl args w
@[simp] theorem Kid.call69 (args : Array Value) (w : World) : (callFunc 69 args).run Kid.prog w = .ok (.enter 69 args) w := enters_of Kid.func69 (by kernel_rfl) rfl args w
@[simp] theorem Kid.call70 (args : Array Value) (w : World) : (callFunc 70 args).run Kid.prog w = .ok (.enter 70 args) w := enters_of Kid.func70 (by kernel_rfl) rfl args w
@[simp] theorem Kid.call77 (args : Array Value) (w : World) : (callFunc 77 args).run Kid.prog w = .ok (.enter 77 args) w := enters_of Kid.func77 (by kernel_rfl) rfl args w
@[simp] theorem Kid.call78 (args : Array Value) (w : World) : (callFunc 78 args).run Kid.prog w = .ok (.enter 78 args) w := enters_of Kid.func78 (by kernel_rfl) rfl args w
@[simp] theorem Kid.call94 (args : Array Value) (w : World) : (callFunc 94 args).run Kid.prog w = .ok (.enter 94 args) w := enters_of Kid.func94 (by kernel_rfl) rfl args w
@[simp] theorem Kid.call96 (args : Array Value) (w : World) : (callFunc 96 args).run Kid.prog w = .ok (.enter 96 args) w := enters_of Kid.func96 (by kernel_rfl) rfl args w
@[simp] theorem Kid.call102 (args : Array Value) (w : World) : (callFunc 102 args).run Kid.prog w = .ok (.enter 102 args) w := enters_of Kid.func102 (by kernel_rfl) rfl args w
@[simp] theorem Kid.call104 (args : Array Value) (w : World) : (callFunc 104 args).run Kid.prog w = .ok (.enter 104 args) w := enters_of Kid.func104 (by kernel_rfl) rfl args w
end Go.Proofs.Ythifdfbdekkmgaa
