/- strings.HasPrefix: the library's contract on it, laid at this program. -/
import Derived.Shelf.Strings.Prefix
import Derived.Test.YtccpbgkaeldlaaaKept
namespace Go.Proofs.Ytccpbgkaeldlaaa
open Go.Shelf Go.RowKit Go.Lib
def prefixRen : Go.Shelf.Ren := ⟨fun | 99 => 53 | 206 => 57 | n => n, fun | 9 => 9 | 4 => 4 | 3 => 3 | n => n, fun | n => n⟩
theorem prefixLays : Go.Proofs.Lays.n99 Try.prog prefixRen := {
  mixed := by kernel_rfl
  f99 := Try.func53.trans (congrArg some (by kernel_rfl))
  f206 := Try.func57.trans (congrArg some (by kernel_rfl))
  t3 := Try.underlying3
  a3 := Try.isAgg3
  z3 := Try.sizeOf3
  v3 := Try.zeroValue3
  t4 := Try.underlying4
  a4 := Try.isAgg4
  z4 := Try.sizeOf4
  v4 := Try.zeroValue4
  t9 := Try.underlying9
  a9 := Try.isAgg9
  z9 := Try.sizeOf9
  v9 := Try.zeroValue9 }
theorem prefix_any (s p : ByteArray) (w : World) :
    Calls Try.prog 53 #[.string s, .string p] w fun e w' => e = .returned (.bool (p.data.toList.isPrefixOf s.data.toList)) ∧ w' = w := Any.strings_HasPrefix prefixLays s p w
end Go.Proofs.Ytccpbgkaeldlaaa
