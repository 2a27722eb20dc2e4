/- Some answers that the document fixes. -/
import Derived.Test.YtoekaabngjjefaaGreatPart20
namespace Go.Proofs.YtoekaabngjjefaaGreat
open Go.RowKit
set_option linter.unusedVariables false
namespace Al
def A0 : RSt := rack0 2 3
def A1 : RSt := A0.writeS 0 1 ⟨#[97, 98]⟩
def A2 : RSt := A1.spoilS 0 1
def A3 : RSt := A2.writeS 0 1 ⟨#[99]⟩
def A4 : RSt := A3.cutS 1
def A5 : RSt := A4.writeS 1 0 ⟨#[120]⟩
def A6 : RSt := A5.writeS 1 0 ⟨#[121]⟩
def A7 : RSt := A6.liftS
def A8 : RSt := A7.writeS 2 0 ⟨#[]⟩
def A9 : RSt := A8.wipeS 0
end Al
open Al
end Go.Proofs.YtoekaabngjjefaaGreat
