/-
  No cell of these rows narrows 'for every input' (looked for: loops, veiled, ifaces, maps, wideKeys, modest, calm, conditions, laid).
  DERIVED. THE GIVEN ROWS OF THIS SEAT. 4 by the template 'for every input the law returns true; each argument reads behind the call as it read before'; 0 by the template 'total and deterministic' (their statements: YtnfehfmmpjbgdaaTotals.lean).
  GIVEN WITH THE SEED: the statements are not yours to turn. If you find one false, say at which input.
  Laid BY PROGRAM, IN A SANDBOX (cutbox-rows.mjs): the forced cells as the released guide's own fill.sh prints them over the translation 9b87c9f8eea8c262… (all of the seat's roots in one cut). By AI agents, Wed Nov 11 2026. No macro, syntax, notation, axiom, sorry.
-/
import Derived.Test.YtnfehfmmpjbgdaaChecked
import GoSem.Claim
import GoSem.ClaimJoined
import GoSem.ClaimMapViews
import Derived.JoinedTies
import Derived.KernelRfl
namespace Go.Proofs.Ytnfehfmmpjbgdaa
/- THE CELL 'sum', in the pinned program and in every row, IS THE sha256 OF THE DUMP (.gsa) THAT YtnfehfmmpjbgdaaProg.lean LOADS. Nothing in Lean hashes anything: it is a label: what it is worth is what the hold of that sum in a sandbox is worth. -/
noncomputable def Try.pinned : Pinned := { name := "ytnfehfmmpjbgdaa", sum := "9b87c9f8eea8c2625c727232ba6dfee4aea041993f0561c7eb6b9ec68b76b8f7", checked := Try.checked }
namespace Rows
def none {H : Type} : Left H := { results := [], args := [] }

/-- 'hoardlaw07.RackPlays': WHATEVER THE INPUT: true; the input reads as it did. -/
def rackPlaysSpec : ChangeSpec := { name := "rackPlays", fn := fun _ => fun
  | [d1, d2, d3] => { results := [.lit (.bool true)], args := [d1, d2, d3] }
  | _ => none }
def rackPlaysRow : OpenClaim := { program := "ytnfehfmmpjbgdaa", sum := "9b87c9f8eea8c2625c727232ba6dfee4aea041993f0561c7eb6b9ec68b76b8f7", func := "hoard/hoardlaw07.RackPlays", spec := "rackPlays", inPlace := ["internal/abi.NoEscape", "internal/bytealg.MakeNoZero"], unfollowed := true, recurses := true, apart := false }
def RackPlaysSaid : Prop := rackPlaysRow.holds Try.pinned (OpenSpec.ofChange rackPlaysSpec)

/-- ITS FALSE NEIGHBOUR: 'it returns false'. Refute it at one input. -/
def rackPlaysWrong : ChangeSpec := { name := "rackPlays", fn := fun _ => fun
  | [d1, d2, d3] => { results := [.lit (.bool false)], args := [d1, d2, d3] }
  | _ => none }
def RackPlaysWrongFalsely : Prop := rackPlaysRow.holds Try.pinned (OpenSpec.ofChange rackPlaysWrong)

/-- 'hoardlaw07.RackCuts': WHATEVER THE INPUT: true; the input reads as it did. -/
def rackCutsSpec : ChangeSpec := { name := "rackCuts", fn := fun _ => fun
  | [d1, d2] => { results := [.lit (.bool true)], args := [d1, d2] }
  | _ => none }
def rackCutsRow : OpenClaim := { program := "ytnfehfmmpjbgdaa", sum := "9b87c9f8eea8c2625c727232ba6dfee4aea041993f0561c7eb6b9ec68b76b8f7", func := "hoard/hoardlaw07.RackCuts", spec := "rackCuts", inPlace := ["internal/abi.NoEscape", "internal/bytealg.MakeNoZero"], unfollowed := true, recurses := true, apart := false }
def RackCutsSaid : Prop := rackCutsRow.holds Try.pinned (OpenSpec.ofChange rackCutsSpec)

/-- ITS FALSE NEIGHBOUR: 'it returns false'. Refute it at one input. -/
def rackCutsWrong : ChangeSpec := { name := "rackCuts", fn := fun _ => fun
  | [d1, d2] => { results := [.lit (.bool false)], args := [d1, d2] }
  | _ => none }
def RackCutsWrongFalsely : Prop := rackCutsRow.holds Try.pinned (OpenSpec.ofChange rackCutsWrong)

/-- 'hoardlaw07.RackLoses': WHATEVER THE INPUT: true; the input reads as it did. -/
def rackLosesSpec : ChangeSpec := { name := "rackLoses", fn := fun _ => fun
  | [d1, d2, d3] => { results := [.lit (.bool true)], args := [d1, d2, d3] }
  | _ => none }
def rackLosesRow : OpenClaim := { program := "ytnfehfmmpjbgdaa", sum := "9b87c9f8eea8c2625c727232ba6dfee4aea041993f0561c7eb6b9ec68b76b8f7", func := "hoard/hoardlaw07.RackLoses", spec := "rackLoses", inPlace := ["internal/abi.NoEscape", "internal/bytealg.MakeNoZero"], unfollowed := true, recurses := true, apart := false }
def RackLosesSaid : Prop := rackLosesRow.holds Try.pinned (OpenSpec.ofChange rackLosesSpec)

/-- ITS FALSE NEIGHBOUR: 'it returns false'. Refute it at one input. -/
def rackLosesWrong : ChangeSpec := { name := "rackLoses", fn := fun _ => fun
  | [d1, d2, d3] => { results := [.lit (.bool false)], args := [d1, d2, d3] }
  | _ => none }
def RackLosesWrongFalsely : Prop := rackLosesRow.holds Try.pinned (OpenSpec.ofChange rackLosesWrong)

/-- 'hoardlaw07.RackNil': WHATEVER THE INPUT: true; the input reads as it did. -/
def rackNilSpec : ChangeSpec := { name := "rackNil", fn := fun _ => fun
  | [d1, d2, d3] => { results := [.lit (.bool true)], args := [d1, d2, d3] }
  | _ => none }
def rackNilRow : OpenClaim := { program := "ytnfehfmmpjbgdaa", sum := "9b87c9f8eea8c2625c727232ba6dfee4aea041993f0561c7eb6b9ec68b76b8f7", func := "hoard/hoardlaw07.RackNil", spec := "rackNil", inPlace := ["internal/abi.NoEscape", "internal/bytealg.MakeNoZero"], unfollowed := true, recurses := true, apart := false }
def RackNilSaid : Prop := rackNilRow.holds Try.pinned (OpenSpec.ofChange rackNilSpec)

/-- ITS FALSE NEIGHBOUR: 'it returns false'. Refute it at one input. -/
def rackNilWrong : ChangeSpec := { name := "rackNil", fn := fun _ => fun
  | [d1, d2, d3] => { results := [.lit (.bool false)], args := [d1, d2, d3] }
  | _ => none }
def RackNilWrongFalsely : Prop := rackNilRow.holds Try.pinned (OpenSpec.ofChange rackNilWrong)

/- THE SECOND FORM. 'bulk': how many values and letters a reading holds, each counted each time it is reached (what is shared counts as often as it is met; a slice's spare places count too). A statement '..UptoSaid' is the law's where the arguments, and the package variables that the reading takes, are together of bulk at most 1048576: NARROWER than '..Said'. Prove '..Said' where nothing that the law and all that it calls make is longer than what came in: it says more and counts as full. Else prove '..UptoSaid'. A law counts once. -/
mutual
def uptoBulk {H : Type} : DataW H → Nat
  | .lit (.string bytes) => bytes.length + 1
  | .lit _ => 1
  | .nil => 1
  | .ptr d => uptoBulk d + 1
  | .slice elems spare => uptoBulkAll elems + uptoBulkAll spare + 1
  | .agg parts => uptoBulkAll parts + 1
  | .iface _ d => uptoBulk d + 1
  | .map entries => uptoBulkEntries entries + 1
  | .held _ => 1
def uptoBulkAll {H : Type} : List (DataW H) → Nat
  | [] => 0
  | d :: r => uptoBulk d + uptoBulkAll r
def uptoBulkEntries {H : Type} : List (Lit × DataW H) → Nat
  | [] => 0
  | x :: r => uptoBulkEntry x + uptoBulkEntries r
def uptoBulkEntry {H : Type} : Lit × DataW H → Nat
  | (.string bytes, d) => bytes.length + uptoBulk d + 1
  | (_, d) => uptoBulk d + 1
 end
def uptoSmall : (H : Type) → List (DataW H) → Bool := fun _ ds => decide (uptoBulkAll ds ≤ 1048576)
def OpenSpec.upto (s : _root_.Go.ChangeSpec) : _root_.Go.OpenSpec := { _root_.Go.OpenSpec.ofChange s with cond := some uptoSmall }

/-- 'hoardlaw07.RackPlays', WHERE WHAT IT READS IS OF BULK AT MOST 1048576: true; the input reads as it did. -/
def rackPlaysUptoRow : OpenClaim := { program := "ytnfehfmmpjbgdaa", sum := "9b87c9f8eea8c2625c727232ba6dfee4aea041993f0561c7eb6b9ec68b76b8f7", func := "hoard/hoardlaw07.RackPlays", spec := "rackPlays", inPlace := ["internal/abi.NoEscape", "internal/bytealg.MakeNoZero"], unfollowed := true, recurses := true, apart := false, narrowed := true }
def RackPlaysUptoSaid : Prop := rackPlaysUptoRow.holds Try.pinned (OpenSpec.upto rackPlaysSpec)

/-- 'hoardlaw07.RackCuts', WHERE WHAT IT READS IS OF BULK AT MOST 1048576: true; the input reads as it did. -/
def rackCutsUptoRow : OpenClaim := { program := "ytnfehfmmpjbgdaa", sum := "9b87c9f8eea8c2625c727232ba6dfee4aea041993f0561c7eb6b9ec68b76b8f7", func := "hoard/hoardlaw07.RackCuts", spec := "rackCuts", inPlace := ["internal/abi.NoEscape", "internal/bytealg.MakeNoZero"], unfollowed := true, recurses := true, apart := false, narrowed := true }
def RackCutsUptoSaid : Prop := rackCutsUptoRow.holds Try.pinned (OpenSpec.upto rackCutsSpec)

/-- 'hoardlaw07.RackLoses', WHERE WHAT IT READS IS OF BULK AT MOST 1048576: true; the input reads as it did. -/
def rackLosesUptoRow : OpenClaim := { program := "ytnfehfmmpjbgdaa", sum := "9b87c9f8eea8c2625c727232ba6dfee4aea041993f0561c7eb6b9ec68b76b8f7", func := "hoard/hoardlaw07.RackLoses", spec := "rackLoses", inPlace := ["internal/abi.NoEscape", "internal/bytealg.MakeNoZero"], unfollowed := true, recurses := true, apart := false, narrowed := true }
def RackLosesUptoSaid : Prop := rackLosesUptoRow.holds Try.pinned (OpenSpec.upto rackLosesSpec)

/-- 'hoardlaw07.RackNil', WHERE WHAT IT READS IS OF BULK AT MOST 1048576: true; the input reads as it did. -/
def rackNilUptoRow : OpenClaim := { program := "ytnfehfmmpjbgdaa", sum := "9b87c9f8eea8c2625c727232ba6dfee4aea041993f0561c7eb6b9ec68b76b8f7", func := "hoard/hoardlaw07.RackNil", spec := "rackNil", inPlace := ["internal/abi.NoEscape", "internal/bytealg.MakeNoZero"], unfollowed := true, recurses := true, apart := false, narrowed := true }
def RackNilUptoSaid : Prop := rackNilUptoRow.holds Try.pinned (OpenSpec.upto rackNilSpec)

end Rows
end Go.Proofs.Ytnfehfmmpjbgdaa
