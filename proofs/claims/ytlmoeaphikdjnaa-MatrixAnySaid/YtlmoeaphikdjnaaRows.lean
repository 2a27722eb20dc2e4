/-
  No cell of these rows narrows 'for every input' (looked for: loops, veiled, ifaces, maps, wideKeys, modest, calm, conditions, laid).
  DERIVED. THE GIVEN ROWS OF THIS SEAT. 5 by the template 'for every input the law returns true; each argument reads behind the call as it read before'; 0 by the template 'total and deterministic' (their statements: YtlmoeaphikdjnaaTotals.lean).
  GIVEN WITH THE SEED: the statements are not yours to turn. If you find one false, say at which input.
  Laid BY PROGRAM, IN A SANDBOX (cutbox-rows.mjs): the forced cells as the released guide's own fill.sh prints them over the translation ecc541934a52c593… (all of the seat's roots in one cut). By AI agents, Wed Nov 11 2026. No macro, syntax, notation, axiom, sorry.
-/
import Derived.Test.YtlmoeaphikdjnaaChecked
import GoSem.Claim
import GoSem.ClaimJoined
import GoSem.ClaimMapViews
import Derived.JoinedTies
import Derived.KernelRfl
namespace Go.Proofs.Ytlmoeaphikdjnaa
/- THE CELL 'sum', in the pinned program and in every row, IS THE sha256 OF THE DUMP (.gsa) THAT YtlmoeaphikdjnaaProg.lean LOADS. Nothing in Lean hashes anything: it is a label: what it is worth is what the hold of that sum in a sandbox is worth. -/
noncomputable def Try.pinned : Pinned := { name := "ytlmoeaphikdjnaa", sum := "ecc541934a52c5932b08e99fabb0a3cd469c0f131be0ec3885a8e4c06c6a9154", checked := Try.checked }
namespace Rows
def none {H : Type} : Left H := { results := [], args := [] }

/-- 'hoardlaw05.MatrixTells': WHATEVER THE INPUT: true; the input reads as it did. -/
def matrixTellsSpec : ChangeSpec := { name := "matrixTells", fn := fun _ => fun
  | [d1, d2, d3] => { results := [.lit (.bool true)], args := [d1, d2, d3] }
  | _ => none }
def matrixTellsRow : OpenClaim := { program := "ytlmoeaphikdjnaa", sum := "ecc541934a52c5932b08e99fabb0a3cd469c0f131be0ec3885a8e4c06c6a9154", func := "hoard/hoardlaw05.MatrixTells", spec := "matrixTells", apart := false }
def MatrixTellsSaid : Prop := matrixTellsRow.holds Try.pinned (OpenSpec.ofChange matrixTellsSpec)

/-- ITS FALSE NEIGHBOUR: 'it returns false'. Refute it at one input. -/
def matrixTellsWrong : ChangeSpec := { name := "matrixTells", fn := fun _ => fun
  | [d1, d2, d3] => { results := [.lit (.bool false)], args := [d1, d2, d3] }
  | _ => none }
def MatrixTellsWrongFalsely : Prop := matrixTellsRow.holds Try.pinned (OpenSpec.ofChange matrixTellsWrong)

/-- 'hoardlaw05.MatrixRows': WHATEVER THE INPUT: true; the input reads as it did. -/
def matrixRowsSpec : ChangeSpec := { name := "matrixRows", fn := fun _ => fun
  | [d1, d2, d3, d4, d5] => { results := [.lit (.bool true)], args := [d1, d2, d3, d4, d5] }
  | _ => none }
def matrixRowsRow : OpenClaim := { program := "ytlmoeaphikdjnaa", sum := "ecc541934a52c5932b08e99fabb0a3cd469c0f131be0ec3885a8e4c06c6a9154", func := "hoard/hoardlaw05.MatrixRows", spec := "matrixRows", apart := false }
def MatrixRowsSaid : Prop := matrixRowsRow.holds Try.pinned (OpenSpec.ofChange matrixRowsSpec)

/-- ITS FALSE NEIGHBOUR: 'it returns false'. Refute it at one input. -/
def matrixRowsWrong : ChangeSpec := { name := "matrixRows", fn := fun _ => fun
  | [d1, d2, d3, d4, d5] => { results := [.lit (.bool false)], args := [d1, d2, d3, d4, d5] }
  | _ => none }
def MatrixRowsWrongFalsely : Prop := matrixRowsRow.holds Try.pinned (OpenSpec.ofChange matrixRowsWrong)

/-- 'hoardlaw05.MatrixUndoes': WHATEVER THE INPUT: true; the input reads as it did. -/
def matrixUndoesSpec : ChangeSpec := { name := "matrixUndoes", fn := fun _ => fun
  | [d1, d2, d3] => { results := [.lit (.bool true)], args := [d1, d2, d3] }
  | _ => none }
def matrixUndoesRow : OpenClaim := { program := "ytlmoeaphikdjnaa", sum := "ecc541934a52c5932b08e99fabb0a3cd469c0f131be0ec3885a8e4c06c6a9154", func := "hoard/hoardlaw05.MatrixUndoes", spec := "matrixUndoes", apart := false }
def MatrixUndoesSaid : Prop := matrixUndoesRow.holds Try.pinned (OpenSpec.ofChange matrixUndoesSpec)

/-- ITS FALSE NEIGHBOUR: 'it returns false'. Refute it at one input. -/
def matrixUndoesWrong : ChangeSpec := { name := "matrixUndoes", fn := fun _ => fun
  | [d1, d2, d3] => { results := [.lit (.bool false)], args := [d1, d2, d3] }
  | _ => none }
def MatrixUndoesWrongFalsely : Prop := matrixUndoesRow.holds Try.pinned (OpenSpec.ofChange matrixUndoesWrong)

/-- 'hoardlaw05.MatrixAny': WHATEVER THE INPUT: true; the input reads as it did. -/
def matrixAnySpec : ChangeSpec := { name := "matrixAny", fn := fun _ => fun
  | [d1, d2, d3] => { results := [.lit (.bool true)], args := [d1, d2, d3] }
  | _ => none }
def matrixAnyRow : OpenClaim := { program := "ytlmoeaphikdjnaa", sum := "ecc541934a52c5932b08e99fabb0a3cd469c0f131be0ec3885a8e4c06c6a9154", func := "hoard/hoardlaw05.MatrixAny", spec := "matrixAny", apart := false }
def MatrixAnySaid : Prop := matrixAnyRow.holds Try.pinned (OpenSpec.ofChange matrixAnySpec)

/-- ITS FALSE NEIGHBOUR: 'it returns false'. Refute it at one input. -/
def matrixAnyWrong : ChangeSpec := { name := "matrixAny", fn := fun _ => fun
  | [d1, d2, d3] => { results := [.lit (.bool false)], args := [d1, d2, d3] }
  | _ => none }
def MatrixAnyWrongFalsely : Prop := matrixAnyRow.holds Try.pinned (OpenSpec.ofChange matrixAnyWrong)

/-- 'hoardlaw05.MatrixUnits': WHATEVER THE INPUT: true; the input reads as it did. -/
def matrixUnitsSpec : ChangeSpec := { name := "matrixUnits", fn := fun _ => fun
  | [d1, d2, d3] => { results := [.lit (.bool true)], args := [d1, d2, d3] }
  | _ => none }
def matrixUnitsRow : OpenClaim := { program := "ytlmoeaphikdjnaa", sum := "ecc541934a52c5932b08e99fabb0a3cd469c0f131be0ec3885a8e4c06c6a9154", func := "hoard/hoardlaw05.MatrixUnits", spec := "matrixUnits", apart := false }
def MatrixUnitsSaid : Prop := matrixUnitsRow.holds Try.pinned (OpenSpec.ofChange matrixUnitsSpec)

/-- ITS FALSE NEIGHBOUR: 'it returns false'. Refute it at one input. -/
def matrixUnitsWrong : ChangeSpec := { name := "matrixUnits", fn := fun _ => fun
  | [d1, d2, d3] => { results := [.lit (.bool false)], args := [d1, d2, d3] }
  | _ => none }
def MatrixUnitsWrongFalsely : Prop := matrixUnitsRow.holds Try.pinned (OpenSpec.ofChange matrixUnitsWrong)

/- THE SECOND FORM. 'bulk': how many values and letters a reading holds, each counted each time it is reached (what is shared counts as often as it is met; a slice's spare places count too). A statement '..UptoSaid' is the law's where the arguments, and the package variables that the reading takes, are together of bulk at most 1048576: NARROWER than '..Said'. Prove '..Said' where nothing that the law and all that it calls make is longer than what came in: it says more and counts as full. Else prove '..UptoSaid'. A law counts once. -/
mutual
def uptoBulk {H : Type} : DataW H → Nat
  | .lit (.string bytes) => bytes.length + 1
  | .lit _ => 1
  | .nil => 1
  | .ptr d => uptoBulk d + 1
  | .slice elems spare => uptoBulkAll elems + uptoBulkAll spare + 1
  | .agg parts => uptoBulkAll parts + 1
  | .iface _ d => uptoBulk d + 1
  | .map entries => uptoBulkEntries entries + 1
  | .held _ => 1
def uptoBulkAll {H : Type} : List (DataW H) → Nat
  | [] => 0
  | d :: r => uptoBulk d + uptoBulkAll r
def uptoBulkEntries {H : Type} : List (Lit × DataW H) → Nat
  | [] => 0
  | x :: r => uptoBulkEntry x + uptoBulkEntries r
def uptoBulkEntry {H : Type} : Lit × DataW H → Nat
  | (.string bytes, d) => bytes.length + uptoBulk d + 1
  | (_, d) => uptoBulk d + 1
 end
def uptoSmall : (H : Type) → List (DataW H) → Bool := fun _ ds => decide (uptoBulkAll ds ≤ 1048576)
def OpenSpec.upto (s : _root_.Go.ChangeSpec) : _root_.Go.OpenSpec := { _root_.Go.OpenSpec.ofChange s with cond := some uptoSmall }

/-- 'hoardlaw05.MatrixTells', WHERE WHAT IT READS IS OF BULK AT MOST 1048576: true; the input reads as it did. -/
def matrixTellsUptoRow : OpenClaim := { program := "ytlmoeaphikdjnaa", sum := "ecc541934a52c5932b08e99fabb0a3cd469c0f131be0ec3885a8e4c06c6a9154", func := "hoard/hoardlaw05.MatrixTells", spec := "matrixTells", apart := false, narrowed := true }
def MatrixTellsUptoSaid : Prop := matrixTellsUptoRow.holds Try.pinned (OpenSpec.upto matrixTellsSpec)

/-- 'hoardlaw05.MatrixRows', WHERE WHAT IT READS IS OF BULK AT MOST 1048576: true; the input reads as it did. -/
def matrixRowsUptoRow : OpenClaim := { program := "ytlmoeaphikdjnaa", sum := "ecc541934a52c5932b08e99fabb0a3cd469c0f131be0ec3885a8e4c06c6a9154", func := "hoard/hoardlaw05.MatrixRows", spec := "matrixRows", apart := false, narrowed := true }
def MatrixRowsUptoSaid : Prop := matrixRowsUptoRow.holds Try.pinned (OpenSpec.upto matrixRowsSpec)

/-- 'hoardlaw05.MatrixUndoes', WHERE WHAT IT READS IS OF BULK AT MOST 1048576: true; the input reads as it did. -/
def matrixUndoesUptoRow : OpenClaim := { program := "ytlmoeaphikdjnaa", sum := "ecc541934a52c5932b08e99fabb0a3cd469c0f131be0ec3885a8e4c06c6a9154", func := "hoard/hoardlaw05.MatrixUndoes", spec := "matrixUndoes", apart := false, narrowed := true }
def MatrixUndoesUptoSaid : Prop := matrixUndoesUptoRow.holds Try.pinned (OpenSpec.upto matrixUndoesSpec)

/-- 'hoardlaw05.MatrixAny', WHERE WHAT IT READS IS OF BULK AT MOST 1048576: true; the input reads as it did. -/
def matrixAnyUptoRow : OpenClaim := { program := "ytlmoeaphikdjnaa", sum := "ecc541934a52c5932b08e99fabb0a3cd469c0f131be0ec3885a8e4c06c6a9154", func := "hoard/hoardlaw05.MatrixAny", spec := "matrixAny", apart := false, narrowed := true }
def MatrixAnyUptoSaid : Prop := matrixAnyUptoRow.holds Try.pinned (OpenSpec.upto matrixAnySpec)

/-- 'hoardlaw05.MatrixUnits', WHERE WHAT IT READS IS OF BULK AT MOST 1048576: true; the input reads as it did. -/
def matrixUnitsUptoRow : OpenClaim := { program := "ytlmoeaphikdjnaa", sum := "ecc541934a52c5932b08e99fabb0a3cd469c0f131be0ec3885a8e4c06c6a9154", func := "hoard/hoardlaw05.MatrixUnits", spec := "matrixUnits", apart := false, narrowed := true }
def MatrixUnitsUptoSaid : Prop := matrixUnitsUptoRow.holds Try.pinned (OpenSpec.upto matrixUnitsSpec)

end Rows
end Go.Proofs.Ytlmoeaphikdjnaa
