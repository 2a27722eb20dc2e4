/-
  DERIVED. GIVEN WITH THE SEED: THE CARDS: each row of YtdpkmonlkdegjaaDoorRows.lean that lists a variable, with what it lists TIED to the program's text (the seventh form; the later family's looks); each row that meets fmt, with fmt's text TOLD by the authors' own Lean function (tested against real Go, not proved from fmt's source: count such statements apart). THE CARD IS WHAT COUNTS. Prove the row's statement (the work); the ties are given (YtdpkmonlkdegjaaDoorTie.lean); close each card by the builder's one call (the guide's Derived/Test/ToyasCard.lean, 'card_holds'). Laid BY PROGRAM, IN A SANDBOX (cutbox-door.mjs). By AI agents, Wed Nov 11 2026. No macro, syntax, notation, axiom, sorry.
-/
import Derived.Test.YtdpkmonlkdegjaaDoorRows
import GoSem.ClaimSeven
namespace Go.Proofs.YtdpkmonlkdegjaaDoor
namespace Rows

/-- THE TIED CARD OF 'hoardlaw08.ShardSpoilt'. -/
def shardSpoiltCard : Claim7 := { stood := { row := shardSpoiltRow, standIns := [], harness := (true, "45b03f18576f8917b91f70918c45ce4d4d379c8236c284e616d99fdd81b3373e"), looks := false }, kinds := [], alts := [], laidByText := true, laidKinds := [.data, .pinned], laidTests := true, laidLooks := .later }
def ShardSpoiltCardSaid : Prop := Claim7.holds Tryd.pinned (.plain (OpenSpec.ofChange shardSpoiltSpec)) shardSpoiltCard

/-- THE TIED CARD OF 'hoardlaw08.ShardNil'. -/
def shardNilCard : Claim7 := { stood := { row := shardNilRow, standIns := [], harness := (true, "45b03f18576f8917b91f70918c45ce4d4d379c8236c284e616d99fdd81b3373e"), looks := false }, kinds := [], alts := [], laidByText := true, laidKinds := [.data, .pinned], laidTests := true, laidLooks := .later }
def ShardNilCardSaid : Prop := Claim7.holds Tryd.pinned (.plain (OpenSpec.ofChange shardNilSpec)) shardNilCard

/-- THE SECOND FORM's CARD OF 'hoardlaw08.ShardSpoilt'. -/
def shardSpoiltUptoCard : Claim7 := { stood := { row := shardSpoiltUptoRow, standIns := [], harness := (true, "45b03f18576f8917b91f70918c45ce4d4d379c8236c284e616d99fdd81b3373e"), looks := false }, kinds := [], alts := [], laidByText := true, laidKinds := [.data, .pinned], laidTests := true, laidLooks := .later }
def ShardSpoiltUptoCardSaid : Prop := Claim7.holds Tryd.pinned (.plain (OpenSpec.upto shardSpoiltSpec)) shardSpoiltUptoCard

/-- THE SECOND FORM's CARD OF 'hoardlaw08.ShardNil'. -/
def shardNilUptoCard : Claim7 := { stood := { row := shardNilUptoRow, standIns := [], harness := (true, "45b03f18576f8917b91f70918c45ce4d4d379c8236c284e616d99fdd81b3373e"), looks := false }, kinds := [], alts := [], laidByText := true, laidKinds := [.data, .pinned], laidTests := true, laidLooks := .later }
def ShardNilUptoCardSaid : Prop := Claim7.holds Tryd.pinned (.plain (OpenSpec.upto shardNilSpec)) shardNilUptoCard
end Rows
end Go.Proofs.YtdpkmonlkdegjaaDoor
