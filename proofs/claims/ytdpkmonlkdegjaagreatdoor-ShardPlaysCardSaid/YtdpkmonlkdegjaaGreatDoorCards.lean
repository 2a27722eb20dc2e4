/-
  DERIVED. GIVEN WITH THE SEED: THE CARDS: each row of YtdpkmonlkdegjaaGreatDoorRows.lean that lists a variable, with what it lists TIED to the program's text (the seventh form; the later family's looks); each row that meets fmt, with fmt's text TOLD by the authors' own Lean function (tested against real Go, not proved from fmt's source: count such statements apart). THE CARD IS WHAT COUNTS. Prove the row's statement (the work); the ties are given (YtdpkmonlkdegjaaGreatDoorTie.lean); close each card by the builder's one call (the guide's Derived/Test/ToyasCard.lean, 'card_holds'). Laid BY PROGRAM, IN A SANDBOX (cutbox-door.mjs). By AI agents, Wed Nov 11 2026. No macro, syntax, notation, axiom, sorry.
-/
import Derived.Test.YtdpkmonlkdegjaaGreatDoorRows
import GoSem.ClaimSeven
namespace Go.Proofs.YtdpkmonlkdegjaaGreatDoor
namespace Rows

/-- THE TIED CARD OF 'hoardlaw08.ShardPlays'. -/
def shardPlaysCard : Claim7 := { stood := { row := shardPlaysRow, standIns := [], harness := (true, "32aee0619bc2f20ea4c92491911ad14611d5097715bcedee59cf3b943638dcbe"), looks := false }, kinds := [], alts := [], laidByText := true, laidKinds := [.data, .pinned], laidTests := true, laidLooks := .later }
def ShardPlaysCardSaid : Prop := Claim7.holds Tryz.pinned (.plain (OpenSpec.ofChange shardPlaysSpec)) shardPlaysCard

/-- THE TIED CARD OF 'hoardlaw08.ShardCut'. -/
def shardCutCard : Claim7 := { stood := { row := shardCutRow, standIns := [], harness := (true, "32aee0619bc2f20ea4c92491911ad14611d5097715bcedee59cf3b943638dcbe"), looks := false }, kinds := [], alts := [], laidByText := true, laidKinds := [.data, .pinned], laidTests := true, laidLooks := .later }
def ShardCutCardSaid : Prop := Claim7.holds Tryz.pinned (.plain (OpenSpec.ofChange shardCutSpec)) shardCutCard

/-- THE TIED CARD OF 'hoardlaw08.ShardApart'. -/
def shardApartCard : Claim7 := { stood := { row := shardApartRow, standIns := [], harness := (true, "32aee0619bc2f20ea4c92491911ad14611d5097715bcedee59cf3b943638dcbe"), looks := false }, kinds := [], alts := [], laidByText := true, laidKinds := [.data, .pinned], laidTests := true, laidLooks := .later }
def ShardApartCardSaid : Prop := Claim7.holds Tryz.pinned (.plain (OpenSpec.ofChange shardApartSpec)) shardApartCard

/-- THE SECOND FORM's CARD OF 'hoardlaw08.ShardPlays'. -/
def shardPlaysUptoCard : Claim7 := { stood := { row := shardPlaysUptoRow, standIns := [], harness := (true, "32aee0619bc2f20ea4c92491911ad14611d5097715bcedee59cf3b943638dcbe"), looks := false }, kinds := [], alts := [], laidByText := true, laidKinds := [.data, .pinned], laidTests := true, laidLooks := .later }
def ShardPlaysUptoCardSaid : Prop := Claim7.holds Tryz.pinned (.plain (OpenSpec.upto shardPlaysSpec)) shardPlaysUptoCard

/-- THE SECOND FORM's CARD OF 'hoardlaw08.ShardCut'. -/
def shardCutUptoCard : Claim7 := { stood := { row := shardCutUptoRow, standIns := [], harness := (true, "32aee0619bc2f20ea4c92491911ad14611d5097715bcedee59cf3b943638dcbe"), looks := false }, kinds := [], alts := [], laidByText := true, laidKinds := [.data, .pinned], laidTests := true, laidLooks := .later }
def ShardCutUptoCardSaid : Prop := Claim7.holds Tryz.pinned (.plain (OpenSpec.upto shardCutSpec)) shardCutUptoCard

/-- THE SECOND FORM's CARD OF 'hoardlaw08.ShardApart'. -/
def shardApartUptoCard : Claim7 := { stood := { row := shardApartUptoRow, standIns := [], harness := (true, "32aee0619bc2f20ea4c92491911ad14611d5097715bcedee59cf3b943638dcbe"), looks := false }, kinds := [], alts := [], laidByText := true, laidKinds := [.data, .pinned], laidTests := true, laidLooks := .later }
def ShardApartUptoCardSaid : Prop := Claim7.holds Tryz.pinned (.plain (OpenSpec.upto shardApartSpec)) shardApartUptoCard
end Rows
end Go.Proofs.YtdpkmonlkdegjaaGreatDoor
