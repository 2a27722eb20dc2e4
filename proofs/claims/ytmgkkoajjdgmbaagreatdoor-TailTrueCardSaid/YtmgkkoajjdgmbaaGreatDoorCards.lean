/-
  DERIVED. GIVEN WITH THE SEED: THE CARDS: each row of YtmgkkoajjdgmbaaGreatDoorRows.lean that lists a variable, with what it lists TIED to the program's text (the seventh form; the later family's looks); each row that meets fmt, with fmt's text TOLD by the authors' own Lean function (tested against real Go, not proved from fmt's source: count such statements apart). THE CARD IS WHAT COUNTS. Prove the row's statement (the work); the ties are given (YtmgkkoajjdgmbaaGreatDoorTie.lean); close each card by the builder's one call (the guide's Derived/Test/ToyasCard.lean, 'card_holds'). Laid BY PROGRAM, IN A SANDBOX (cutbox-door.mjs). By AI agents, Wed Nov 11 2026. No macro, syntax, notation, axiom, sorry.
-/
import Derived.Test.YtmgkkoajjdgmbaaGreatDoorRows
import GoSem.ClaimSeven
namespace Go.Proofs.YtmgkkoajjdgmbaaGreatDoor
namespace Rows

/-- THE TIED CARD OF 'hoardlaw12.TailKeeps'. -/
def tailKeepsCard : Claim7 := { stood := { row := tailKeepsRow, standIns := [], harness := (true, "1da437ac63dc79729490dfb07acad80aee69f2a39c3c47348768d0090c19a2e4"), looks := false }, kinds := [], alts := [], laidByText := true, laidKinds := [.data, .pinned], laidTests := true, laidLooks := .later }
def TailKeepsCardSaid : Prop := Claim7.holds Tryz.pinned (.plain (OpenSpec.ofChange tailKeepsSpec)) tailKeepsCard

/-- THE TIED CARD OF 'hoardlaw12.TailTurns'. -/
def tailTurnsCard : Claim7 := { stood := { row := tailTurnsRow, standIns := [], harness := (true, "1da437ac63dc79729490dfb07acad80aee69f2a39c3c47348768d0090c19a2e4"), looks := false }, kinds := [], alts := [], laidByText := true, laidKinds := [.data, .pinned], laidTests := true, laidLooks := .later }
def TailTurnsCardSaid : Prop := Claim7.holds Tryz.pinned (.plain (OpenSpec.ofChange tailTurnsSpec)) tailTurnsCard

/-- THE TIED CARD OF 'hoardlaw12.TailNil'. -/
def tailNilCard : Claim7 := { stood := { row := tailNilRow, standIns := [], harness := (true, "1da437ac63dc79729490dfb07acad80aee69f2a39c3c47348768d0090c19a2e4"), looks := false }, kinds := [], alts := [], laidByText := true, laidKinds := [.data, .pinned], laidTests := true, laidLooks := .later }
def TailNilCardSaid : Prop := Claim7.holds Tryz.pinned (.plain (OpenSpec.ofChange tailNilSpec)) tailNilCard

/-- THE TIED CARD OF 'hoardlaw12.TailFull'. -/
def tailFullCard : Claim7 := { stood := { row := tailFullRow, standIns := [], harness := (true, "1da437ac63dc79729490dfb07acad80aee69f2a39c3c47348768d0090c19a2e4"), looks := false }, kinds := [], alts := [], laidByText := true, laidKinds := [.data, .pinned], laidTests := true, laidLooks := .later }
def TailFullCardSaid : Prop := Claim7.holds Tryz.pinned (.plain (OpenSpec.ofChange tailFullSpec)) tailFullCard

/-- THE TIED CARD OF 'hoardlaw12.TailTrue'. -/
def tailTrueCard : Claim7 := { stood := { row := tailTrueRow, standIns := [], harness := (true, "1da437ac63dc79729490dfb07acad80aee69f2a39c3c47348768d0090c19a2e4"), looks := false }, kinds := [], alts := [], laidByText := true, laidKinds := [.data, .pinned], laidTests := true, laidLooks := .later }
def TailTrueCardSaid : Prop := Claim7.holds Tryz.pinned (.plain (OpenSpec.ofChange tailTrueSpec)) tailTrueCard

/-- THE SECOND FORM's CARD OF 'hoardlaw12.TailKeeps'. -/
def tailKeepsUptoCard : Claim7 := { stood := { row := tailKeepsUptoRow, standIns := [], harness := (true, "1da437ac63dc79729490dfb07acad80aee69f2a39c3c47348768d0090c19a2e4"), looks := false }, kinds := [], alts := [], laidByText := true, laidKinds := [.data, .pinned], laidTests := true, laidLooks := .later }
def TailKeepsUptoCardSaid : Prop := Claim7.holds Tryz.pinned (.plain (OpenSpec.upto tailKeepsSpec)) tailKeepsUptoCard

/-- THE SECOND FORM's CARD OF 'hoardlaw12.TailTurns'. -/
def tailTurnsUptoCard : Claim7 := { stood := { row := tailTurnsUptoRow, standIns := [], harness := (true, "1da437ac63dc79729490dfb07acad80aee69f2a39c3c47348768d0090c19a2e4"), looks := false }, kinds := [], alts := [], laidByText := true, laidKinds := [.data, .pinned], laidTests := true, laidLooks := .later }
def TailTurnsUptoCardSaid : Prop := Claim7.holds Tryz.pinned (.plain (OpenSpec.upto tailTurnsSpec)) tailTurnsUptoCard

/-- THE SECOND FORM's CARD OF 'hoardlaw12.TailNil'. -/
def tailNilUptoCard : Claim7 := { stood := { row := tailNilUptoRow, standIns := [], harness := (true, "1da437ac63dc79729490dfb07acad80aee69f2a39c3c47348768d0090c19a2e4"), looks := false }, kinds := [], alts := [], laidByText := true, laidKinds := [.data, .pinned], laidTests := true, laidLooks := .later }
def TailNilUptoCardSaid : Prop := Claim7.holds Tryz.pinned (.plain (OpenSpec.upto tailNilSpec)) tailNilUptoCard

/-- THE SECOND FORM's CARD OF 'hoardlaw12.TailFull'. -/
def tailFullUptoCard : Claim7 := { stood := { row := tailFullUptoRow, standIns := [], harness := (true, "1da437ac63dc79729490dfb07acad80aee69f2a39c3c47348768d0090c19a2e4"), looks := false }, kinds := [], alts := [], laidByText := true, laidKinds := [.data, .pinned], laidTests := true, laidLooks := .later }
def TailFullUptoCardSaid : Prop := Claim7.holds Tryz.pinned (.plain (OpenSpec.upto tailFullSpec)) tailFullUptoCard

/-- THE SECOND FORM's CARD OF 'hoardlaw12.TailTrue'. -/
def tailTrueUptoCard : Claim7 := { stood := { row := tailTrueUptoRow, standIns := [], harness := (true, "1da437ac63dc79729490dfb07acad80aee69f2a39c3c47348768d0090c19a2e4"), looks := false }, kinds := [], alts := [], laidByText := true, laidKinds := [.data, .pinned], laidTests := true, laidLooks := .later }
def TailTrueUptoCardSaid : Prop := Claim7.holds Tryz.pinned (.plain (OpenSpec.upto tailTrueSpec)) tailTrueUptoCard
end Rows
end Go.Proofs.YtmgkkoajjdgmbaaGreatDoor
