/-
  DERIVED. GIVEN WITH THE SEED: THE CARDS: each row of YtmgamngdmhnffaaGreatDoorRows.lean that lists a variable, with what it lists TIED to the program's text (the seventh form; the later family's looks); each row that meets fmt, with fmt's text TOLD by the authors' own Lean function (tested against real Go, not proved from fmt's source: count such statements apart). THE CARD IS WHAT COUNTS. Prove the row's statement (the work); the ties are given (YtmgamngdmhnffaaGreatDoorTie.lean); close each card by the builder's one call (the guide's Derived/Test/ToyasCard.lean, 'card_holds'). Laid BY PROGRAM, IN A SANDBOX (cutbox-door.mjs). By AI agents, Wed Nov 11 2026. No macro, syntax, notation, axiom, sorry.
-/
import Derived.Test.YtmgamngdmhnffaaGreatDoorRows
import GoSem.ClaimSeven
namespace Go.Proofs.YtmgamngdmhnffaaGreatDoor
namespace Rows

/-- THE TIED CARD OF 'cloaklaw04.TicketCodes'. -/
def ticketCodesCard : Claim7 := { stood := { row := ticketCodesRow, standIns := [], harness := (true, "364e8b3eda95d0f1701612ef70969d76ece0a5ac340a4dab234ff8e22b0c0834"), looks := true }, kinds := [], alts := [], laidByText := true, laidKinds := [.data, .data, .data, .sentinel, .sentinel, .data], laidTests := true, laidLooks := .later }
def TicketCodesCardSaid : Prop := Claim7.holds Tryz.pinned (.plain (OpenSpec.ofChange ticketCodesSpec)) ticketCodesCard

/-- THE SECOND FORM's CARD OF 'cloaklaw04.TicketCodes'. -/
def ticketCodesUptoCard : Claim7 := { stood := { row := ticketCodesUptoRow, standIns := [], harness := (true, "364e8b3eda95d0f1701612ef70969d76ece0a5ac340a4dab234ff8e22b0c0834"), looks := true }, kinds := [], alts := [], laidByText := true, laidKinds := [.data, .data, .data, .sentinel, .sentinel, .data], laidTests := true, laidLooks := .later }
def TicketCodesUptoCardSaid : Prop := Claim7.holds Tryz.pinned (.plain (OpenSpec.upto ticketCodesSpec)) ticketCodesUptoCard
end Rows
end Go.Proofs.YtmgamngdmhnffaaGreatDoor
