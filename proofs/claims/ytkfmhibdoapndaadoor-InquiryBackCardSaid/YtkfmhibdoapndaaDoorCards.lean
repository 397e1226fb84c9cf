/-
  DERIVED. GIVEN WITH THE SEED: THE CARDS: each row of YtkfmhibdoapndaaDoorRows.lean that lists a variable, with what it lists TIED to the program's text (the seventh form; the later family's looks); each row that meets fmt, with fmt's text TOLD by the authors' own Lean function (tested against real Go, not proved from fmt's source: count such statements apart). THE CARD IS WHAT COUNTS. Prove the row's statement (the work); the ties are given (YtkfmhibdoapndaaDoorTie.lean); close each card by the builder's one call (the guide's Derived/Test/ToyasCard.lean, 'card_holds'). Laid BY PROGRAM, IN A SANDBOX (cutbox-door.mjs). By AI agents, Wed Nov 11 2026. No macro, syntax, notation, axiom, sorry.
-/
import Derived.Test.YtkfmhibdoapndaaDoorRows
import GoSem.ClaimSeven
namespace Go.Proofs.YtkfmhibdoapndaaDoor
namespace Rows

/-- THE TIED CARD OF 'cloaklaw10.InquirySeats'. -/
def inquirySeatsCard : Claim7 := { stood := { row := inquirySeatsRow, standIns := [], harness := (true, "8a8362dc0c058d6cdff58f9c1c9999a7fe976d5dff3256588edac7cf1e50bfff"), looks := true }, kinds := [], alts := [], laidByText := true, laidKinds := [.data, .data, .data, .sentinel, .sentinel], laidTests := true, laidLooks := .later }
def InquirySeatsCardSaid : Prop := Claim7.holds Tryd.pinned (.plain (OpenSpec.ofChange inquirySeatsSpec)) inquirySeatsCard

/-- THE TIED CARD OF 'cloaklaw10.InquiryBack'. -/
def inquiryBackCard : Claim7 := { stood := { row := inquiryBackRow, standIns := [], harness := (true, "8a8362dc0c058d6cdff58f9c1c9999a7fe976d5dff3256588edac7cf1e50bfff"), looks := true }, kinds := [], alts := [], laidByText := true, laidKinds := [.data, .data, .data, .sentinel, .sentinel], laidTests := true, laidLooks := .later }
def InquiryBackCardSaid : Prop := Claim7.holds Tryd.pinned (.plain (OpenSpec.ofChange inquiryBackSpec)) inquiryBackCard

/-- THE SECOND FORM's CARD OF 'cloaklaw10.InquirySeats'. -/
def inquirySeatsUptoCard : Claim7 := { stood := { row := inquirySeatsUptoRow, standIns := [], harness := (true, "8a8362dc0c058d6cdff58f9c1c9999a7fe976d5dff3256588edac7cf1e50bfff"), looks := true }, kinds := [], alts := [], laidByText := true, laidKinds := [.data, .data, .data, .sentinel, .sentinel], laidTests := true, laidLooks := .later }
def InquirySeatsUptoCardSaid : Prop := Claim7.holds Tryd.pinned (.plain (OpenSpec.upto inquirySeatsSpec)) inquirySeatsUptoCard

/-- THE SECOND FORM's CARD OF 'cloaklaw10.InquiryBack'. -/
def inquiryBackUptoCard : Claim7 := { stood := { row := inquiryBackUptoRow, standIns := [], harness := (true, "8a8362dc0c058d6cdff58f9c1c9999a7fe976d5dff3256588edac7cf1e50bfff"), looks := true }, kinds := [], alts := [], laidByText := true, laidKinds := [.data, .data, .data, .sentinel, .sentinel], laidTests := true, laidLooks := .later }
def InquiryBackUptoCardSaid : Prop := Claim7.holds Tryd.pinned (.plain (OpenSpec.upto inquiryBackSpec)) inquiryBackUptoCard
end Rows
end Go.Proofs.YtkfmhibdoapndaaDoor
