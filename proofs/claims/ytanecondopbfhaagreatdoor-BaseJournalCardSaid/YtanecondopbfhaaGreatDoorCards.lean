/-
  DERIVED. GIVEN WITH THE SEED: THE CARDS: each row of YtanecondopbfhaaGreatDoorRows.lean that lists a variable, with what it lists TIED to the program's text (the seventh form; the later family's looks); each row that meets fmt, with fmt's text TOLD by the authors' own Lean function (tested against real Go, not proved from fmt's source: count such statements apart). THE CARD IS WHAT COUNTS. Prove the row's statement (the work); the ties are given (YtanecondopbfhaaGreatDoorTie.lean); close each card by the builder's one call (the guide's Derived/Test/ToyasCard.lean, 'card_holds'). Laid BY PROGRAM, IN A SANDBOX (cutbox-door.mjs). By AI agents, Wed Nov 11 2026. No macro, syntax, notation, axiom, sorry.
-/
import Derived.Test.YtanecondopbfhaaGreatDoorRows
import GoSem.ClaimSeven
namespace Go.Proofs.YtanecondopbfhaaGreatDoor
namespace Rows

/-- THE TIED CARD OF 'cloaklaw01.BaseJournal'. -/
def baseJournalCard : Claim7 := { stood := { row := baseJournalRow, standIns := [], harness := (true, "61a194a34e79dca7ee148814b927b861cf42317387cfbc8c58bda8558cfae828"), looks := true }, kinds := [], alts := [], laidByText := true, laidKinds := [.data, .data, .data, .sentinel, .sentinel], laidTests := true, laidLooks := .later }
def BaseJournalCardSaid : Prop := Claim7.holds Tryz.pinned (.plain (OpenSpec.ofChange baseJournalSpec)) baseJournalCard

/-- THE TIED CARD OF 'cloaklaw01.BaseLasts'. -/
def baseLastsCard : Claim7 := { stood := { row := baseLastsRow, standIns := [], harness := (true, "61a194a34e79dca7ee148814b927b861cf42317387cfbc8c58bda8558cfae828"), looks := true }, kinds := [], alts := [], laidByText := true, laidKinds := [.data, .data, .data, .sentinel, .sentinel], laidTests := true, laidLooks := .later }
def BaseLastsCardSaid : Prop := Claim7.holds Tryz.pinned (.plain (OpenSpec.ofChange baseLastsSpec)) baseLastsCard

/-- THE TIED CARD OF 'cloaklaw01.BaseTorn'. -/
def baseTornCard : Claim7 := { stood := { row := baseTornRow, standIns := [], harness := (true, "61a194a34e79dca7ee148814b927b861cf42317387cfbc8c58bda8558cfae828"), looks := true }, kinds := [], alts := [], laidByText := true, laidKinds := [.data, .data, .data, .sentinel, .sentinel], laidTests := true, laidLooks := .later }
def BaseTornCardSaid : Prop := Claim7.holds Tryz.pinned (.plain (OpenSpec.ofChange baseTornSpec)) baseTornCard

/-- THE TIED CARD OF 'cloaklaw01.BaseRecovers'. -/
def baseRecoversCard : Claim7 := { stood := { row := baseRecoversRow, standIns := [], harness := (true, "61a194a34e79dca7ee148814b927b861cf42317387cfbc8c58bda8558cfae828"), looks := true }, kinds := [], alts := [], laidByText := true, laidKinds := [.data, .data, .data, .sentinel, .sentinel], laidTests := true, laidLooks := .later }
def BaseRecoversCardSaid : Prop := Claim7.holds Tryz.pinned (.plain (OpenSpec.ofChange baseRecoversSpec)) baseRecoversCard

/-- THE SECOND FORM's CARD OF 'cloaklaw01.BaseJournal'. -/
def baseJournalUptoCard : Claim7 := { stood := { row := baseJournalUptoRow, standIns := [], harness := (true, "61a194a34e79dca7ee148814b927b861cf42317387cfbc8c58bda8558cfae828"), looks := true }, kinds := [], alts := [], laidByText := true, laidKinds := [.data, .data, .data, .sentinel, .sentinel], laidTests := true, laidLooks := .later }
def BaseJournalUptoCardSaid : Prop := Claim7.holds Tryz.pinned (.plain (OpenSpec.upto baseJournalSpec)) baseJournalUptoCard

/-- THE SECOND FORM's CARD OF 'cloaklaw01.BaseLasts'. -/
def baseLastsUptoCard : Claim7 := { stood := { row := baseLastsUptoRow, standIns := [], harness := (true, "61a194a34e79dca7ee148814b927b861cf42317387cfbc8c58bda8558cfae828"), looks := true }, kinds := [], alts := [], laidByText := true, laidKinds := [.data, .data, .data, .sentinel, .sentinel], laidTests := true, laidLooks := .later }
def BaseLastsUptoCardSaid : Prop := Claim7.holds Tryz.pinned (.plain (OpenSpec.upto baseLastsSpec)) baseLastsUptoCard

/-- THE SECOND FORM's CARD OF 'cloaklaw01.BaseTorn'. -/
def baseTornUptoCard : Claim7 := { stood := { row := baseTornUptoRow, standIns := [], harness := (true, "61a194a34e79dca7ee148814b927b861cf42317387cfbc8c58bda8558cfae828"), looks := true }, kinds := [], alts := [], laidByText := true, laidKinds := [.data, .data, .data, .sentinel, .sentinel], laidTests := true, laidLooks := .later }
def BaseTornUptoCardSaid : Prop := Claim7.holds Tryz.pinned (.plain (OpenSpec.upto baseTornSpec)) baseTornUptoCard

/-- THE SECOND FORM's CARD OF 'cloaklaw01.BaseRecovers'. -/
def baseRecoversUptoCard : Claim7 := { stood := { row := baseRecoversUptoRow, standIns := [], harness := (true, "61a194a34e79dca7ee148814b927b861cf42317387cfbc8c58bda8558cfae828"), looks := true }, kinds := [], alts := [], laidByText := true, laidKinds := [.data, .data, .data, .sentinel, .sentinel], laidTests := true, laidLooks := .later }
def BaseRecoversUptoCardSaid : Prop := Claim7.holds Tryz.pinned (.plain (OpenSpec.upto baseRecoversSpec)) baseRecoversUptoCard
end Rows
end Go.Proofs.YtanecondopbfhaaGreatDoor
