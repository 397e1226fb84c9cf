/-
  DERIVED. GIVEN WITH THE SEED: THE CARDS: each row of YtgpeingndefacaaDoorRows.lean that lists a variable, with what it lists TIED to the program's text (the seventh form; the later family's looks); each row that meets fmt, with fmt's text TOLD by the authors' own Lean function (tested against real Go, not proved from fmt's source: count such statements apart). THE CARD IS WHAT COUNTS. Prove the row's statement (the work); the ties are given (YtgpeingndefacaaDoorTie.lean); close each card by the builder's one call (the guide's Derived/Test/ToyasCard.lean, 'card_holds'). Laid BY PROGRAM, IN A SANDBOX (cutbox-door.mjs). By AI agents, Wed Nov 11 2026. No macro, syntax, notation, axiom, sorry.
-/
import Derived.Test.YtgpeingndefacaaDoorRows
import GoSem.ClaimSeven
namespace Go.Proofs.YtgpeingndefacaaDoor
namespace Rows

/-- THE TIED CARD OF 'cloaklaw01.BaseWrites'. -/
def baseWritesCard : Claim7 := { stood := { row := baseWritesRow, standIns := [], harness := (true, "37dd0a8ccd97e333f3102adac4fe714c9f81fad7f1142f6f7941dfe79ee720b4"), looks := true }, kinds := [], alts := [], laidByText := true, laidKinds := [.data, .data, .data, .sentinel, .sentinel], laidTests := true, laidLooks := .later }
def BaseWritesCardSaid : Prop := Claim7.holds Tryd.pinned (.plain (OpenSpec.ofChange baseWritesSpec)) baseWritesCard

/-- THE TIED CARD OF 'cloaklaw01.BaseReads'. -/
def baseReadsCard : Claim7 := { stood := { row := baseReadsRow, standIns := [], harness := (true, "37dd0a8ccd97e333f3102adac4fe714c9f81fad7f1142f6f7941dfe79ee720b4"), looks := true }, kinds := [], alts := [], laidByText := true, laidKinds := [.data, .data, .data, .sentinel, .sentinel], laidTests := true, laidLooks := .later }
def BaseReadsCardSaid : Prop := Claim7.holds Tryd.pinned (.plain (OpenSpec.ofChange baseReadsSpec)) baseReadsCard

/-- THE TIED CARD OF 'cloaklaw01.BaseBack'. -/
def baseBackCard : Claim7 := { stood := { row := baseBackRow, standIns := [], harness := (true, "37dd0a8ccd97e333f3102adac4fe714c9f81fad7f1142f6f7941dfe79ee720b4"), looks := true }, kinds := [], alts := [], laidByText := true, laidKinds := [.data, .data, .data, .sentinel, .sentinel], laidTests := true, laidLooks := .later }
def BaseBackCardSaid : Prop := Claim7.holds Tryd.pinned (.plain (OpenSpec.ofChange baseBackSpec)) baseBackCard

/-- THE TIED CARD OF 'cloaklaw01.BaseAgain'. -/
def baseAgainCard : Claim7 := { stood := { row := baseAgainRow, standIns := [], harness := (true, "37dd0a8ccd97e333f3102adac4fe714c9f81fad7f1142f6f7941dfe79ee720b4"), looks := true }, kinds := [], alts := [], laidByText := true, laidKinds := [.data, .data, .data, .sentinel, .sentinel], laidTests := true, laidLooks := .later }
def BaseAgainCardSaid : Prop := Claim7.holds Tryd.pinned (.plain (OpenSpec.ofChange baseAgainSpec)) baseAgainCard

/-- THE TIED CARD OF 'cloaklaw01.BaseNests'. -/
def baseNestsCard : Claim7 := { stood := { row := baseNestsRow, standIns := [], harness := (true, "37dd0a8ccd97e333f3102adac4fe714c9f81fad7f1142f6f7941dfe79ee720b4"), looks := true }, kinds := [], alts := [], laidByText := true, laidKinds := [.data, .data, .data, .sentinel, .sentinel], laidTests := true, laidLooks := .later }
def BaseNestsCardSaid : Prop := Claim7.holds Tryd.pinned (.plain (OpenSpec.ofChange baseNestsSpec)) baseNestsCard

/-- THE SECOND FORM's CARD OF 'cloaklaw01.BaseWrites'. -/
def baseWritesUptoCard : Claim7 := { stood := { row := baseWritesUptoRow, standIns := [], harness := (true, "37dd0a8ccd97e333f3102adac4fe714c9f81fad7f1142f6f7941dfe79ee720b4"), looks := true }, kinds := [], alts := [], laidByText := true, laidKinds := [.data, .data, .data, .sentinel, .sentinel], laidTests := true, laidLooks := .later }
def BaseWritesUptoCardSaid : Prop := Claim7.holds Tryd.pinned (.plain (OpenSpec.upto baseWritesSpec)) baseWritesUptoCard

/-- THE SECOND FORM's CARD OF 'cloaklaw01.BaseReads'. -/
def baseReadsUptoCard : Claim7 := { stood := { row := baseReadsUptoRow, standIns := [], harness := (true, "37dd0a8ccd97e333f3102adac4fe714c9f81fad7f1142f6f7941dfe79ee720b4"), looks := true }, kinds := [], alts := [], laidByText := true, laidKinds := [.data, .data, .data, .sentinel, .sentinel], laidTests := true, laidLooks := .later }
def BaseReadsUptoCardSaid : Prop := Claim7.holds Tryd.pinned (.plain (OpenSpec.upto baseReadsSpec)) baseReadsUptoCard

/-- THE SECOND FORM's CARD OF 'cloaklaw01.BaseBack'. -/
def baseBackUptoCard : Claim7 := { stood := { row := baseBackUptoRow, standIns := [], harness := (true, "37dd0a8ccd97e333f3102adac4fe714c9f81fad7f1142f6f7941dfe79ee720b4"), looks := true }, kinds := [], alts := [], laidByText := true, laidKinds := [.data, .data, .data, .sentinel, .sentinel], laidTests := true, laidLooks := .later }
def BaseBackUptoCardSaid : Prop := Claim7.holds Tryd.pinned (.plain (OpenSpec.upto baseBackSpec)) baseBackUptoCard

/-- THE SECOND FORM's CARD OF 'cloaklaw01.BaseAgain'. -/
def baseAgainUptoCard : Claim7 := { stood := { row := baseAgainUptoRow, standIns := [], harness := (true, "37dd0a8ccd97e333f3102adac4fe714c9f81fad7f1142f6f7941dfe79ee720b4"), looks := true }, kinds := [], alts := [], laidByText := true, laidKinds := [.data, .data, .data, .sentinel, .sentinel], laidTests := true, laidLooks := .later }
def BaseAgainUptoCardSaid : Prop := Claim7.holds Tryd.pinned (.plain (OpenSpec.upto baseAgainSpec)) baseAgainUptoCard

/-- THE SECOND FORM's CARD OF 'cloaklaw01.BaseNests'. -/
def baseNestsUptoCard : Claim7 := { stood := { row := baseNestsUptoRow, standIns := [], harness := (true, "37dd0a8ccd97e333f3102adac4fe714c9f81fad7f1142f6f7941dfe79ee720b4"), looks := true }, kinds := [], alts := [], laidByText := true, laidKinds := [.data, .data, .data, .sentinel, .sentinel], laidTests := true, laidLooks := .later }
def BaseNestsUptoCardSaid : Prop := Claim7.holds Tryd.pinned (.plain (OpenSpec.upto baseNestsSpec)) baseNestsUptoCard
end Rows
end Go.Proofs.YtgpeingndefacaaDoor
