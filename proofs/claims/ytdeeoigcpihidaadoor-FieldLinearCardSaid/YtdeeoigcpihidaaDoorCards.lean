/-
  DERIVED. GIVEN WITH THE SEED: THE CARDS: each row of YtdeeoigcpihidaaDoorRows.lean that lists a variable, with what it lists TIED to the program's text (the seventh form; the later family's looks); each row that meets fmt, with fmt's text TOLD by the authors' own Lean function (tested against real Go, not proved from fmt's source: count such statements apart). THE CARD IS WHAT COUNTS. Prove the row's statement (the work); the ties are given (YtdeeoigcpihidaaDoorTie.lean); close each card by the builder's one call (the guide's Derived/Test/ToyasCard.lean, 'card_holds'). Laid BY PROGRAM, IN A SANDBOX (cutbox-door.mjs). By AI agents, Wed Nov 11 2026. No macro, syntax, notation, axiom, sorry.
-/
import Derived.Test.YtdeeoigcpihidaaDoorRows
import GoSem.ClaimSeven
namespace Go.Proofs.YtdeeoigcpihidaaDoor
namespace Rows

/-- THE TIED CARD OF 'cloaklaw02.FieldLinear'. -/
def fieldLinearCard : Claim7 := { stood := { row := fieldLinearRow, standIns := [], harness := (true, "52975d8873d9d9eb15801c210fcb021134efa810285470b59d15e09482b08870"), looks := false }, kinds := [], alts := [], laidByText := true, laidKinds := [.data, .data], laidTests := true, laidLooks := .later }
def FieldLinearCardSaid : Prop := Claim7.holds Tryd.pinned (.plain (OpenSpec.ofChange fieldLinearSpec)) fieldLinearCard

/-- THE TIED CARD OF 'cloaklaw02.FieldSolutions'. -/
def fieldSolutionsCard : Claim7 := { stood := { row := fieldSolutionsRow, standIns := [], harness := (true, "52975d8873d9d9eb15801c210fcb021134efa810285470b59d15e09482b08870"), looks := false }, kinds := [], alts := [], laidByText := true, laidKinds := [.data, .data], laidTests := true, laidLooks := .later }
def FieldSolutionsCardSaid : Prop := Claim7.holds Tryd.pinned (.plain (OpenSpec.ofChange fieldSolutionsSpec)) fieldSolutionsCard

/-- THE TIED CARD OF 'cloaklaw02.FieldShares'. -/
def fieldSharesCard : Claim7 := { stood := { row := fieldSharesRow, standIns := [], harness := (true, "52975d8873d9d9eb15801c210fcb021134efa810285470b59d15e09482b08870"), looks := false }, kinds := [], alts := [], laidByText := true, laidKinds := [.data, .data], laidTests := true, laidLooks := .later }
def FieldSharesCardSaid : Prop := Claim7.holds Tryd.pinned (.plain (OpenSpec.ofChange fieldSharesSpec)) fieldSharesCard

/-- THE SECOND FORM's CARD OF 'cloaklaw02.FieldLinear'. -/
def fieldLinearUptoCard : Claim7 := { stood := { row := fieldLinearUptoRow, standIns := [], harness := (true, "52975d8873d9d9eb15801c210fcb021134efa810285470b59d15e09482b08870"), looks := false }, kinds := [], alts := [], laidByText := true, laidKinds := [.data, .data], laidTests := true, laidLooks := .later }
def FieldLinearUptoCardSaid : Prop := Claim7.holds Tryd.pinned (.plain (OpenSpec.upto fieldLinearSpec)) fieldLinearUptoCard

/-- THE SECOND FORM's CARD OF 'cloaklaw02.FieldSolutions'. -/
def fieldSolutionsUptoCard : Claim7 := { stood := { row := fieldSolutionsUptoRow, standIns := [], harness := (true, "52975d8873d9d9eb15801c210fcb021134efa810285470b59d15e09482b08870"), looks := false }, kinds := [], alts := [], laidByText := true, laidKinds := [.data, .data], laidTests := true, laidLooks := .later }
def FieldSolutionsUptoCardSaid : Prop := Claim7.holds Tryd.pinned (.plain (OpenSpec.upto fieldSolutionsSpec)) fieldSolutionsUptoCard

/-- THE SECOND FORM's CARD OF 'cloaklaw02.FieldShares'. -/
def fieldSharesUptoCard : Claim7 := { stood := { row := fieldSharesUptoRow, standIns := [], harness := (true, "52975d8873d9d9eb15801c210fcb021134efa810285470b59d15e09482b08870"), looks := false }, kinds := [], alts := [], laidByText := true, laidKinds := [.data, .data], laidTests := true, laidLooks := .later }
def FieldSharesUptoCardSaid : Prop := Claim7.holds Tryd.pinned (.plain (OpenSpec.upto fieldSharesSpec)) fieldSharesUptoCard
end Rows
end Go.Proofs.YtdeeoigcpihidaaDoor
