/-
  DERIVED. GIVEN WITH THE SEED: THE CARDS: each row of YtccgjcpjgoglfaaGreatDoorRows.lean that lists a variable, with what it lists TIED to the program's text (the seventh form; the later family's looks); each row that meets fmt, with fmt's text TOLD by the authors' own Lean function (tested against real Go, not proved from fmt's source: count such statements apart). THE CARD IS WHAT COUNTS. Prove the row's statement (the work); the ties are given (YtccgjcpjgoglfaaGreatDoorTie.lean); close each card by the builder's one call (the guide's Derived/Test/ToyasCard.lean, 'card_holds'). Laid BY PROGRAM, IN A SANDBOX (cutbox-door.mjs). By AI agents, Wed Nov 11 2026. No macro, syntax, notation, axiom, sorry.
-/
import Derived.Test.YtccgjcpjgoglfaaGreatDoorRows
import GoSem.ClaimSeven
namespace Go.Proofs.YtccgjcpjgoglfaaGreatDoor
namespace Rows

/-- THE TIED CARD OF 'cloaklaw03.ProofOpens'. -/
def proofOpensCard : Claim7 := { stood := { row := proofOpensRow, standIns := [], harness := (true, "aaf9a59fed322881d48f584c51d395fb42234d32c00cc020acb1cc0292b74be0"), looks := true }, kinds := [], alts := [], laidByText := true, laidKinds := [.data, .data, .data, .sentinel, .sentinel, .data, .data, .data], laidTests := true, laidLooks := .later }
def ProofOpensCardSaid : Prop := Claim7.holds Tryz.pinned (.plain (OpenSpec.ofChange proofOpensSpec)) proofOpensCard

/-- THE TIED CARD OF 'cloaklaw03.ProofSigns'. -/
def proofSignsCard : Claim7 := { stood := { row := proofSignsRow, standIns := [], harness := (true, "aaf9a59fed322881d48f584c51d395fb42234d32c00cc020acb1cc0292b74be0"), looks := true }, kinds := [], alts := [], laidByText := true, laidKinds := [.data, .data, .data, .sentinel, .sentinel, .data, .data, .data], laidTests := true, laidLooks := .later }
def ProofSignsCardSaid : Prop := Claim7.holds Tryz.pinned (.plain (OpenSpec.ofChange proofSignsSpec)) proofSignsCard

/-- THE TIED CARD OF 'cloaklaw03.ProofEncodes'. -/
def proofEncodesCard : Claim7 := { stood := { row := proofEncodesRow, standIns := [], harness := (true, "aaf9a59fed322881d48f584c51d395fb42234d32c00cc020acb1cc0292b74be0"), looks := true }, kinds := [], alts := [], laidByText := true, laidKinds := [.data, .data, .data, .sentinel, .sentinel, .data, .data, .data], laidTests := true, laidLooks := .later }
def ProofEncodesCardSaid : Prop := Claim7.holds Tryz.pinned (.plain (OpenSpec.ofChange proofEncodesSpec)) proofEncodesCard

/-- THE SECOND FORM's CARD OF 'cloaklaw03.ProofOpens'. -/
def proofOpensUptoCard : Claim7 := { stood := { row := proofOpensUptoRow, standIns := [], harness := (true, "aaf9a59fed322881d48f584c51d395fb42234d32c00cc020acb1cc0292b74be0"), looks := true }, kinds := [], alts := [], laidByText := true, laidKinds := [.data, .data, .data, .sentinel, .sentinel, .data, .data, .data], laidTests := true, laidLooks := .later }
def ProofOpensUptoCardSaid : Prop := Claim7.holds Tryz.pinned (.plain (OpenSpec.upto proofOpensSpec)) proofOpensUptoCard

/-- THE SECOND FORM's CARD OF 'cloaklaw03.ProofSigns'. -/
def proofSignsUptoCard : Claim7 := { stood := { row := proofSignsUptoRow, standIns := [], harness := (true, "aaf9a59fed322881d48f584c51d395fb42234d32c00cc020acb1cc0292b74be0"), looks := true }, kinds := [], alts := [], laidByText := true, laidKinds := [.data, .data, .data, .sentinel, .sentinel, .data, .data, .data], laidTests := true, laidLooks := .later }
def ProofSignsUptoCardSaid : Prop := Claim7.holds Tryz.pinned (.plain (OpenSpec.upto proofSignsSpec)) proofSignsUptoCard

/-- THE SECOND FORM's CARD OF 'cloaklaw03.ProofEncodes'. -/
def proofEncodesUptoCard : Claim7 := { stood := { row := proofEncodesUptoRow, standIns := [], harness := (true, "aaf9a59fed322881d48f584c51d395fb42234d32c00cc020acb1cc0292b74be0"), looks := true }, kinds := [], alts := [], laidByText := true, laidKinds := [.data, .data, .data, .sentinel, .sentinel, .data, .data, .data], laidTests := true, laidLooks := .later }
def ProofEncodesUptoCardSaid : Prop := Claim7.holds Tryz.pinned (.plain (OpenSpec.upto proofEncodesSpec)) proofEncodesUptoCard
end Rows
end Go.Proofs.YtccgjcpjgoglfaaGreatDoor
