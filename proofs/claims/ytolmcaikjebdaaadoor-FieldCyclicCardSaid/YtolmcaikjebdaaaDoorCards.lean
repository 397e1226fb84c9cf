/-
  DERIVED. GIVEN WITH THE SEED: THE CARDS: each row of YtolmcaikjebdaaaDoorRows.lean that lists a variable, with what it lists TIED to the program's text (the seventh form; the later family's looks); each row that meets fmt, with fmt's text TOLD by the authors' own Lean function (tested against real Go, not proved from fmt's source: count such statements apart). THE CARD IS WHAT COUNTS. Prove the row's statement (the work); the ties are given (YtolmcaikjebdaaaDoorTie.lean); close each card by the builder's one call (the guide's Derived/Test/ToyasCard.lean, 'card_holds'). Laid BY PROGRAM, IN A SANDBOX (cutbox-door.mjs). By AI agents, Wed Nov 11 2026. No macro, syntax, notation, axiom, sorry.
-/
import Derived.Test.YtolmcaikjebdaaaDoorRows
import GoSem.ClaimSeven
namespace Go.Proofs.YtolmcaikjebdaaaDoor
namespace Rows

/-- THE TIED CARD OF 'cloaklaw02.FieldTells'. -/
def fieldTellsCard : Claim7 := { stood := { row := fieldTellsRow, standIns := [], harness := (true, "bcc683a4742181607082a80ce5f59afafa4babd72820040903b80d35bcafe58b"), looks := false }, kinds := [], alts := [], laidByText := true, laidKinds := [.data, .data, .data, .data], laidTests := true, laidLooks := .later }
def FieldTellsCardSaid : Prop := Claim7.holds Tryd.pinned (.plain (OpenSpec.ofChange fieldTellsSpec)) fieldTellsCard

/-- THE TIED CARD OF 'cloaklaw02.FieldGroups'. -/
def fieldGroupsCard : Claim7 := { stood := { row := fieldGroupsRow, standIns := [], harness := (true, "bcc683a4742181607082a80ce5f59afafa4babd72820040903b80d35bcafe58b"), looks := false }, kinds := [], alts := [], laidByText := true, laidKinds := [.data, .data, .data, .data], laidTests := true, laidLooks := .later }
def FieldGroupsCardSaid : Prop := Claim7.holds Tryd.pinned (.plain (OpenSpec.ofChange fieldGroupsSpec)) fieldGroupsCard

/-- THE TIED CARD OF 'cloaklaw02.FieldHashes'. -/
def fieldHashesCard : Claim7 := { stood := { row := fieldHashesRow, standIns := [], harness := (true, "bcc683a4742181607082a80ce5f59afafa4babd72820040903b80d35bcafe58b"), looks := false }, kinds := [], alts := [], laidByText := true, laidKinds := [.data, .data, .data, .data], laidTests := true, laidLooks := .later }
def FieldHashesCardSaid : Prop := Claim7.holds Tryd.pinned (.plain (OpenSpec.ofChange fieldHashesSpec)) fieldHashesCard

/-- THE TIED CARD OF 'cloaklaw02.FieldRing'. -/
def fieldRingCard : Claim7 := { stood := { row := fieldRingRow, standIns := [], harness := (true, "bcc683a4742181607082a80ce5f59afafa4babd72820040903b80d35bcafe58b"), looks := false }, kinds := [], alts := [], laidByText := true, laidKinds := [.data, .data, .data, .data], laidTests := true, laidLooks := .later }
def FieldRingCardSaid : Prop := Claim7.holds Tryd.pinned (.plain (OpenSpec.ofChange fieldRingSpec)) fieldRingCard

/-- THE TIED CARD OF 'cloaklaw02.FieldPowers'. -/
def fieldPowersCard : Claim7 := { stood := { row := fieldPowersRow, standIns := [], harness := (true, "bcc683a4742181607082a80ce5f59afafa4babd72820040903b80d35bcafe58b"), looks := false }, kinds := [], alts := [], laidByText := true, laidKinds := [.data, .data, .data, .data], laidTests := true, laidLooks := .later }
def FieldPowersCardSaid : Prop := Claim7.holds Tryd.pinned (.plain (OpenSpec.ofChange fieldPowersSpec)) fieldPowersCard

/-- THE TIED CARD OF 'cloaklaw02.FieldCyclic'. -/
def fieldCyclicCard : Claim7 := { stood := { row := fieldCyclicRow, standIns := [], harness := (true, "bcc683a4742181607082a80ce5f59afafa4babd72820040903b80d35bcafe58b"), looks := false }, kinds := [], alts := [], laidByText := true, laidKinds := [.data, .data, .data, .data], laidTests := true, laidLooks := .later }
def FieldCyclicCardSaid : Prop := Claim7.holds Tryd.pinned (.plain (OpenSpec.ofChange fieldCyclicSpec)) fieldCyclicCard

/-- THE TIED CARD OF 'cloaklaw02.FieldExponents'. -/
def fieldExponentsCard : Claim7 := { stood := { row := fieldExponentsRow, standIns := [], harness := (true, "bcc683a4742181607082a80ce5f59afafa4babd72820040903b80d35bcafe58b"), looks := false }, kinds := [], alts := [], laidByText := true, laidKinds := [.data, .data, .data, .data], laidTests := true, laidLooks := .later }
def FieldExponentsCardSaid : Prop := Claim7.holds Tryd.pinned (.plain (OpenSpec.ofChange fieldExponentsSpec)) fieldExponentsCard

/-- THE SECOND FORM's CARD OF 'cloaklaw02.FieldTells'. -/
def fieldTellsUptoCard : Claim7 := { stood := { row := fieldTellsUptoRow, standIns := [], harness := (true, "bcc683a4742181607082a80ce5f59afafa4babd72820040903b80d35bcafe58b"), looks := false }, kinds := [], alts := [], laidByText := true, laidKinds := [.data, .data, .data, .data], laidTests := true, laidLooks := .later }
def FieldTellsUptoCardSaid : Prop := Claim7.holds Tryd.pinned (.plain (OpenSpec.upto fieldTellsSpec)) fieldTellsUptoCard

/-- THE SECOND FORM's CARD OF 'cloaklaw02.FieldGroups'. -/
def fieldGroupsUptoCard : Claim7 := { stood := { row := fieldGroupsUptoRow, standIns := [], harness := (true, "bcc683a4742181607082a80ce5f59afafa4babd72820040903b80d35bcafe58b"), looks := false }, kinds := [], alts := [], laidByText := true, laidKinds := [.data, .data, .data, .data], laidTests := true, laidLooks := .later }
def FieldGroupsUptoCardSaid : Prop := Claim7.holds Tryd.pinned (.plain (OpenSpec.upto fieldGroupsSpec)) fieldGroupsUptoCard

/-- THE SECOND FORM's CARD OF 'cloaklaw02.FieldHashes'. -/
def fieldHashesUptoCard : Claim7 := { stood := { row := fieldHashesUptoRow, standIns := [], harness := (true, "bcc683a4742181607082a80ce5f59afafa4babd72820040903b80d35bcafe58b"), looks := false }, kinds := [], alts := [], laidByText := true, laidKinds := [.data, .data, .data, .data], laidTests := true, laidLooks := .later }
def FieldHashesUptoCardSaid : Prop := Claim7.holds Tryd.pinned (.plain (OpenSpec.upto fieldHashesSpec)) fieldHashesUptoCard

/-- THE SECOND FORM's CARD OF 'cloaklaw02.FieldRing'. -/
def fieldRingUptoCard : Claim7 := { stood := { row := fieldRingUptoRow, standIns := [], harness := (true, "bcc683a4742181607082a80ce5f59afafa4babd72820040903b80d35bcafe58b"), looks := false }, kinds := [], alts := [], laidByText := true, laidKinds := [.data, .data, .data, .data], laidTests := true, laidLooks := .later }
def FieldRingUptoCardSaid : Prop := Claim7.holds Tryd.pinned (.plain (OpenSpec.upto fieldRingSpec)) fieldRingUptoCard

/-- THE SECOND FORM's CARD OF 'cloaklaw02.FieldPowers'. -/
def fieldPowersUptoCard : Claim7 := { stood := { row := fieldPowersUptoRow, standIns := [], harness := (true, "bcc683a4742181607082a80ce5f59afafa4babd72820040903b80d35bcafe58b"), looks := false }, kinds := [], alts := [], laidByText := true, laidKinds := [.data, .data, .data, .data], laidTests := true, laidLooks := .later }
def FieldPowersUptoCardSaid : Prop := Claim7.holds Tryd.pinned (.plain (OpenSpec.upto fieldPowersSpec)) fieldPowersUptoCard

/-- THE SECOND FORM's CARD OF 'cloaklaw02.FieldCyclic'. -/
def fieldCyclicUptoCard : Claim7 := { stood := { row := fieldCyclicUptoRow, standIns := [], harness := (true, "bcc683a4742181607082a80ce5f59afafa4babd72820040903b80d35bcafe58b"), looks := false }, kinds := [], alts := [], laidByText := true, laidKinds := [.data, .data, .data, .data], laidTests := true, laidLooks := .later }
def FieldCyclicUptoCardSaid : Prop := Claim7.holds Tryd.pinned (.plain (OpenSpec.upto fieldCyclicSpec)) fieldCyclicUptoCard

/-- THE SECOND FORM's CARD OF 'cloaklaw02.FieldExponents'. -/
def fieldExponentsUptoCard : Claim7 := { stood := { row := fieldExponentsUptoRow, standIns := [], harness := (true, "bcc683a4742181607082a80ce5f59afafa4babd72820040903b80d35bcafe58b"), looks := false }, kinds := [], alts := [], laidByText := true, laidKinds := [.data, .data, .data, .data], laidTests := true, laidLooks := .later }
def FieldExponentsUptoCardSaid : Prop := Claim7.holds Tryd.pinned (.plain (OpenSpec.upto fieldExponentsSpec)) fieldExponentsUptoCard
end Rows
end Go.Proofs.YtolmcaikjebdaaaDoor
