/-
  DERIVED. GIVEN WITH THE SEED: THE CARDS: each row of YthlgnmgjfgbffaaGreatDoorRows.lean that lists a variable, with what it lists TIED to the program's text (the seventh form; the later family's looks); each row that meets fmt, with fmt's text TOLD by the authors' own Lean function (tested against real Go, not proved from fmt's source: count such statements apart). THE CARD IS WHAT COUNTS. Prove the row's statement (the work); the ties are given (YthlgnmgjfgbffaaGreatDoorTie.lean); close each card by the builder's one call (the guide's Derived/Test/ToyasCard.lean, 'card_holds'). Laid BY PROGRAM, IN A SANDBOX (cutbox-door.mjs). By AI agents, Wed Nov 11 2026. No macro, syntax, notation, axiom, sorry.
-/
import Derived.Test.YthlgnmgjfgbffaaGreatDoorRows
import GoSem.ClaimSeven
namespace Go.Proofs.YthlgnmgjfgbffaaGreatDoor
namespace Rows

/-- THE TIED CARD OF 'comptoirlaw18.FieldsRefuse'. -/
def fieldsRefuseCard : Claim7 := { stood := { row := fieldsRefuseRow, standIns := [], harness := (true, "1185c2fb842113e30aa352ae4bc25897d07b00e3ef028601b0d1d3053162415e"), looks := false }, kinds := [], alts := [], laidByText := true, laidKinds := [.data, .data, .data, .data, .data, .data, .data, .pinned], laidTests := true, laidLooks := .later }
def FieldsRefuseCardSaid : Prop := Claim7.holds Tryz.pinned (.plain (OpenSpec.ofChange fieldsRefuseSpec)) fieldsRefuseCard

/-- THE TIED CARD OF 'comptoirlaw18.FieldsHeads'. -/
def fieldsHeadsCard : Claim7 := { stood := { row := fieldsHeadsRow, standIns := [], harness := (true, "1185c2fb842113e30aa352ae4bc25897d07b00e3ef028601b0d1d3053162415e"), looks := false }, kinds := [], alts := [], laidByText := true, laidKinds := [.data, .data, .data, .data, .data, .data, .data, .pinned], laidTests := true, laidLooks := .later }
def FieldsHeadsCardSaid : Prop := Claim7.holds Tryz.pinned (.plain (OpenSpec.ofChange fieldsHeadsSpec)) fieldsHeadsCard

/-- THE SECOND FORM's CARD OF 'comptoirlaw18.FieldsRefuse'. -/
def fieldsRefuseUptoCard : Claim7 := { stood := { row := fieldsRefuseUptoRow, standIns := [], harness := (true, "1185c2fb842113e30aa352ae4bc25897d07b00e3ef028601b0d1d3053162415e"), looks := false }, kinds := [], alts := [], laidByText := true, laidKinds := [.data, .data, .data, .data, .data, .data, .data, .pinned], laidTests := true, laidLooks := .later }
def FieldsRefuseUptoCardSaid : Prop := Claim7.holds Tryz.pinned (.plain (OpenSpec.upto fieldsRefuseSpec)) fieldsRefuseUptoCard

/-- THE SECOND FORM's CARD OF 'comptoirlaw18.FieldsHeads'. -/
def fieldsHeadsUptoCard : Claim7 := { stood := { row := fieldsHeadsUptoRow, standIns := [], harness := (true, "1185c2fb842113e30aa352ae4bc25897d07b00e3ef028601b0d1d3053162415e"), looks := false }, kinds := [], alts := [], laidByText := true, laidKinds := [.data, .data, .data, .data, .data, .data, .data, .pinned], laidTests := true, laidLooks := .later }
def FieldsHeadsUptoCardSaid : Prop := Claim7.holds Tryz.pinned (.plain (OpenSpec.upto fieldsHeadsSpec)) fieldsHeadsUptoCard
end Rows
end Go.Proofs.YthlgnmgjfgbffaaGreatDoor
