/-
  DERIVED. GIVEN WITH THE SEED: THE CARDS: each row of YtlnjpocidfgloaaDoorRows.lean that lists a variable, with what it lists TIED to the program's text (the seventh form; the later family's looks); each row that meets fmt, with fmt's text TOLD by the authors' own Lean function (tested against real Go, not proved from fmt's source: count such statements apart). THE CARD IS WHAT COUNTS. Prove the row's statement (the work); the ties are given (YtlnjpocidfgloaaDoorTie.lean); close each card by the builder's one call (the guide's Derived/Test/ToyasCard.lean, 'card_holds'). Laid BY PROGRAM, IN A SANDBOX (cutbox-door.mjs). By AI agents, Wed Nov 11 2026. No macro, syntax, notation, axiom, sorry.
-/
import Derived.Test.YtlnjpocidfgloaaDoorRows
import GoSem.ClaimSeven
namespace Go.Proofs.YtlnjpocidfgloaaDoor
namespace Rows

/-- THE TIED CARD OF 'comptoirlaw09.CanonTells'. -/
def canonTellsCard : Claim7 := { stood := { row := canonTellsRow, standIns := [], harness := (true, "7b8c4ecd4151f6732b6472d96b26c86f8bbaeee3aeb86dd6ae6d2c7169c84945"), looks := false }, kinds := [], alts := [], laidByText := true, laidKinds := [.data, .pinned], laidTests := true, laidLooks := .later }
def CanonTellsCardSaid : Prop := Claim7.holds Tryd.pinned (.plain (OpenSpec.ofChange canonTellsSpec)) canonTellsCard

/-- THE TIED CARD OF 'comptoirlaw09.CanonNeeds'. -/
def canonNeedsCard : Claim7 := { stood := { row := canonNeedsRow, standIns := [], harness := (true, "7b8c4ecd4151f6732b6472d96b26c86f8bbaeee3aeb86dd6ae6d2c7169c84945"), looks := false }, kinds := [], alts := [], laidByText := true, laidKinds := [.data, .pinned], laidTests := true, laidLooks := .later }
def CanonNeedsCardSaid : Prop := Claim7.holds Tryd.pinned (.plain (OpenSpec.ofChange canonNeedsSpec)) canonNeedsCard

/-- THE TIED CARD OF 'comptoirlaw09.CanonDeep'. -/
def canonDeepCard : Claim7 := { stood := { row := canonDeepRow, standIns := [], harness := (true, "7b8c4ecd4151f6732b6472d96b26c86f8bbaeee3aeb86dd6ae6d2c7169c84945"), looks := false }, kinds := [], alts := [], laidByText := true, laidKinds := [.data, .pinned], laidTests := true, laidLooks := .later }
def CanonDeepCardSaid : Prop := Claim7.holds Tryd.pinned (.plain (OpenSpec.ofChange canonDeepSpec)) canonDeepCard

/-- THE TIED CARD OF 'comptoirlaw09.CanonEscapes'. -/
def canonEscapesCard : Claim7 := { stood := { row := canonEscapesRow, standIns := [], harness := (true, "7b8c4ecd4151f6732b6472d96b26c86f8bbaeee3aeb86dd6ae6d2c7169c84945"), looks := false }, kinds := [], alts := [], laidByText := true, laidKinds := [.data, .pinned], laidTests := true, laidLooks := .later }
def CanonEscapesCardSaid : Prop := Claim7.holds Tryd.pinned (.plain (OpenSpec.ofChange canonEscapesSpec)) canonEscapesCard

/-- THE SECOND FORM's CARD OF 'comptoirlaw09.CanonTells'. -/
def canonTellsUptoCard : Claim7 := { stood := { row := canonTellsUptoRow, standIns := [], harness := (true, "7b8c4ecd4151f6732b6472d96b26c86f8bbaeee3aeb86dd6ae6d2c7169c84945"), looks := false }, kinds := [], alts := [], laidByText := true, laidKinds := [.data, .pinned], laidTests := true, laidLooks := .later }
def CanonTellsUptoCardSaid : Prop := Claim7.holds Tryd.pinned (.plain (OpenSpec.upto canonTellsSpec)) canonTellsUptoCard

/-- THE SECOND FORM's CARD OF 'comptoirlaw09.CanonNeeds'. -/
def canonNeedsUptoCard : Claim7 := { stood := { row := canonNeedsUptoRow, standIns := [], harness := (true, "7b8c4ecd4151f6732b6472d96b26c86f8bbaeee3aeb86dd6ae6d2c7169c84945"), looks := false }, kinds := [], alts := [], laidByText := true, laidKinds := [.data, .pinned], laidTests := true, laidLooks := .later }
def CanonNeedsUptoCardSaid : Prop := Claim7.holds Tryd.pinned (.plain (OpenSpec.upto canonNeedsSpec)) canonNeedsUptoCard

/-- THE SECOND FORM's CARD OF 'comptoirlaw09.CanonDeep'. -/
def canonDeepUptoCard : Claim7 := { stood := { row := canonDeepUptoRow, standIns := [], harness := (true, "7b8c4ecd4151f6732b6472d96b26c86f8bbaeee3aeb86dd6ae6d2c7169c84945"), looks := false }, kinds := [], alts := [], laidByText := true, laidKinds := [.data, .pinned], laidTests := true, laidLooks := .later }
def CanonDeepUptoCardSaid : Prop := Claim7.holds Tryd.pinned (.plain (OpenSpec.upto canonDeepSpec)) canonDeepUptoCard

/-- THE SECOND FORM's CARD OF 'comptoirlaw09.CanonEscapes'. -/
def canonEscapesUptoCard : Claim7 := { stood := { row := canonEscapesUptoRow, standIns := [], harness := (true, "7b8c4ecd4151f6732b6472d96b26c86f8bbaeee3aeb86dd6ae6d2c7169c84945"), looks := false }, kinds := [], alts := [], laidByText := true, laidKinds := [.data, .pinned], laidTests := true, laidLooks := .later }
def CanonEscapesUptoCardSaid : Prop := Claim7.holds Tryd.pinned (.plain (OpenSpec.upto canonEscapesSpec)) canonEscapesUptoCard
end Rows
end Go.Proofs.YtlnjpocidfgloaaDoor
