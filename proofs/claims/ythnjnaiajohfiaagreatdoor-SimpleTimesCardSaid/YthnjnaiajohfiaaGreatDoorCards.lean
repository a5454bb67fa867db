/-
  DERIVED. GIVEN WITH THE SEED: THE CARDS: each row of YthnjnaiajohfiaaGreatDoorRows.lean that lists a variable, with what it lists TIED to the program's text (the seventh form; the later family's looks); each row that meets fmt, with fmt's text TOLD by the authors' own Lean function (tested against real Go, not proved from fmt's source: count such statements apart). THE CARD IS WHAT COUNTS. Prove the row's statement (the work); the ties are given (YthnjnaiajohfiaaGreatDoorTie.lean); close each card by the builder's one call (the guide's Derived/Test/ToyasCard.lean, 'card_holds'). Laid BY PROGRAM, IN A SANDBOX (cutbox-door.mjs). By AI agents, Wed Nov 11 2026. No macro, syntax, notation, axiom, sorry.
-/
import Derived.Test.YthnjnaiajohfiaaGreatDoorRows
import GoSem.ClaimSeven
namespace Go.Proofs.YthnjnaiajohfiaaGreatDoor
namespace Rows

/-- THE TIED CARD OF 'comptoirlaw10.SimpleTells'. -/
def simpleTellsCard : Claim7 := { stood := { row := simpleTellsRow, standIns := [], harness := (true, "d63a402a320095aa4e72d7a4da0fbb25631fbcb61f0aa9e899616f167ce86074"), looks := false }, kinds := [], alts := [], laidByText := true, laidKinds := [.data, .data, .data, .data, .pinned], laidTests := true, laidLooks := .later }
def SimpleTellsCardSaid : Prop := Claim7.holds Tryz.pinned (.plain (OpenSpec.ofChange simpleTellsSpec)) simpleTellsCard

/-- THE TIED CARD OF 'comptoirlaw10.SimpleTimes'. -/
def simpleTimesCard : Claim7 := { stood := { row := simpleTimesRow, standIns := [], harness := (true, "d63a402a320095aa4e72d7a4da0fbb25631fbcb61f0aa9e899616f167ce86074"), looks := false }, kinds := [], alts := [], laidByText := true, laidKinds := [.data, .data, .data, .data, .pinned], laidTests := true, laidLooks := .later }
def SimpleTimesCardSaid : Prop := Claim7.holds Tryz.pinned (.plain (OpenSpec.ofChange simpleTimesSpec)) simpleTimesCard

/-- THE TIED CARD OF 'comptoirlaw10.SimpleAmounts'. -/
def simpleAmountsCard : Claim7 := { stood := { row := simpleAmountsRow, standIns := [], harness := (true, "d63a402a320095aa4e72d7a4da0fbb25631fbcb61f0aa9e899616f167ce86074"), looks := false }, kinds := [], alts := [], laidByText := true, laidKinds := [.data, .data, .data, .data, .pinned], laidTests := true, laidLooks := .later }
def SimpleAmountsCardSaid : Prop := Claim7.holds Tryz.pinned (.plain (OpenSpec.ofChange simpleAmountsSpec)) simpleAmountsCard

/-- THE TIED CARD OF 'comptoirlaw10.SimpleChecks'. -/
def simpleChecksCard : Claim7 := { stood := { row := simpleChecksRow, standIns := [], harness := (true, "d63a402a320095aa4e72d7a4da0fbb25631fbcb61f0aa9e899616f167ce86074"), looks := false }, kinds := [], alts := [], laidByText := true, laidKinds := [.data, .data, .data, .data, .pinned], laidTests := true, laidLooks := .later }
def SimpleChecksCardSaid : Prop := Claim7.holds Tryz.pinned (.plain (OpenSpec.ofChange simpleChecksSpec)) simpleChecksCard

/-- THE SECOND FORM's CARD OF 'comptoirlaw10.SimpleTells'. -/
def simpleTellsUptoCard : Claim7 := { stood := { row := simpleTellsUptoRow, standIns := [], harness := (true, "d63a402a320095aa4e72d7a4da0fbb25631fbcb61f0aa9e899616f167ce86074"), looks := false }, kinds := [], alts := [], laidByText := true, laidKinds := [.data, .data, .data, .data, .pinned], laidTests := true, laidLooks := .later }
def SimpleTellsUptoCardSaid : Prop := Claim7.holds Tryz.pinned (.plain (OpenSpec.upto simpleTellsSpec)) simpleTellsUptoCard

/-- THE SECOND FORM's CARD OF 'comptoirlaw10.SimpleTimes'. -/
def simpleTimesUptoCard : Claim7 := { stood := { row := simpleTimesUptoRow, standIns := [], harness := (true, "d63a402a320095aa4e72d7a4da0fbb25631fbcb61f0aa9e899616f167ce86074"), looks := false }, kinds := [], alts := [], laidByText := true, laidKinds := [.data, .data, .data, .data, .pinned], laidTests := true, laidLooks := .later }
def SimpleTimesUptoCardSaid : Prop := Claim7.holds Tryz.pinned (.plain (OpenSpec.upto simpleTimesSpec)) simpleTimesUptoCard

/-- THE SECOND FORM's CARD OF 'comptoirlaw10.SimpleAmounts'. -/
def simpleAmountsUptoCard : Claim7 := { stood := { row := simpleAmountsUptoRow, standIns := [], harness := (true, "d63a402a320095aa4e72d7a4da0fbb25631fbcb61f0aa9e899616f167ce86074"), looks := false }, kinds := [], alts := [], laidByText := true, laidKinds := [.data, .data, .data, .data, .pinned], laidTests := true, laidLooks := .later }
def SimpleAmountsUptoCardSaid : Prop := Claim7.holds Tryz.pinned (.plain (OpenSpec.upto simpleAmountsSpec)) simpleAmountsUptoCard

/-- THE SECOND FORM's CARD OF 'comptoirlaw10.SimpleChecks'. -/
def simpleChecksUptoCard : Claim7 := { stood := { row := simpleChecksUptoRow, standIns := [], harness := (true, "d63a402a320095aa4e72d7a4da0fbb25631fbcb61f0aa9e899616f167ce86074"), looks := false }, kinds := [], alts := [], laidByText := true, laidKinds := [.data, .data, .data, .data, .pinned], laidTests := true, laidLooks := .later }
def SimpleChecksUptoCardSaid : Prop := Claim7.holds Tryz.pinned (.plain (OpenSpec.upto simpleChecksSpec)) simpleChecksUptoCard
end Rows
end Go.Proofs.YthnjnaiajohfiaaGreatDoor
