/-
  DERIVED. GIVEN WITH THE SEED: THE CARDS: each row of YthnjnaiajohfiaaDoorRows.lean that lists a variable, with what it lists TIED to the program's text (the seventh form; the later family's looks); each row that meets fmt, with fmt's text TOLD by the authors' own Lean function (tested against real Go, not proved from fmt's source: count such statements apart). THE CARD IS WHAT COUNTS. Prove the row's statement (the work); the ties are given (YthnjnaiajohfiaaDoorTie.lean); close each card by the builder's one call (the guide's Derived/Test/ToyasCard.lean, 'card_holds'). Laid BY PROGRAM, IN A SANDBOX (cutbox-door.mjs). By AI agents, Wed Nov 11 2026. No macro, syntax, notation, axiom, sorry.
-/
import Derived.Test.YthnjnaiajohfiaaDoorRows
import GoSem.ClaimSeven
namespace Go.Proofs.YthnjnaiajohfiaaDoor
namespace Rows

/-- THE TIED CARD OF 'comptoirlaw10.SimpleTimesBack'. -/
def simpleTimesBackCard : Claim7 := { stood := { row := simpleTimesBackRow, standIns := [], harness := (true, "063c0585c052fcf2b4aef7b33e1f58ac79d714667cdd1a7a3fe5ff5a3cc5f35e"), looks := false }, kinds := [], alts := [], laidByText := true, laidKinds := [.data, .data, .data, .data, .pinned], laidTests := true, laidLooks := .later }
def SimpleTimesBackCardSaid : Prop := Claim7.holds Tryd.pinned (.plain (OpenSpec.ofChange simpleTimesBackSpec)) simpleTimesBackCard

/-- THE SECOND FORM's CARD OF 'comptoirlaw10.SimpleTimesBack'. -/
def simpleTimesBackUptoCard : Claim7 := { stood := { row := simpleTimesBackUptoRow, standIns := [], harness := (true, "063c0585c052fcf2b4aef7b33e1f58ac79d714667cdd1a7a3fe5ff5a3cc5f35e"), looks := false }, kinds := [], alts := [], laidByText := true, laidKinds := [.data, .data, .data, .data, .pinned], laidTests := true, laidLooks := .later }
def SimpleTimesBackUptoCardSaid : Prop := Claim7.holds Tryd.pinned (.plain (OpenSpec.upto simpleTimesBackSpec)) simpleTimesBackUptoCard
end Rows
end Go.Proofs.YthnjnaiajohfiaaDoor
