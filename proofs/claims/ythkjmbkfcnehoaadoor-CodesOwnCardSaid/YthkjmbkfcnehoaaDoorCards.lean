/-
  DERIVED. GIVEN WITH THE SEED: THE CARDS: each row of YthkjmbkfcnehoaaDoorRows.lean that lists a variable, with what it lists TIED to the program's text (the seventh form; the later family's looks); each row that meets fmt, with fmt's text TOLD by the authors' own Lean function (tested against real Go, not proved from fmt's source: count such statements apart). THE CARD IS WHAT COUNTS. Prove the row's statement (the work); the ties are given (YthkjmbkfcnehoaaDoorTie.lean); close each card by the builder's one call (the guide's Derived/Test/ToyasCard.lean, 'card_holds'). Laid BY PROGRAM, IN A SANDBOX (cutbox-door.mjs). By AI agents, Wed Nov 11 2026. No macro, syntax, notation, axiom, sorry.
-/
import Derived.Test.YthkjmbkfcnehoaaDoorRows
import GoSem.ClaimSeven
namespace Go.Proofs.YthkjmbkfcnehoaaDoor
namespace Rows

/-- THE TIED CARD OF 'comptoirlaw13.CodesTell'. -/
def codesTellCard : Claim7 := { stood := { row := codesTellRow, standIns := [], harness := (true, "5cfb715e450dc81052466fc6cb956fc84bc1af7de95ef620b3ff9f0daea56373"), looks := false }, kinds := [], alts := [], laidByText := true, laidKinds := [.data], laidTests := true, laidLooks := .later }
def CodesTellCardSaid : Prop := Claim7.holds Tryd.pinned (.plain (OpenSpec.ofChange codesTellSpec)) codesTellCard

/-- THE TIED CARD OF 'comptoirlaw13.CodesOwn'. -/
def codesOwnCard : Claim7 := { stood := { row := codesOwnRow, standIns := [], harness := (true, "5cfb715e450dc81052466fc6cb956fc84bc1af7de95ef620b3ff9f0daea56373"), looks := false }, kinds := [], alts := [], laidByText := true, laidKinds := [.data], laidTests := true, laidLooks := .later }
def CodesOwnCardSaid : Prop := Claim7.holds Tryd.pinned (.plain (OpenSpec.ofChange codesOwnSpec)) codesOwnCard

/-- THE TIED CARD OF 'comptoirlaw13.CodesElse'. -/
def codesElseCard : Claim7 := { stood := { row := codesElseRow, standIns := [], harness := (true, "5cfb715e450dc81052466fc6cb956fc84bc1af7de95ef620b3ff9f0daea56373"), looks := false }, kinds := [], alts := [], laidByText := true, laidKinds := [.data], laidTests := true, laidLooks := .later }
def CodesElseCardSaid : Prop := Claim7.holds Tryd.pinned (.plain (OpenSpec.ofChange codesElseSpec)) codesElseCard

/-- THE SECOND FORM's CARD OF 'comptoirlaw13.CodesTell'. -/
def codesTellUptoCard : Claim7 := { stood := { row := codesTellUptoRow, standIns := [], harness := (true, "5cfb715e450dc81052466fc6cb956fc84bc1af7de95ef620b3ff9f0daea56373"), looks := false }, kinds := [], alts := [], laidByText := true, laidKinds := [.data], laidTests := true, laidLooks := .later }
def CodesTellUptoCardSaid : Prop := Claim7.holds Tryd.pinned (.plain (OpenSpec.upto codesTellSpec)) codesTellUptoCard

/-- THE SECOND FORM's CARD OF 'comptoirlaw13.CodesOwn'. -/
def codesOwnUptoCard : Claim7 := { stood := { row := codesOwnUptoRow, standIns := [], harness := (true, "5cfb715e450dc81052466fc6cb956fc84bc1af7de95ef620b3ff9f0daea56373"), looks := false }, kinds := [], alts := [], laidByText := true, laidKinds := [.data], laidTests := true, laidLooks := .later }
def CodesOwnUptoCardSaid : Prop := Claim7.holds Tryd.pinned (.plain (OpenSpec.upto codesOwnSpec)) codesOwnUptoCard

/-- THE SECOND FORM's CARD OF 'comptoirlaw13.CodesElse'. -/
def codesElseUptoCard : Claim7 := { stood := { row := codesElseUptoRow, standIns := [], harness := (true, "5cfb715e450dc81052466fc6cb956fc84bc1af7de95ef620b3ff9f0daea56373"), looks := false }, kinds := [], alts := [], laidByText := true, laidKinds := [.data], laidTests := true, laidLooks := .later }
def CodesElseUptoCardSaid : Prop := Claim7.holds Tryd.pinned (.plain (OpenSpec.upto codesElseSpec)) codesElseUptoCard
end Rows
end Go.Proofs.YthkjmbkfcnehoaaDoor
