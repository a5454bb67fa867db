/-
  DERIVED. GIVEN WITH THE SEED: THE CARDS: each row of YtdenaejinlkfgaaDoorRows.lean that lists a variable, with what it lists TIED to the program's text (the seventh form; the later family's looks); each row that meets fmt, with fmt's text TOLD by the authors' own Lean function (tested against real Go, not proved from fmt's source: count such statements apart). THE CARD IS WHAT COUNTS. Prove the row's statement (the work); the ties are given (YtdenaejinlkfgaaDoorTie.lean); close each card by the builder's one call (the guide's Derived/Test/ToyasCard.lean, 'card_holds'). Laid BY PROGRAM, IN A SANDBOX (cutbox-door.mjs). By AI agents, Wed Nov 11 2026. No macro, syntax, notation, axiom, sorry.
-/
import Derived.Test.YtdenaejinlkfgaaDoorRows
import GoSem.ClaimSeven
namespace Go.Proofs.YtdenaejinlkfgaaDoor
namespace Rows

/-- THE TIED CARD OF 'comptoirlaw11.KindsTell'. -/
def kindsTellCard : Claim7 := { stood := { row := kindsTellRow, standIns := [], harness := (true, "8bc15cf6c0602d4f39c2a9dd4753eef5bf5a291615e57df362a63cee9e0dfbe0"), looks := false }, kinds := [], alts := [], laidByText := true, laidKinds := [.data], laidTests := true, laidLooks := .later }
def KindsTellCardSaid : Prop := Claim7.holds Tryd.pinned (.plain (OpenSpec.ofChange kindsTellSpec)) kindsTellCard

/-- THE TIED CARD OF 'comptoirlaw11.KindsOwn'. -/
def kindsOwnCard : Claim7 := { stood := { row := kindsOwnRow, standIns := [], harness := (true, "8bc15cf6c0602d4f39c2a9dd4753eef5bf5a291615e57df362a63cee9e0dfbe0"), looks := false }, kinds := [], alts := [], laidByText := true, laidKinds := [.data], laidTests := true, laidLooks := .later }
def KindsOwnCardSaid : Prop := Claim7.holds Tryd.pinned (.plain (OpenSpec.ofChange kindsOwnSpec)) kindsOwnCard

/-- THE TIED CARD OF 'comptoirlaw11.KindsNeed'. -/
def kindsNeedCard : Claim7 := { stood := { row := kindsNeedRow, standIns := [], harness := (true, "8bc15cf6c0602d4f39c2a9dd4753eef5bf5a291615e57df362a63cee9e0dfbe0"), looks := false }, kinds := [], alts := [], laidByText := true, laidKinds := [.data], laidTests := true, laidLooks := .later }
def KindsNeedCardSaid : Prop := Claim7.holds Tryd.pinned (.plain (OpenSpec.ofChange kindsNeedSpec)) kindsNeedCard

/-- THE TIED CARD OF 'comptoirlaw11.KindsAnswers'. -/
def kindsAnswersCard : Claim7 := { stood := { row := kindsAnswersRow, standIns := [], harness := (true, "8bc15cf6c0602d4f39c2a9dd4753eef5bf5a291615e57df362a63cee9e0dfbe0"), looks := false }, kinds := [], alts := [], laidByText := true, laidKinds := [.data], laidTests := true, laidLooks := .later }
def KindsAnswersCardSaid : Prop := Claim7.holds Tryd.pinned (.plain (OpenSpec.ofChange kindsAnswersSpec)) kindsAnswersCard

/-- THE TIED CARD OF 'comptoirlaw11.KindsAmounts'. -/
def kindsAmountsCard : Claim7 := { stood := { row := kindsAmountsRow, standIns := [], harness := (true, "8bc15cf6c0602d4f39c2a9dd4753eef5bf5a291615e57df362a63cee9e0dfbe0"), looks := false }, kinds := [], alts := [], laidByText := true, laidKinds := [.data], laidTests := true, laidLooks := .later }
def KindsAmountsCardSaid : Prop := Claim7.holds Tryd.pinned (.plain (OpenSpec.ofChange kindsAmountsSpec)) kindsAmountsCard

/-- THE SECOND FORM's CARD OF 'comptoirlaw11.KindsTell'. -/
def kindsTellUptoCard : Claim7 := { stood := { row := kindsTellUptoRow, standIns := [], harness := (true, "8bc15cf6c0602d4f39c2a9dd4753eef5bf5a291615e57df362a63cee9e0dfbe0"), looks := false }, kinds := [], alts := [], laidByText := true, laidKinds := [.data], laidTests := true, laidLooks := .later }
def KindsTellUptoCardSaid : Prop := Claim7.holds Tryd.pinned (.plain (OpenSpec.upto kindsTellSpec)) kindsTellUptoCard

/-- THE SECOND FORM's CARD OF 'comptoirlaw11.KindsOwn'. -/
def kindsOwnUptoCard : Claim7 := { stood := { row := kindsOwnUptoRow, standIns := [], harness := (true, "8bc15cf6c0602d4f39c2a9dd4753eef5bf5a291615e57df362a63cee9e0dfbe0"), looks := false }, kinds := [], alts := [], laidByText := true, laidKinds := [.data], laidTests := true, laidLooks := .later }
def KindsOwnUptoCardSaid : Prop := Claim7.holds Tryd.pinned (.plain (OpenSpec.upto kindsOwnSpec)) kindsOwnUptoCard

/-- THE SECOND FORM's CARD OF 'comptoirlaw11.KindsNeed'. -/
def kindsNeedUptoCard : Claim7 := { stood := { row := kindsNeedUptoRow, standIns := [], harness := (true, "8bc15cf6c0602d4f39c2a9dd4753eef5bf5a291615e57df362a63cee9e0dfbe0"), looks := false }, kinds := [], alts := [], laidByText := true, laidKinds := [.data], laidTests := true, laidLooks := .later }
def KindsNeedUptoCardSaid : Prop := Claim7.holds Tryd.pinned (.plain (OpenSpec.upto kindsNeedSpec)) kindsNeedUptoCard

/-- THE SECOND FORM's CARD OF 'comptoirlaw11.KindsAnswers'. -/
def kindsAnswersUptoCard : Claim7 := { stood := { row := kindsAnswersUptoRow, standIns := [], harness := (true, "8bc15cf6c0602d4f39c2a9dd4753eef5bf5a291615e57df362a63cee9e0dfbe0"), looks := false }, kinds := [], alts := [], laidByText := true, laidKinds := [.data], laidTests := true, laidLooks := .later }
def KindsAnswersUptoCardSaid : Prop := Claim7.holds Tryd.pinned (.plain (OpenSpec.upto kindsAnswersSpec)) kindsAnswersUptoCard

/-- THE SECOND FORM's CARD OF 'comptoirlaw11.KindsAmounts'. -/
def kindsAmountsUptoCard : Claim7 := { stood := { row := kindsAmountsUptoRow, standIns := [], harness := (true, "8bc15cf6c0602d4f39c2a9dd4753eef5bf5a291615e57df362a63cee9e0dfbe0"), looks := false }, kinds := [], alts := [], laidByText := true, laidKinds := [.data], laidTests := true, laidLooks := .later }
def KindsAmountsUptoCardSaid : Prop := Claim7.holds Tryd.pinned (.plain (OpenSpec.upto kindsAmountsSpec)) kindsAmountsUptoCard
end Rows
end Go.Proofs.YtdenaejinlkfgaaDoor
