/-
  DERIVED. GIVEN WITH THE SEED: THE CARDS: each row of YtdfehdjpbmkaoaaDoorRows.lean that lists a variable, with what it lists TIED to the program's text (the seventh form; the later family's looks); each row that meets fmt, with fmt's text TOLD by the authors' own Lean function (tested against real Go, not proved from fmt's source: count such statements apart). THE CARD IS WHAT COUNTS. Prove the row's statement (the work); the ties are given (YtdfehdjpbmkaoaaDoorTie.lean); close each card by the builder's one call (the guide's Derived/Test/ToyasCard.lean, 'card_holds'). Laid BY PROGRAM, IN A SANDBOX (cutbox-door.mjs). By AI agents, Wed Nov 11 2026. No macro, syntax, notation, axiom, sorry.
-/
import Derived.Test.YtdfehdjpbmkaoaaDoorRows
import GoSem.ClaimSeven
namespace Go.Proofs.YtdfehdjpbmkaoaaDoor
namespace Rows

/-- THE TIED CARD OF 'comptoirlaw11.KindsNeed'. -/
def kindsNeedCard : Claim7 := { stood := { row := kindsNeedRow, standIns := [], harness := (true, "c0d7ea2fdf3de6e52c83e979af5337b303fde8986210002333429955b8570588"), looks := false }, kinds := [], alts := [], laidByText := true, laidKinds := [.data], laidTests := true, laidLooks := .later }
def KindsNeedCardSaid : Prop := Claim7.holds Tryd.pinned (.plain (OpenSpec.ofChange kindsNeedSpec)) kindsNeedCard

/-- THE TIED CARD OF 'comptoirlaw11.KindsAmounts'. -/
def kindsAmountsCard : Claim7 := { stood := { row := kindsAmountsRow, standIns := [], harness := (true, "c0d7ea2fdf3de6e52c83e979af5337b303fde8986210002333429955b8570588"), looks := false }, kinds := [], alts := [], laidByText := true, laidKinds := [.data], laidTests := true, laidLooks := .later }
def KindsAmountsCardSaid : Prop := Claim7.holds Tryd.pinned (.plain (OpenSpec.ofChange kindsAmountsSpec)) kindsAmountsCard

/-- THE SECOND FORM's CARD OF 'comptoirlaw11.KindsNeed'. -/
def kindsNeedUptoCard : Claim7 := { stood := { row := kindsNeedUptoRow, standIns := [], harness := (true, "c0d7ea2fdf3de6e52c83e979af5337b303fde8986210002333429955b8570588"), looks := false }, kinds := [], alts := [], laidByText := true, laidKinds := [.data], laidTests := true, laidLooks := .later }
def KindsNeedUptoCardSaid : Prop := Claim7.holds Tryd.pinned (.plain (OpenSpec.upto kindsNeedSpec)) kindsNeedUptoCard

/-- THE SECOND FORM's CARD OF 'comptoirlaw11.KindsAmounts'. -/
def kindsAmountsUptoCard : Claim7 := { stood := { row := kindsAmountsUptoRow, standIns := [], harness := (true, "c0d7ea2fdf3de6e52c83e979af5337b303fde8986210002333429955b8570588"), looks := false }, kinds := [], alts := [], laidByText := true, laidKinds := [.data], laidTests := true, laidLooks := .later }
def KindsAmountsUptoCardSaid : Prop := Claim7.holds Tryd.pinned (.plain (OpenSpec.upto kindsAmountsSpec)) kindsAmountsUptoCard
end Rows
end Go.Proofs.YtdfehdjpbmkaoaaDoor
