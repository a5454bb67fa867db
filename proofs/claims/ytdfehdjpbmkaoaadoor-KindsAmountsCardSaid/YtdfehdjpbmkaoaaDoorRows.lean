/-
  NARROWER THAN 'FOR EVERY INPUT', by the rows' own cells (each row's printed sentence says how): KindsNeed: laid · KindsAmounts: laid.
  DERIVED. THE GIVEN ROWS OF THIS SEAT. 2 by the template 'for every input the law returns true; each argument reads behind the call as it read before'; 0 by the template 'total and deterministic' (their statements: YtdfehdjpbmkaoaaDoorTotals.lean).
  GIVEN WITH THE SEED: the statements are not yours to turn. If you find one false, say at which input.
  Laid BY PROGRAM, IN A SANDBOX (cutbox-rows.mjs): the forced cells as the released guide's own fill.sh prints them over the translation 101f817703575c37… (all of the seat's roots in one cut). By AI agents, Wed Nov 11 2026. No macro, syntax, notation, axiom, sorry.
-/
import Derived.Test.YtdfehdjpbmkaoaaDoorChecked
import GoSem.Claim
import GoSem.ClaimJoined
import GoSem.ClaimMapViews
import Derived.JoinedTies
import Derived.KernelRfl
namespace Go.Proofs.YtdfehdjpbmkaoaaDoor
/- THE CELL 'sum', in the pinned program and in every row, IS THE sha256 OF THE DUMP (.gsa) THAT YtdfehdjpbmkaoaaDoorProg.lean LOADS. Nothing in Lean hashes anything: it is a label: what it is worth is what the hold of that sum in a sandbox is worth. -/
noncomputable def Tryd.pinned : Pinned := { name := "ytdfehdjpbmkaoaadoor", sum := "101f817703575c37043ed465078928bc38d4447ea587017e01a453e756b29e93", checked := Tryd.checked }
namespace Rows
def none {H : Type} : Left H := { results := [], args := [] }

/- WHAT THE LISTED PACKAGE-LEVEL VARIABLES READ AS WHEN THE CALL BEGINS. Each datum BY PROGRAM (the guide's laid-datum.mjs) off the statement by which the dump's own 'gosem.cut.vars' lays the variable. In a bare row this is a premise. The card (YtdfehdjpbmkaoaaDoorCards.lean) ties it to the program's text. -/
def laid_comptoir_kinds_table {H : Type} : DataW H := .agg [.agg [.lit (.int .i64 1), .lit (.string [65, 85, 84, 81]), .lit (.string [50, 49, 48, 48]), .lit (.int .u16 27), .lit (.int .u16 1092)], .agg [.lit (.int .i64 2), .lit (.string [65, 85, 84, 80]), .lit (.string [50, 49, 49, 48]), .lit (.int .u16 128), .lit (.int .u16 1063)], .agg [.lit (.int .i64 3), .lit (.string [67, 77, 80, 86]), .lit (.string [50, 50, 50, 48]), .lit (.int .u16 27), .lit (.int .u16 740)], .agg [.lit (.int .i64 4), .lit (.string [67, 77, 80, 75]), .lit (.string [50, 50, 51, 48]), .lit (.int .u16 128), .lit (.int .u16 4)], .agg [.lit (.int .i64 5), .lit (.string [82, 86, 82, 65]), .lit (.string [50, 52, 50, 48]), .lit (.int .u16 771), .lit (.int .u16 28)], .agg [.lit (.int .i64 6), .lit (.string [82, 86, 82, 82]), .lit (.string [50, 52, 51, 48]), .lit (.int .u16 128), .lit (.int .u16 4)], .agg [.lit (.int .i64 7), .lit (.string [82, 67, 76, 81]), .lit (.string [50, 53, 50, 48]), .lit (.int .u16 2), .lit (.int .u16 0)], .agg [.lit (.int .i64 8), .lit (.string [82, 67, 76, 80]), .lit (.string [50, 53, 51, 48]), .lit (.int .u16 128), .lit (.int .u16 2)], .agg [.lit (.int .i64 9), .lit (.string [68, 71, 78, 81]), .lit (.string [50, 56, 48, 48]), .lit (.int .u16 0), .lit (.int .u16 0)], .agg [.lit (.int .i64 10), .lit (.string [68, 71, 78, 80]), .lit (.string [50, 56, 49, 48]), .lit (.int .u16 128), .lit (.int .u16 0)], .agg [.lit (.int .i64 11), .lit (.string [82, 74, 67, 84]), .lit (.string [50, 54, 52, 52]), .lit (.int .u16 256), .lit (.int .u16 0)]]

/-- 'comptoirlaw11.KindsNeed': WHATEVER THE INPUT: true; the input reads as it did. -/
def kindsNeedSpec : ChangeSpec := { name := "kindsNeed", fn := fun _ => fun
  | [d1, d2, d3] => { results := [.lit (.bool true)], args := [d1, d2, d3] }
  | _ => none }
def kindsNeedRow : OpenClaim := { program := "ytdfehdjpbmkaoaadoor", sum := "101f817703575c37043ed465078928bc38d4447ea587017e01a453e756b29e93", func := "comptoir/comptoirlaw11.KindsNeed", spec := "kindsNeed", unfollowed := true, recurses := true, named := ["comptoir/kinds.table"], apart := false, laid := [("comptoir/kinds.table", laid_comptoir_kinds_table)] }
def KindsNeedSaid : Prop := kindsNeedRow.holds Tryd.pinned (OpenSpec.ofChange kindsNeedSpec)

/-- ITS FALSE NEIGHBOUR: 'it returns false'. Refute it at one input. -/
def kindsNeedWrong : ChangeSpec := { name := "kindsNeed", fn := fun _ => fun
  | [d1, d2, d3] => { results := [.lit (.bool false)], args := [d1, d2, d3] }
  | _ => none }
def KindsNeedWrongFalsely : Prop := kindsNeedRow.holds Tryd.pinned (OpenSpec.ofChange kindsNeedWrong)

/-- 'comptoirlaw11.KindsAmounts': WHATEVER THE INPUT: true; the input reads as it did. -/
def kindsAmountsSpec : ChangeSpec := { name := "kindsAmounts", fn := fun _ => fun
  | [d1, d2, d3] => { results := [.lit (.bool true)], args := [d1, d2, d3] }
  | _ => none }
def kindsAmountsRow : OpenClaim := { program := "ytdfehdjpbmkaoaadoor", sum := "101f817703575c37043ed465078928bc38d4447ea587017e01a453e756b29e93", func := "comptoir/comptoirlaw11.KindsAmounts", spec := "kindsAmounts", unfollowed := true, recurses := true, named := ["comptoir/kinds.table"], apart := false, laid := [("comptoir/kinds.table", laid_comptoir_kinds_table)] }
def KindsAmountsSaid : Prop := kindsAmountsRow.holds Tryd.pinned (OpenSpec.ofChange kindsAmountsSpec)

/-- ITS FALSE NEIGHBOUR: 'it returns false'. Refute it at one input. -/
def kindsAmountsWrong : ChangeSpec := { name := "kindsAmounts", fn := fun _ => fun
  | [d1, d2, d3] => { results := [.lit (.bool false)], args := [d1, d2, d3] }
  | _ => none }
def KindsAmountsWrongFalsely : Prop := kindsAmountsRow.holds Tryd.pinned (OpenSpec.ofChange kindsAmountsWrong)

/- THE SECOND FORM. 'bulk': how many values and letters a reading holds, each counted each time it is reached (what is shared counts as often as it is met; a slice's spare places count too). A statement '..UptoSaid' is the law's where the arguments, and the package variables that the reading takes, are together of bulk at most 1048576: NARROWER than '..Said'. Prove '..Said' where nothing that the law and all that it calls make is longer than what came in: it says more and counts as full. Else prove '..UptoSaid'. A law counts once. -/
mutual
def uptoBulk {H : Type} : DataW H → Nat
  | .lit (.string bytes) => bytes.length + 1
  | .lit _ => 1
  | .nil => 1
  | .ptr d => uptoBulk d + 1
  | .slice elems spare => uptoBulkAll elems + uptoBulkAll spare + 1
  | .agg parts => uptoBulkAll parts + 1
  | .iface _ d => uptoBulk d + 1
  | .map entries => uptoBulkEntries entries + 1
  | .held _ => 1
def uptoBulkAll {H : Type} : List (DataW H) → Nat
  | [] => 0
  | d :: r => uptoBulk d + uptoBulkAll r
def uptoBulkEntries {H : Type} : List (Lit × DataW H) → Nat
  | [] => 0
  | x :: r => uptoBulkEntry x + uptoBulkEntries r
def uptoBulkEntry {H : Type} : Lit × DataW H → Nat
  | (.string bytes, d) => bytes.length + uptoBulk d + 1
  | (_, d) => uptoBulk d + 1
 end
def uptoSmall : (H : Type) → List (DataW H) → Bool := fun _ ds => decide (uptoBulkAll ds ≤ 1048576)
def OpenSpec.upto (s : _root_.Go.ChangeSpec) : _root_.Go.OpenSpec := { _root_.Go.OpenSpec.ofChange s with cond := some uptoSmall }

/-- 'comptoirlaw11.KindsNeed', WHERE WHAT IT READS IS OF BULK AT MOST 1048576: true; the input reads as it did. -/
def kindsNeedUptoRow : OpenClaim := { program := "ytdfehdjpbmkaoaadoor", sum := "101f817703575c37043ed465078928bc38d4447ea587017e01a453e756b29e93", func := "comptoir/comptoirlaw11.KindsNeed", spec := "kindsNeed", unfollowed := true, recurses := true, named := ["comptoir/kinds.table"], apart := false, laid := [("comptoir/kinds.table", laid_comptoir_kinds_table)], narrowed := true }
def KindsNeedUptoSaid : Prop := kindsNeedUptoRow.holds Tryd.pinned (OpenSpec.upto kindsNeedSpec)

/-- 'comptoirlaw11.KindsAmounts', WHERE WHAT IT READS IS OF BULK AT MOST 1048576: true; the input reads as it did. -/
def kindsAmountsUptoRow : OpenClaim := { program := "ytdfehdjpbmkaoaadoor", sum := "101f817703575c37043ed465078928bc38d4447ea587017e01a453e756b29e93", func := "comptoir/comptoirlaw11.KindsAmounts", spec := "kindsAmounts", unfollowed := true, recurses := true, named := ["comptoir/kinds.table"], apart := false, laid := [("comptoir/kinds.table", laid_comptoir_kinds_table)], narrowed := true }
def KindsAmountsUptoSaid : Prop := kindsAmountsUptoRow.holds Tryd.pinned (OpenSpec.upto kindsAmountsSpec)

end Rows
end Go.Proofs.YtdfehdjpbmkaoaaDoor
