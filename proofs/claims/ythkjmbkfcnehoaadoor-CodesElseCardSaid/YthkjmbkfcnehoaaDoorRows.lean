/-
  NARROWER THAN 'FOR EVERY INPUT', by the rows' own cells (each row's printed sentence says how): CodesTell: laid · CodesOwn: laid · CodesElse: laid.
  DERIVED. THE GIVEN ROWS OF THIS SEAT. 3 by the template 'for every input the law returns true; each argument reads behind the call as it read before'; 0 by the template 'total and deterministic' (their statements: YthkjmbkfcnehoaaDoorTotals.lean).
  GIVEN WITH THE SEED: the statements are not yours to turn. If you find one false, say at which input.
  Laid BY PROGRAM, IN A SANDBOX (cutbox-rows.mjs): the forced cells as the released guide's own fill.sh prints them over the translation 657681af04b2b574… (all of the seat's roots in one cut). By AI agents, Wed Nov 11 2026. No macro, syntax, notation, axiom, sorry.
-/
import Derived.Test.YthkjmbkfcnehoaaDoorChecked
import GoSem.Claim
import GoSem.ClaimJoined
import GoSem.ClaimMapViews
import Derived.JoinedTies
import Derived.KernelRfl
namespace Go.Proofs.YthkjmbkfcnehoaaDoor
/- THE CELL 'sum', in the pinned program and in every row, IS THE sha256 OF THE DUMP (.gsa) THAT YthkjmbkfcnehoaaDoorProg.lean LOADS. Nothing in Lean hashes anything: it is a label: what it is worth is what the hold of that sum in a sandbox is worth. -/
noncomputable def Tryd.pinned : Pinned := { name := "ythkjmbkfcnehoaadoor", sum := "657681af04b2b574a93b94b1ecc801fabb9f33e29be937b7210f94813f16537d", checked := Tryd.checked }
namespace Rows
def none {H : Type} : Left H := { results := [], args := [] }

/- WHAT THE LISTED PACKAGE-LEVEL VARIABLES READ AS WHEN THE CALL BEGINS. Each datum BY PROGRAM (the guide's laid-datum.mjs) off the statement by which the dump's own 'gosem.cut.vars' lays the variable. In a bare row this is a premise. The card (YthkjmbkfcnehoaaDoorCards.lean) ties it to the program's text. -/
def laid_comptoir_codes_table {H : Type} : DataW H := .agg [.agg [.lit (.string [48, 48, 48]), .lit (.string [65, 80, 80, 82]), .lit (.string [78, 79, 82, 77])], .agg [.lit (.string [48, 48, 49]), .lit (.string [65, 80, 80, 82]), .lit (.string [73, 68, 69, 78])], .agg [.lit (.string [48, 48, 50]), .lit (.string [80, 65, 82, 84]), .lit (.string [78, 79, 82, 77])], .agg [.lit (.string [49, 48, 48]), .lit (.string [68, 69, 67, 76]), .lit (.string [78, 79, 82, 77])], .agg [.lit (.string [49, 48, 49]), .lit (.string [68, 69, 67, 76]), .lit (.string [69, 88, 80, 68])], .agg [.lit (.string [49, 48, 50]), .lit (.string [68, 69, 67, 76]), .lit (.string [70, 82, 65, 85])], .agg [.lit (.string [49, 48, 52]), .lit (.string [68, 69, 67, 76]), .lit (.string [82, 69, 83, 84])], .agg [.lit (.string [49, 48, 57]), .lit (.string [68, 69, 67, 76]), .lit (.string [77, 82, 67, 72])], .agg [.lit (.string [49, 49, 48]), .lit (.string [68, 69, 67, 76]), .lit (.string [65, 77, 78, 84])], .agg [.lit (.string [49, 49, 54]), .lit (.string [68, 69, 67, 76]), .lit (.string [73, 78, 83, 70])], .agg [.lit (.string [49, 49, 55]), .lit (.string [68, 69, 67, 76]), .lit (.string [80, 73, 78, 86])], .agg [.lit (.string [49, 49, 56]), .lit (.string [68, 69, 67, 76]), .lit (.string [78, 79, 67, 68])], .agg [.lit (.string [49, 50, 49]), .lit (.string [68, 69, 67, 76]), .lit (.string [76, 73, 77, 84])], .agg [.lit (.string [50, 48, 48]), .lit (.string [80, 73, 67, 75]), .lit (.string [78, 79, 82, 77])], .agg [.lit (.string [52, 48, 48]), .lit (.string [82, 86, 83, 76]), .lit (.string [78, 79, 82, 77])], .agg [.lit (.string [53, 48, 48]), .lit (.string [82, 69, 67, 78]), .lit (.string [78, 79, 82, 77])], .agg [.lit (.string [56, 48, 48]), .lit (.string [78, 69, 84, 87]), .lit (.string [78, 79, 82, 77])], .agg [.lit (.string [57, 48, 52]), .lit (.string [84, 69, 67, 72]), .lit (.string [70, 79, 82, 77])], .agg [.lit (.string [57, 48, 55]), .lit (.string [84, 69, 67, 72]), .lit (.string [73, 83, 83, 82])], .agg [.lit (.string [57, 48, 57]), .lit (.string [84, 69, 67, 72]), .lit (.string [66, 85, 83, 89])], .agg [.lit (.string [57, 49, 49]), .lit (.string [84, 69, 67, 72]), .lit (.string [84, 73, 77, 79])], .agg [.lit (.string [57, 49, 50]), .lit (.string [84, 69, 67, 72]), .lit (.string [68, 79, 87, 78])]]

/-- 'comptoirlaw13.CodesTell': WHATEVER THE INPUT: true; the input reads as it did. -/
def codesTellSpec : ChangeSpec := { name := "codesTell", fn := fun _ => fun
  | [d1, d2, d3] => { results := [.lit (.bool true)], args := [d1, d2, d3] }
  | _ => none }
def codesTellRow : OpenClaim := { program := "ythkjmbkfcnehoaadoor", sum := "657681af04b2b574a93b94b1ecc801fabb9f33e29be937b7210f94813f16537d", func := "comptoir/comptoirlaw13.CodesTell", spec := "codesTell", unfollowed := true, recurses := true, named := ["comptoir/codes.table"], apart := false, laid := [("comptoir/codes.table", laid_comptoir_codes_table)] }
def CodesTellSaid : Prop := codesTellRow.holds Tryd.pinned (OpenSpec.ofChange codesTellSpec)

/-- ITS FALSE NEIGHBOUR: 'it returns false'. Refute it at one input. -/
def codesTellWrong : ChangeSpec := { name := "codesTell", fn := fun _ => fun
  | [d1, d2, d3] => { results := [.lit (.bool false)], args := [d1, d2, d3] }
  | _ => none }
def CodesTellWrongFalsely : Prop := codesTellRow.holds Tryd.pinned (OpenSpec.ofChange codesTellWrong)

/-- 'comptoirlaw13.CodesOwn': WHATEVER THE INPUT: true; the input reads as it did. -/
def codesOwnSpec : ChangeSpec := { name := "codesOwn", fn := fun _ => fun
  | [d1, d2] => { results := [.lit (.bool true)], args := [d1, d2] }
  | _ => none }
def codesOwnRow : OpenClaim := { program := "ythkjmbkfcnehoaadoor", sum := "657681af04b2b574a93b94b1ecc801fabb9f33e29be937b7210f94813f16537d", func := "comptoir/comptoirlaw13.CodesOwn", spec := "codesOwn", unfollowed := true, recurses := true, named := ["comptoir/codes.table"], apart := false, laid := [("comptoir/codes.table", laid_comptoir_codes_table)] }
def CodesOwnSaid : Prop := codesOwnRow.holds Tryd.pinned (OpenSpec.ofChange codesOwnSpec)

/-- ITS FALSE NEIGHBOUR: 'it returns false'. Refute it at one input. -/
def codesOwnWrong : ChangeSpec := { name := "codesOwn", fn := fun _ => fun
  | [d1, d2] => { results := [.lit (.bool false)], args := [d1, d2] }
  | _ => none }
def CodesOwnWrongFalsely : Prop := codesOwnRow.holds Tryd.pinned (OpenSpec.ofChange codesOwnWrong)

/-- 'comptoirlaw13.CodesElse': WHATEVER THE INPUT: true; the input reads as it did. -/
def codesElseSpec : ChangeSpec := { name := "codesElse", fn := fun _ => fun
  | [d1, d2] => { results := [.lit (.bool true)], args := [d1, d2] }
  | _ => none }
def codesElseRow : OpenClaim := { program := "ythkjmbkfcnehoaadoor", sum := "657681af04b2b574a93b94b1ecc801fabb9f33e29be937b7210f94813f16537d", func := "comptoir/comptoirlaw13.CodesElse", spec := "codesElse", unfollowed := true, recurses := true, named := ["comptoir/codes.table"], apart := false, laid := [("comptoir/codes.table", laid_comptoir_codes_table)] }
def CodesElseSaid : Prop := codesElseRow.holds Tryd.pinned (OpenSpec.ofChange codesElseSpec)

/-- ITS FALSE NEIGHBOUR: 'it returns false'. Refute it at one input. -/
def codesElseWrong : ChangeSpec := { name := "codesElse", fn := fun _ => fun
  | [d1, d2] => { results := [.lit (.bool false)], args := [d1, d2] }
  | _ => none }
def CodesElseWrongFalsely : Prop := codesElseRow.holds Tryd.pinned (OpenSpec.ofChange codesElseWrong)

/- THE SECOND FORM. 'bulk': how many values and letters a reading holds, each counted each time it is reached (what is shared counts as often as it is met; a slice's spare places count too). A statement '..UptoSaid' is the law's where the arguments, and the package variables that the reading takes, are together of bulk at most 1048576: NARROWER than '..Said'. Prove '..Said' where nothing that the law and all that it calls make is longer than what came in: it says more and counts as full. Else prove '..UptoSaid'. A law counts once. -/
mutual
def uptoBulk {H : Type} : DataW H → Nat
  | .lit (.string bytes) => bytes.length + 1
  | .lit _ => 1
  | .nil => 1
  | .ptr d => uptoBulk d + 1
  | .slice elems spare => uptoBulkAll elems + uptoBulkAll spare + 1
  | .agg parts => uptoBulkAll parts + 1
  | .iface _ d => uptoBulk d + 1
  | .map entries => uptoBulkEntries entries + 1
  | .held _ => 1
def uptoBulkAll {H : Type} : List (DataW H) → Nat
  | [] => 0
  | d :: r => uptoBulk d + uptoBulkAll r
def uptoBulkEntries {H : Type} : List (Lit × DataW H) → Nat
  | [] => 0
  | x :: r => uptoBulkEntry x + uptoBulkEntries r
def uptoBulkEntry {H : Type} : Lit × DataW H → Nat
  | (.string bytes, d) => bytes.length + uptoBulk d + 1
  | (_, d) => uptoBulk d + 1
 end
def uptoSmall : (H : Type) → List (DataW H) → Bool := fun _ ds => decide (uptoBulkAll ds ≤ 1048576)
def OpenSpec.upto (s : _root_.Go.ChangeSpec) : _root_.Go.OpenSpec := { _root_.Go.OpenSpec.ofChange s with cond := some uptoSmall }

/-- 'comptoirlaw13.CodesTell', WHERE WHAT IT READS IS OF BULK AT MOST 1048576: true; the input reads as it did. -/
def codesTellUptoRow : OpenClaim := { program := "ythkjmbkfcnehoaadoor", sum := "657681af04b2b574a93b94b1ecc801fabb9f33e29be937b7210f94813f16537d", func := "comptoir/comptoirlaw13.CodesTell", spec := "codesTell", unfollowed := true, recurses := true, named := ["comptoir/codes.table"], apart := false, laid := [("comptoir/codes.table", laid_comptoir_codes_table)], narrowed := true }
def CodesTellUptoSaid : Prop := codesTellUptoRow.holds Tryd.pinned (OpenSpec.upto codesTellSpec)

/-- 'comptoirlaw13.CodesOwn', WHERE WHAT IT READS IS OF BULK AT MOST 1048576: true; the input reads as it did. -/
def codesOwnUptoRow : OpenClaim := { program := "ythkjmbkfcnehoaadoor", sum := "657681af04b2b574a93b94b1ecc801fabb9f33e29be937b7210f94813f16537d", func := "comptoir/comptoirlaw13.CodesOwn", spec := "codesOwn", unfollowed := true, recurses := true, named := ["comptoir/codes.table"], apart := false, laid := [("comptoir/codes.table", laid_comptoir_codes_table)], narrowed := true }
def CodesOwnUptoSaid : Prop := codesOwnUptoRow.holds Tryd.pinned (OpenSpec.upto codesOwnSpec)

/-- 'comptoirlaw13.CodesElse', WHERE WHAT IT READS IS OF BULK AT MOST 1048576: true; the input reads as it did. -/
def codesElseUptoRow : OpenClaim := { program := "ythkjmbkfcnehoaadoor", sum := "657681af04b2b574a93b94b1ecc801fabb9f33e29be937b7210f94813f16537d", func := "comptoir/comptoirlaw13.CodesElse", spec := "codesElse", unfollowed := true, recurses := true, named := ["comptoir/codes.table"], apart := false, laid := [("comptoir/codes.table", laid_comptoir_codes_table)], narrowed := true }
def CodesElseUptoSaid : Prop := codesElseUptoRow.holds Tryd.pinned (OpenSpec.upto codesElseSpec)

end Rows
end Go.Proofs.YthkjmbkfcnehoaaDoor
