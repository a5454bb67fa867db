/-
  No cell of these rows narrows 'for every input' (looked for: loops, veiled, ifaces, maps, wideKeys, modest, calm, conditions, laid).
  DERIVED. THE GIVEN ROWS OF THIS SEAT. 2 by the template 'for every input the law returns true; each argument reads behind the call as it read before'; 0 by the template 'total and deterministic' (their statements: YtbaadbegnckbpaaTotals.lean).
  GIVEN WITH THE SEED: the statements are not yours to turn. If you find one false, say at which input.
  Laid BY PROGRAM, IN A SANDBOX (cutbox-rows.mjs): the forced cells as the released guide's own fill.sh prints them over the translation 14a41b3e9ca2714b… (all of the seat's roots in one cut). By AI agents, Wed Nov 11 2026. No macro, syntax, notation, axiom, sorry.
-/
import Derived.Test.YtbaadbegnckbpaaChecked
import GoSem.Claim
import GoSem.ClaimJoined
import GoSem.ClaimMapViews
import Derived.JoinedTies
import Derived.KernelRfl
namespace Go.Proofs.Ytbaadbegnckbpaa
/- THE CELL 'sum', in the pinned program and in every row, IS THE sha256 OF THE DUMP (.gsa) THAT YtbaadbegnckbpaaProg.lean LOADS. Nothing in Lean hashes anything: it is a label: what it is worth is what the hold of that sum in a sandbox is worth. -/
noncomputable def Try.pinned : Pinned := { name := "ytbaadbegnckbpaa", sum := "14a41b3e9ca2714b0ab47bf11cb4fe1288647788acdcfb570957941e962d2330", checked := Try.checked }
namespace Rows
def none {H : Type} : Left H := { results := [], args := [] }

/-- 'comptoirlaw02.DigitsRefuse': WHATEVER THE INPUT: true; the input reads as it did. -/
def digitsRefuseSpec : ChangeSpec := { name := "digitsRefuse", fn := fun _ => fun
  | [d1, d2, d3] => { results := [.lit (.bool true)], args := [d1, d2, d3] }
  | _ => none }
def digitsRefuseRow : OpenClaim := { program := "ytbaadbegnckbpaa", sum := "14a41b3e9ca2714b0ab47bf11cb4fe1288647788acdcfb570957941e962d2330", func := "comptoir/comptoirlaw02.DigitsRefuse", spec := "digitsRefuse", unfollowed := true, recurses := true, apart := false }
def DigitsRefuseSaid : Prop := digitsRefuseRow.holds Try.pinned (OpenSpec.ofChange digitsRefuseSpec)

/-- ITS FALSE NEIGHBOUR: 'it returns false'. Refute it at one input. -/
def digitsRefuseWrong : ChangeSpec := { name := "digitsRefuse", fn := fun _ => fun
  | [d1, d2, d3] => { results := [.lit (.bool false)], args := [d1, d2, d3] }
  | _ => none }
def DigitsRefuseWrongFalsely : Prop := digitsRefuseRow.holds Try.pinned (OpenSpec.ofChange digitsRefuseWrong)

/-- 'comptoirlaw02.DigitsHalves': WHATEVER THE INPUT: true; the input reads as it did. -/
def digitsHalvesSpec : ChangeSpec := { name := "digitsHalves", fn := fun _ => fun
  | [d] => { results := [.lit (.bool true)], args := [d] }
  | _ => none }
def digitsHalvesRow : OpenClaim := { program := "ytbaadbegnckbpaa", sum := "14a41b3e9ca2714b0ab47bf11cb4fe1288647788acdcfb570957941e962d2330", func := "comptoir/comptoirlaw02.DigitsHalves", spec := "digitsHalves", unfollowed := true, recurses := true, apart := false }
def DigitsHalvesSaid : Prop := digitsHalvesRow.holds Try.pinned (OpenSpec.ofChange digitsHalvesSpec)

/-- ITS FALSE NEIGHBOUR: 'it returns false'. Refute it at one input. -/
def digitsHalvesWrong : ChangeSpec := { name := "digitsHalves", fn := fun _ => fun
  | [d] => { results := [.lit (.bool false)], args := [d] }
  | _ => none }
def DigitsHalvesWrongFalsely : Prop := digitsHalvesRow.holds Try.pinned (OpenSpec.ofChange digitsHalvesWrong)

/- THE SECOND FORM. 'bulk': how many values and letters a reading holds, each counted each time it is reached (what is shared counts as often as it is met; a slice's spare places count too). A statement '..UptoSaid' is the law's where the arguments, and the package variables that the reading takes, are together of bulk at most 1048576: NARROWER than '..Said'. Prove '..Said' where nothing that the law and all that it calls make is longer than what came in: it says more and counts as full. Else prove '..UptoSaid'. A law counts once. -/
mutual
def uptoBulk {H : Type} : DataW H → Nat
  | .lit (.string bytes) => bytes.length + 1
  | .lit _ => 1
  | .nil => 1
  | .ptr d => uptoBulk d + 1
  | .slice elems spare => uptoBulkAll elems + uptoBulkAll spare + 1
  | .agg parts => uptoBulkAll parts + 1
  | .iface _ d => uptoBulk d + 1
  | .map entries => uptoBulkEntries entries + 1
  | .held _ => 1
def uptoBulkAll {H : Type} : List (DataW H) → Nat
  | [] => 0
  | d :: r => uptoBulk d + uptoBulkAll r
def uptoBulkEntries {H : Type} : List (Lit × DataW H) → Nat
  | [] => 0
  | x :: r => uptoBulkEntry x + uptoBulkEntries r
def uptoBulkEntry {H : Type} : Lit × DataW H → Nat
  | (.string bytes, d) => bytes.length + uptoBulk d + 1
  | (_, d) => uptoBulk d + 1
 end
def uptoSmall : (H : Type) → List (DataW H) → Bool := fun _ ds => decide (uptoBulkAll ds ≤ 1048576)
def OpenSpec.upto (s : _root_.Go.ChangeSpec) : _root_.Go.OpenSpec := { _root_.Go.OpenSpec.ofChange s with cond := some uptoSmall }

/-- 'comptoirlaw02.DigitsRefuse', WHERE WHAT IT READS IS OF BULK AT MOST 1048576: true; the input reads as it did. -/
def digitsRefuseUptoRow : OpenClaim := { program := "ytbaadbegnckbpaa", sum := "14a41b3e9ca2714b0ab47bf11cb4fe1288647788acdcfb570957941e962d2330", func := "comptoir/comptoirlaw02.DigitsRefuse", spec := "digitsRefuse", unfollowed := true, recurses := true, apart := false, narrowed := true }
def DigitsRefuseUptoSaid : Prop := digitsRefuseUptoRow.holds Try.pinned (OpenSpec.upto digitsRefuseSpec)

/-- 'comptoirlaw02.DigitsHalves', WHERE WHAT IT READS IS OF BULK AT MOST 1048576: true; the input reads as it did. -/
def digitsHalvesUptoRow : OpenClaim := { program := "ytbaadbegnckbpaa", sum := "14a41b3e9ca2714b0ab47bf11cb4fe1288647788acdcfb570957941e962d2330", func := "comptoir/comptoirlaw02.DigitsHalves", spec := "digitsHalves", unfollowed := true, recurses := true, apart := false, narrowed := true }
def DigitsHalvesUptoSaid : Prop := digitsHalvesUptoRow.holds Try.pinned (OpenSpec.upto digitsHalvesSpec)

end Rows
end Go.Proofs.Ytbaadbegnckbpaa
