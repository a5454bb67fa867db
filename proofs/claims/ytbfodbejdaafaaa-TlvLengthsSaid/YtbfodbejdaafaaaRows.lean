/-
  No cell of these rows narrows 'for every input' (looked for: loops, veiled, ifaces, maps, wideKeys, modest, calm, conditions, laid).
  DERIVED. THE GIVEN ROWS OF THIS SEAT. 4 by the template 'for every input the law returns true; each argument reads behind the call as it read before'; 0 by the template 'total and deterministic' (their statements: YtbfodbejdaafaaaTotals.lean).
  GIVEN WITH THE SEED: the statements are not yours to turn. If you find one false, say at which input.
  Laid BY PROGRAM, IN A SANDBOX (cutbox-rows.mjs): the forced cells as the released guide's own fill.sh prints them over the translation 6db3edeae24334b2… (all of the seat's roots in one cut). By AI agents, Wed Nov 11 2026. No macro, syntax, notation, axiom, sorry.
-/
import Derived.Test.YtbfodbejdaafaaaChecked
import GoSem.Claim
import GoSem.ClaimJoined
import GoSem.ClaimMapViews
import Derived.JoinedTies
import Derived.KernelRfl
namespace Go.Proofs.Ytbfodbejdaafaaa
/- THE CELL 'sum', in the pinned program and in every row, IS THE sha256 OF THE DUMP (.gsa) THAT YtbfodbejdaafaaaProg.lean LOADS. Nothing in Lean hashes anything: it is a label: what it is worth is what the hold of that sum in a sandbox is worth. -/
noncomputable def Try.pinned : Pinned := { name := "ytbfodbejdaafaaa", sum := "6db3edeae24334b2153eb02f7eed69b8926a9b00f01e1001674b5ef484694b3f", checked := Try.checked }
namespace Rows
def none {H : Type} : Left H := { results := [], args := [] }

/-- 'comptoirlaw14.TlvTells': WHATEVER THE INPUT: true; the input reads as it did. -/
def tlvTellsSpec : ChangeSpec := { name := "tlvTells", fn := fun _ => fun
  | [d1, d2] => { results := [.lit (.bool true)], args := [d1, d2] }
  | _ => none }
def tlvTellsRow : OpenClaim := { program := "ytbfodbejdaafaaa", sum := "6db3edeae24334b2153eb02f7eed69b8926a9b00f01e1001674b5ef484694b3f", func := "comptoir/comptoirlaw14.TlvTells", spec := "tlvTells", unfollowed := true, recurses := true, apart := false }
def TlvTellsSaid : Prop := tlvTellsRow.holds Try.pinned (OpenSpec.ofChange tlvTellsSpec)

/-- ITS FALSE NEIGHBOUR: 'it returns false'. Refute it at one input. -/
def tlvTellsWrong : ChangeSpec := { name := "tlvTells", fn := fun _ => fun
  | [d1, d2] => { results := [.lit (.bool false)], args := [d1, d2] }
  | _ => none }
def TlvTellsWrongFalsely : Prop := tlvTellsRow.holds Try.pinned (OpenSpec.ofChange tlvTellsWrong)

/-- 'comptoirlaw14.TlvBack': WHATEVER THE INPUT: true; the input reads as it did. -/
def tlvBackSpec : ChangeSpec := { name := "tlvBack", fn := fun _ => fun
  | [d1, d2, d3] => { results := [.lit (.bool true)], args := [d1, d2, d3] }
  | _ => none }
def tlvBackRow : OpenClaim := { program := "ytbfodbejdaafaaa", sum := "6db3edeae24334b2153eb02f7eed69b8926a9b00f01e1001674b5ef484694b3f", func := "comptoir/comptoirlaw14.TlvBack", spec := "tlvBack", unfollowed := true, recurses := true, apart := false }
def TlvBackSaid : Prop := tlvBackRow.holds Try.pinned (OpenSpec.ofChange tlvBackSpec)

/-- ITS FALSE NEIGHBOUR: 'it returns false'. Refute it at one input. -/
def tlvBackWrong : ChangeSpec := { name := "tlvBack", fn := fun _ => fun
  | [d1, d2, d3] => { results := [.lit (.bool false)], args := [d1, d2, d3] }
  | _ => none }
def TlvBackWrongFalsely : Prop := tlvBackRow.holds Try.pinned (OpenSpec.ofChange tlvBackWrong)

/-- 'comptoirlaw14.TlvNeeds': WHATEVER THE INPUT: true; the input reads as it did. -/
def tlvNeedsSpec : ChangeSpec := { name := "tlvNeeds", fn := fun _ => fun
  | [d1, d2, d3] => { results := [.lit (.bool true)], args := [d1, d2, d3] }
  | _ => none }
def tlvNeedsRow : OpenClaim := { program := "ytbfodbejdaafaaa", sum := "6db3edeae24334b2153eb02f7eed69b8926a9b00f01e1001674b5ef484694b3f", func := "comptoir/comptoirlaw14.TlvNeeds", spec := "tlvNeeds", unfollowed := true, recurses := true, apart := false }
def TlvNeedsSaid : Prop := tlvNeedsRow.holds Try.pinned (OpenSpec.ofChange tlvNeedsSpec)

/-- ITS FALSE NEIGHBOUR: 'it returns false'. Refute it at one input. -/
def tlvNeedsWrong : ChangeSpec := { name := "tlvNeeds", fn := fun _ => fun
  | [d1, d2, d3] => { results := [.lit (.bool false)], args := [d1, d2, d3] }
  | _ => none }
def TlvNeedsWrongFalsely : Prop := tlvNeedsRow.holds Try.pinned (OpenSpec.ofChange tlvNeedsWrong)

/-- 'comptoirlaw14.TlvLengths': WHATEVER THE INPUT: true; the input reads as it did. -/
def tlvLengthsSpec : ChangeSpec := { name := "tlvLengths", fn := fun _ => fun
  | [d1, d2] => { results := [.lit (.bool true)], args := [d1, d2] }
  | _ => none }
def tlvLengthsRow : OpenClaim := { program := "ytbfodbejdaafaaa", sum := "6db3edeae24334b2153eb02f7eed69b8926a9b00f01e1001674b5ef484694b3f", func := "comptoir/comptoirlaw14.TlvLengths", spec := "tlvLengths", unfollowed := true, recurses := true, apart := false }
def TlvLengthsSaid : Prop := tlvLengthsRow.holds Try.pinned (OpenSpec.ofChange tlvLengthsSpec)

/-- ITS FALSE NEIGHBOUR: 'it returns false'. Refute it at one input. -/
def tlvLengthsWrong : ChangeSpec := { name := "tlvLengths", fn := fun _ => fun
  | [d1, d2] => { results := [.lit (.bool false)], args := [d1, d2] }
  | _ => none }
def TlvLengthsWrongFalsely : Prop := tlvLengthsRow.holds Try.pinned (OpenSpec.ofChange tlvLengthsWrong)

/- THE SECOND FORM. 'bulk': how many values and letters a reading holds, each counted each time it is reached (what is shared counts as often as it is met; a slice's spare places count too). A statement '..UptoSaid' is the law's where the arguments, and the package variables that the reading takes, are together of bulk at most 1048576: NARROWER than '..Said'. Prove '..Said' where nothing that the law and all that it calls make is longer than what came in: it says more and counts as full. Else prove '..UptoSaid'. A law counts once. -/
mutual
def uptoBulk {H : Type} : DataW H → Nat
  | .lit (.string bytes) => bytes.length + 1
  | .lit _ => 1
  | .nil => 1
  | .ptr d => uptoBulk d + 1
  | .slice elems spare => uptoBulkAll elems + uptoBulkAll spare + 1
  | .agg parts => uptoBulkAll parts + 1
  | .iface _ d => uptoBulk d + 1
  | .map entries => uptoBulkEntries entries + 1
  | .held _ => 1
def uptoBulkAll {H : Type} : List (DataW H) → Nat
  | [] => 0
  | d :: r => uptoBulk d + uptoBulkAll r
def uptoBulkEntries {H : Type} : List (Lit × DataW H) → Nat
  | [] => 0
  | x :: r => uptoBulkEntry x + uptoBulkEntries r
def uptoBulkEntry {H : Type} : Lit × DataW H → Nat
  | (.string bytes, d) => bytes.length + uptoBulk d + 1
  | (_, d) => uptoBulk d + 1
 end
def uptoSmall : (H : Type) → List (DataW H) → Bool := fun _ ds => decide (uptoBulkAll ds ≤ 1048576)
def OpenSpec.upto (s : _root_.Go.ChangeSpec) : _root_.Go.OpenSpec := { _root_.Go.OpenSpec.ofChange s with cond := some uptoSmall }

/-- 'comptoirlaw14.TlvTells', WHERE WHAT IT READS IS OF BULK AT MOST 1048576: true; the input reads as it did. -/
def tlvTellsUptoRow : OpenClaim := { program := "ytbfodbejdaafaaa", sum := "6db3edeae24334b2153eb02f7eed69b8926a9b00f01e1001674b5ef484694b3f", func := "comptoir/comptoirlaw14.TlvTells", spec := "tlvTells", unfollowed := true, recurses := true, apart := false, narrowed := true }
def TlvTellsUptoSaid : Prop := tlvTellsUptoRow.holds Try.pinned (OpenSpec.upto tlvTellsSpec)

/-- 'comptoirlaw14.TlvBack', WHERE WHAT IT READS IS OF BULK AT MOST 1048576: true; the input reads as it did. -/
def tlvBackUptoRow : OpenClaim := { program := "ytbfodbejdaafaaa", sum := "6db3edeae24334b2153eb02f7eed69b8926a9b00f01e1001674b5ef484694b3f", func := "comptoir/comptoirlaw14.TlvBack", spec := "tlvBack", unfollowed := true, recurses := true, apart := false, narrowed := true }
def TlvBackUptoSaid : Prop := tlvBackUptoRow.holds Try.pinned (OpenSpec.upto tlvBackSpec)

/-- 'comptoirlaw14.TlvNeeds', WHERE WHAT IT READS IS OF BULK AT MOST 1048576: true; the input reads as it did. -/
def tlvNeedsUptoRow : OpenClaim := { program := "ytbfodbejdaafaaa", sum := "6db3edeae24334b2153eb02f7eed69b8926a9b00f01e1001674b5ef484694b3f", func := "comptoir/comptoirlaw14.TlvNeeds", spec := "tlvNeeds", unfollowed := true, recurses := true, apart := false, narrowed := true }
def TlvNeedsUptoSaid : Prop := tlvNeedsUptoRow.holds Try.pinned (OpenSpec.upto tlvNeedsSpec)

/-- 'comptoirlaw14.TlvLengths', WHERE WHAT IT READS IS OF BULK AT MOST 1048576: true; the input reads as it did. -/
def tlvLengthsUptoRow : OpenClaim := { program := "ytbfodbejdaafaaa", sum := "6db3edeae24334b2153eb02f7eed69b8926a9b00f01e1001674b5ef484694b3f", func := "comptoir/comptoirlaw14.TlvLengths", spec := "tlvLengths", unfollowed := true, recurses := true, apart := false, narrowed := true }
def TlvLengthsUptoSaid : Prop := tlvLengthsUptoRow.holds Try.pinned (OpenSpec.upto tlvLengthsSpec)

end Rows
end Go.Proofs.Ytbfodbejdaafaaa
