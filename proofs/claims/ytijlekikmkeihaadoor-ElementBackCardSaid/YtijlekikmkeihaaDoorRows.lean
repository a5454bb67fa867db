/-
  NARROWER THAN 'FOR EVERY INPUT', by the rows' own cells (each row's printed sentence says how): ElementTells: laid · ElementBack: laid · ElementLengths: laid · ElementKinds: laid · ElementTable: laid · ElementDigits: laid.
  DERIVED. THE GIVEN ROWS OF THIS SEAT. 6 by the template 'for every input the law returns true; each argument reads behind the call as it read before'; 0 by the template 'total and deterministic' (their statements: YtijlekikmkeihaaDoorTotals.lean).
  GIVEN WITH THE SEED: the statements are not yours to turn. If you find one false, say at which input.
  Laid BY PROGRAM, IN A SANDBOX (cutbox-rows.mjs): the forced cells as the released guide's own fill.sh prints them over the translation f499c03cf20f076c… (all of the seat's roots in one cut). By AI agents, Wed Nov 11 2026. No macro, syntax, notation, axiom, sorry.
-/
import Derived.Test.YtijlekikmkeihaaDoorChecked
import GoSem.Claim
import GoSem.ClaimJoined
import GoSem.ClaimMapViews
import Derived.JoinedTies
import Derived.KernelRfl
namespace Go.Proofs.YtijlekikmkeihaaDoor
/- THE CELL 'sum', in the pinned program and in every row, IS THE sha256 OF THE DUMP (.gsa) THAT YtijlekikmkeihaaDoorProg.lean LOADS. Nothing in Lean hashes anything: it is a label: what it is worth is what the hold of that sum in a sandbox is worth. -/
noncomputable def Tryd.pinned : Pinned := { name := "ytijlekikmkeihaadoor", sum := "f499c03cf20f076c48af9e213cf80dd37b15e0fbb76d9af5c16c486fdcdeb28a", checked := Tryd.checked }
namespace Rows
def none {H : Type} : Left H := { results := [], args := [] }

/- WHAT THE LISTED PACKAGE-LEVEL VARIABLES READ AS WHEN THE CALL BEGINS. Each datum BY PROGRAM (the guide's laid-datum.mjs) off the statement by which the dump's own 'gosem.cut.vars' lays the variable. In a bare row this is a premise. The card (YtijlekikmkeihaaDoorCards.lean) ties it to the program's text. -/
def laid_math_bits_deBruijn32tab {H : Type} : DataW H := .agg [.lit (.int .u8 0), .lit (.int .u8 1), .lit (.int .u8 28), .lit (.int .u8 2), .lit (.int .u8 29), .lit (.int .u8 14), .lit (.int .u8 24), .lit (.int .u8 3), .lit (.int .u8 30), .lit (.int .u8 22), .lit (.int .u8 20), .lit (.int .u8 15), .lit (.int .u8 25), .lit (.int .u8 17), .lit (.int .u8 4), .lit (.int .u8 8), .lit (.int .u8 31), .lit (.int .u8 27), .lit (.int .u8 13), .lit (.int .u8 23), .lit (.int .u8 21), .lit (.int .u8 19), .lit (.int .u8 16), .lit (.int .u8 7), .lit (.int .u8 26), .lit (.int .u8 12), .lit (.int .u8 18), .lit (.int .u8 6), .lit (.int .u8 11), .lit (.int .u8 5), .lit (.int .u8 10), .lit (.int .u8 9)]
def laid_math_bits_deBruijn64tab {H : Type} : DataW H := .agg [.lit (.int .u8 0), .lit (.int .u8 1), .lit (.int .u8 56), .lit (.int .u8 2), .lit (.int .u8 57), .lit (.int .u8 49), .lit (.int .u8 28), .lit (.int .u8 3), .lit (.int .u8 61), .lit (.int .u8 58), .lit (.int .u8 42), .lit (.int .u8 50), .lit (.int .u8 38), .lit (.int .u8 29), .lit (.int .u8 17), .lit (.int .u8 4), .lit (.int .u8 62), .lit (.int .u8 47), .lit (.int .u8 59), .lit (.int .u8 36), .lit (.int .u8 45), .lit (.int .u8 43), .lit (.int .u8 51), .lit (.int .u8 22), .lit (.int .u8 53), .lit (.int .u8 39), .lit (.int .u8 33), .lit (.int .u8 30), .lit (.int .u8 24), .lit (.int .u8 18), .lit (.int .u8 12), .lit (.int .u8 5), .lit (.int .u8 63), .lit (.int .u8 55), .lit (.int .u8 48), .lit (.int .u8 27), .lit (.int .u8 60), .lit (.int .u8 41), .lit (.int .u8 37), .lit (.int .u8 16), .lit (.int .u8 46), .lit (.int .u8 35), .lit (.int .u8 44), .lit (.int .u8 21), .lit (.int .u8 52), .lit (.int .u8 32), .lit (.int .u8 23), .lit (.int .u8 11), .lit (.int .u8 54), .lit (.int .u8 26), .lit (.int .u8 40), .lit (.int .u8 15), .lit (.int .u8 34), .lit (.int .u8 20), .lit (.int .u8 31), .lit (.int .u8 10), .lit (.int .u8 25), .lit (.int .u8 14), .lit (.int .u8 19), .lit (.int .u8 9), .lit (.int .u8 13), .lit (.int .u8 8), .lit (.int .u8 7), .lit (.int .u8 6)]
def laid_internal_strconv_uint64pow10 {H : Type} : DataW H := .agg [.lit (.int .u64 1), .lit (.int .u64 10), .lit (.int .u64 100), .lit (.int .u64 1000), .lit (.int .u64 10000), .lit (.int .u64 100000), .lit (.int .u64 1000000), .lit (.int .u64 10000000), .lit (.int .u64 100000000), .lit (.int .u64 1000000000), .lit (.int .u64 10000000000), .lit (.int .u64 100000000000), .lit (.int .u64 1000000000000), .lit (.int .u64 10000000000000), .lit (.int .u64 100000000000000), .lit (.int .u64 1000000000000000), .lit (.int .u64 10000000000000000), .lit (.int .u64 100000000000000000), .lit (.int .u64 1000000000000000000), .lit (.int .u64 10000000000000000000)]
def laid_comptoir_element_table {H : Type} : DataW H := .agg [.agg [.lit (.int .i64 2), .lit (.int .i64 1), .lit (.int .i64 2), .lit (.int .i64 19), .lit (.bool false)], .agg [.lit (.int .i64 4), .lit (.int .i64 1), .lit (.int .i64 0), .lit (.int .i64 12), .lit (.bool false)], .agg [.lit (.int .i64 11), .lit (.int .i64 1), .lit (.int .i64 0), .lit (.int .i64 6), .lit (.bool false)], .agg [.lit (.int .i64 12), .lit (.int .i64 1), .lit (.int .i64 0), .lit (.int .i64 14), .lit (.bool false)], .agg [.lit (.int .i64 22), .lit (.int .i64 1), .lit (.int .i64 0), .lit (.int .i64 3), .lit (.bool false)], .agg [.lit (.int .i64 25), .lit (.int .i64 1), .lit (.int .i64 0), .lit (.int .i64 4), .lit (.bool false)], .agg [.lit (.int .i64 32), .lit (.int .i64 1), .lit (.int .i64 2), .lit (.int .i64 11), .lit (.bool false)], .agg [.lit (.int .i64 37), .lit (.int .i64 2), .lit (.int .i64 0), .lit (.int .i64 12), .lit (.bool false)], .agg [.lit (.int .i64 38), .lit (.int .i64 2), .lit (.int .i64 0), .lit (.int .i64 6), .lit (.bool false)], .agg [.lit (.int .i64 39), .lit (.int .i64 1), .lit (.int .i64 0), .lit (.int .i64 3), .lit (.bool false)], .agg [.lit (.int .i64 41), .lit (.int .i64 3), .lit (.int .i64 0), .lit (.int .i64 8), .lit (.bool false)], .agg [.lit (.int .i64 42), .lit (.int .i64 3), .lit (.int .i64 0), .lit (.int .i64 15), .lit (.bool false)], .agg [.lit (.int .i64 43), .lit (.int .i64 3), .lit (.int .i64 2), .lit (.int .i64 40), .lit (.bool true)], .agg [.lit (.int .i64 48), .lit (.int .i64 3), .lit (.int .i64 3), .lit (.int .i64 8), .lit (.bool false)], .agg [.lit (.int .i64 49), .lit (.int .i64 1), .lit (.int .i64 0), .lit (.int .i64 3), .lit (.bool false)], .agg [.lit (.int .i64 55), .lit (.int .i64 4), .lit (.int .i64 3), .lit (.int .i64 255), .lit (.bool false)], .agg [.lit (.int .i64 56), .lit (.int .i64 1), .lit (.int .i64 0), .lit (.int .i64 20), .lit (.bool false)], .agg [.lit (.int .i64 60), .lit (.int .i64 3), .lit (.int .i64 3), .lit (.int .i64 100), .lit (.bool true)], .agg [.lit (.int .i64 61), .lit (.int .i64 3), .lit (.int .i64 3), .lit (.int .i64 100), .lit (.bool true)], .agg [.lit (.int .i64 62), .lit (.int .i64 3), .lit (.int .i64 3), .lit (.int .i64 100), .lit (.bool true)], .agg [.lit (.int .i64 63), .lit (.int .i64 3), .lit (.int .i64 3), .lit (.int .i64 100), .lit (.bool true)], .agg [.lit (.int .i64 102), .lit (.int .i64 3), .lit (.int .i64 2), .lit (.int .i64 28), .lit (.bool true)], .agg [.lit (.int .i64 103), .lit (.int .i64 3), .lit (.int .i64 2), .lit (.int .i64 28), .lit (.bool true)], .agg [.lit (.int .i64 120), .lit (.int .i64 4), .lit (.int .i64 4), .lit (.int .i64 999), .lit (.bool true)]]

/-- 'comptoirlaw16.ElementTells': WHATEVER THE INPUT: true; the input reads as it did. -/
def elementTellsSpec : ChangeSpec := { name := "elementTells", fn := fun _ => fun
  | [d1, d2, d3] => { results := [.lit (.bool true)], args := [d1, d2, d3] }
  | _ => none }
def elementTellsRow : OpenClaim := { program := "ytijlekikmkeihaadoor", sum := "f499c03cf20f076c48af9e213cf80dd37b15e0fbb76d9af5c16c486fdcdeb28a", func := "comptoir/comptoirlaw16.ElementTells", spec := "elementTells", inPlace := ["internal/abi.NoEscape", "internal/bytealg.MakeNoZero"], unfollowed := true, recurses := true, named := ["comptoir/element.table", "internal/strconv.uint64pow10", "math/bits.deBruijn32tab", "math/bits.deBruijn64tab"], apart := false, laid := [("math/bits.deBruijn32tab", laid_math_bits_deBruijn32tab), ("math/bits.deBruijn64tab", laid_math_bits_deBruijn64tab), ("internal/strconv.uint64pow10", laid_internal_strconv_uint64pow10), ("comptoir/element.table", laid_comptoir_element_table)] }
def ElementTellsSaid : Prop := elementTellsRow.holds Tryd.pinned (OpenSpec.ofChange elementTellsSpec)

/-- ITS FALSE NEIGHBOUR: 'it returns false'. Refute it at one input. -/
def elementTellsWrong : ChangeSpec := { name := "elementTells", fn := fun _ => fun
  | [d1, d2, d3] => { results := [.lit (.bool false)], args := [d1, d2, d3] }
  | _ => none }
def ElementTellsWrongFalsely : Prop := elementTellsRow.holds Tryd.pinned (OpenSpec.ofChange elementTellsWrong)

/-- 'comptoirlaw16.ElementBack': WHATEVER THE INPUT: true; the input reads as it did. -/
def elementBackSpec : ChangeSpec := { name := "elementBack", fn := fun _ => fun
  | [d1, d2, d3] => { results := [.lit (.bool true)], args := [d1, d2, d3] }
  | _ => none }
def elementBackRow : OpenClaim := { program := "ytijlekikmkeihaadoor", sum := "f499c03cf20f076c48af9e213cf80dd37b15e0fbb76d9af5c16c486fdcdeb28a", func := "comptoir/comptoirlaw16.ElementBack", spec := "elementBack", inPlace := ["internal/abi.NoEscape", "internal/bytealg.MakeNoZero"], unfollowed := true, recurses := true, named := ["comptoir/element.table", "internal/strconv.uint64pow10", "math/bits.deBruijn32tab", "math/bits.deBruijn64tab"], apart := false, laid := [("math/bits.deBruijn32tab", laid_math_bits_deBruijn32tab), ("math/bits.deBruijn64tab", laid_math_bits_deBruijn64tab), ("internal/strconv.uint64pow10", laid_internal_strconv_uint64pow10), ("comptoir/element.table", laid_comptoir_element_table)] }
def ElementBackSaid : Prop := elementBackRow.holds Tryd.pinned (OpenSpec.ofChange elementBackSpec)

/-- ITS FALSE NEIGHBOUR: 'it returns false'. Refute it at one input. -/
def elementBackWrong : ChangeSpec := { name := "elementBack", fn := fun _ => fun
  | [d1, d2, d3] => { results := [.lit (.bool false)], args := [d1, d2, d3] }
  | _ => none }
def ElementBackWrongFalsely : Prop := elementBackRow.holds Tryd.pinned (OpenSpec.ofChange elementBackWrong)

/-- 'comptoirlaw16.ElementLengths': WHATEVER THE INPUT: true; the input reads as it did. -/
def elementLengthsSpec : ChangeSpec := { name := "elementLengths", fn := fun _ => fun
  | [d1, d2] => { results := [.lit (.bool true)], args := [d1, d2] }
  | _ => none }
def elementLengthsRow : OpenClaim := { program := "ytijlekikmkeihaadoor", sum := "f499c03cf20f076c48af9e213cf80dd37b15e0fbb76d9af5c16c486fdcdeb28a", func := "comptoir/comptoirlaw16.ElementLengths", spec := "elementLengths", inPlace := ["internal/abi.NoEscape", "internal/bytealg.MakeNoZero"], unfollowed := true, recurses := true, named := ["comptoir/element.table", "internal/strconv.uint64pow10", "math/bits.deBruijn32tab", "math/bits.deBruijn64tab"], apart := false, laid := [("math/bits.deBruijn32tab", laid_math_bits_deBruijn32tab), ("math/bits.deBruijn64tab", laid_math_bits_deBruijn64tab), ("internal/strconv.uint64pow10", laid_internal_strconv_uint64pow10), ("comptoir/element.table", laid_comptoir_element_table)] }
def ElementLengthsSaid : Prop := elementLengthsRow.holds Tryd.pinned (OpenSpec.ofChange elementLengthsSpec)

/-- ITS FALSE NEIGHBOUR: 'it returns false'. Refute it at one input. -/
def elementLengthsWrong : ChangeSpec := { name := "elementLengths", fn := fun _ => fun
  | [d1, d2] => { results := [.lit (.bool false)], args := [d1, d2] }
  | _ => none }
def ElementLengthsWrongFalsely : Prop := elementLengthsRow.holds Tryd.pinned (OpenSpec.ofChange elementLengthsWrong)

/-- 'comptoirlaw16.ElementKinds': WHATEVER THE INPUT: true; the input reads as it did. -/
def elementKindsSpec : ChangeSpec := { name := "elementKinds", fn := fun _ => fun
  | [d] => { results := [.lit (.bool true)], args := [d] }
  | _ => none }
def elementKindsRow : OpenClaim := { program := "ytijlekikmkeihaadoor", sum := "f499c03cf20f076c48af9e213cf80dd37b15e0fbb76d9af5c16c486fdcdeb28a", func := "comptoir/comptoirlaw16.ElementKinds", spec := "elementKinds", inPlace := ["internal/abi.NoEscape", "internal/bytealg.MakeNoZero"], unfollowed := true, recurses := true, named := ["comptoir/element.table", "internal/strconv.uint64pow10", "math/bits.deBruijn32tab", "math/bits.deBruijn64tab"], apart := false, laid := [("math/bits.deBruijn32tab", laid_math_bits_deBruijn32tab), ("math/bits.deBruijn64tab", laid_math_bits_deBruijn64tab), ("internal/strconv.uint64pow10", laid_internal_strconv_uint64pow10), ("comptoir/element.table", laid_comptoir_element_table)] }
def ElementKindsSaid : Prop := elementKindsRow.holds Tryd.pinned (OpenSpec.ofChange elementKindsSpec)

/-- ITS FALSE NEIGHBOUR: 'it returns false'. Refute it at one input. -/
def elementKindsWrong : ChangeSpec := { name := "elementKinds", fn := fun _ => fun
  | [d] => { results := [.lit (.bool false)], args := [d] }
  | _ => none }
def ElementKindsWrongFalsely : Prop := elementKindsRow.holds Tryd.pinned (OpenSpec.ofChange elementKindsWrong)

/-- 'comptoirlaw16.ElementTable': WHATEVER THE INPUT: true; the input reads as it did. -/
def elementTableSpec : ChangeSpec := { name := "elementTable", fn := fun _ => fun
  | [d1, d2] => { results := [.lit (.bool true)], args := [d1, d2] }
  | _ => none }
def elementTableRow : OpenClaim := { program := "ytijlekikmkeihaadoor", sum := "f499c03cf20f076c48af9e213cf80dd37b15e0fbb76d9af5c16c486fdcdeb28a", func := "comptoir/comptoirlaw16.ElementTable", spec := "elementTable", inPlace := ["internal/abi.NoEscape", "internal/bytealg.MakeNoZero"], unfollowed := true, recurses := true, named := ["comptoir/element.table", "internal/strconv.uint64pow10", "math/bits.deBruijn32tab", "math/bits.deBruijn64tab"], apart := false, laid := [("math/bits.deBruijn32tab", laid_math_bits_deBruijn32tab), ("math/bits.deBruijn64tab", laid_math_bits_deBruijn64tab), ("internal/strconv.uint64pow10", laid_internal_strconv_uint64pow10), ("comptoir/element.table", laid_comptoir_element_table)] }
def ElementTableSaid : Prop := elementTableRow.holds Tryd.pinned (OpenSpec.ofChange elementTableSpec)

/-- ITS FALSE NEIGHBOUR: 'it returns false'. Refute it at one input. -/
def elementTableWrong : ChangeSpec := { name := "elementTable", fn := fun _ => fun
  | [d1, d2] => { results := [.lit (.bool false)], args := [d1, d2] }
  | _ => none }
def ElementTableWrongFalsely : Prop := elementTableRow.holds Tryd.pinned (OpenSpec.ofChange elementTableWrong)

/-- 'comptoirlaw16.ElementDigits': WHATEVER THE INPUT: true; the input reads as it did. -/
def elementDigitsSpec : ChangeSpec := { name := "elementDigits", fn := fun _ => fun
  | [d1, d2] => { results := [.lit (.bool true)], args := [d1, d2] }
  | _ => none }
def elementDigitsRow : OpenClaim := { program := "ytijlekikmkeihaadoor", sum := "f499c03cf20f076c48af9e213cf80dd37b15e0fbb76d9af5c16c486fdcdeb28a", func := "comptoir/comptoirlaw16.ElementDigits", spec := "elementDigits", inPlace := ["internal/abi.NoEscape", "internal/bytealg.MakeNoZero"], unfollowed := true, recurses := true, named := ["comptoir/element.table", "internal/strconv.uint64pow10", "math/bits.deBruijn32tab", "math/bits.deBruijn64tab"], apart := false, laid := [("math/bits.deBruijn32tab", laid_math_bits_deBruijn32tab), ("math/bits.deBruijn64tab", laid_math_bits_deBruijn64tab), ("internal/strconv.uint64pow10", laid_internal_strconv_uint64pow10), ("comptoir/element.table", laid_comptoir_element_table)] }
def ElementDigitsSaid : Prop := elementDigitsRow.holds Tryd.pinned (OpenSpec.ofChange elementDigitsSpec)

/-- ITS FALSE NEIGHBOUR: 'it returns false'. Refute it at one input. -/
def elementDigitsWrong : ChangeSpec := { name := "elementDigits", fn := fun _ => fun
  | [d1, d2] => { results := [.lit (.bool false)], args := [d1, d2] }
  | _ => none }
def ElementDigitsWrongFalsely : Prop := elementDigitsRow.holds Tryd.pinned (OpenSpec.ofChange elementDigitsWrong)

/- THE SECOND FORM. 'bulk': how many values and letters a reading holds, each counted each time it is reached (what is shared counts as often as it is met; a slice's spare places count too). A statement '..UptoSaid' is the law's where the arguments, and the package variables that the reading takes, are together of bulk at most 1048576: NARROWER than '..Said'. Prove '..Said' where nothing that the law and all that it calls make is longer than what came in: it says more and counts as full. Else prove '..UptoSaid'. A law counts once. -/
mutual
def uptoBulk {H : Type} : DataW H → Nat
  | .lit (.string bytes) => bytes.length + 1
  | .lit _ => 1
  | .nil => 1
  | .ptr d => uptoBulk d + 1
  | .slice elems spare => uptoBulkAll elems + uptoBulkAll spare + 1
  | .agg parts => uptoBulkAll parts + 1
  | .iface _ d => uptoBulk d + 1
  | .map entries => uptoBulkEntries entries + 1
  | .held _ => 1
def uptoBulkAll {H : Type} : List (DataW H) → Nat
  | [] => 0
  | d :: r => uptoBulk d + uptoBulkAll r
def uptoBulkEntries {H : Type} : List (Lit × DataW H) → Nat
  | [] => 0
  | x :: r => uptoBulkEntry x + uptoBulkEntries r
def uptoBulkEntry {H : Type} : Lit × DataW H → Nat
  | (.string bytes, d) => bytes.length + uptoBulk d + 1
  | (_, d) => uptoBulk d + 1
 end
def uptoSmall : (H : Type) → List (DataW H) → Bool := fun _ ds => decide (uptoBulkAll ds ≤ 1048576)
def OpenSpec.upto (s : _root_.Go.ChangeSpec) : _root_.Go.OpenSpec := { _root_.Go.OpenSpec.ofChange s with cond := some uptoSmall }

/-- 'comptoirlaw16.ElementTells', WHERE WHAT IT READS IS OF BULK AT MOST 1048576: true; the input reads as it did. -/
def elementTellsUptoRow : OpenClaim := { program := "ytijlekikmkeihaadoor", sum := "f499c03cf20f076c48af9e213cf80dd37b15e0fbb76d9af5c16c486fdcdeb28a", func := "comptoir/comptoirlaw16.ElementTells", spec := "elementTells", inPlace := ["internal/abi.NoEscape", "internal/bytealg.MakeNoZero"], unfollowed := true, recurses := true, named := ["comptoir/element.table", "internal/strconv.uint64pow10", "math/bits.deBruijn32tab", "math/bits.deBruijn64tab"], apart := false, laid := [("math/bits.deBruijn32tab", laid_math_bits_deBruijn32tab), ("math/bits.deBruijn64tab", laid_math_bits_deBruijn64tab), ("internal/strconv.uint64pow10", laid_internal_strconv_uint64pow10), ("comptoir/element.table", laid_comptoir_element_table)], narrowed := true }
def ElementTellsUptoSaid : Prop := elementTellsUptoRow.holds Tryd.pinned (OpenSpec.upto elementTellsSpec)

/-- 'comptoirlaw16.ElementBack', WHERE WHAT IT READS IS OF BULK AT MOST 1048576: true; the input reads as it did. -/
def elementBackUptoRow : OpenClaim := { program := "ytijlekikmkeihaadoor", sum := "f499c03cf20f076c48af9e213cf80dd37b15e0fbb76d9af5c16c486fdcdeb28a", func := "comptoir/comptoirlaw16.ElementBack", spec := "elementBack", inPlace := ["internal/abi.NoEscape", "internal/bytealg.MakeNoZero"], unfollowed := true, recurses := true, named := ["comptoir/element.table", "internal/strconv.uint64pow10", "math/bits.deBruijn32tab", "math/bits.deBruijn64tab"], apart := false, laid := [("math/bits.deBruijn32tab", laid_math_bits_deBruijn32tab), ("math/bits.deBruijn64tab", laid_math_bits_deBruijn64tab), ("internal/strconv.uint64pow10", laid_internal_strconv_uint64pow10), ("comptoir/element.table", laid_comptoir_element_table)], narrowed := true }
def ElementBackUptoSaid : Prop := elementBackUptoRow.holds Tryd.pinned (OpenSpec.upto elementBackSpec)

/-- 'comptoirlaw16.ElementLengths', WHERE WHAT IT READS IS OF BULK AT MOST 1048576: true; the input reads as it did. -/
def elementLengthsUptoRow : OpenClaim := { program := "ytijlekikmkeihaadoor", sum := "f499c03cf20f076c48af9e213cf80dd37b15e0fbb76d9af5c16c486fdcdeb28a", func := "comptoir/comptoirlaw16.ElementLengths", spec := "elementLengths", inPlace := ["internal/abi.NoEscape", "internal/bytealg.MakeNoZero"], unfollowed := true, recurses := true, named := ["comptoir/element.table", "internal/strconv.uint64pow10", "math/bits.deBruijn32tab", "math/bits.deBruijn64tab"], apart := false, laid := [("math/bits.deBruijn32tab", laid_math_bits_deBruijn32tab), ("math/bits.deBruijn64tab", laid_math_bits_deBruijn64tab), ("internal/strconv.uint64pow10", laid_internal_strconv_uint64pow10), ("comptoir/element.table", laid_comptoir_element_table)], narrowed := true }
def ElementLengthsUptoSaid : Prop := elementLengthsUptoRow.holds Tryd.pinned (OpenSpec.upto elementLengthsSpec)

/-- 'comptoirlaw16.ElementKinds', WHERE WHAT IT READS IS OF BULK AT MOST 1048576: true; the input reads as it did. -/
def elementKindsUptoRow : OpenClaim := { program := "ytijlekikmkeihaadoor", sum := "f499c03cf20f076c48af9e213cf80dd37b15e0fbb76d9af5c16c486fdcdeb28a", func := "comptoir/comptoirlaw16.ElementKinds", spec := "elementKinds", inPlace := ["internal/abi.NoEscape", "internal/bytealg.MakeNoZero"], unfollowed := true, recurses := true, named := ["comptoir/element.table", "internal/strconv.uint64pow10", "math/bits.deBruijn32tab", "math/bits.deBruijn64tab"], apart := false, laid := [("math/bits.deBruijn32tab", laid_math_bits_deBruijn32tab), ("math/bits.deBruijn64tab", laid_math_bits_deBruijn64tab), ("internal/strconv.uint64pow10", laid_internal_strconv_uint64pow10), ("comptoir/element.table", laid_comptoir_element_table)], narrowed := true }
def ElementKindsUptoSaid : Prop := elementKindsUptoRow.holds Tryd.pinned (OpenSpec.upto elementKindsSpec)

/-- 'comptoirlaw16.ElementTable', WHERE WHAT IT READS IS OF BULK AT MOST 1048576: true; the input reads as it did. -/
def elementTableUptoRow : OpenClaim := { program := "ytijlekikmkeihaadoor", sum := "f499c03cf20f076c48af9e213cf80dd37b15e0fbb76d9af5c16c486fdcdeb28a", func := "comptoir/comptoirlaw16.ElementTable", spec := "elementTable", inPlace := ["internal/abi.NoEscape", "internal/bytealg.MakeNoZero"], unfollowed := true, recurses := true, named := ["comptoir/element.table", "internal/strconv.uint64pow10", "math/bits.deBruijn32tab", "math/bits.deBruijn64tab"], apart := false, laid := [("math/bits.deBruijn32tab", laid_math_bits_deBruijn32tab), ("math/bits.deBruijn64tab", laid_math_bits_deBruijn64tab), ("internal/strconv.uint64pow10", laid_internal_strconv_uint64pow10), ("comptoir/element.table", laid_comptoir_element_table)], narrowed := true }
def ElementTableUptoSaid : Prop := elementTableUptoRow.holds Tryd.pinned (OpenSpec.upto elementTableSpec)

/-- 'comptoirlaw16.ElementDigits', WHERE WHAT IT READS IS OF BULK AT MOST 1048576: true; the input reads as it did. -/
def elementDigitsUptoRow : OpenClaim := { program := "ytijlekikmkeihaadoor", sum := "f499c03cf20f076c48af9e213cf80dd37b15e0fbb76d9af5c16c486fdcdeb28a", func := "comptoir/comptoirlaw16.ElementDigits", spec := "elementDigits", inPlace := ["internal/abi.NoEscape", "internal/bytealg.MakeNoZero"], unfollowed := true, recurses := true, named := ["comptoir/element.table", "internal/strconv.uint64pow10", "math/bits.deBruijn32tab", "math/bits.deBruijn64tab"], apart := false, laid := [("math/bits.deBruijn32tab", laid_math_bits_deBruijn32tab), ("math/bits.deBruijn64tab", laid_math_bits_deBruijn64tab), ("internal/strconv.uint64pow10", laid_internal_strconv_uint64pow10), ("comptoir/element.table", laid_comptoir_element_table)], narrowed := true }
def ElementDigitsUptoSaid : Prop := elementDigitsUptoRow.holds Tryd.pinned (OpenSpec.upto elementDigitsSpec)

end Rows
end Go.Proofs.YtijlekikmkeihaaDoor
