/- The statements' own walk over a file: the name here. -/
import Derived.Test.YthkbdbgmfolpeaaDoorRefTok3
namespace Go.Proofs.YthkbdbgmfolpeaaDoor
open Go.RowKit
set_option maxHeartbeats 400000
set_option linter.unusedVariables false

/-- the place of the walk at block g -/
def posOf (w : World) (g : Nat) : Nat := match w.cell? ⟨g, 1, none⟩ with
  | some (.int _ z) => z.toNat
  | _ => 0
/-- a name, or nothing -/
def nameR (l : List UInt8) : List UInt8 := if nameOk (l.takeWhile isWi) then l.takeWhile isWi else []
theorem take_while_pre (p : UInt8 → Bool) (l : List UInt8) : l.takeWhile p = l.take (l.takeWhile p).length := (List.prefix_iff_eq_take.1 (List.takeWhile_prefix p))

end Go.Proofs.YthkbdbgmfolpeaaDoor
