/- The statements' own tokens: what stands between & and ; . -/
import Derived.Test.YthkbdbgmfolpeaaDoorRefTok5
import Derived.Laws.Cover4
namespace Go.Proofs.YthkbdbgmfolpeaaDoor
open Go.RowKit
set_option maxHeartbeats 1000000
set_option linter.unusedVariables false

theorem runes1 (z : Int) : (runesBytes [z]).data.toList = encL z := by
  unfold runesBytes encL
  simp
end Go.Proofs.YthkbdbgmfolpeaaDoor
