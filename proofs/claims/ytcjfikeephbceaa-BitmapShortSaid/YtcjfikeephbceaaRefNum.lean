/- The statements' own reading of a number out of bytes: what it answers. -/
import Derived.Test.YtcjfikeephbceaaBeMath
namespace Go.Proofs.Ytcjfikeephbceaa
open Go.RowKit
set_option maxHeartbeats 400000
set_option linter.unusedVariables false

end Go.Proofs.Ytcjfikeephbceaa
