/- The statements' own reading of a number out of bytes: what it answers. -/
import Derived.Test.YtbfodbejdaafaaaBeMath
namespace Go.Proofs.Ytbfodbejdaafaaa
open Go.RowKit
set_option maxHeartbeats 400000
set_option linter.unusedVariables false

end Go.Proofs.Ytbfodbejdaafaaa
