/- The statements' own kinds: words, answers. -/
import Derived.Test.YtdfehdjpbmkaoaaDoorRefKin
namespace Go.Proofs.YtdfehdjpbmkaoaaDoor
open Go.RowKit
set_option maxHeartbeats 400000
set_option linter.unusedVariables false

end Go.Proofs.YtdfehdjpbmkaoaaDoor
