/- What package digits does with texts, numbers, halves of bytes and signs: contracts of its calls. -/
import Derived.Test.YtdfehdjpbmkaoaaDoorDigMath
import Derived.Test.YtdfehdjpbmkaoaaDoorHelp0
import Derived.Test.YtdfehdjpbmkaoaaDoorTests
namespace Go.Proofs.YtdfehdjpbmkaoaaDoor
open Go.RowKit
set_option maxHeartbeats 400000
set_option linter.unusedVariables false

end Go.Proofs.YtdfehdjpbmkaoaaDoor
