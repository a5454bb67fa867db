/- A number in so many digits: what package digits tells, and the statements' own answer. -/
import Derived.Test.YtdfehdjpbmkaoaaDoorDig
import Derived.Test.YtdfehdjpbmkaoaaDoorFmt
import Derived.Test.YtdfehdjpbmkaoaaDoorRefDigits
import Derived.Test.YtdfehdjpbmkaoaaDoorDigMath2
namespace Go.Proofs.YtdfehdjpbmkaoaaDoor
open Go.RowKit
set_option maxHeartbeats 400000
set_option linter.unusedVariables false

end Go.Proofs.YtdfehdjpbmkaoaaDoor
