/- The statements' own walk over a file: is, name. -/
import Derived.Test.YthkbdbgmfolpeaaDoorRefTok1
namespace Go.Proofs.YthkbdbgmfolpeaaDoor
open Go.RowKit
set_option maxHeartbeats 400000
set_option linter.unusedVariables false

end Go.Proofs.YthkbdbgmfolpeaaDoor
