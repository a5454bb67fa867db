/- The statements' own walk over a file: names. -/
import Derived.Test.YthkbdbgmfolpeaaDoorRefTok2
namespace Go.Proofs.YthkbdbgmfolpeaaDoor
open Go.RowKit
set_option maxHeartbeats 400000
set_option linter.unusedVariables false

end Go.Proofs.YthkbdbgmfolpeaaDoor
