/- A number in tens: what strconv.FormatUint at ten tells of every number of 64 bits; the library's table of powers of ten stays as it lies. -/
import Derived.Test.YtdfehdjpbmkaoaaDoorBase
import Derived.Test.YtdfehdjpbmkaoaaDoorShelf
import Derived.Lib.ItoaMem
import Derived.Lib.AppendIntMem
import Derived.Lib.ItoaWalk
import Derived.BigCall
import Derived.BigGuard
import Derived.Lib.SmallJoins
namespace Go.Proofs.YtdfehdjpbmkaoaaDoor
open Go.RowKit Go.Lib
set_option linter.unusedVariables false

/-- the table of powers of ten, as it is laid -/
abbrev Tab (w : World) : Prop := TabIs Tryd.prog w "internal/strconv.uint64pow10" .u64 pow10Tab
end Go.Proofs.YtdfehdjpbmkaoaaDoor
