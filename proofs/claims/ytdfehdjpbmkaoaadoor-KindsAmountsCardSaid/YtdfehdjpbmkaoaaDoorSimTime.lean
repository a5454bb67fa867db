/- Package simple's times: contracts of its calls. -/
import Derived.Test.YtdfehdjpbmkaoaaDoorSimMath
import Derived.Test.YtdfehdjpbmkaoaaDoorDig2
import Derived.Test.YtdfehdjpbmkaoaaDoorStr
namespace Go.Proofs.YtdfehdjpbmkaoaaDoor
open Go.RowKit
set_option maxHeartbeats 400000
set_option linter.unusedVariables false

theorem ext_cutN (s : ByteArray) (i j : Nat) : (s.extract i j).data.toList = cutN s.data.toList i j := by rw [s_ext]; rfl
theorem ext_cutN_end (s : ByteArray) (i j : Nat) (h : s.size = j) : (s.extract i s.size).data.toList = cutN s.data.toList i j := by rw [h]; exact ext_cutN s i j

end Go.Proofs.YtdfehdjpbmkaoaaDoor
