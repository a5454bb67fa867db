/- The statements' own answers about texts: characters, how many, and of which kinds. -/
import Derived.Test.YthnjnaiajohfiaaDoorTxtMath
import Derived.Test.YthnjnaiajohfiaaDoorDig0
import Derived.Test.YthnjnaiajohfiaaDoorBits
namespace Go.Proofs.YthnjnaiajohfiaaDoor
open Go.RowKit
set_option maxHeartbeats 400000
set_option linter.unusedVariables false

theorem at_data (s : ByteArray) (k : Nat) (h : k < s.size) : s[k] = s.data.toList[k]'(by simpa using h) := rfl
theorem drop_at (s : ByteArray) (i : Nat) (h : i < s.size) : s.data.toList.drop i = s[i] :: s.data.toList.drop (i + 1) := by
  rw [List.drop_eq_getElem_cons (by simpa using h)]
  rfl

/-- no character: the size is nought -/
theorem size_none {x : UInt8} {r : List UInt8} (h : lead x.toNat = none) : sizeB (x :: r) = 0 := by rw [sizeB_cons, h]; rfl

end Go.Proofs.YthnjnaiajohfiaaDoor
