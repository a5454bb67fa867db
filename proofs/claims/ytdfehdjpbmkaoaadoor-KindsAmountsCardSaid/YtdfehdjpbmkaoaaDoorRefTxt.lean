/- The statements' own answers about texts: characters, how many, and of which kinds. -/
import Derived.Test.YtdfehdjpbmkaoaaDoorTests
import Derived.Test.YtdfehdjpbmkaoaaDoorTxtMath
import Derived.Test.YtdfehdjpbmkaoaaDoorDig0
import Derived.Test.YtdfehdjpbmkaoaaDoorBits
namespace Go.Proofs.YtdfehdjpbmkaoaaDoor
open Go.RowKit
set_option maxHeartbeats 400000
set_option linter.unusedVariables false

theorem ref_char_any (c : Nat) (w : World) : Calls Tryd.prog 72 #[.int .i64 (c : Int)] w fun e w' => e = .returned (.bool (charB c)) ∧ w = w' := by
  go_enter Tryd.func72, Tryd.ntmps72
  go_wp2
  all_goals
    go_ret
    refine ⟨ret_bool ?_, rfl⟩
    unfold charB
    rw [Bool.eq_iff_iff]
    simp
    try omega

theorem drop_at (s : ByteArray) (i : Nat) (h : i < s.size) : s.data.toList.drop i = s[i] :: s.data.toList.drop (i + 1) := by
  rw [List.drop_eq_getElem_cons (by simpa using h)]
  rfl

/-- no character: the size is nought -/
theorem size_none {x : UInt8} {r : List UInt8} (h : lead x.toNat = none) : sizeB (x :: r) = 0 := by rw [sizeB_cons, h]; rfl

end Go.Proofs.YtdfehdjpbmkaoaaDoor
