/- Tests of bytes that are handed in as functions: no package's own. -/
import Derived.Test.YtijlekikmkeihaaDoorDig0
import Derived.Test.YtijlekikmkeihaaDoorHelp0
namespace Go.Proofs.YtijlekikmkeihaaDoor
open Go.RowKit
set_option linter.unusedVariables false

theorem at_data (s : ByteArray) (k : Nat) (h : k < s.size) : s[k] = s.data.toList[k]'(by simpa using h) := rfl
theorem take_snoc (s : ByteArray) (k : Nat) (h : k < s.size) : s.data.toList.take (k + 1) = s.data.toList.take k ++ [s[k]] := by
  rw [List.take_succ_eq_append_getElem (by simpa using h)]; rfl

/-- each stands the test -/
def allB (l : List UInt8) (t : UInt8 → Bool) : Bool := l.all t
/-- what a test of signs answers -/
structure Tests (f : FuncId) (t : UInt8 → Bool) : Prop where
  enters : ∀ args w, (callFunc f args).run Tryd.prog w = .ok (.enter f args) w
  tells : ∀ (c : UInt8) (w : World), Calls Tryd.prog f #[.int .u8 (c.toNat : Int)] w fun e w' => e = .returned (.bool (t c)) ∧ w = w'
end Go.Proofs.YtijlekikmkeihaaDoor
