/- What package text does with bytes alone: contracts of its calls that read no table. -/
import Derived.Test.YtlnjpocidfgloaaDoorTxtM
import Derived.Test.YtlnjpocidfgloaaDoorTests
namespace Go.Proofs.YtlnjpocidfgloaaDoor
open Go.RowKit
set_option maxHeartbeats 400000
set_option linter.unusedVariables false

def isDig (b : UInt8) : Bool := decide (48 ≤ b.toNat ∧ b.toNat ≤ 57)
def isLet (b : UInt8) : Bool := decide ((65 ≤ b.toNat ∧ b.toNat ≤ 90) ∨ (97 ≤ b.toNat ∧ b.toNat ≤ 122))
end Go.Proofs.YtlnjpocidfgloaaDoor
