/- The statements' own tokens: a character's number. -/
import Derived.Test.YthkbdbgmfolpeaaDoorRefTok4
namespace Go.Proofs.YthkbdbgmfolpeaaDoor
open Go.RowKit
set_option maxHeartbeats 1000000
set_option linter.unusedVariables false

def chrR (l : List UInt8) (base most : Nat) : Int := match chrV l base most with
  | none => -1
  | some v => (v : Int)
theorem chrF_cons (base v : Nat) (c : UInt8) (r : List UInt8) : chrF base v (c :: r) = if base ≤ digV c then none else chrF base (v * base + digV c) r := rfl
theorem dig_cases (c : UInt8) : (48 ≤ c.toNat ∧ c.toNat ≤ 57 ∧ digV c = c.toNat - 48) ∨ (97 ≤ c.toNat ∧ c.toNat ≤ 102 ∧ digV c = c.toNat - 87) ∨ (65 ≤ c.toNat ∧ c.toNat ≤ 70 ∧ digV c = c.toNat - 55) ∨
    (c.toNat < 48 ∧ 1 = 1 ∧ digV c = 99) ∨ (57 < c.toNat ∧ c.toNat < 65 ∧ digV c = 99) ∨ (70 < c.toNat ∧ c.toNat < 97 ∧ digV c = 99) ∨ (102 < c.toNat ∧ 1 = 1 ∧ digV c = 99) := by
  unfold digV
  split
  · omega
  · split
    · omega
    · split <;> omega

end Go.Proofs.YthkbdbgmfolpeaaDoor
