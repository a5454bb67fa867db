/- The statements' own tokens: one token. -/
import Derived.Test.YthkbdbgmfolpeaaDoorRefTokA
namespace Go.Proofs.YthkbdbgmfolpeaaDoor
open Go.RowKit
set_option maxHeartbeats 1000000
set_option linter.unusedVariables false

/-- a closing token behind its name -/
def closeQ (n l : List UInt8) : Option (Tok × List UInt8) := if n = [] then none else (isP [62] l).map fun r => (⟨2, n, [], [], false⟩, r)
theorem tokP_close {l l1 : List UInt8} (h : isP [60, 47] l = some l1) : tokP l = closeQ (nameR l1) ((l1.dropWhile isWi).dropWhile isBl) := by
  unfold tokP closeQ
  rw [h]
  cases hn : nameOk (l1.takeWhile isWi) with
  | false => rw [if_pos (nameR_nil.2 hn)]; simp [hn]
  | true =>
    have h1 : nameR l1 = l1.takeWhile isWi := by unfold nameR; rw [hn]; rfl
    rw [if_neg (fun e => by rw [nameR_nil.1 e] at hn; cases hn), h1]
    simp [hn]
theorem tokP_open {l l1 : List UInt8} (h0 : isP [60, 47] l = none) (h : isP [60] l = some l1) : tokP l = if nameOk (l1.takeWhile isWi) then openV (l1.takeWhile isWi) [] (l1.dropWhile isWi) else none := by
  unfold tokP
  rw [h0]
  simp only
  rw [h]
  simp only
  have e := drop_while_le isWi l1
  cases hn : nameOk (l1.takeWhile isWi) with
  | false => simp
  | true =>
    simp only [Bool.not_true, Bool.false_eq_true, if_false, if_true]
    exact openF_enough _ _ _ _ _ (by omega) (by omega)
def notLt (c : UInt8) : Bool := decide (c.toNat ≠ 60)
theorem tokP_text {l : List UInt8} (h0 : isP [60, 47] l = none) (h : isP [60] l = none) : tokP l = (valV (l.takeWhile notLt)).map fun v => (⟨3, [], v, [], false⟩, l.dropWhile notLt) := by
  unfold tokP
  rw [h0]
  simp only
  rw [h]
  rfl
def zeroTok : List Value := [.int .i64 0, .string ⟨#[]⟩, .string ⟨#[]⟩, .slice none 0 0, .bool false]

end Go.Proofs.YthkbdbgmfolpeaaDoor
