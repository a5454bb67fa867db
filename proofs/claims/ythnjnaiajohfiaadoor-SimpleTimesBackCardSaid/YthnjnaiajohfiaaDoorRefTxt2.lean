/- The statements' own answers about texts: how many characters, and of which kinds. -/
import Derived.Test.YthnjnaiajohfiaaDoorRefChr
namespace Go.Proofs.YthnjnaiajohfiaaDoor
open Go.RowKit
set_option maxHeartbeats 1000000
set_option linter.unusedVariables false

/-- how many characters, or -1 -/
def cntZ (l : List UInt8) : Int := match cnt l with
  | none => -1
  | some n => n
theorem cntZ_utf8 (l : List UInt8) : decide (0 ≤ cntZ l) = utf8B l := by
  unfold cntZ utf8B
  cases cnt l <;> simp
theorem cntZ_runes (l : List UInt8) : max 0 (cntZ l) = (runesN l : Int) := by
  unfold cntZ runesN
  cases cnt l with
  | none => rfl
  | some n => simp
theorem cntZ_bound (l : List UInt8) : -1 ≤ cntZ l ∧ cntZ l ≤ l.length := by
  unfold cntZ
  cases h : cnt l with
  | none => simp
  | some n => have := cnt_le _ l (Nat.le_refl _) n h; simp; omega

theorem plain_eq {l : List UInt8} {low top : Int} (h : lowest l = true) : plainB l low top = (decide (0 ≤ cntZ l) && (decide (low ≤ cntZ l) && (decide (cntZ l ≤ top) && (decide (l = []) || (decide (l.getD 0 0 ≠ 32) && decide (l.getD (l.length - 1) 0 ≠ 32)))))) := by
  unfold plainB
  rw [h, Bool.true_and, ← cntZ_utf8 l]
  by_cases hz : 0 ≤ cntZ l
  · have e := cntZ_runes l
    rw [← e, show max 0 (cntZ l) = cntZ l from by omega]
  · rw [decide_eq_false hz, Bool.false_and, Bool.false_and]
theorem ne32 (x : UInt8) : decide (x ≠ 32) = ((x.toNat : Int) != 32) := by
  rw [Bool.eq_iff_iff, decide_eq_true_iff, bne_iff_ne]
  constructor
  · intro h e
    apply h
    apply UInt8.toNat_inj.1
    show x.toNat = 32
    omega
  · rintro h rfl
    exact h rfl
theorem lowest_take (l : List UInt8) (k : Nat) (h : k < l.length) : lowest (l.take (k + 1)) = (lowest (l.take k) && decide (32 ≤ l[k].toNat)) := by
  unfold lowest
  rw [List.take_succ_eq_append_getElem h, List.all_append]
  simp

end Go.Proofs.YthnjnaiajohfiaaDoor
