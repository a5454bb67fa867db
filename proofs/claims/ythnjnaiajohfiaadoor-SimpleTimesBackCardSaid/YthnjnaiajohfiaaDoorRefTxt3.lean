/- The statements' own answers about texts: signs of one byte, and letters and digits. -/
import Derived.Test.YthnjnaiajohfiaaDoorTxtMath
import Derived.Test.YthnjnaiajohfiaaDoorDig0
namespace Go.Proofs.YthnjnaiajohfiaaDoor
open Go.RowKit
set_option maxHeartbeats 1000000
set_option linter.unusedVariables false

theorem rt_take (l : List UInt8) (p : UInt8 → Bool) (k : Nat) (h : k < l.length) : (l.take (k + 1)).all p = ((l.take k).all p && p l[k]) := by
  rw [List.take_succ_eq_append_getElem h, List.all_append]
  simp
theorem all_drop (l : List UInt8) (p : UInt8 → Bool) (k : Nat) (h : (l.take k).all p = false) : l.all p = false := by
  rw [Bool.eq_false_iff] at h ⊢
  intro h2
  apply h
  rw [List.all_eq_true] at h2 ⊢
  exact fun y hy => h2 y (List.mem_of_mem_take hy)

end Go.Proofs.YthnjnaiajohfiaaDoor
