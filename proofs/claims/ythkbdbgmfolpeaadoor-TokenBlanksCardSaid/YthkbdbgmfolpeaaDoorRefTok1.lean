/- The statements' own walk over a file: tests of bytes, blanks. -/
import Derived.Test.YthkbdbgmfolpeaaDoorTokMath
import Derived.Test.YthkbdbgmfolpeaaDoorDig0
import Derived.Test.YthkbdbgmfolpeaaDoorHelp0
namespace Go.Proofs.YthkbdbgmfolpeaaDoor
open Go.RowKit
set_option maxHeartbeats 400000
set_option linter.unusedVariables false

theorem size_list (S : ByteArray) : S.data.toList.length = S.size := by simp
theorem byte_at (S : ByteArray) (i : Nat) (h : i < S.size) : S[i] = S.data.toList[i]'(by simpa using h) := rfl
theorem take_while_len (p : UInt8 → Bool) (l : List UInt8) (k : Nat) (h1 : ∀ j (hj : j < k) (hl : j < l.length), p l[j] = true) (hk : k ≤ l.length) (h2 : ∀ hl : k < l.length, p l[k] = false) : (l.takeWhile p).length = k := by
  induction k generalizing l with
  | zero =>
    cases l with
    | nil => rfl
    | cons c r => rw [List.takeWhile_cons, if_neg (by have := h2 (by simp); simpa using this)]; rfl
  | succ k ih =>
    cases l with
    | nil => simp at hk
    | cons c r =>
      have hc : p c = true := h1 0 (by omega) (by simp)
      rw [List.takeWhile_cons, if_pos hc, List.length_cons, ih r (fun j hj hl => by have h := h1 (j + 1) (by omega) (by simpa using hl); rwa [List.getElem_cons_succ] at h) (by simpa using hk) (fun hl => by have h := h2 (by simpa using hl); rwa [List.getElem_cons_succ] at h)]

end Go.Proofs.YthkbdbgmfolpeaaDoor
