/- What was decided: the table, and plain functions on it, no program. -/
import Derived.Test.YtdfehdjpbmkaoaaDoorStr
namespace Go.Proofs.YtdfehdjpbmkaoaaDoor
set_option linter.unusedVariables false

/-- action, status, reason -/
def codT : List (List UInt8 × List UInt8 × List UInt8) := [([48, 48, 48], [65, 80, 80, 82], [78, 79, 82, 77]), ([48, 48, 49], [65, 80, 80, 82], [73, 68, 69, 78]), ([48, 48, 50], [80, 65, 82, 84], [78, 79, 82, 77]), ([49, 48, 48], [68, 69, 67, 76], [78, 79, 82, 77]), ([49, 48, 49], [68, 69, 67, 76], [69, 88, 80, 68]), ([49, 48, 50], [68, 69, 67, 76], [70, 82, 65, 85]), ([49, 48, 52], [68, 69, 67, 76], [82, 69, 83, 84]), ([49, 48, 57], [68, 69, 67, 76], [77, 82, 67, 72]), ([49, 49, 48], [68, 69, 67, 76], [65, 77, 78, 84]), ([49, 49, 54], [68, 69, 67, 76], [73, 78, 83, 70]), ([49, 49, 55], [68, 69, 67, 76], [80, 73, 78, 86]), ([49, 49, 56], [68, 69, 67, 76], [78, 79, 67, 68]), ([49, 50, 49], [68, 69, 67, 76], [76, 73, 77, 84]), ([50, 48, 48], [80, 73, 67, 75], [78, 79, 82, 77]), ([52, 48, 48], [82, 86, 83, 76], [78, 79, 82, 77]), ([53, 48, 48], [82, 69, 67, 78], [78, 79, 82, 77]), ([56, 48, 48], [78, 69, 84, 87], [78, 79, 82, 77]), ([57, 48, 52], [84, 69, 67, 72], [70, 79, 82, 77]), ([57, 48, 55], [84, 69, 67, 72], [73, 83, 83, 82]), ([57, 48, 57], [84, 69, 67, 72], [66, 85, 83, 89]), ([57, 49, 49], [84, 69, 67, 72], [84, 73, 77, 79]), ([57, 49, 50], [84, 69, 67, 72], [68, 79, 87, 78])]
theorem codT_len : codT.length = 22 := rfl
/-- a row by its number -/
def cRow (k : Nat) : List UInt8 × List UInt8 × List UInt8 := codT.getD k ([], [], [])
def cAll (p : Nat → Bool) : Bool := (List.range 22).all p
theorem cAll_at {p : Nat → Bool} (h : cAll p = true) {k : Nat} (hk : k < 22) : p k = true := List.all_eq_true.1 h k (List.mem_range.2 hk)
/-- the first row, from n rows on, of which something is so -/
def firstC (p : List UInt8 × List UInt8 × List UInt8 → Bool) : Option (List UInt8 × List UInt8 × List UInt8) := codT.find? p
def wordsR (a : List UInt8) : Option (List UInt8 × List UInt8 × List UInt8) := firstC (fun r => r.1 == a)
def actionR (s t : List UInt8) : Option (List UInt8 × List UInt8 × List UInt8) := firstC (fun r => r.2.1 == s && r.2.2 == t)
def fstC (r : Option (List UInt8 × List UInt8 × List UInt8)) : List UInt8 := (r.map (·.1)).getD []
def staC (r : Option (List UInt8 × List UInt8 × List UInt8)) : List UInt8 := (r.map (·.2.1)).getD []
def reaC (r : Option (List UInt8 × List UInt8 × List UInt8)) : List UInt8 := (r.map (·.2.2)).getD []
/-- what the calls answer -/
def wS (A : ByteArray) : ByteArray := bstr (staC (wordsR A.data.toList))
def wR (A : ByteArray) : ByteArray := bstr (reaC (wordsR A.data.toList))
def wK (A : ByteArray) : Bool := (wordsR A.data.toList).isSome
def aA (S T : ByteArray) : ByteArray := bstr (fstC (actionR S.data.toList T.data.toList))
def aK (S T : ByteArray) : Bool := (actionR S.data.toList T.data.toList).isSome
def yB (A : ByteArray) : Bool := staC (wordsR A.data.toList) == [65, 80, 80, 82] || staC (wordsR A.data.toList) == [80, 65, 82, 84]
/-- all actions -/
def actsL : List ByteArray := codT.map fun r => bstr r.1
theorem actsL_len : actsL.length = 22 := rfl
theorem first_at (p : List UInt8 × List UInt8 × List UInt8 → Bool) : ∀ (l : List (List UInt8 × List UInt8 × List UInt8)) (k : Nat) (hk : k < l.length), (∀ j (hj : j < k), p (l[j]'(by omega)) = false) → p l[k] = true → l.find? p = some l[k]
  | [], k, hk, _, _ => by simp at hk
  | x :: r, 0, _, _, h => by rw [List.find?_cons]; simp only [List.getElem_cons_zero] at h ⊢; rw [h]
  | x :: r, k + 1, hk, h0, h => by
    have hx := h0 0 (by omega)
    simp only [List.getElem_cons_zero] at hx
    rw [List.find?_cons, hx]
    simp only [List.getElem_cons_succ] at h ⊢
    exact first_at p r k (by simpa using hk) (fun j hj => by have := h0 (j + 1) (by omega); simpa using this) h
theorem cRow_at (j : Nat) (hj : j < codT.length) : cRow j = codT[j] := by
  unfold cRow
  rw [List.getD_eq_getElem?_getD, List.getElem?_eq_getElem hj]
  rfl
theorem first_none (p : List UInt8 × List UInt8 × List UInt8 → Bool) (h : ∀ j (hj : j < 22), p (cRow j) = false) : firstC p = none := by
  unfold firstC
  rw [List.find?_eq_none]
  intro x hx
  obtain ⟨j, hj, rfl⟩ := List.getElem_of_mem hx
  have := h j (by rw [codT_len] at hj; exact hj)
  rw [cRow_at j hj] at this
  rw [this]
  decide
theorem first_some (p : List UInt8 × List UInt8 × List UInt8 → Bool) (k : Nat) (hk : k < 22) (h0 : ∀ j (hj : j < k), p (cRow j) = false) (h : p (cRow k) = true) : firstC p = some (cRow k) := by
  unfold firstC
  have hkl : k < codT.length := by rw [codT_len]; exact hk
  have e := cRow_at
  rw [e k hkl] at h ⊢
  exact first_at p codT k hkl (fun j hj => by have := h0 j hj; rw [e j (by omega)] at this; exact this) h
/-- the rows as the statements' own table has them -/
def tabS : List ByteArray := codT.map fun r => bstr (r.1 ++ r.2.1 ++ r.2.2)
def tabAt (k : Nat) : ByteArray := tabS.getD k ⟨#[]⟩
theorem tab_table : cAll (fun k => (tabAt k).size == 11 && ((tabAt k).extract 0 3).data.toList == (cRow k).1 && ((tabAt k).extract 3 7).data.toList == (cRow k).2.1 && ((tabAt k).extract 7 11).data.toList == (cRow k).2.2) = true := by decide +kernel
theorem tab_facts {k : Nat} (hk : k < 22) : (tabAt k).size = 11 ∧ ((tabAt k).extract 0 3).data.toList = (cRow k).1 ∧ ((tabAt k).extract 3 7).data.toList = (cRow k).2.1 ∧ ((tabAt k).extract 7 11).data.toList = (cRow k).2.2 := by
  have h := cAll_at tab_table hk
  simp only [Bool.and_eq_true, beq_iff_eq] at h
  exact ⟨h.1.1.1, h.1.1.2, h.1.2, h.2⟩
theorem words_at {A : ByteArray} {k : Nat} (hk : k < 22) (h0 : ∀ j, j < k → ((cRow j).1 == A.data.toList) = false) (h : ((cRow k).1 == A.data.toList) = true) : wordsR A.data.toList = some (cRow k) := first_some _ k hk (fun j hj => h0 j hj) h
theorem words_no {A : ByteArray} (h0 : ∀ j, j < 22 → ((cRow j).1 == A.data.toList) = false) : wordsR A.data.toList = none := first_none _ (fun j hj => h0 j hj)
theorem action_at {S T : ByteArray} {k : Nat} (hk : k < 22) (h0 : ∀ j, j < k → ((cRow j).2.1 == S.data.toList && (cRow j).2.2 == T.data.toList) = false) (h : ((cRow k).2.1 == S.data.toList && (cRow k).2.2 == T.data.toList) = true) : actionR S.data.toList T.data.toList = some (cRow k) := first_some _ k hk (fun j hj => h0 j hj) h
theorem action_no {S T : ByteArray} (h0 : ∀ j, j < 22 → ((cRow j).2.1 == S.data.toList && (cRow j).2.2 == T.data.toList) = false) : actionR S.data.toList T.data.toList = none := first_none _ (fun j hj => h0 j hj)
end Go.Proofs.YtdfehdjpbmkaoaaDoor
