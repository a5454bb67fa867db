/- The statements' own tokens: what stands between & and ; . -/
import Derived.Test.YthkbdbgmfolpeaaDoorRefTok6
import Derived.Test.YthkbdbgmfolpeaaDoorRefTxt
namespace Go.Proofs.YthkbdbgmfolpeaaDoor
open Go.RowKit
set_option maxHeartbeats 1000000
set_option linter.unusedVariables false

def nmL (k : Nat) : List UInt8 := [[108, 116], [103, 116], [97, 109, 112], [113, 117, 111, 116], [97, 112, 111, 115]].getD k []
theorem ba_list (S : ByteArray) : S.toList = S.data.toList := bstr_toList S.data.toList
/-- the number of a character -/
def entN (s : List UInt8) : Option Nat := if 2 < s.length ∧ s.take 2 = [35, 120] then chrV (s.drop 2) 16 6 else if 1 < s.length ∧ s.getD 0 0 = 35 then chrV (s.drop 1) 10 7 else none
theorem entV_num {s : List UInt8} (h : ∀ j, j < 5 → s ≠ nmL j) : entV s = match entN s with | none => none | some v => if charB v then some (encL (v : Int)) else none := by
  unfold entV
  have h0 : s ≠ [108, 116] := h 0 (by omega)
  have h1 : s ≠ [103, 116] := h 1 (by omega)
  have h2 : s ≠ [97, 109, 112] := h 2 (by omega)
  have h3 : s ≠ [113, 117, 111, 116] := h 3 (by omega)
  have h4 : s ≠ [97, 112, 111, 115] := h 4 (by omega)
  rw [if_neg h0, if_neg h1, if_neg h2, if_neg h3, if_neg h4]
  rfl
theorem entV_none {s : List UInt8} (h : ∀ j, j < 5 → s ≠ nmL j) (hE : entN s = none) : (entV s).getD [] = [] := by
  have h1 := entV_num h
  rw [hE] at h1
  simp only at h1
  rw [h1]
  rfl
theorem entV_bad {s : List UInt8} {v : Nat} (h : ∀ j, j < 5 → s ≠ nmL j) (hE : entN s = some v) (hc : charB v = false) : (entV s).getD [] = [] := by
  have h1 := entV_num h
  rw [hE] at h1
  simp only [hc] at h1
  rw [h1]
  rfl
theorem entV_char {s : List UInt8} {v : Nat} (h : ∀ j, j < 5 → s ≠ nmL j) (hE : entN s = some v) (hc : charB v = true) : (entV s).getD [] = encL (v : Int) := by
  have h1 := entV_num h
  rw [hE] at h1
  simp only [hc, if_true] at h1
  rw [h1, Option.getD_some]
theorem ext_drop (S : ByteArray) (k : Nat) : (S.extract k S.size).data.toList = S.data.toList.drop k := by
  rw [ByteArray.data_extract, Array.toList_extract, List.extract_eq_take_drop]
  exact List.take_of_length_le (by rw [List.length_drop, size_list]; exact Nat.le_refl _)
theorem getD_zero (l : List UInt8) (h : 0 < l.length) : l.getD 0 0 = l[0] := by
  cases l with
  | nil => simp at h
  | cons a r => rfl
end Go.Proofs.YthkbdbgmfolpeaaDoor
