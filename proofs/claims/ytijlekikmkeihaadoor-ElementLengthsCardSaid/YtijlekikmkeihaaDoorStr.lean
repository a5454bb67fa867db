/- Small facts on strings as lists of bytes. No program. -/
import Derived.Test.YtijlekikmkeihaaDoorBase
import Derived.Test.YtijlekikmkeihaaDoorDig0
namespace Go.Proofs.YtijlekikmkeihaaDoor
set_option linter.unusedVariables false

theorem s_list (S : ByteArray) : S.toList = S.data.toList := bstr_toList S.data.toList
theorem s_size (S : ByteArray) : S.data.toList.length = S.size := by simp
theorem s_ext (S : ByteArray) (i j : Nat) : (S.extract i j).data.toList = (S.data.toList.drop i).take (j - i) := by
  rw [ByteArray.data_extract, Array.toList_extract, List.extract_eq_take_drop]
theorem s_app (S T : ByteArray) : (S ++ T).data.toList = S.data.toList ++ T.data.toList := by
  rw [ByteArray.data_append, Array.toList_append]
theorem s_eq {S T : ByteArray} (h : S.data.toList = T.data.toList) : S = T := by
  cases S; cases T; congr 1; exact Array.ext' h
theorem s_beq (S T : ByteArray) : (S.toList == T.toList) = (S.data.toList == T.data.toList) := by rw [s_list, s_list]
/-- uint(x) % n as a number -/
theorem umod (x : Int) (n : Nat) (hn : 0 < n) (h64 : n < 18446744073709551616) : ∃ m : Nat, m < n ∧ (IntKind.u64.wrap x).tmod (n : Int) = (m : Int) := by
  have hu : 0 ≤ IntKind.u64.wrap x := by
    show 0 ≤ x % 18446744073709551616
    omega
  rw [Int.tmod_eq_emod_of_nonneg hu]
  generalize IntKind.u64.wrap x = U at hu
  have h2 := Int.emod_nonneg U (b := (n : Int)) (by omega)
  have h3 := Int.emod_lt_of_pos U (b := (n : Int)) (by omega)
  exact ⟨(U % (n : Int)).toNat, by omega, by omega⟩
end Go.Proofs.YtijlekikmkeihaaDoor
