/- The statements' own tokens: a text's value. -/
import Derived.Test.YthkbdbgmfolpeaaDoorRefTok7
namespace Go.Proofs.YthkbdbgmfolpeaaDoor
open Go.RowKit
set_option maxHeartbeats 1000000
set_option linter.unusedVariables false

/-- a text's value as bytes; none: nothing -/
def valB (l : List UInt8) : List UInt8 := (valV l).getD []
theorem valV_open {r : List UInt8} (h : ∀ b ∈ r, b.toNat ≠ 59) : valV (38 :: r) = none := by
  unfold valV
  rw [List.length_cons, valF_amp]
  have : r.dropWhile (fun b => decide (b.toNat ≠ 59)) = [] := by
    induction r with
    | nil => rfl
    | cons c r ih =>
      rw [List.dropWhile_cons, if_pos (by simpa using h c (by simp))]
      exact ih (fun b hb => h b (by simp [hb]))
  rw [this]
theorem entV_small {s x : List UInt8} (h : entV s = some x) : x ≠ [] ∧ x.length ≤ 4 := by
  unfold entV at h
  split at h
  · injection h with h; subst h; simp
  split at h
  · injection h with h; subst h; simp
  split at h
  · injection h with h; subst h; simp
  split at h
  · injection h with h; subst h; simp
  split at h
  · injection h with h; subst h; simp
  simp only at h
  split at h
  · cases h
  · rename_i v _
    split at h
    · rename_i hc
      injection h with h
      subst h
      have hv : v ≤ 1114111 ∧ ¬ (55296 ≤ v ∧ v ≤ 57343) := by unfold charB at hc; simp at hc; omega
      have he := enc_size hv.1 hv.2
      constructor
      · intro e
        rw [e] at he
        simp at he
      · omega
    · cases h
theorem sdrop_cons (S : ByteArray) (k : Nat) (h : k < S.size) : S.data.toList.drop k = S[k] :: S.data.toList.drop (k + 1) := by
  rw [List.drop_eq_getElem_cons (by rw [size_list]; exact h)]
  rfl
theorem ext_list (S : ByteArray) (i j : Nat) : (S.extract i j).data.toList = (S.data.toList.drop i).take (j - i) := by
  rw [ByteArray.data_extract, Array.toList_extract, List.extract_eq_take_drop]
theorem app_list (S T : ByteArray) : (S ++ T).data.toList = S.data.toList ++ T.data.toList := by
  rw [ByteArray.data_append, Array.toList_append]

end Go.Proofs.YthkbdbgmfolpeaaDoor
