/- Rows of one byte, laid byte by byte; elements of such a row. -/
import Derived.Test.YtijlekikmkeihaaDoorEleAwake
import Derived.Test.YtijlekikmkeihaaDoorStr
namespace Go.Proofs.YtijlekikmkeihaaDoor
open Go.RowKit
set_option linter.unusedVariables false

def fillL (c : UInt8) (n k : Nat) : List UInt8 := List.replicate k c ++ List.replicate (n - k) 0
theorem fillL_zero (c : UInt8) (n : Nat) : fillL c n 0 = List.replicate n 0 := by simp [fillL]
theorem fillL_all (c : UInt8) (n : Nat) : fillL c n n = List.replicate n c := by simp [fillL]
theorem fillL_len (c : UInt8) (n k : Nat) (h : k ≤ n) : (fillL c n k).length = n := by simp [fillL]; omega
theorem fillL_set (c : UInt8) (n k : Nat) (h : k < n) : (u8s (fillL c n k)).set k (.int .u8 (c.toNat : Int)) = u8s (fillL c n (k + 1)) := by
  have e : List.replicate (n - k) (0 : UInt8) = 0 :: List.replicate (n - (k + 1)) 0 := by
    rw [show n - k = (n - (k + 1)) + 1 by omega, List.replicate_succ]
  unfold fillL u8s
  rw [e, List.map_append, List.set_append_right _ _ (by simp)]
  simp [List.replicate_succ']
theorem fill_rd {w : World} {g : Nat} {c : UInt8} {n : Nat} (h : Bk w g 5 (u8s (fillL c n n))) (hn : n ≤ 1000000) : Rd w (some ⟨g, 0, none⟩) n n (u8s (List.replicate n c)) := by
  have h9 := h.rd (n := n) (cap := n) (Nat.le_refl _) (by simp only [maxLen]; omega) (by rw [u8s_length, fillL_len c n n (Nat.le_refl _)]; exact Nat.le_refl _)
  rwa [List.take_of_length_le (by rw [u8s_length, fillL_len c n n (Nat.le_refl _)]; exact Nat.le_refl _), fillL_all] at h9
theorem rep_all (c : UInt8) (n : Nat) (p : UInt8 → Bool) (hn : n ≠ 0) : (List.replicate n c).all p = p c := by
  cases n with
  | zero => exact absurd rfl hn
  | succ n =>
    rw [List.replicate_succ, List.all_cons]
    cases hp : p c with
    | false => rfl
    | true =>
      rw [Bool.true_and, List.all_eq_true]
      intro x hx
      rw [List.eq_of_mem_replicate hx, hp]
theorem typ_rep (kind : Int) (c : UInt8) (n : Nat) (hn : n ≠ 0) : typB kind (List.replicate n c) = (if kind = 1 then isD c else if kind = 2 then alnC c else if kind = 3 then ansC c else true) := by
  unfold typB
  rw [rep_all c n _ hn, rep_all c n _ hn, rep_all c n _ hn]
theorem typ_seven (kind : Int) (n : Nat) : typB kind (List.replicate n 55) = true := by
  cases n with
  | zero => simp [typB]
  | succ n =>
    rw [typ_rep kind 55 (n + 1) (by omega)]
    have h1 : isD 55 = true := by decide
    have h2 : alnC 55 = true := by decide
    have h3 : ansC 55 = true := by decide
    rw [h1, h2, h3]
    split <;> (try rfl)
    split <;> (try rfl)
    split <;> rfl
end Go.Proofs.YtijlekikmkeihaaDoor
