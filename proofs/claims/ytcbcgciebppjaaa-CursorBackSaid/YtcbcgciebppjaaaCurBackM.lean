/- Numbers put one behind the other, and read: the plain arithmetic, no program. -/
import Derived.Test.YtcbcgciebppjaaaCurAwake
namespace Go.Proofs.Ytcbcgciebppjaaa
open Go.RowKit
set_option linter.unusedVariables false

theorem low_succ (v m : Nat) : low v (m + 1) = low (v / 256) m ++ [UInt8.ofNat v] := by
  unfold low
  rw [List.range_succ, List.map_append]
  congr 1
  · apply List.map_congr_left
    intro i hi
    have hi' : i < m := by simpa using hi
    unfold lowB
    rw [Nat.div_div_eq_div_mul]
    congr 2
    rw [show m + 1 - 1 - i = (m - 1 - i) + 1 from by omega, Nat.mul_add, Nat.pow_add]
    simp [Nat.mul_comm]
  · simp [lowB]

theorem beN_low (m : Nat) : ∀ v : Nat, beN (low v m) = v % 256 ^ m := by
  induction m with
  | zero => intro v; simp [low, beN, Nat.mod_one]
  | succ m ih =>
    intro v
    rw [low_succ, beN_snoc, ih, UInt8.toNat_ofNat']
    have h := Nat.mod_mul (x := v) (a := 256) (b := 256 ^ m)
    have e : 256 ^ (m + 1) = 256 * 256 ^ m := by rw [Nat.pow_succ, Nat.mul_comm]
    rw [e, h]
    omega

/-- the bytes behind which j numbers were put -/
def putX (l : List UInt8) (V M : Nat → Nat) : Nat → List UInt8
  | 0 => l
  | j + 1 => putX l V M j ++ low (V j) (M j)

theorem putX_len (l : List UInt8) (V M : Nat → Nat) (hM : ∀ i, M i ≤ 8) (j : Nat) : (putX l V M j).length ≤ l.length + 8 * j := by
  induction j with
  | zero => simp [putX]
  | succ j ih => have := hM j; simp [putX]; omega

theorem putX_more (l : List UInt8) (V M : Nat → Nat) (j d : Nat) : ∃ r, putX l V M (j + d) = putX l V M j ++ r := by
  induction d with
  | zero => exact ⟨[], by simp⟩
  | succ d ih =>
    obtain ⟨r, hr⟩ := ih
    exact ⟨r ++ low (V (j + d)) (M (j + d)), by rw [← Nat.add_assoc, putX, hr, List.append_assoc]⟩

theorem putX_at (l : List UInt8) (V M : Nat → Nat) (j n : Nat) (h : j < n) :
    (putX l V M j).length + M j ≤ (putX l V M n).length ∧ ((putX l V M n).drop (putX l V M j).length).take (M j) = low (V j) (M j) := by
  obtain ⟨r, hr⟩ := putX_more l V M (j + 1) (n - (j + 1))
  rw [show j + 1 + (n - (j + 1)) = n from by omega] at hr
  rw [hr, putX]
  refine ⟨by simp, ?_⟩
  rw [List.append_assoc, List.drop_left, List.take_left' (by simp)]
theorem putX_head (l : List UInt8) (V M : Nat → Nat) (n : Nat) : l.length ≤ (putX l V M n).length ∧ (putX l V M n).take l.length = l := by
  obtain ⟨r, hr⟩ := putX_more l V M 0 n
  rw [Nat.zero_add] at hr
  rw [hr, putX]
  exact ⟨by simp, by rw [List.take_left]⟩
theorem mask_mod (v n : Nat) (hv : v < 18446744073709551616) (h1 : 1 ≤ n) (h8 : n < 8) :
    bits .and .u64 (v : Int) ((256 ^ n : Nat) - 1 : Int) = ((v % 256 ^ n : Nat) : Int) := by
  have hp : 0 < 256 ^ n := Nat.pow_pos (by omega)
  have hlt : 256 ^ n ≤ 256 ^ 7 := Nat.pow_le_pow_right (by omega) (by omega)
  have h7 : (256 : Nat) ^ 7 = 72057594037927936 := by decide
  rw [show ((256 ^ n : Nat) - 1 : Int) = ((256 ^ n - 1 : Nat) : Int) from by omega, bits_and_u64_nat _ _ hv (by omega)]
  congr 1
  rw [show 256 ^ n = 2 ^ (8 * n) from by rw [Nat.pow_mul], Nat.and_two_pow_sub_one_eq_mod]
/-- the mask, as the walk spells it -/
theorem mask_walk (v n : Nat) (hv : v < 18446744073709551616) (h1 : 1 ≤ n) (h8 : n < 8) :
    bits .and .u64 (v : Int) (IntKind.u64.wrap (IntKind.u64.wrap (2 ^ (8 * n)) - 1)) = (v : Int) % 256 ^ n := by
  have hp : 0 < 256 ^ n := Nat.pow_pos (by omega)
  have hlt : 256 ^ n ≤ 256 ^ 7 := Nat.pow_le_pow_right (by omega) (by omega)
  have h7 : (256 : Nat) ^ 7 = 72057594037927936 := by decide
  have e : (2 : Int) ^ (8 * n) = ((256 ^ n : Nat) : Int) := by
    rw [Int.pow_mul]
    simp [Int.natCast_pow]
  have e1 := IntWalk.u64_in ((256 ^ n : Nat) : Int) ⟨by omega, by omega⟩
  have e2 := IntWalk.u64_in (((256 ^ n : Nat) : Int) - 1) ⟨by omega, by omega⟩
  rw [e, e1, e2, mask_mod v n hv h1 h8]
  simp [Int.natCast_pow]
theorem mod_full (v n : Nat) (hv : v < 18446744073709551616) (h8 : n = 8) : (v : Int) % 256 ^ n = (v : Int) := by
  subst h8
  omega
end Go.Proofs.Ytcbcgciebppjaaa
