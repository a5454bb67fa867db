/- The statements' own reading of one character in a text: what it answers. -/
import Derived.Test.YthnjnaiajohfiaaDoorRefTxt
namespace Go.Proofs.YthnjnaiajohfiaaDoor
open Go.RowKit
set_option maxHeartbeats 400000
set_option linter.unusedVariables false

theorem and_i64 (x m : Nat) (hx : x < 9223372036854775808) (hm : m < 9223372036854775808) : bits BinOp.and IntKind.i64 (x : Int) (m : Int) = ((x &&& m : Nat) : Int) :=
  (bits_nat .i64 63 (by decide) (fun n h0 h1 => IntWalk.i64_in _ ⟨by omega, by omega⟩) _ _ (by simpa using hx) (by simpa using hm)).1
theorem or_i64 (x m : Nat) (hx : x < 9223372036854775808) (hm : m < 9223372036854775808) : bits BinOp.or IntKind.i64 (x : Int) (m : Int) = ((x ||| m : Nat) : Int) :=
  (bits_nat .i64 63 (by decide) (fun n h0 h1 => IntWalk.i64_in _ ⟨by omega, by omega⟩) _ _ (by simpa using hx) (by simpa using hm)).2
theorem and31 (x : Nat) (hx : x < 256) : bits BinOp.and IntKind.i64 (x : Int) 31 = ((x % 32 : Nat) : Int) := by
  have h := and_i64 x 31 (by omega) (by omega)
  rw [show x &&& 31 = x % 32 from Nat.and_two_pow_sub_one_eq_mod x 5] at h
  exact h
theorem and15 (x : Nat) (hx : x < 256) : bits BinOp.and IntKind.i64 (x : Int) 15 = ((x % 16 : Nat) : Int) := by
  have h := and_i64 x 15 (by omega) (by omega)
  rw [show x &&& 15 = x % 16 from Nat.and_two_pow_sub_one_eq_mod x 4] at h
  exact h
theorem and7 (x : Nat) (hx : x < 256) : bits BinOp.and IntKind.i64 (x : Int) 7 = ((x % 8 : Nat) : Int) := by
  have h := and_i64 x 7 (by omega) (by omega)
  rw [show x &&& 7 = x % 8 from Nat.and_two_pow_sub_one_eq_mod x 3] at h
  exact h
theorem and63 (b : UInt8) : bits BinOp.and IntKind.u8 (b.toNat : Int) 63 = ((b.toNat % 64 : Nat) : Int) := by
  have h := and_u8 b 63
  rw [UInt8.toNat_and, show (63 : UInt8).toNat = 63 from rfl, show b.toNat &&& 63 = b.toNat % 64 from Nat.and_two_pow_sub_one_eq_mod b.toNat 6] at h
  exact h
theorem cont_bits (b : UInt8) : (bits BinOp.and IntKind.u8 (b.toNat : Int) 192 != 128) = !contB b := by
  have h := and_u8 b 192
  have hk : ∀ y : Fin 256, ((y.val &&& 192) != 128) = !decide (128 ≤ y.val ∧ y.val < 192) := by decide +kernel
  have h2 := hk ⟨b.toNat, b.toNat_lt⟩
  have h192 : ((192 : UInt8).toNat : Int) = 192 := rfl
  rw [h192] at h
  rw [h, UInt8.toNat_and]
  unfold contB
  rw [← h2]
  rw [Bool.eq_iff_iff]
  simp
  omega
theorem or_tail (c y : Nat) (hc : c < 16777216) (hy : y < 64) : bits BinOp.or IntKind.i64 ((c : Int) * 64) (y : Int) = ((c * 64 + y : Nat) : Int) := by
  have e : ((c : Int) * 64) = ((c * 64 : Nat) : Int) := by omega
  rw [e, or_i64 _ _ (by omega) (by omega)]
  congr 1
  have := Nat.two_pow_add_eq_or_of_lt (i := 6) (b := y) (by omega) c
  rw [show c * 64 = 2 ^ 6 * c from by omega, this]
theorem pow64 (k : Nat) (hk : k ≤ 4) : 64 ^ k ≤ 16777216 := by
  have := Nat.pow_le_pow_right (n := 64) (by decide) hk
  have e : (64 : Nat) ^ 4 = 16777216 := by decide
  omega

end Go.Proofs.YthnjnaiajohfiaaDoor
