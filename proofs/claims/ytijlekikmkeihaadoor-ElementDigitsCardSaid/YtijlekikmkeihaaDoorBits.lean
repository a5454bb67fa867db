/- Shifts and masks of bytes, as the walk spells them and as Lean has them: no program. -/
import Derived.Test.YtijlekikmkeihaaDoorBase
import Derived.Laws.BitsLemmas
import Derived.IntWalk
namespace Go.Proofs.YtijlekikmkeihaaDoor
set_option linter.unusedVariables false

theorem u8_wrap (n : Int) (h0 : 0 ≤ n) (h1 : n < 2 ^ 8) : IntKind.u8.wrap n = n := IntWalk.u8_in _ ⟨h0, by omega⟩
theorem or_u8 (x y : UInt8) : bits .or .u8 (x.toNat : Int) (y.toNat : Int) = ((x ||| y).toNat : Int) := by
  rw [(bits_nat .u8 8 (by decide) u8_wrap _ _ x.toNat_lt y.toNat_lt).2, UInt8.toNat_or]
theorem and_u8 (x y : UInt8) : bits .and .u8 (x.toNat : Int) (y.toNat : Int) = ((x &&& y).toNat : Int) := by
  rw [(bits_nat .u8 8 (by decide) u8_wrap _ _ x.toNat_lt y.toNat_lt).1, UInt8.toNat_and]
theorem wrap_u8 (n : Int) : IntKind.u8.wrap n = n % 256 := by
  simp [IntKind.wrap, IntKind.bits, IntKind.signed]
theorem shl4_u8 (x : UInt8) : IntKind.u8.wrap ((x.toNat : Int) * 16) = ((x <<< 4).toNat : Int) := by
  rw [wrap_u8, UInt8.toNat_shiftLeft]
  have h : x.toNat <<< ((4 : UInt8).toNat % 8) = x.toNat * 16 := by rw [Nat.shiftLeft_eq]; rfl
  rw [h]
  omega
theorem shr4_u8 (x : UInt8) : (x.toNat : Int) / 16 = ((x >>> 4).toNat : Int) := by
  rw [UInt8.toNat_shiftRight, Nat.shiftRight_eq_div_pow]
  have h : 2 ^ ((4 : UInt8).toNat % 8) = 16 := rfl
  rw [h]
  omega
/-- what 'int(uint(p) % b)' makes -/
theorem rem_nat (p b : Int) (hb : 0 < b) : ∃ m : Nat, (IntKind.u64.wrap p).tmod b = (m : Int) ∧ (m : Int) < b := by
  have hw : 0 ≤ IntKind.u64.wrap p := by rw [IntKind.wrap_u64]; omega
  rw [Int.tmod_eq_emod_of_nonneg hw]
  have h0 : 0 ≤ IntKind.u64.wrap p % b := Int.emod_nonneg _ (by omega)
  have h1 : IntKind.u64.wrap p % b < b := Int.emod_lt_of_pos _ hb
  obtain ⟨m, hm⟩ := Int.eq_ofNat_of_zero_le h0
  exact ⟨m, hm, by omega⟩

end Go.Proofs.YtijlekikmkeihaaDoor
