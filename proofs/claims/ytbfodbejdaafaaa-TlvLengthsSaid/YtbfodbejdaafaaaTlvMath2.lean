/- Tags, one thing at a time: what may be a tag, how many there may be, how long data may be, how lengths are written. No program. -/
import Derived.Test.YtbfodbejdaafaaaTlvMath
namespace Go.Proofs.Ytbfodbejdaafaaa
set_option linter.unusedVariables false

/-- of one byte, or of two, as a number tells -/
def oneB (t : Nat) : Bool := decide (0 < t) && decide (t < 255) && (t % 32 != 31)
def twoB (t : Nat) : Bool := decide (255 < t) && decide (t < 65280) && (t / 256 % 32 == 31) && decide (t % 256 < 128)
theorem tgN_is (t : Nat) : (tgN (t : Int) ≠ 0) ↔ (oneB t || twoB t) = true := by
  unfold tgN oneB twoB
  simp only [Bool.or_eq_true, Bool.and_eq_true, decide_eq_true_iff, bne_iff_ne, beq_iff_eq]
  constructor
  · intro h
    split at h
    · left; omega
    · split at h
      · right; omega
      · exact absurd rfl h
  · rintro (h | h)
    · rw [if_pos (by omega)]; decide
    · rw [if_neg (by omega), if_pos (by omega)]; decide
theorem wrE_one (t : Int) (d : List UInt8) : wrE [(t, d)] = if tgN t = 0 then 18 else if 255 < d.length then 17 else 0 := by
  unfold wrE wrF wrF
  simp
theorem wrE_twice (t : Int) : wrE [(t, []), (t, [])] = 18 := by
  unfold wrE wrF
  rw [if_neg (by simp)]
  split
  · rfl
  · simp only [List.length_nil, List.nil_append]
    rw [if_neg (by omega)]
    unfold wrF
    rw [if_pos (.inr (by simp))]
def rowT (n : Nat) : List TagL := (List.range n).map fun (i : Nat) => ((32 + (i : Int), []) : TagL)
theorem wrE_row : (List.range 22).all (fun n => decide (wrE (rowT n) = if n ≤ 20 then 0 else 4)) = true := by decide +kernel
theorem wrE_rows {n : Nat} (h : n < 22) : wrE (rowT n) = if n ≤ 20 then 0 else 4 := by
  have := List.all_eq_true.1 wrE_row n (List.mem_range.2 h)
  simpa using this
theorem wrT_one (t : Int) (d : List UInt8) : wrT [(t, d)] = wr1T (t, d) := by
  show wr1T (t, d) ++ [] = _
  rw [List.append_nil]
theorem wr1_149 (d : List UInt8) : wr1T (149, d) = 149 :: (lenB d.length ++ d) := rfl
theorem tlv_149 (q : List UInt8) (h : (lenP q).1 ≠ 0) : tlvE (149 :: q) = (lenP q).1 := by
  unfold tlvE parA
  rw [List.length_cons, parF_cons, if_neg (by simp), tagP_cons, if_neg (by decide)]
  simp only
  rw [if_neg (by decide), if_pos h]
theorem tlv_149_ok (n : Nat) (d : List UInt8) (h1 : 127 < n) (h2 : n < 256) (hd : d.length = n) : tlvE (149 :: 129 :: UInt8.ofNat n :: d) = 0 := by
  have h : wrE [((149 : Int), d)] = 0 := by rw [wrE_one, if_neg (by decide), if_neg (by omega)]
  have := (tlv_there h).1
  rw [wrT_one, wr1_149] at this
  unfold lenB at this
  rw [if_neg (by omega), hd] at this
  exact this
theorem lenP_form {x : UInt8} (h : 128 ≤ x.toNat) (h2 : x ≠ 129) (q : List UInt8) : (lenP (x :: q)).1 = 17 := by
  rw [lenP_cons, if_neg (by omega), if_pos (fun e => h2 (UInt8.toNat_inj.1 (by rw [e]; rfl)))]
theorem lenP_long {n : Nat} (h : n ≤ 127) (q : List UInt8) : (lenP (129 :: UInt8.ofNat n :: q)).1 = 17 := by
  have e : (UInt8.ofNat n).toNat = n := u8_nat (by omega)
  rw [lenP_cons, if_neg (by decide), if_neg (by decide)]
  simp only [e]
  rw [if_pos (by omega)]
end Go.Proofs.Ytbfodbejdaafaaa
