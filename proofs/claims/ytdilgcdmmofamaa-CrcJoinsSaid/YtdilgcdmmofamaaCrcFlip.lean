/- What one bit that is turned does to bytes with their sum behind, and what four bytes do: plain functions, no program. -/
import Derived.Test.YtdilgcdmmofamaaBeMath2
namespace Go.Proofs.Ytdilgcdmmofamaa
set_option linter.unusedVariables false

/-- nought exactly if bytes are such -/
def chk (l : List UInt8) : Nat := crcL (l.take (l.length - 4)) ^^^ beN (l.drop (l.length - 4))
theorem openE_chk (l : List UInt8) (h : 4 ≤ l.length) : openE l = if chk l = 0 then 0 else 8 := by
  unfold openE chk
  rw [if_neg (by omega)]
  by_cases he : beN (l.drop (l.length - 4)) = crcL (l.take (l.length - 4))
  · rw [if_pos he, he, Nat.xor_self, if_pos rfl]
  · rw [if_neg he, if_neg (fun e => he (xor_eq_zero e).symm)]
theorem beN_snoc_xor (a b x y : Nat) (hx : x < 256) (hy : y < 256) : (a ^^^ b) * 256 + (x ^^^ y) = (a * 256 + x) ^^^ (b * 256 + y) := by
  have e : (256 : Nat) = 2 ^ 8 := by decide
  have hxy : x ^^^ y < 2 ^ 8 := Nat.xor_lt_two_pow (by omega) (by omega)
  apply Nat.eq_of_testBit_eq
  intro i
  rw [Nat.mul_comm, Nat.mul_comm a, Nat.mul_comm b, e, Nat.testBit_xor, Nat.testBit_two_pow_mul_add _ hxy, Nat.testBit_two_pow_mul_add _ (by omega), Nat.testBit_two_pow_mul_add _ (by omega)]
  split
  · rw [Nat.testBit_xor]
  · rw [Nat.testBit_xor]
def beF (v : Nat) (l : List UInt8) : Nat := l.foldl (fun v x => v * 256 + x.toNat) v
theorem beF_xor : ∀ (l : List UInt8) (v u : Nat), beF (v ^^^ u) l = beF v l ^^^ u * 256 ^ l.length
  | [], v, u => by simp [beF]
  | z :: l, v, u => by
    show beF ((v ^^^ u) * 256 + z.toNat) l = beF (v * 256 + z.toNat) l ^^^ u * 256 ^ (l.length + 1)
    have h := beN_snoc_xor v u z.toNat 0 (by have := z.toNat_lt; omega) (by omega)
    rw [Nat.xor_zero, Nat.add_zero] at h
    rw [h, beF_xor l, Nat.pow_succ, Nat.mul_assoc, Nat.mul_comm 256]
theorem beN_flip (p q : List UInt8) (y x : UInt8) : beN (p ++ (y ^^^ x) :: q) = beN (p ++ y :: q) ^^^ x.toNat * 256 ^ q.length := by
  have e : ∀ z : UInt8, beN (p ++ z :: q) = beF (beN p * 256 + z.toNat) q := fun z => by simp [beN, beF]
  rw [e, e, ← beF_xor]
  congr 1
  rw [UInt8.toNat_xor]
  have h := beN_snoc_xor (beN p) 0 y.toNat x.toNat (by have := y.toNat_lt; omega) (by have := x.toNat_lt; omega)
  rw [Nat.xor_zero, Nat.zero_mul, Nat.zero_add] at h
  exact h
theorem crc_flip (v : Nat) (p q : List UInt8) (y x : UInt8) : crcFrom v (p ++ (y ^^^ x) :: q) = crcFrom v (p ++ y :: q) ^^^ iter (8 * (q.length + 1)) x.toNat := by
  rw [crcFrom_append, crcFrom_append]
  generalize crcFrom v p = V
  show crcFrom (crcB V (y ^^^ x)) q = crcFrom (crcB V y) q ^^^ _
  have h : crcB V (y ^^^ x) = crcB V y ^^^ iter 8 x.toNat := by
    unfold crcB
    rw [UInt8.toNat_xor, ← Nat.xor_assoc, iter_xor]
  rw [h, crcFrom_split q (crcB V y ^^^ _), iter_xor, crcFrom_split q (crcB V y), show 8 * (q.length + 1) = 8 + 8 * q.length from by omega, iter_add 8]
  simp only [Nat.xor_assoc]
  congr 1
  exact Nat.xor_comm _ _

/-- one bit is turned -/
def turn (l : List UInt8) (i : Nat) : List UInt8 := l.set (i / 8) ((l[i / 8]?).getD 0 ^^^ UInt8.ofNat (2 ^ (i % 8)))
@[simp] theorem turn_length (l : List UInt8) (i : Nat) : (turn l i).length = l.length := by simp [turn]
/-- how often the highest bit was halved, for the bit at that place of n bytes and four -/
def expo (n i : Nat) : Nat := (if i / 8 < n then 8 * (n - i / 8 + 3) else 8 * (i / 8 - n)) + (7 - i % 8)
theorem expo_le {n i : Nat} (hn : n ≤ 300) (h : i < 8 * (n + 4)) : expo n i ≤ 2600 := by
  unfold expo
  split <;> omega
theorem expo_inj {n i k : Nat} (hi : i < 8 * (n + 4)) (hk : k < 8 * (n + 4)) (h : expo n i = expo n k) : i = k := by
  unfold expo at h
  split at h <;> split at h <;> omega
theorem bit_nat (k : Nat) (h : k < 8) : (UInt8.ofNat (2 ^ k)).toNat = iter (31 - k) top32 := by
  rw [iter_bit _ (by omega), show 31 - (31 - k) = k from by omega, UInt8.toNat_ofNat']
  exact Nat.mod_eq_of_lt (Nat.pow_lt_pow_right (by omega) h)
theorem split_at (l : List UInt8) (j : Nat) (h : j < l.length) (x : UInt8) : ∃ y, l = l.take j ++ y :: l.drop (j + 1) ∧ l.set j ((l[j]?).getD 0 ^^^ x) = l.take j ++ (y ^^^ x) :: l.drop (j + 1) := by
  refine ⟨l[j], ?_, ?_⟩
  · rw [← List.drop_eq_getElem_cons h, List.take_append_drop]
  · rw [List.set_eq_take_append_cons_drop, if_pos h, List.getElem?_eq_getElem h]
    rfl
theorem chk_turn (l : List UInt8) (n i : Nat) (hl : l.length = n + 4) (hi : i < 8 * (n + 4)) : chk (turn l i) = chk l ^^^ iter (expo n i) top32 := by
  have hj : i / 8 < l.length := by omega
  have hb := bit_nat (i % 8) (by omega)
  generalize hx : UInt8.ofNat (2 ^ (i % 8)) = x at hb
  unfold chk
  rw [turn_length, hl, Nat.add_sub_cancel]
  have ht : turn l i = l.set (i / 8) ((l[i / 8]?).getD 0 ^^^ x) := by unfold turn; rw [hx]
  rw [ht]
  rcases Nat.lt_or_ge (i / 8) n with h | h
  · have hp : (l.take n).length = n := by rw [List.length_take]; omega
    have hd : (l.set (i / 8) ((l[i / 8]?).getD 0 ^^^ x)).drop n = l.drop n := by rw [List.drop_set, if_pos h]
    have hk : (l.set (i / 8) ((l[i / 8]?).getD 0 ^^^ x)).take n = (l.take n).set (i / 8) (((l.take n)[i / 8]?).getD 0 ^^^ x) := by
      rw [List.take_set, List.getElem?_take, if_pos h]
    rw [hd, hk]
    obtain ⟨y, e1, e2⟩ := split_at (l.take n) (i / 8) (by omega) x
    rw [e2]
    unfold crcL
    rw [crc_flip, ← e1, hb, ← iter_add, List.length_drop, hp]
    have he : 31 - i % 8 + 8 * (n - (i / 8 + 1) + 1) = expo n i := by unfold expo; rw [if_pos h]; omega
    rw [he]
    simp only [Nat.xor_assoc]
    congr 1
    rw [← Nat.xor_assoc, ← Nat.xor_assoc, Nat.xor_comm, Nat.xor_comm (iter _ _), Nat.xor_assoc, Nat.xor_comm (beN _)]
    simp only [Nat.xor_assoc]
    congr 1
    exact Nat.xor_comm _ _
  · have hp : (l.drop n).length = 4 := by rw [List.length_drop]; omega
    have hd : (l.set (i / 8) ((l[i / 8]?).getD 0 ^^^ x)).drop n = (l.drop n).set (i / 8 - n) (((l.drop n)[i / 8 - n]?).getD 0 ^^^ x) := by
      rw [List.drop_set, if_neg (by omega), List.getElem?_drop, show n + (i / 8 - n) = i / 8 from by omega]
    have hk : (l.set (i / 8) ((l[i / 8]?).getD 0 ^^^ x)).take n = l.take n := by
      rw [List.take_set, List.set_eq_of_length_le (by rw [List.length_take]; omega)]
    rw [hd, hk]
    obtain ⟨y, e1, e2⟩ := split_at (l.drop n) (i / 8 - n) (by omega) x
    rw [e2, beN_flip, ← e1, List.length_drop, hp, Nat.xor_assoc]
    congr 2
    have hle : expo n i ≤ 31 := by unfold expo; rw [if_neg (by omega)]; omega
    rw [iter_bit _ hle, ← hx, UInt8.toNat_ofNat', Nat.mod_eq_of_lt (Nat.pow_lt_pow_right (by omega) (by omega))]
    rw [show (256 : Nat) = 2 ^ 8 from by decide, ← Nat.pow_mul, ← Nat.pow_add]
    congr 1
    unfold expo
    rw [if_neg (by omega)]
    omega
theorem chk_seal (l : List UInt8) : chk (sealL l) = 0 := by
  have h := (open_seal l).1
  rw [openE_chk _ (by unfold sealL; simp)] at h
  by_cases hc : chk (sealL l) = 0
  · exact hc
  · rw [if_neg hc] at h; exact absurd h (by decide)
/-- one bit that is turned is seen -/
theorem seen_one (l : List UInt8) (i : Nat) (hi : i < 8 * (l.length + 4)) : openE (turn (sealL l) i) = 8 := by
  have hs : (sealL l).length = l.length + 4 := by unfold sealL; simp
  rw [openE_chk _ (by rw [turn_length]; omega), chk_turn _ _ _ hs hi, chk_seal, Nat.zero_xor, if_neg]
  intro h
  exact absurd (iter_zero_iff _ (by decide) h) (by decide)
/-- and so are two -/
theorem seen_two (l : List UInt8) (i k : Nat) (hn : l.length ≤ 300) (hi : i < 8 * (l.length + 4)) (hk : k < 8 * (l.length + 4)) : openE (turn (turn (sealL l) i) k) = if i = k then 0 else 8 := by
  have hs : (sealL l).length = l.length + 4 := by unfold sealL; simp
  rw [openE_chk _ (by rw [turn_length, turn_length]; omega), chk_turn _ _ _ (by rw [turn_length, hs]) hk, chk_turn _ _ _ hs hi, chk_seal, Nat.zero_xor]
  by_cases h : i = k
  · rw [h, Nat.xor_self, if_pos rfl, if_pos rfl]
  · rw [if_neg h, if_neg]
    intro e
    exact iter_apart (fun e => h (expo_inj hi hk e)) (expo_le hn hi) (expo_le hn hk) (xor_eq_zero e)
end Go.Proofs.Ytdilgcdmmofamaa
