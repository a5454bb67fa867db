/- What four bytes do to a sum: plain functions, no program. -/
import Derived.Test.YtdilgcdmmofamaaCrcFlip
namespace Go.Proofs.Ytdilgcdmmofamaa
set_option linter.unusedVariables false

theorem crcT_two (y : Nat) : crcT (2 * y) = y := by
  unfold crcT
  rw [if_neg (by omega)]
  omega
theorem iter_byte (y : Nat) : iter 8 (y * 256) = y := by
  have h : y * 256 = 2 * (2 * (2 * (2 * (2 * (2 * (2 * (2 * y))))))) := by omega
  rw [h]
  simp only [iter, crcT_two]
theorem join8 (x y : Nat) (hx : x < 256) : x ^^^ y * 256 = y * 256 + x := by
  have h := beN_snoc_xor y 0 0 x (by omega) hx
  rw [Nat.xor_zero, Nat.zero_xor, Nat.add_zero, Nat.zero_mul, Nat.zero_add] at h
  rw [h, Nat.xor_comm]
theorem iter_join (m x y : Nat) (hx : x < 256) : iter (m + 8) (y * 256 + x) = iter (m + 8) x ^^^ iter m y := by
  rw [← join8 x y hx, iter_xor, Nat.add_comm m 8, iter_add 8 m (y * 256), iter_byte]
/-- the byte at that place, the lowest first -/
def leB (v j : Nat) : UInt8 := UInt8.ofNat (v / 2 ^ (8 * j))
theorem leB_nat (v j : Nat) : (leB v j).toNat = v / 2 ^ (8 * j) % 256 := by unfold leB; rw [UInt8.toNat_ofNat']
theorem leB_int (v j : Nat) : (v : Int) / 2 ^ (8 * j) % 256 = ((leB v j).toNat : Int) := by
  rw [leB_nat]
  simp [Int.natCast_pow]
def le4 (v : Nat) : List UInt8 := [leB v 0, leB v 1, leB v 2, leB v 3]
theorem le4_word (v : Nat) (h : v < 4294967296) (m : Nat) : iter (m + 32) (leB v 0).toNat ^^^ (iter (m + 24) (leB v 1).toNat ^^^ (iter (m + 16) (leB v 2).toNat ^^^ iter (m + 8) (leB v 3).toNat)) = iter (m + 32) v := by
  have h0 : (leB v 0).toNat = v % 256 := by rw [leB_nat]; simp
  have h1 : (leB v 1).toNat = v / 256 % 256 := by rw [leB_nat]
  have h2 : (leB v 2).toNat = v / 65536 % 256 := by rw [leB_nat]
  have h3 : (leB v 3).toNat = v / 16777216 := by rw [leB_nat, show 2 ^ (8 * 3) = 16777216 from by decide]; omega
  have e0 : v = v / 256 * 256 + v % 256 := by omega
  have e1 : v / 256 = v / 65536 * 256 + v / 256 % 256 := by omega
  have e2 : v / 65536 = v / 16777216 * 256 + v / 65536 % 256 := by omega
  rw [h0, h1, h2, h3]
  have r : iter (m + 32) v = iter (m + 32) (v % 256) ^^^ iter (m + 24) (v / 256) := by
    have := iter_join (m + 24) (v % 256) (v / 256) (by omega)
    rw [← e0] at this
    exact this
  have r1 : iter (m + 24) (v / 256) = iter (m + 24) (v / 256 % 256) ^^^ iter (m + 16) (v / 65536) := by
    have := iter_join (m + 16) (v / 256 % 256) (v / 65536) (by omega)
    rw [← e1] at this
    exact this
  have r2 : iter (m + 16) (v / 65536) = iter (m + 16) (v / 65536 % 256) ^^^ iter (m + 8) (v / 16777216) := by
    have := iter_join (m + 8) (v / 65536 % 256) (v / 16777216) (by omega)
    rw [← e2] at this
    exact this
  rw [r, r1, r2]

/-! ### a sum behind its bytes -/
theorem crcFrom_le4 (v : Nat) (h : v < 4294967296) : crcFrom 0 (le4 v) = iter 32 v := by
  have w := le4_word v h 0
  simp only [Nat.zero_add] at w
  rw [← w]
  show crcB (crcB (crcB (crcB 0 _) _) _) _ = _
  unfold crcB
  rw [Nat.zero_xor, iter_xor, iter_xor, iter_xor, iter_xor, iter_xor, iter_xor]
  rw [← iter_add, ← iter_add, ← iter_add, ← iter_add, ← iter_add, ← iter_add]
  simp only [Nat.xor_assoc]
theorem joins (l : List UInt8) : crcL (l ++ le4 (crcL l)) = crcL [0, 0, 0, 0] := by
  have hV : crcFrom all32 l < 4294967296 := crcFrom_lt l (by decide)
  have hz : crcFrom all32 [0, 0, 0, 0] = iter 32 all32 := by
    rw [crcFrom_split]
    have : crcFrom 0 [0, 0, 0, 0] = 0 := by decide
    rw [this, Nat.xor_zero]
    rfl
  have h4 : (le4 (crcL l)).length = 4 := rfl
  have hc : crcFrom all32 (l ++ le4 (crcL l)) = iter 32 all32 := by
    rw [crcFrom_append, crcFrom_split, crcFrom_le4 _ (crcL_lt l), h4, show 8 * 4 = 32 from rfl, ← iter_xor]
    unfold crcL
    rw [← Nat.xor_assoc, Nat.xor_self, Nat.zero_xor]
  show crcFrom all32 (l ++ le4 (crcL l)) ^^^ all32 = crcFrom all32 [0, 0, 0, 0] ^^^ all32
  rw [hc, hz]
theorem ahead (l : List UInt8) : crcL (0 :: l) ≠ crcL (0 :: 0 :: l) := by
  intro h
  have e1 : crcFrom all32 (0 :: l) = crcFrom (iter 8 all32) l := rfl
  have e2 : crcFrom all32 (0 :: 0 :: l) = crcFrom (iter 8 (iter 8 all32)) l := rfl
  unfold crcL at h
  have h' : crcFrom (iter 8 all32) l = crcFrom (iter 8 (iter 8 all32)) l := by
    rw [← e1, ← e2]
    have := congrArg (· ^^^ all32) h
    simpa [Nat.xor_assoc] using this
  rw [crcFrom_split l (iter 8 all32), crcFrom_split l (iter 8 (iter 8 all32))] at h'
  have h2 : iter (8 * l.length) (iter 8 all32) = iter (8 * l.length) (iter 8 (iter 8 all32)) := by
    have := congrArg (· ^^^ crcFrom 0 l) h'
    simpa [Nat.xor_assoc] using this
  exact absurd (iter_inj (iter_lt _ (by decide)) (iter_lt _ (iter_lt _ (by decide))) h2) (by decide)

/-! ### up to thirty-two bits within four bytes -/
theorem chk_set (l : List UInt8) (n j : Nat) (x : UInt8) (hl : l.length = n + 4) (h : j < n) : chk (l.set j ((l[j]?).getD 0 ^^^ x)) = chk l ^^^ iter (8 * (n - j)) x.toNat := by
  unfold chk
  rw [List.length_set, hl, Nat.add_sub_cancel]
  have hp : (l.take n).length = n := by rw [List.length_take]; omega
  have hd : (l.set j ((l[j]?).getD 0 ^^^ x)).drop n = l.drop n := by rw [List.drop_set, if_pos h]
  have hk : (l.set j ((l[j]?).getD 0 ^^^ x)).take n = (l.take n).set j (((l.take n)[j]?).getD 0 ^^^ x) := by
    rw [List.take_set, List.getElem?_take, if_pos h]
  rw [hd, hk]
  obtain ⟨y, e1, e2⟩ := split_at (l.take n) j (by omega) x
  rw [e2]
  unfold crcL
  rw [crc_flip, ← e1, List.length_drop, hp, show n - (j + 1) + 1 = n - j from by omega]
  simp only [Nat.xor_assoc]
  congr 1
  rw [← Nat.xor_assoc, ← Nat.xor_assoc, Nat.xor_comm, Nat.xor_comm (iter _ _), Nat.xor_assoc, Nat.xor_comm (beN _)]
  simp only [Nat.xor_assoc]
  congr 1
  exact Nat.xor_comm _ _
/-- after so many of four bytes -/
def burstL (l : List UInt8) (n b : Nat) : Nat → List UInt8
  | 0 => l
  | j + 1 => (burstL l n b j).set (n + j) (((burstL l n b j)[n + j]?).getD 0 ^^^ leB b j)
@[simp] theorem burstL_length (l : List UInt8) (n b : Nat) : ∀ j, (burstL l n b j).length = l.length
  | 0 => rfl
  | j + 1 => by unfold burstL; rw [List.length_set]; exact burstL_length l n b j
theorem seen_burst (l : List UInt8) (n b : Nat) (hb : b < 4294967296) (hn : n + 4 ≤ l.length) : openE (burstL (sealL l) n b 4) = if b = 0 then 0 else 8 := by
  have hs : (sealL l).length = l.length + 4 := by unfold sealL; simp
  have hc : chk (burstL (sealL l) n b 4) = iter (8 * (l.length - n - 4) + 32) b := by
    show chk ((burstL (sealL l) n b 3).set (n + 3) _) = _
    rw [chk_set _ l.length _ _ (by rw [burstL_length, hs]) (by omega)]
    show chk ((burstL (sealL l) n b 2).set (n + 2) _) ^^^ _ = _
    rw [chk_set _ l.length _ _ (by rw [burstL_length, hs]) (by omega)]
    show chk ((burstL (sealL l) n b 1).set (n + 1) _) ^^^ _ ^^^ _ = _
    rw [chk_set _ l.length _ _ (by rw [burstL_length, hs]) (by omega)]
    show chk ((burstL (sealL l) n b 0).set (n + 0) _) ^^^ _ ^^^ _ ^^^ _ = _
    rw [chk_set _ l.length _ _ (by rw [burstL_length, hs]) (by omega), show burstL (sealL l) n b 0 = sealL l from rfl, chk_seal, Nat.zero_xor]
    rw [← le4_word b hb, show 8 * (l.length - (n + 0)) = 8 * (l.length - n - 4) + 32 from by omega, show 8 * (l.length - (n + 1)) = 8 * (l.length - n - 4) + 24 from by omega, show 8 * (l.length - (n + 2)) = 8 * (l.length - n - 4) + 16 from by omega, show 8 * (l.length - (n + 3)) = 8 * (l.length - n - 4) + 8 from by omega]
    simp only [Nat.xor_assoc]
  rw [openE_chk _ (by rw [burstL_length]; omega), hc]
  by_cases h : b = 0
  · rw [if_pos h, if_pos (by rw [h]; exact iter_zero _)]
  · rw [if_neg h, if_neg (fun e => h (iter_zero_iff _ hb e))]
end Go.Proofs.Ytdilgcdmmofamaa
