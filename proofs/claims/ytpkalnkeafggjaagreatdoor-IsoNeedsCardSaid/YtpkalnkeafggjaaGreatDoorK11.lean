/- The texts BmHalf, joined. -/
import Derived.Test.YtpkalnkeafggjaaGreatDoorK08
import Derived.Test.YtpkalnkeafggjaaGreatDoorK10
/- Maps of bits as two numbers of 64 bits: plain functions, no program. -/
namespace Go.Proofs.YtpkalnkeafggjaaGreatDoor
set_option maxHeartbeats 400000
set_option linter.unusedVariables false

/-- is bit n (from 1 on) of two halves set? -/
def hbit (a b n : Nat) : Bool := if n ≤ 64 then a.testBit (64 - n) else b.testBit (128 - n)

theorem one_bit (x U : Nat) (hx : x < 18446744073709551616) : (bits BinOp.and IntKind.u64 ((x : Int) / 2 ^ U) 1 == 1) = x.testBit U := by
  have e : ((x : Int) / 2 ^ U) = ((x / 2 ^ U : Nat) : Int) := by simp
  have hle : x / 2 ^ U < 18446744073709551616 := Nat.lt_of_le_of_lt (Nat.div_le_self _ _) hx
  have hb : bits BinOp.and IntKind.u64 ((x / 2 ^ U : Nat) : Int) ((1 : Nat) : Int) = ((x / 2 ^ U &&& 1 : Nat) : Int) :=
    (bits_nat .u64 64 (by decide) (fun n h0 h1 => IntWalk.u64_in _ ⟨h0, by omega⟩) _ _ (by simpa using hle) (by decide)).1
  rw [e]
  have hb' : bits BinOp.and IntKind.u64 ((x / 2 ^ U : Nat) : Int) 1 = ((x / 2 ^ U &&& 1 : Nat) : Int) := hb
  rw [hb', Nat.and_one_is_mod, Nat.testBit_eq_decide_div_mod_eq, Bool.eq_iff_iff]
  simp
  omega
theorem or_u64 (x U : Nat) (hx : x < 18446744073709551616) (hU : U < 64) : bits BinOp.or IntKind.u64 (x : Int) (IntKind.u64.wrap (2 ^ U)) = ((x ||| 2 ^ U : Nat) : Int) := by
  have h2 : (2 : Nat) ^ U < 18446744073709551616 := by
    have : (2 : Nat) ^ U ≤ 2 ^ 63 := Nat.pow_le_pow_right (by decide) (by omega)
    have e : (2 : Nat) ^ 63 = 9223372036854775808 := by decide
    omega
  have e : IntKind.u64.wrap (2 ^ U) = ((2 ^ U : Nat) : Int) := by
    have e1 : (2 : Int) ^ U = ((2 ^ U : Nat) : Int) := by simp
    rw [e1]
    generalize 2 ^ U = z at h2
    exact IntWalk.u64_in _ ⟨by omega, by omega⟩
  rw [e, bits_or_u64_nat _ _ hx h2]

/-- the halves with bit n more -/
def setA (a n : Nat) : Nat := if n ≤ 64 then a ||| 2 ^ (64 - n) else a
def setB (b n : Nat) : Nat := if n ≤ 64 then b else b ||| 2 ^ (128 - n)
theorem or_pow_lt (x U : Nat) (hx : x < 18446744073709551616) (hU : U < 64) : x ||| 2 ^ U < 18446744073709551616 :=
  Nat.or_lt_two_pow (n := 64) hx (Nat.pow_lt_pow_right (by decide) hU)
theorem setA_lt (a n : Nat) (ha : a < 18446744073709551616) (h1 : 1 ≤ n) : setA a n < 18446744073709551616 := by
  unfold setA
  split
  · exact or_pow_lt _ _ ha (by omega)
  · exact ha
theorem setB_lt (b n : Nat) (hb : b < 18446744073709551616) (h2 : n ≤ 128) : setB b n < 18446744073709551616 := by
  unfold setB
  split
  · exact hb
  · exact or_pow_lt _ _ hb (by omega)
theorem hbit_set (a b n m : Nat) (h1 : 1 ≤ n) (h2 : n ≤ 128) (m1 : 1 ≤ m) (m2 : m ≤ 128) : hbit (setA a n) (setB b n) m = (hbit a b m || decide (m = n)) := by
  unfold hbit setA setB
  by_cases hm : m ≤ 64
  · rw [if_pos hm, if_pos hm]
    by_cases hn : n ≤ 64
    · rw [if_pos hn, Nat.testBit_or, Nat.testBit_two_pow]
      congr 1
      rw [decide_eq_decide]
      omega
    · rw [if_neg hn, decide_eq_false (by omega), Bool.or_false]
  · rw [if_neg hm, if_neg hm]
    by_cases hn : n ≤ 64
    · rw [if_pos hn, decide_eq_false (by omega), Bool.or_false]
    · rw [if_neg hn, Nat.testBit_or, Nat.testBit_two_pow]
      congr 1
      rw [decide_eq_decide]
      omega

/-- the numbers from low on, k of them, that are set -/
def thoseK (a b low k : Nat) : List Int := ((List.range k).map fun i => ((low + i : Nat) : Int)).filter fun n => hbit a b n.toNat
theorem thoseK_yes (a b low k : Nat) (h : hbit a b (low + k) = true) : thoseK a b low (k + 1) = thoseK a b low k ++ [((low + k : Nat) : Int)] := by
  unfold thoseK
  rw [List.range_succ, List.map_append, List.filter_append, List.map_cons, List.map_nil, List.filter_cons, Int.toNat_natCast, h]
  simp
theorem thoseK_no (a b low k : Nat) (h : hbit a b (low + k) = false) : thoseK a b low (k + 1) = thoseK a b low k := by
  unfold thoseK
  rw [List.range_succ, List.map_append, List.filter_append, List.map_cons, List.map_nil, List.filter_cons, Int.toNat_natCast, h]
  simp
theorem thoseK_len (a b low k : Nat) : (thoseK a b low k).length ≤ k := by
  unfold thoseK
  exact Nat.le_trans (List.length_filter_le _ _) (by simp)
/-- is one from low on, of k, set? -/
def someK (a b low k : Nat) : Bool := decide (0 < (thoseK a b low k).length)
theorem someK_iff (a b low k : Nat) : someK a b low k = true ↔ ∃ m, low ≤ m ∧ m < low + k ∧ hbit a b m = true := by
  unfold someK
  rw [decide_eq_true_iff, List.length_pos_iff_exists_mem]
  unfold thoseK
  constructor
  · rintro ⟨x, hx⟩
    rw [List.mem_filter, List.mem_map] at hx
    obtain ⟨⟨i, hi, rfl⟩, hb⟩ := hx
    rw [List.mem_range] at hi
    exact ⟨low + i, by omega, by omega, by rwa [Int.toNat_natCast] at hb⟩
  · rintro ⟨m, h1, h2, h3⟩
    refine ⟨(m : Int), ?_⟩
    rw [List.mem_filter, List.mem_map]
    exact ⟨⟨m - low, by rw [List.mem_range]; omega, by omega⟩, by simpa using h3⟩

/-! ### numbers of 64 bits as eight bytes -/
theorem bitAt_low (a i : Nat) (hi : i < 64) : bitAt (low a 8) i = a.testBit (63 - i) := by
  unfold bitAt low
  have h8 : i / 8 < 8 := by omega
  rw [List.getD, List.getElem?_map, List.getElem?_range h8]
  simp only [Option.map_some, Option.getD_some]
  unfold lowB
  rw [UInt8.toNat_ofNat', show (2 : Nat) ^ 8 = 2 ^ 8 from rfl, Nat.testBit_mod_two_pow, decide_eq_true (by omega), Bool.true_and, Nat.testBit_div_two_pow]
  congr 1
  omega
theorem bitAt_low2 (a b i : Nat) (hi : i < 128) : bitAt (low a 8 ++ low b 8) i = hbit a b (i + 1) := by
  unfold hbit
  by_cases h : i < 64
  · rw [bitAt_append_left _ _ _ (by rw [low_length]; omega), bitAt_low _ _ h, if_pos (by omega)]
    congr 1
    omega
  · rw [if_neg (by omega)]
    have e : bitAt (low a 8 ++ low b 8) i = bitAt (low b 8) (i - 64) := by
      unfold bitAt
      rw [List.getD, List.getD, List.getElem?_append_right (by rw [low_length]; omega), low_length, show i / 8 - 8 = (i - 64) / 8 from by omega, show (i - 64) % 8 = i % 8 from by omega]
    rw [e, bitAt_low _ _ (by omega)]
    congr 1
    omega
theorem beN_bit : ∀ (r : List UInt8) (j : Nat), j < 8 * r.length → (beN r.reverse).testBit j = bitAt r.reverse (8 * r.length - 1 - j)
  | [], j, h => by simp at h
  | x :: r, j, h => by
    have ih := beN_bit r
    rw [List.reverse_cons, beN_snoc, List.length_cons, show beN r.reverse * 256 + x.toNat = 2 ^ 8 * beN r.reverse + x.toNat from by omega, Nat.testBit_two_pow_mul_add _ x.toNat_lt]
    rw [List.length_cons] at h
    split
    · rename_i h8
      unfold bitAt
      rw [List.getD, List.getElem?_append_right (by rw [List.length_reverse]; omega), List.length_reverse, show (8 * (r.length + 1) - 1 - j) / 8 - r.length = 0 from by omega, show 7 - (8 * (r.length + 1) - 1 - j) % 8 = j from by omega]
      rfl
    · rw [ih (j - 8) (by omega), bitAt_append_left _ _ _ (by rw [List.length_reverse]; omega)]
      congr 1
      omega
theorem beN_bit8 (l : List UInt8) (i : Nat) (hl : l.length = 8) (hi : i < 64) : (beN l).testBit (63 - i) = bitAt l i := by
  have h := beN_bit l.reverse (63 - i) (by rw [List.length_reverse]; omega)
  rw [List.reverse_reverse, List.length_reverse, hl] at h
  rw [h]
  congr 1
  omega
theorem beN_lt8 (l : List UInt8) (hl : l.length = 8) : beN l < 18446744073709551616 := by
  have h := beN_lt l
  rw [hl] at h
  have e : (256 : Nat) ^ 8 = 18446744073709551616 := by decide
  omega

/-! ### what Write makes -/
theorem contains_low {l : List Int} (h : ∀ n ∈ l, mayB n = true) (m : Int) (hm : m < 2 ∨ m = 65 ∨ 128 < m) : l.contains m = false := by
  rw [Bool.eq_false_iff]
  intro hc
  have := mayB_iff.1 (h _ (List.contains_iff_mem.1 hc))
  omega
theorem big_some {l : List Int} {a b : Nat} (h : ∀ n ∈ l, mayB n = true) (hab : ∀ m, 1 ≤ m → m ≤ 128 → hbit a b m = l.contains (m : Int)) : someK a b 66 63 = bigB l := by
  rw [Bool.eq_iff_iff, someK_iff]
  unfold bigB
  rw [List.any_eq_true]
  constructor
  · rintro ⟨m, h1, h2, h3⟩
    rw [hab m (by omega) (by omega)] at h3
    exact ⟨(m : Int), List.contains_iff_mem.1 h3, decide_eq_true (by omega)⟩
  · rintro ⟨n, hn, h64⟩
    have h64' := of_decide_eq_true h64
    have hmn := mayB_iff.1 (h n hn)
    refine ⟨n.toNat, by omega, by omega, ?_⟩
    rw [hab _ (by omega) (by omega), List.contains_iff_mem, show ((n.toNat : Nat) : Int) = n from by omega]
    exact hn
/-- no number is above 64: eight bytes -/
theorem map_small {l : List Int} {a b : Nat} (h : ∀ n ∈ l, mayB n = true) (hab : ∀ m, 1 ≤ m → m ≤ 128 → hbit a b m = l.contains (m : Int)) (hbig : bigB l = false) :
    low a 8 = mapOf l ∧ hbit a b 1 = false := by
  obtain ⟨s1, s2⟩ := mapOf_spec l h
  have h1 : hbit a b 1 = false := by rw [hab 1 (by omega) (by omega)]; exact contains_low h _ (by omega)
  refine ⟨?_, h1⟩
  apply bits_ext (by rw [low_length, s1]; unfold sizeOfMap; rw [hbig]; rfl)
  intro i hi
  rw [low_length] at hi
  rw [bitAt_low _ _ (by omega), s2]
  unfold inMap
  rw [hbig, Bool.and_false, Bool.or_false]
  have := hab (i + 1) (by omega) (by omega)
  unfold hbit at this
  rw [if_pos (by omega), show 64 - (i + 1) = 63 - i from by omega] at this
  rw [this]
  rfl
/-- one is: sixteen, with bit 1 -/
theorem map_great {l : List Int} {a b : Nat} (h : ∀ n ∈ l, mayB n = true) (hab : ∀ m, 1 ≤ m → m ≤ 128 → hbit a b m = l.contains (m : Int)) (hbig : bigB l = true) :
    low (setA a 1) 8 ++ low (setB b 1) 8 = mapOf l ∧ hbit (setA a 1) (setB b 1) 1 = true := by
  obtain ⟨s1, s2⟩ := mapOf_spec l h
  have h1 : hbit (setA a 1) (setB b 1) 1 = true := by rw [hbit_set _ _ _ _ (by omega) (by omega) (by omega) (by omega)]; simp
  refine ⟨?_, h1⟩
  apply bits_ext (by rw [List.length_append, low_length, low_length, s1]; unfold sizeOfMap; rw [hbig]; rfl)
  intro i hi
  rw [List.length_append, low_length, low_length] at hi
  rw [bitAt_low2 _ _ _ (by omega), s2, hbit_set _ _ _ _ (by omega) (by omega) (by omega) (by omega), hab _ (by omega) (by omega)]
  unfold inMap
  rw [hbig, Bool.and_true]
  congr 1
  rw [decide_eq_decide]
  omega

/-! ### what Parse reads -/
/-- two halves read as the head of a map -/
def Reads (a c : Nat) (b : List UInt8) (n : Nat) : Prop := a < 18446744073709551616 ∧ c < 18446744073709551616 ∧ ∀ m, 1 ≤ m → m ≤ 8 * n → hbit a c m = bitAt b (m - 1)
theorem reads_one (b : List UInt8) (h : 8 ≤ b.length) : Reads (beN (b.take 8)) 0 b 8 := by
  have hl : (b.take 8).length = 8 := by rw [List.length_take]; omega
  refine ⟨beN_lt8 _ hl, by omega, fun m h1 h2 => ?_⟩
  unfold hbit
  rw [if_pos (by omega), show 64 - m = 63 - (m - 1) from by omega, beN_bit8 _ _ hl (by omega), bitAt_take _ _ _ (by omega)]
theorem reads_two (b : List UInt8) (h : 16 ≤ b.length) : Reads (beN (b.take 8)) (beN ((b.drop 8).take 8)) b 16 := by
  have hl : (b.take 8).length = 8 := by rw [List.length_take]; omega
  have hl2 : ((b.drop 8).take 8).length = 8 := by rw [List.length_take, List.length_drop]; omega
  refine ⟨beN_lt8 _ hl, beN_lt8 _ hl2, fun m h1 h2 => ?_⟩
  unfold hbit
  split
  · rw [show 64 - m = 63 - (m - 1) from by omega, beN_bit8 _ _ hl (by omega), bitAt_take _ _ _ (by omega)]
  · rw [show 128 - m = 63 - (m - 65) from by omega, beN_bit8 _ _ hl2 (by omega), bitAt_take _ _ _ (by omega)]
    unfold bitAt
    rw [List.getD, List.getD, List.getElem?_drop, show 8 + (m - 65) / 8 = (m - 1) / 8 from by omega, show (m - 65) % 8 = (m - 1) % 8 from by omega]
theorem reads_those {a c : Nat} {b : List UInt8} {n : Nat} (h : Reads a c b n) (hn : 1 ≤ n) : thoseK a c 2 (8 * n - 1) = setOf b n := by
  unfold thoseK setOf
  rw [show (fun i : Nat => ((2 + i : Nat) : Int)) = fun k : Nat => (k : Int) + 2 from by funext k; omega]
  apply List.filter_congr
  intro x hx
  rw [List.mem_map] at hx
  obtain ⟨k, hk, rfl⟩ := hx
  rw [List.mem_range] at hk
  exact h.2.2 _ (by omega) (by omega)
theorem reads_some {a c : Nat} {b : List UInt8} (h : Reads a c b 16) : someK a c 66 63 = (setOf b 16).any fun n => decide (66 ≤ n) := by
  rw [Bool.eq_iff_iff, someK_iff, List.any_eq_true]
  constructor
  · rintro ⟨m, h1, h2, h3⟩
    rw [h.2.2 _ (by omega) (by omega)] at h3
    exact ⟨(m : Int), (setOf_mem b 16 (by omega) _).2 ⟨by omega, by omega, by simpa using h3⟩, decide_eq_true (by omega)⟩
  · rintro ⟨x, hx, h66⟩
    have h66' := of_decide_eq_true h66
    obtain ⟨h1, h2, h3⟩ := (setOf_mem b 16 (by omega) _).1 hx
    exact ⟨x.toNat, by omega, by omega, by rw [h.2.2 _ (by omega) (by omega)]; exact h3⟩
end Go.Proofs.YtpkalnkeafggjaaGreatDoor
