/- The texts KinBits, BmHalf, BmProg, BmProg2, BmProg3, joined. -/
import Derived.Test.YthlgnmgjfgbffaaGreatDoorL07
import Derived.Test.YthlgnmgjfgbffaaGreatDoorL02
import Derived.Laws.BitsLemmas
import Derived.Test.YthlgnmgjfgbffaaGreatDoorL03
/- Kinds of messages: the program's table, and its sets of parts, against the document's. No program. -/
namespace Go.Proofs.YthlgnmgjfgbffaaGreatDoor
open Go.RowKit
set_option linter.unusedVariables false

/-! ### rows -/
theorem dev_table : (List.range 11).all (fun i => (dRow i).kind == ((i : Int) + 1) && ((dRow i).code.data.toList == (kRow (i + 1)).code.data.toList && ((dRow i).mti.data.toList == (kRow (i + 1)).mti.data.toList && (Nat.blt (dRow i).must 2048 && Nat.blt (dRow i).may 2048)))) = true := by decide +kernel
theorem dev_row {i : Nat} (hi : i < 11) : (dRow i).kind = (i : Int) + 1 ∧ (dRow i).code = (kRow (i + 1)).code ∧ (dRow i).mti = (kRow (i + 1)).mti ∧ (dRow i).must < 2048 ∧ (dRow i).may < 2048 := by
  have h := List.all_eq_true.1 dev_table i (List.mem_range.2 hi)
  simp only [Bool.and_eq_true, beq_iff_eq, Nat.blt_eq] at h
  exact ⟨h.1, s_eq h.2.1, s_eq h.2.2.1, h.2.2.2.1, h.2.2.2.2⟩
/-- the test of a number -/
def pNum (K : Int) (i : Nat) : Bool := (dRow i).kind == K
def pCode (S : ByteArray) (i : Nat) : Bool := (dRow i).code.data.toList == S.data.toList
def pMti (S : ByteArray) (i : Nat) : Bool := (dRow i).mti.data.toList == S.data.toList
theorem first_num (K : Int) : (1 ≤ K ∧ K < 12 → ∃ i : Nat, i < 11 ∧ K = (i : Int) + 1 ∧ dFirst (pNum K) = dRow i) ∧ (¬ (1 ≤ K ∧ K < 12) → dFirst (pNum K) = dNone) := by
  constructor
  · intro h
    refine ⟨K.toNat - 1, by omega, by omega, dFirst_at (by omega) (fun j hj => ?_) ?_⟩
    · unfold pNum
      rw [(dev_row (i := j) (by omega)).1, beq_eq_false_iff_ne]
      omega
    · unfold pNum
      rw [(dev_row (i := K.toNat - 1) (by omega)).1, beq_iff_eq]
      omega
  · intro h
    refine dFirst_none (fun j hj => ?_)
    unfold pNum
    rw [(dev_row hj).1, beq_eq_false_iff_ne]
    omega
theorem rowOf_at (i : Nat) (hi : i < 11) : rowOf ((i : Int) + 1) = kRow (i + 1) := by
  unfold rowOf
  rw [if_pos (by omega)]
  congr 1
theorem first_words (K : Int) : (dFirst (pNum K)).code = cdB K ∧ (dFirst (pNum K)).mti = mtB K := by
  unfold cdB mtB
  by_cases h : 1 ≤ K ∧ K < 12
  · obtain ⟨i, hi, rfl, he⟩ := (first_num K).1 h
    obtain ⟨_, h1, h2, _⟩ := dev_row hi
    rw [he, rowOf_at i hi, h1, h2]
    exact ⟨rfl, rfl⟩
  · rw [(first_num K).2 h]
    unfold rowOf
    rw [if_neg h]
    exact ⟨rfl, rfl⟩
theorem dFirstF_kind (p : Nat → Bool) (q : KRow → Bool) (h : ∀ i, i < 11 → p i = q (kRow (i + 1))) : ∀ n k, k + n ≤ 11 → (dFirstF p k n).kind = kindF q (k + 1) n
  | 0, _, _ => rfl
  | n + 1, k, hk => by
    rw [dFirstF, kindF, h k (by omega)]
    split
    · rw [(dev_row (i := k) (by omega)).1]; omega
    · exact dFirstF_kind p q h n (k + 1) (by omega)
theorem first_code (S : ByteArray) : (dFirst (pCode S)).kind = ofCode S := by
  refine dFirstF_kind (pCode S) (fun r => r.code.data.toList == S.data.toList) (fun i hi => ?_) 11 0 (by omega)
  unfold pCode
  rw [(dev_row hi).2.1]
theorem first_mti (S : ByteArray) : (dFirst (pMti S)).kind = ofMti S := by
  refine dFirstF_kind (pMti S) (fun r => r.mti.data.toList == S.data.toList) (fun i hi => ?_) 11 0 (by omega)
  unfold pMti
  rw [(dev_row hi).2.2.1]

/-! ### sets of parts -/
def maskN (th : List Bool) : Nat → Nat
  | 0 => 0
  | k + 1 => if (th[k]?).getD false then maskN th k ||| 2 ^ k else maskN th k
theorem maskN_bit (th : List Bool) : ∀ (k i : Nat), (maskN th k).testBit i = (decide (i < k) && (th[i]?).getD false)
  | 0, i => by simp [maskN]
  | k + 1, i => by
    rw [maskN]
    by_cases hk : (th[k]?).getD false = true
    · rw [if_pos hk, Nat.testBit_or, maskN_bit th k i, Nat.testBit_two_pow]
      by_cases h : k = i
      · subst h; simp [hk]
      · simp [h, show (i < k + 1) = (i < k) from by rw [eq_iff_iff]; omega]
    · rw [if_neg hk, maskN_bit th k i]
      by_cases h : k = i
      · subst h; simp [Bool.not_eq_true _ ▸ hk]
      · rw [show (decide (i < k + 1)) = decide (i < k) from by rw [decide_eq_decide]; omega]
theorem maskN_lt (th : List Bool) : ∀ k, maskN th k < 2 ^ k
  | 0 => by simp [maskN]
  | k + 1 => by
    have h := maskN_lt th k
    have h2 : 2 ^ k < 2 ^ (k + 1) := Nat.pow_lt_pow_right (by decide) (by omega)
    rw [maskN]
    split
    · exact Nat.or_lt_two_pow (by omega) h2
    · omega
theorem wraps_u16 (n : Int) (h0 : 0 ≤ n) (h1 : n < 2 ^ 16) : IntKind.u16.wrap n = n := by
  simp [IntKind.wrap, IntKind.bits, IntKind.signed]
  omega
theorem and_u16 (a b : Nat) (ha : a < 65536) (hb : b < 65536) : bits .and .u16 (a : Int) (b : Int) = ((a &&& b : Nat) : Int) := (bits_nat .u16 16 (by decide) wraps_u16 a b ha hb).1
theorem or_u16 (a b : Nat) (ha : a < 65536) (hb : b < 65536) : bits .or .u16 (a : Int) (b : Int) = ((a ||| b : Nat) : Int) := (bits_nat .u16 16 (by decide) wraps_u16 a b ha hb).2
/-- a without b's bits -/
def without (a b : Nat) : Nat := (BitVec.ofNat 16 a &&& ~~~BitVec.ofNat 16 b).toNat
theorem not_u16 (a b : Nat) : bits .andNot .u16 (a : Int) (b : Int) = (without a b : Int) := by
  simp only [bits, BitVec.ofInt_natCast]
  exact wraps_u16 _ (Int.natCast_nonneg _) (by have := (BitVec.ofNat 16 a &&& ~~~BitVec.ofNat 16 b).isLt; exact_mod_cast this)
theorem without_bit (a b i : Nat) : (without a b).testBit i = (decide (i < 16) && (a.testBit i && !b.testBit i)) := by
  unfold without
  rw [BitVec.testBit_toNat, BitVec.getLsbD_and, BitVec.getLsbD_not, BitVec.getLsbD_ofNat, BitVec.getLsbD_ofNat]
  by_cases h : i < 16 <;> simp [h]
theorem without_lt (a b : Nat) : without a b < 65536 := (BitVec.ofNat 16 a &&& ~~~BitVec.ofNat 16 b).isLt
/-- may a message have just these parts? -/
def letsB (r : DRow) (h : Nat) : Bool := (h &&& r.must) == r.must && without h (r.must ||| r.may) == 0
theorem small_bit {n i : Nat} (hn : n < 2048) (hi : 11 ≤ i) : n.testBit i = false := by
  refine Nat.testBit_lt_two_pow (Nat.lt_of_lt_of_le hn ?_)
  exact Nat.le_trans (by decide : 2048 ≤ 2 ^ 11) (Nat.pow_le_pow_right (by decide) hi)
theorem must_iff {h m : Nat} (hm : m < 2048) : ((h &&& m) == m) = true ↔ ∀ i, i < 11 → m.testBit i = true → h.testBit i = true := by
  rw [beq_iff_eq]
  constructor
  · intro e i _ hb
    have := congrArg (fun x => x.testBit i) e
    simp only [Nat.testBit_and, hb, Bool.and_true] at this
    exact this
  · intro e
    apply Nat.eq_of_testBit_eq
    intro i
    rw [Nat.testBit_and]
    by_cases hi : i < 11
    · cases hb : m.testBit i with
      | true => rw [e i hi hb]; rfl
      | false => simp
    · rw [small_bit hm (by omega)]; simp
theorem may_iff {h m : Nat} (hh : h < 2048) : (without h m == 0) = true ↔ ∀ i, i < 11 → h.testBit i = true → m.testBit i = true := by
  rw [beq_iff_eq]
  constructor
  · intro e i hi hb
    have := congrArg (fun x => x.testBit i) e
    simp only [without_bit, hb, Nat.zero_testBit, Bool.true_and, show i < 16 from by omega, decide_true] at this
    simpa using this
  · intro e
    apply Nat.eq_of_testBit_eq
    intro i
    rw [without_bit, Nat.zero_testBit]
    by_cases hi : i < 11
    · cases hb : h.testBit i with
      | true => rw [e i hi hb]; simp
      | false => simp
    · rw [small_bit hh (by omega)]; simp
theorem dev_bits : (List.range 11).all (fun k => (List.range 11).all (fun i => inL (kRow (k + 1)).must.data.toList (lettersL.getD i 0) == (dRow k).must.testBit i && inL (kRow (k + 1)).may.data.toList (lettersL.getD i 0) == (dRow k).may.testBit i) && ((kRow (k + 1)).must.data.toList.all (fun c => inL lettersL c) && !((kRow (k + 1)).code.data.toList == []))) = true := by decide +kernel
theorem dev_bit {k i : Nat} (hk : k < 11) (hi : i < 11) : inL (kRow (k + 1)).must.data.toList (lettersL.getD i 0) = (dRow k).must.testBit i ∧ inL (kRow (k + 1)).may.data.toList (lettersL.getD i 0) = (dRow k).may.testBit i := by
  have h := List.all_eq_true.1 dev_bits k (List.mem_range.2 hk)
  rw [Bool.and_eq_true] at h
  have h2 := List.all_eq_true.1 h.1 i (List.mem_range.2 hi)
  simp only [Bool.and_eq_true, beq_iff_eq] at h2
  exact h2
theorem dev_more {k : Nat} (hk : k < 11) : (∀ c ∈ (kRow (k + 1)).must.data.toList, ∃ i, i < 11 ∧ lettersL.getD i 0 = c) ∧ (kRow (k + 1)).code.data.toList ≠ [] := by
  have h := List.all_eq_true.1 dev_bits k (List.mem_range.2 hk)
  simp only [Bool.and_eq_true, Bool.not_eq_true', beq_eq_false_iff_ne] at h
  refine ⟨fun c hc => ?_, h.2.2⟩
  have h3 := List.all_eq_true.1 h.2.1 c hc
  unfold inL at h3
  rw [List.any_eq_true] at h3
  obtain ⟨x, hx, he⟩ := h3
  obtain ⟨i, hi, rfl⟩ := List.getElem_of_mem hx
  rw [beq_iff_eq] at he
  exact ⟨i, hi, by rw [List.getD_eq_getElem?_getD, List.getElem?_eq_getElem hi]; exact he⟩
theorem letters_nodup {i j : Nat} (hi : i < 11) (hj : j < 11) (h : lettersL.getD i 0 = lettersL.getD j 0) : i = j := by
  have ht : (List.range 11).all (fun i => (List.range 11).all (fun j => !(lettersL.getD i 0 == lettersL.getD j 0) || i == j)) = true := by decide +kernel
  have h2 := List.all_eq_true.1 (List.all_eq_true.1 ht i (List.mem_range.2 hi)) j (List.mem_range.2 hj)
  simp only [h, beq_self_eq_true, Bool.not_true, Bool.false_or, beq_iff_eq] at h2
  exact h2
theorem hasF_mem (th : List Bool) : ∀ (k : Nat) (c : UInt8), c ∈ hasF th k ↔ ∃ i, i < k ∧ (th[i]?).getD false = true ∧ lettersL.getD i 0 = c
  | 0, c => by simp [hasF]
  | k + 1, c => by
    rw [hasF, List.mem_append, hasF_mem th k c]
    constructor
    · rintro (⟨i, hi, h1, h2⟩ | h)
      · exact ⟨i, by omega, h1, h2⟩
      · split at h
        · rename_i hk
          rw [List.mem_singleton] at h
          exact ⟨k, by omega, hk, by rw [List.getD_eq_getElem?_getD]; exact h.symm⟩
        · cases h
    · rintro ⟨i, hi, h1, h2⟩
      by_cases hik : i = k
      · subst hik
        right
        rw [if_pos h1, List.mem_singleton, ← h2, List.getD_eq_getElem?_getD]
      · exact .inl ⟨i, by omega, h1, h2⟩
theorem inL_iff {l : List UInt8} {c : UInt8} : inL l c = true ↔ c ∈ l := by
  unfold inL
  rw [List.any_eq_true]
  constructor
  · rintro ⟨x, hx, he⟩
    rw [beq_iff_eq] at he
    exact he ▸ hx
  · intro h
    exact ⟨c, h, beq_self_eq_true c⟩
theorem has_letter (th : List Bool) {i : Nat} (hi : i < 11) : lettersL.getD i 0 ∈ hasL th ↔ (maskN th 11).testBit i = true := by
  unfold hasL
  rw [hasF_mem, maskN_bit, Bool.and_eq_true, decide_eq_true_eq]
  constructor
  · rintro ⟨j, hj, h1, h2⟩
    rw [letters_nodup hj hi h2] at h1
    exact ⟨hi, h1⟩
  · rintro ⟨_, h⟩
    exact ⟨i, hi, h, rfl⟩
/-- the program's sets are the document's letters -/
theorem lets_eq (th : List Bool) {k : Nat} (hk : k < 11) : letsB (dRow k) (maskN th 11) = ((kRow (k + 1)).must.data.toList.all (fun c => inL (hasL th) c) && (hasL th).all (fun c => inL ((kRow (k + 1)).must.data.toList ++ (kRow (k + 1)).may.data.toList) c)) := by
  obtain ⟨_, _, _, hm1, hm2⟩ := dev_row hk
  have hlt : maskN th 11 < 2048 := maskN_lt th 11
  unfold letsB
  rw [Bool.eq_iff_iff, Bool.and_eq_true, Bool.and_eq_true, must_iff hm1, may_iff hlt, List.all_eq_true, List.all_eq_true]
  constructor
  · rintro ⟨h1, h2⟩
    refine ⟨fun c hc => ?_, fun c hc => ?_⟩
    · obtain ⟨i, hi, rfl⟩ := (dev_more hk).1 c hc
      rw [inL_iff, has_letter th hi]
      refine h1 i hi ?_
      rw [← (dev_bit hk hi).1]
      exact inL_iff.2 hc
    · obtain ⟨i, hi, ht, rfl⟩ := (hasF_mem th 11 c).1 hc
      have h3 := h2 i hi ((has_letter th hi).1 hc)
      rw [Nat.testBit_or, Bool.or_eq_true, ← (dev_bit hk hi).1, ← (dev_bit hk hi).2, inL_iff, inL_iff] at h3
      rw [inL_iff, List.mem_append]
      exact h3
  · rintro ⟨h1, h2⟩
    refine ⟨fun i hi hb => ?_, fun i hi hb => ?_⟩
    · rw [← (dev_bit hk hi).1, inL_iff] at hb
      exact (has_letter th hi).1 (inL_iff.1 (h1 _ hb))
    · have h3 := h2 _ ((has_letter th hi).2 hb)
      rw [inL_iff, List.mem_append, ← inL_iff, ← inL_iff, (dev_bit hk hi).1, (dev_bit hk hi).2] at h3
      rw [Nat.testBit_or, Bool.or_eq_true]
      exact h3
/-- what Fits tells, by the program's row -/
theorem fits_dev (th : List Bool) (bad : Bool) (K : Int) : fitsR (rowOf K) (hasL th) bad = if (dFirst (pNum K)).kind = 0 then 15 else if !letsB (dFirst (pNum K)) (maskN th 11) || bad then 19 else 0 := by
  by_cases h : 1 ≤ K ∧ K < 12
  · obtain ⟨i, hi, rfl, he⟩ := (first_num K).1 h
    rw [he, rowOf_at i hi, (dev_row hi).1, if_neg (by omega), lets_eq th hi]
    unfold fitsR
    rw [if_neg (dev_more hi).2]
    cases (kRow (i + 1)).must.data.toList.all (fun c => inL (hasL th) c) <;> cases (hasL th).all (fun c => inL ((kRow (i + 1)).must.data.toList ++ (kRow (i + 1)).may.data.toList) c) <;> cases bad <;> rfl
  · rw [(first_num K).2 h, if_pos (show dNone.kind = 0 from rfl)]
    unfold rowOf
    rw [if_neg h]
    rfl
end Go.Proofs.YthlgnmgjfgbffaaGreatDoor
/- Maps of bits as two numbers of 64 bits: plain functions, no program. -/
namespace Go.Proofs.YthlgnmgjfgbffaaGreatDoor
set_option maxHeartbeats 400000
set_option linter.unusedVariables false

/-- is bit n (from 1 on) of two halves set? -/
def hbit (a b n : Nat) : Bool := if n ≤ 64 then a.testBit (64 - n) else b.testBit (128 - n)

theorem one_bit (x U : Nat) (hx : x < 18446744073709551616) : (bits BinOp.and IntKind.u64 ((x : Int) / 2 ^ U) 1 == 1) = x.testBit U := by
  have e : ((x : Int) / 2 ^ U) = ((x / 2 ^ U : Nat) : Int) := by simp
  have hle : x / 2 ^ U < 18446744073709551616 := Nat.lt_of_le_of_lt (Nat.div_le_self _ _) hx
  have hb : bits BinOp.and IntKind.u64 ((x / 2 ^ U : Nat) : Int) ((1 : Nat) : Int) = ((x / 2 ^ U &&& 1 : Nat) : Int) :=
    (bits_nat .u64 64 (by decide) (fun n h0 h1 => IntWalk.u64_in _ ⟨h0, by omega⟩) _ _ (by simpa using hle) (by decide)).1
  rw [e]
  have hb' : bits BinOp.and IntKind.u64 ((x / 2 ^ U : Nat) : Int) 1 = ((x / 2 ^ U &&& 1 : Nat) : Int) := hb
  rw [hb', Nat.and_one_is_mod, Nat.testBit_eq_decide_div_mod_eq, Bool.eq_iff_iff]
  simp
  omega
theorem or_u64 (x U : Nat) (hx : x < 18446744073709551616) (hU : U < 64) : bits BinOp.or IntKind.u64 (x : Int) (IntKind.u64.wrap (2 ^ U)) = ((x ||| 2 ^ U : Nat) : Int) := by
  have h2 : (2 : Nat) ^ U < 18446744073709551616 := by
    have : (2 : Nat) ^ U ≤ 2 ^ 63 := Nat.pow_le_pow_right (by decide) (by omega)
    have e : (2 : Nat) ^ 63 = 9223372036854775808 := by decide
    omega
  have e : IntKind.u64.wrap (2 ^ U) = ((2 ^ U : Nat) : Int) := by
    have e1 : (2 : Int) ^ U = ((2 ^ U : Nat) : Int) := by simp
    rw [e1]
    generalize 2 ^ U = z at h2
    exact IntWalk.u64_in _ ⟨by omega, by omega⟩
  rw [e, bits_or_u64_nat _ _ hx h2]

/-- the halves with bit n more -/
def setA (a n : Nat) : Nat := if n ≤ 64 then a ||| 2 ^ (64 - n) else a
def setB (b n : Nat) : Nat := if n ≤ 64 then b else b ||| 2 ^ (128 - n)
theorem or_pow_lt (x U : Nat) (hx : x < 18446744073709551616) (hU : U < 64) : x ||| 2 ^ U < 18446744073709551616 :=
  Nat.or_lt_two_pow (n := 64) hx (Nat.pow_lt_pow_right (by decide) hU)
theorem setA_lt (a n : Nat) (ha : a < 18446744073709551616) (h1 : 1 ≤ n) : setA a n < 18446744073709551616 := by
  unfold setA
  split
  · exact or_pow_lt _ _ ha (by omega)
  · exact ha
theorem setB_lt (b n : Nat) (hb : b < 18446744073709551616) (h2 : n ≤ 128) : setB b n < 18446744073709551616 := by
  unfold setB
  split
  · exact hb
  · exact or_pow_lt _ _ hb (by omega)
theorem hbit_set (a b n m : Nat) (h1 : 1 ≤ n) (h2 : n ≤ 128) (m1 : 1 ≤ m) (m2 : m ≤ 128) : hbit (setA a n) (setB b n) m = (hbit a b m || decide (m = n)) := by
  unfold hbit setA setB
  by_cases hm : m ≤ 64
  · rw [if_pos hm, if_pos hm]
    by_cases hn : n ≤ 64
    · rw [if_pos hn, Nat.testBit_or, Nat.testBit_two_pow]
      congr 1
      rw [decide_eq_decide]
      omega
    · rw [if_neg hn, decide_eq_false (by omega), Bool.or_false]
  · rw [if_neg hm, if_neg hm]
    by_cases hn : n ≤ 64
    · rw [if_pos hn, decide_eq_false (by omega), Bool.or_false]
    · rw [if_neg hn, Nat.testBit_or, Nat.testBit_two_pow]
      congr 1
      rw [decide_eq_decide]
      omega

/-- the numbers from low on, k of them, that are set -/
def thoseK (a b low k : Nat) : List Int := ((List.range k).map fun i => ((low + i : Nat) : Int)).filter fun n => hbit a b n.toNat
theorem thoseK_yes (a b low k : Nat) (h : hbit a b (low + k) = true) : thoseK a b low (k + 1) = thoseK a b low k ++ [((low + k : Nat) : Int)] := by
  unfold thoseK
  rw [List.range_succ, List.map_append, List.filter_append, List.map_cons, List.map_nil, List.filter_cons, Int.toNat_natCast, h]
  simp
theorem thoseK_no (a b low k : Nat) (h : hbit a b (low + k) = false) : thoseK a b low (k + 1) = thoseK a b low k := by
  unfold thoseK
  rw [List.range_succ, List.map_append, List.filter_append, List.map_cons, List.map_nil, List.filter_cons, Int.toNat_natCast, h]
  simp
theorem thoseK_len (a b low k : Nat) : (thoseK a b low k).length ≤ k := by
  unfold thoseK
  exact Nat.le_trans (List.length_filter_le _ _) (by simp)
/-- is one from low on, of k, set? -/
def someK (a b low k : Nat) : Bool := decide (0 < (thoseK a b low k).length)
theorem someK_iff (a b low k : Nat) : someK a b low k = true ↔ ∃ m, low ≤ m ∧ m < low + k ∧ hbit a b m = true := by
  unfold someK
  rw [decide_eq_true_iff, List.length_pos_iff_exists_mem]
  unfold thoseK
  constructor
  · rintro ⟨x, hx⟩
    rw [List.mem_filter, List.mem_map] at hx
    obtain ⟨⟨i, hi, rfl⟩, hb⟩ := hx
    rw [List.mem_range] at hi
    exact ⟨low + i, by omega, by omega, by rwa [Int.toNat_natCast] at hb⟩
  · rintro ⟨m, h1, h2, h3⟩
    refine ⟨(m : Int), ?_⟩
    rw [List.mem_filter, List.mem_map]
    exact ⟨⟨m - low, by rw [List.mem_range]; omega, by omega⟩, by simpa using h3⟩

/-! ### numbers of 64 bits as eight bytes -/
theorem bitAt_low (a i : Nat) (hi : i < 64) : bitAt (low a 8) i = a.testBit (63 - i) := by
  unfold bitAt low
  have h8 : i / 8 < 8 := by omega
  rw [List.getD, List.getElem?_map, List.getElem?_range h8]
  simp only [Option.map_some, Option.getD_some]
  unfold lowB
  rw [UInt8.toNat_ofNat', show (2 : Nat) ^ 8 = 2 ^ 8 from rfl, Nat.testBit_mod_two_pow, decide_eq_true (by omega), Bool.true_and, Nat.testBit_div_two_pow]
  congr 1
  omega
theorem bitAt_low2 (a b i : Nat) (hi : i < 128) : bitAt (low a 8 ++ low b 8) i = hbit a b (i + 1) := by
  unfold hbit
  by_cases h : i < 64
  · rw [bitAt_append_left _ _ _ (by rw [low_length]; omega), bitAt_low _ _ h, if_pos (by omega)]
    congr 1
    omega
  · rw [if_neg (by omega)]
    have e : bitAt (low a 8 ++ low b 8) i = bitAt (low b 8) (i - 64) := by
      unfold bitAt
      rw [List.getD, List.getD, List.getElem?_append_right (by rw [low_length]; omega), low_length, show i / 8 - 8 = (i - 64) / 8 from by omega, show (i - 64) % 8 = i % 8 from by omega]
    rw [e, bitAt_low _ _ (by omega)]
    congr 1
    omega
theorem beN_bit : ∀ (r : List UInt8) (j : Nat), j < 8 * r.length → (beN r.reverse).testBit j = bitAt r.reverse (8 * r.length - 1 - j)
  | [], j, h => by simp at h
  | x :: r, j, h => by
    have ih := beN_bit r
    rw [List.reverse_cons, beN_snoc, List.length_cons, show beN r.reverse * 256 + x.toNat = 2 ^ 8 * beN r.reverse + x.toNat from by omega, Nat.testBit_two_pow_mul_add _ x.toNat_lt]
    rw [List.length_cons] at h
    split
    · rename_i h8
      unfold bitAt
      rw [List.getD, List.getElem?_append_right (by rw [List.length_reverse]; omega), List.length_reverse, show (8 * (r.length + 1) - 1 - j) / 8 - r.length = 0 from by omega, show 7 - (8 * (r.length + 1) - 1 - j) % 8 = j from by omega]
      rfl
    · rw [ih (j - 8) (by omega), bitAt_append_left _ _ _ (by rw [List.length_reverse]; omega)]
      congr 1
      omega
theorem beN_bit8 (l : List UInt8) (i : Nat) (hl : l.length = 8) (hi : i < 64) : (beN l).testBit (63 - i) = bitAt l i := by
  have h := beN_bit l.reverse (63 - i) (by rw [List.length_reverse]; omega)
  rw [List.reverse_reverse, List.length_reverse, hl] at h
  rw [h]
  congr 1
  omega
theorem beN_lt8 (l : List UInt8) (hl : l.length = 8) : beN l < 18446744073709551616 := by
  have h := beN_lt l
  rw [hl] at h
  have e : (256 : Nat) ^ 8 = 18446744073709551616 := by decide
  omega

/-! ### what Write makes -/
theorem contains_low {l : List Int} (h : ∀ n ∈ l, mayB n = true) (m : Int) (hm : m < 2 ∨ m = 65 ∨ 128 < m) : l.contains m = false := by
  rw [Bool.eq_false_iff]
  intro hc
  have := mayB_iff.1 (h _ (List.contains_iff_mem.1 hc))
  omega
theorem big_some {l : List Int} {a b : Nat} (h : ∀ n ∈ l, mayB n = true) (hab : ∀ m, 1 ≤ m → m ≤ 128 → hbit a b m = l.contains (m : Int)) : someK a b 66 63 = bigB l := by
  rw [Bool.eq_iff_iff, someK_iff]
  unfold bigB
  rw [List.any_eq_true]
  constructor
  · rintro ⟨m, h1, h2, h3⟩
    rw [hab m (by omega) (by omega)] at h3
    exact ⟨(m : Int), List.contains_iff_mem.1 h3, decide_eq_true (by omega)⟩
  · rintro ⟨n, hn, h64⟩
    have h64' := of_decide_eq_true h64
    have hmn := mayB_iff.1 (h n hn)
    refine ⟨n.toNat, by omega, by omega, ?_⟩
    rw [hab _ (by omega) (by omega), List.contains_iff_mem, show ((n.toNat : Nat) : Int) = n from by omega]
    exact hn
/-- no number is above 64: eight bytes -/
theorem map_small {l : List Int} {a b : Nat} (h : ∀ n ∈ l, mayB n = true) (hab : ∀ m, 1 ≤ m → m ≤ 128 → hbit a b m = l.contains (m : Int)) (hbig : bigB l = false) :
    low a 8 = mapOf l ∧ hbit a b 1 = false := by
  obtain ⟨s1, s2⟩ := mapOf_spec l h
  have h1 : hbit a b 1 = false := by rw [hab 1 (by omega) (by omega)]; exact contains_low h _ (by omega)
  refine ⟨?_, h1⟩
  apply bits_ext (by rw [low_length, s1]; unfold sizeOfMap; rw [hbig]; rfl)
  intro i hi
  rw [low_length] at hi
  rw [bitAt_low _ _ (by omega), s2]
  unfold inMap
  rw [hbig, Bool.and_false, Bool.or_false]
  have := hab (i + 1) (by omega) (by omega)
  unfold hbit at this
  rw [if_pos (by omega), show 64 - (i + 1) = 63 - i from by omega] at this
  rw [this]
  rfl
/-- one is: sixteen, with bit 1 -/
theorem map_great {l : List Int} {a b : Nat} (h : ∀ n ∈ l, mayB n = true) (hab : ∀ m, 1 ≤ m → m ≤ 128 → hbit a b m = l.contains (m : Int)) (hbig : bigB l = true) :
    low (setA a 1) 8 ++ low (setB b 1) 8 = mapOf l ∧ hbit (setA a 1) (setB b 1) 1 = true := by
  obtain ⟨s1, s2⟩ := mapOf_spec l h
  have h1 : hbit (setA a 1) (setB b 1) 1 = true := by rw [hbit_set _ _ _ _ (by omega) (by omega) (by omega) (by omega)]; simp
  refine ⟨?_, h1⟩
  apply bits_ext (by rw [List.length_append, low_length, low_length, s1]; unfold sizeOfMap; rw [hbig]; rfl)
  intro i hi
  rw [List.length_append, low_length, low_length] at hi
  rw [bitAt_low2 _ _ _ (by omega), s2, hbit_set _ _ _ _ (by omega) (by omega) (by omega) (by omega), hab _ (by omega) (by omega)]
  unfold inMap
  rw [hbig, Bool.and_true]
  congr 1
  rw [decide_eq_decide]
  omega

/-! ### what Parse reads -/
/-- two halves read as the head of a map -/
def Reads (a c : Nat) (b : List UInt8) (n : Nat) : Prop := a < 18446744073709551616 ∧ c < 18446744073709551616 ∧ ∀ m, 1 ≤ m → m ≤ 8 * n → hbit a c m = bitAt b (m - 1)
theorem reads_one (b : List UInt8) (h : 8 ≤ b.length) : Reads (beN (b.take 8)) 0 b 8 := by
  have hl : (b.take 8).length = 8 := by rw [List.length_take]; omega
  refine ⟨beN_lt8 _ hl, by omega, fun m h1 h2 => ?_⟩
  unfold hbit
  rw [if_pos (by omega), show 64 - m = 63 - (m - 1) from by omega, beN_bit8 _ _ hl (by omega), bitAt_take _ _ _ (by omega)]
theorem reads_two (b : List UInt8) (h : 16 ≤ b.length) : Reads (beN (b.take 8)) (beN ((b.drop 8).take 8)) b 16 := by
  have hl : (b.take 8).length = 8 := by rw [List.length_take]; omega
  have hl2 : ((b.drop 8).take 8).length = 8 := by rw [List.length_take, List.length_drop]; omega
  refine ⟨beN_lt8 _ hl, beN_lt8 _ hl2, fun m h1 h2 => ?_⟩
  unfold hbit
  split
  · rw [show 64 - m = 63 - (m - 1) from by omega, beN_bit8 _ _ hl (by omega), bitAt_take _ _ _ (by omega)]
  · rw [show 128 - m = 63 - (m - 65) from by omega, beN_bit8 _ _ hl2 (by omega), bitAt_take _ _ _ (by omega)]
    unfold bitAt
    rw [List.getD, List.getD, List.getElem?_drop, show 8 + (m - 65) / 8 = (m - 1) / 8 from by omega, show (m - 65) % 8 = (m - 1) % 8 from by omega]
theorem reads_those {a c : Nat} {b : List UInt8} {n : Nat} (h : Reads a c b n) (hn : 1 ≤ n) : thoseK a c 2 (8 * n - 1) = setOf b n := by
  unfold thoseK setOf
  rw [show (fun i : Nat => ((2 + i : Nat) : Int)) = fun k : Nat => (k : Int) + 2 from by funext k; omega]
  apply List.filter_congr
  intro x hx
  rw [List.mem_map] at hx
  obtain ⟨k, hk, rfl⟩ := hx
  rw [List.mem_range] at hk
  exact h.2.2 _ (by omega) (by omega)
theorem reads_some {a c : Nat} {b : List UInt8} (h : Reads a c b 16) : someK a c 66 63 = (setOf b 16).any fun n => decide (66 ≤ n) := by
  rw [Bool.eq_iff_iff, someK_iff, List.any_eq_true]
  constructor
  · rintro ⟨m, h1, h2, h3⟩
    rw [h.2.2 _ (by omega) (by omega)] at h3
    exact ⟨(m : Int), (setOf_mem b 16 (by omega) _).2 ⟨by omega, by omega, by simpa using h3⟩, decide_eq_true (by omega)⟩
  · rintro ⟨x, hx, h66⟩
    have h66' := of_decide_eq_true h66
    obtain ⟨h1, h2, h3⟩ := (setOf_mem b 16 (by omega) _).1 hx
    exact ⟨x.toNat, by omega, by omega, by rw [h.2.2 _ (by omega) (by omega)]; exact h3⟩
end Go.Proofs.YthlgnmgjfgbffaaGreatDoor
/- What package bitmap does: contracts of its calls. -/
namespace Go.Proofs.YthlgnmgjfgbffaaGreatDoor
open Go.RowKit
set_option maxHeartbeats 400000
set_option linter.unusedVariables false
set_option maxRecDepth 20000

/-- two halves as a value -/
def hvV (a b : Nat) : Value := .agg #[.int .u64 (a : Int), .int .u64 (b : Int)]

theorem place_any (n : Nat) (w : World) (h1 : 1 ≤ n) (h2 : n ≤ 128) :
    Calls Tryz.prog 167 #[.int .i64 (n : Int)] w fun e w' => w = w' ∧ ∃ U : Nat, U < 64 ∧ ((n ≤ 64 ∧ U = 64 - n ∧ e = .returned (.tuple #[.int .i64 0, .int .i64 (U : Int)])) ∨ (64 < n ∧ U = 128 - n ∧ e = .returned (.tuple #[.int .i64 1, .int .i64 (U : Int)]))) := by
  have e0 : (n : Int) - 1 = ((n - 1 : Nat) : Int) := by omega
  go_enter Tryz.func167, Tryz.ntmps167
  go_wp2
  go_ret2
  refine ⟨rfl, 63 - (n - 1) % 64, by omega, ?_⟩
  by_cases h : n ≤ 64
  · refine .inl ⟨h, by omega, ?_⟩
    show Ending.returned (.tuple #[.int .i64 _, .int .i64 _]) = _
    rw [show (((n - 1 : Nat) : Int) / 64) = 0 from by omega, show (63 - ((n - 1 : Nat) : Int) % 64) = ((63 - (n - 1) % 64 : Nat) : Int) from by omega]
  · refine .inr ⟨by omega, by omega, ?_⟩
    show Ending.returned (.tuple #[.int .i64 _, .int .i64 _]) = _
    rw [show (((n - 1 : Nat) : Int) / 64) = 1 from by omega, show (63 - ((n - 1 : Nat) : Int) % 64) = ((63 - (n - 1) % 64 : Nat) : Int) from by omega]

theorem has_any (a b n : Nat) (w : World) (ha : a < 18446744073709551616) (hb : b < 18446744073709551616) (h1 : 1 ≤ n) (h2 : n ≤ 128) :
    Calls Tryz.prog 126 #[hvV a b, .int .i64 (n : Int)] w fun e w' => e = .returned (.bool (hbit a b n)) ∧ Fr No w w' := by
  unfold hvV
  have b1 := one_bit a (64 - n) ha
  have b2 := one_bit b (128 - n) hb
  have B1 := Lib.hid b1; have B2 := Lib.hid b2
  clear b1 b2
  go_enter Tryz.func126, Tryz.ntmps126
  go_wp2_with (go_at_call 167; refine (place_any _ _ h1 h2).mono ?_; rintro e w' ⟨rfl, U, hU, (⟨hn, hUn, rfl⟩ | ⟨hn, hUn, rfl⟩)⟩)
  · go_ret
    refine ⟨ret_bool ?_, (Fr.refl No w).alloc _⟩
    unfold hbit
    rw [if_pos hn]
    exact B1.out
  · go_ret
    refine ⟨ret_bool ?_, (Fr.refl No w).alloc _⟩
    unfold hbit
    rw [if_neg (by omega)]
    exact B2.out

/-- what lies in a block of two halves -/
def hvL (a b : Nat) : List Value := [.int .u64 (a : Int), .int .u64 (b : Int)]

theorem set_any (g a b n : Nat) (w : World) (ha : a < 18446744073709551616) (hb2 : b < 18446744073709551616) (hb : Bk w g 169 (hvL a b)) (h1 : 1 ≤ n) (h2 : n ≤ 128) :
    Calls Tryz.prog 205 #[.pointer (some ⟨g, 0, none⟩), .int .i64 (n : Int)] w fun e w' => e = .returned (.tuple #[]) ∧ Fr (Just g) w w' ∧ Bk w' g 169 (hvL (setA a n) (setB b n)) := by
  go_enter Tryz.func205, Tryz.ntmps205
  go_wp2_with (go_at_call 167; refine (place_any _ _ h1 h2).mono ?_; rintro e w' ⟨rfl, U, hU, (⟨hn, hUn, rfl⟩ | ⟨hn, hUn, rfl⟩)⟩)
  all_goals
    refine wp_region_reads 10 (by kernel_rfl) (by kernel_rfl) ?_
    intro w4 hd
    simp only [List.take_succ_cons, List.take_zero, List.drop_succ_cons, List.drop_zero]
    have hb4 := hb.no hd.fr
    have c0 := hb4.cell 0
    have c1 := hb4.cell 1
    have f0 := hb4.frozen 0
    have f1 := hb4.frozen 1
    simp only [hvL, List.getElem?_cons_zero, List.getElem?_cons_succ] at c0 c1
    have HU := Lib.hid hUn
    clear hUn
    repeat still_step
    refine wpStill_nil ?_
    go_wp2
    go_end0
    refine ⟨rfl, hd.fr.setCell (.inl (Just.at g)) _, ?_⟩
  · have hs := hb4.set_ 0 (.int .u64 ((a ||| 2 ^ (64 - n) : Nat) : Int))
    rw [← or_u64 a (64 - n) ha (by omega)] at hs
    have e1 : setA a n = a ||| 2 ^ (64 - n) := by unfold setA; rw [if_pos hn]
    have e2 : setB b n = b := by unfold setB; rw [if_pos hn]
    rw [e1, e2]
    unfold hvL
    rw [← or_u64 a (64 - n) ha (by omega)]
    exact hs
  · have hs := hb4.set_ 1 (.int .u64 ((b ||| 2 ^ (128 - n) : Nat) : Int))
    rw [← or_u64 b (128 - n) hb2 (by omega)] at hs
    have e1 : setA a n = a := by unfold setA; rw [if_neg (by omega)]
    have e2 : setB b n = b ||| 2 ^ (128 - n) := by unfold setB; rw [if_neg (by omega)]
    rw [e1, e2]
    unfold hvL
    rw [← or_u64 b (128 - n) hb2 (by omega)]
    exact hs

theorem those_any (a b low high : Nat) (w : World) (ha : a < 18446744073709551616) (hb : b < 18446744073709551616) (h1 : 1 ≤ low) (h2 : low ≤ high) (h3 : high ≤ 128) :
    Calls Tryz.prog 128 #[.func (.func 126) #[hvV a b] #[], .int .i64 (low : Int), .int .i64 (high : Int)] w fun e w' => ∃ v, e = .returned v ∧
      w'.ownsRow w.heap.size 3 1 v (thoseK a b low (high + 1 - low)).length (ints (thoseK a b low (high + 1 - low))) ∧ Fr No w w' := by
  go_enter Tryz.func128, Tryz.ntmps128
  go_wp2
  go_loopw [7, 8] (fun v i wr => ∃ k : Nat, low + k ≤ high + 1 ∧ i = .int .i64 ((low + k : Nat) : Int) ∧ wr.ownsRow w.heap.size 3 1 v (thoseK a b low k).length (ints (thoseK a b low k)) ∧ Fr No w wr) (fun _ i _ => 130 - (intOf i).toNat)
  case atStart => exact ⟨0, by omega, rfl, World.ownsRow_nil _ _ _ _, Fr.refl _ _⟩
  case round =>
    obtain ⟨k, hk, rfl, ho, hf⟩ := hrel
    rcases Nat.lt_or_ge high (low + k) with hge | hlt
    · have e : high + 1 - low = k := by omega
      have E := Lib.hid e
      clear e
      go_wp2
      go_ret
      exact ⟨u7, rfl, by rw [E.out]; exact ho, hf⟩
    · have hlen := thoseK_len a b low k
      cases hh : hbit a b (low + k) with
      | true =>
        have hs := thoseK_yes a b low k hh
        have HS := Lib.hid hs
        have HH := Lib.hid hh
        clear hs hh
        go_wp2_with (first
          | (go_at_call 126; refine (has_any a b (low + k) _ ha hb (by omega) (by omega)).mono ?_; rw [HH.out]; rintro e w1 ⟨rfl, hf1⟩)
          | (at_builtin; go_must (refine apI_one w1 rfl (.tmp 18) (.tmp 20) rfl w.heap.size u7 _ _ rfl (hf1.own ho (fun _ _ x => x)) ((low + k : Nat) : Int) 3 rfl (by omega) (Nat.le_trans hf.size hf1.size) ?_); intro v2 w2 ho2 hg2 hr2))
        go_roundw
        case rel => exact ⟨k + 1, by omega, by go_num, by rw [HS.out, List.length_append]; exact ho2, ((hf.trans hf1).alloc _).grown hg2 (fun g e => .inr (ho.lt g e).1)⟩
        case measure => simp [intOf]; omega
      | false =>
        have hs := thoseK_no a b low k hh
        have HS := Lib.hid hs
        have HH := Lib.hid hh
        clear hs hh
        go_wp2_with (go_at_call 126; refine (has_any a b (low + k) _ ha hb (by omega) (by omega)).mono ?_; rw [HH.out]; rintro e w1 ⟨rfl, hf1⟩)
        go_roundw
        case rel => exact ⟨k + 1, by omega, by go_num, by rw [HS.out]; exact hf1.own ho (fun _ _ x => x), hf.trans hf1⟩
        case measure => simp [intOf]; omega
end Go.Proofs.YthlgnmgjfgbffaaGreatDoor
/- What package bitmap does: contracts of its calls, Write. -/
namespace Go.Proofs.YthlgnmgjfgbffaaGreatDoor
open Go.RowKit
set_option maxHeartbeats 400000
set_option linter.unusedVariables false
set_option maxRecDepth 20000

theorem some_any (a b low high : Nat) (w : World) (ha : a < 18446744073709551616) (hb : b < 18446744073709551616) (h1 : 1 ≤ low) (h2 : low ≤ high) (h3 : high ≤ 128) :
    Calls Tryz.prog 127 #[.func (.func 126) #[hvV a b] #[], .int .i64 (low : Int), .int .i64 (high : Int)] w fun e w' => e = .returned (.bool (someK a b low (high + 1 - low))) ∧ Fr No w w' := by
  go_enter Tryz.func127, Tryz.ntmps127
  go_wp2_with (go_at_call 128; refine (those_any a b low high _ ha hb h1 h2 h3).mono ?_; rintro e w1 ⟨v, rfl, ho, hf⟩; obtain ⟨B, d, rfl, hr, _⟩ := Rd.of_own ho)
  go_ret
  refine ⟨ret_bool ?_, hf⟩
  unfold someK
  rw [decide_eq_decide]

theorem bm_right_any (A : Option Addr) (n c : Nat) (l : List Int) (w : World) (ha : Rd w A n c (ints l)) (hn : n ≤ 65536) :
    Calls Tryz.prog 204 #[.slice A n c] w fun e w' => e = .returned (.bool (risesB l)) ∧ w = w' := by
  have hl : l.length = n := by simpa using ha.len
  have HL := Lib.hid hl
  clear hl
  go_enter Tryz.func204, Tryz.ntmps204
  go_wp2
  go_loop [3, 8] (fun v i => ∃ k : Nat, k ≤ n ∧ i = .int .i64 (k : Int) ∧ v = .int .i64 (ahd l k) ∧ risesB (l.take k) = true) (fun _ i => n - (intOf i).toNat)
  case atStart => exact ⟨0, Nat.zero_le _, rfl, rfl, rfl⟩
  case round =>
    obtain ⟨k, hk, rfl, rfl, hr⟩ := hrel
    rcases Nat.lt_or_ge k n with hlt | hge
    · have hlk : k < l.length := by have := HL.out; omega
      obtain ⟨ad, u, rfl, hu, hc⟩ := ha.at_ hlt
      rw [ints_get l k hlk] at hu
      injection hu with hu
      subst hu
      have hnx := rises_next hlk hr
      have has := ahd_succ l k hlk
      have hbad : risesB (l.take (k + 1)) = false → risesB l = false := fun h => by
        rw [Bool.eq_false_iff]
        intro h2
        rw [rises_take h2 (k + 1)] at h
        cases h
      generalize l[k] = x at hc hnx has
      generalize ahd l k = p at *
      have HNX := Lib.hid hnx
      have HAS := Lib.hid has
      have HBAD := Lib.hid hbad
      clear hnx has hr hbad
      by_cases c1 : p < x
      · by_cases c2 : x = 65
        · have e : risesB l = false := HBAD.out (by rw [HNX.out]; simp [c2])
          have E := Lib.hid e
          have c2b : (x == 65) = true := by simpa using c2
          clear e c2
          go_wp2
          go_ret
          exact ⟨ret_bool E.out.symm, rfl⟩
        · have c2b : (x == 65) = false := by simpa using c2
          by_cases c3 : x ≤ 128
          · have e : risesB (l.take (k + 1)) = true := by rw [HNX.out]; simp [c1, c2, c3]
            have E := Lib.hid e
            clear e c2
            go_wp2
            go_round
            case rel => exact ⟨k + 1, by omega, by go_num, by rw [HAS.out], E.out⟩
            case measure => simp [intOf]; omega
          · have e : risesB l = false := HBAD.out (by rw [HNX.out]; simp [c3])
            have E := Lib.hid e
            clear e c2
            go_wp2
            go_ret
            exact ⟨ret_bool E.out.symm, rfl⟩
      · have e : risesB l = false := HBAD.out (by rw [HNX.out]; simp [c1])
        have E := Lib.hid e
        clear e
        go_wp2
        go_ret
        exact ⟨ret_bool E.out.symm, rfl⟩
    · obtain rfl : k = n := by omega
      have e : risesB l = true := by
        rwa [List.take_of_length_le (by have := HL.out; omega)] at hr
      have E := Lib.hid e
      clear e hr
      go_wp2
      go_ret
      exact ⟨ret_bool E.out.symm, rfl⟩

/-- the first k numbers are set -/
def SetTo (l : List Int) (k a b : Nat) : Prop := a < 18446744073709551616 ∧ b < 18446744073709551616 ∧ ∀ m, 1 ≤ m → m ≤ 128 → hbit a b m = (l.take k).contains (m : Int)
theorem setTo_zero (l : List Int) : SetTo l 0 0 0 := ⟨by omega, by omega, fun m _ _ => by unfold hbit; split <;> simp⟩
theorem setTo_succ {l : List Int} {k a b n : Nat} (hk : k < l.length) (hn : l[k] = (n : Int)) (h1 : 1 ≤ n) (h2 : n ≤ 128) (h : SetTo l k a b) : SetTo l (k + 1) (setA a n) (setB b n) := by
  refine ⟨setA_lt _ _ h.1 h1, setB_lt _ _ h.2.1 h2, fun m m1 m2 => ?_⟩
  rw [hbit_set _ _ _ _ h1 h2 m1 m2, h.2.2 m m1 m2, List.take_succ_eq_append_getElem hk, List.contains_append, hn]
  congr 1
  simp only [List.contains_cons, List.contains_nil, Bool.or_false]
  rw [Bool.eq_iff_iff]
  simp
  omega

theorem bm_write_any (A : Option Addr) (n c : Nat) (l : List Int) (w : World) (ha : Rd w A n c (ints l)) (hn : n ≤ 65536) :
    Calls Tryz.prog 161 #[.slice A n c] w fun e w' => ∃ v, e = .returned (.tuple #[v, .int .i64 (wmE l)]) ∧ w'.ownsRow w.heap.size 5 1 v (wmR l).length (u8s (wmR l)) ∧ Fr No w w' := by
  have hl : l.length = n := by simpa using ha.len
  have HL := Lib.hid hl
  clear hl
  cases hr : risesB l with
  | false =>
    have e1 : wmE l = 1 := by unfold wmE; rw [hr]; rfl
    have e2 : wmR l = [] := by unfold wmR; rw [hr]; rfl
    have E1 := Lib.hid e1; have E2 := Lib.hid e2; have HR := Lib.hid hr
    clear e1 e2 hr
    go_enter Tryz.func161, Tryz.ntmps161
    go_wp2_with (go_at_call 204; refine (bm_right_any _ _ _ _ _ ha hn).mono ?_; rw [HR.out]; rintro e w1 ⟨rfl, rfl⟩)
    go_ret2
    exact ⟨.slice none 0 0, by rw [E1.out]; rfl, by rw [E2.out]; exact World.ownsRow_nil _ _ _ _, Fr.refl _ _⟩
  | true =>
    obtain ⟨hp, hm⟩ := (risesB_iff l).1 hr
    have e1 : wmE l = 0 := by unfold wmE; rw [hr]; rfl
    have e2 : wmR l = mapOf l := by unfold wmR; rw [hr]; rfl
    have E1 := Lib.hid e1; have E2 := Lib.hid e2; have HR := Lib.hid hr; have HM := Lib.hid hm
    have h8 : held8 8 = 8 := by decide
    have H8 := Lib.hid h8
    clear e1 e2 hr hp hm h8
    go_enter Tryz.func161, Tryz.ntmps161
    go_wp2_with (go_at_call 204; refine (bm_right_any _ _ _ _ _ ha hn).mono ?_; rw [HR.out]; rintro e w1 ⟨rfl, rfl⟩)
    have hb0 : Bk (w.alloc (.cells #[.int .u64 0, .int .u64 0] 169)) w.heap.size 169 (hvL 0 0) := Bk.new w _ _
    have hf0 : Fr No w (w.alloc (.cells #[.int .u64 0, .int .u64 0] 169)) := (Fr.refl No w).alloc _
    go_loopw [13] (fun i wr => ∃ k a b : Nat, k ≤ n ∧ i = .int .i64 (k : Int) ∧ SetTo l k a b ∧ Bk wr w.heap.size 169 (hvL a b) ∧ Fr No w wr) (fun i _ => n - (intOf i).toNat)
    case atStart => exact ⟨0, 0, 0, Nat.zero_le _, rfl, setTo_zero l, hb0, hf0⟩
    case round =>
      clear hb0 hf0
      obtain ⟨k, a, b, hk, rfl, hs, hbk, hf⟩ := hrel
      rcases Nat.lt_or_ge k n with hlt | hge
      · have hlk : k < l.length := by have := HL.out; omega
        obtain ⟨ad, u, rfl, hu, hc⟩ := (ha.no hf).at_ hlt
        rw [ints_get l k hlk] at hu
        injection hu with hu
        subst hu
        have hmay := mayB_iff.1 (HM.out l[k] (List.getElem_mem _))
        obtain ⟨x, hx⟩ := Int.eq_ofNat_of_zero_le (show 0 ≤ l[k] by omega)
        have hx1 : 1 ≤ x := by omega
        have hx2 : x ≤ 128 := by omega
        have hs2 := setTo_succ hlk hx hx1 hx2 hs
        rw [hx] at hc
        obtain ⟨l1, l2, -⟩ := hs
        have HS2 := Lib.hid hs2
        clear hx hmay hs2
        go_wp2_with (go_at_call 205; refine (set_any w.heap.size a b x _ l1 l2 hbk hx1 hx2).mono ?_; rintro e w1 ⟨rfl, hf1, hb1⟩)
        go_roundw
        case rel => exact ⟨k + 1, _, _, by omega, by go_num, HS2.out, hb1, hf.trans_just hf1 (Nat.le_refl _)⟩
        case measure => simp [intOf]; omega
      · obtain rfl : k = n := by omega
        obtain ⟨l1, l2, hab⟩ := hs
        rw [List.take_of_length_le (by have := HL.out; omega)] at hab
        have c0 := hbk.cell 0
        have c1 := hbk.cell 1
        simp only [hvL, List.getElem?_cons_zero, List.getElem?_cons_succ] at c0 c1
        have hbig := big_some HM.out hab
        cases hbb : bigB l with
        | false =>
          obtain ⟨m1, m2⟩ := map_small HM.out hab hbb
          rw [hbb] at hbig
          have M1 := Lib.hid m1; have M2 := Lib.hid m2; have HBIG := Lib.hid hbig
          clear m1 m2 hbb hbig hab
          go_wp2_with (first
            | (go_at_call 127; refine (some_any a b 66 128 _ l1 l2 (by omega) (by omega) (by omega)).mono ?_; rw [show 128 + 1 - 66 = 63 from rfl, HBIG.out]; rintro e w1 ⟨rfl, hf1⟩; have c0' := (hbk.no hf1).cell 0; have c1' := (hbk.no hf1).cell 1; simp only [hvL, List.getElem?_cons_zero, List.getElem?_cons_succ] at c0' c1')
            | (go_at_call 206; refine (put_any none 0 0 [] a 8 _ (Rd.nil_ _) (by omega) l1).mono ?_; rw [H8.out]; rintro e w2 ⟨v2, rfl, ho2, hf2⟩; have c0'' := ((hbk.no hf1).no hf2).cell 0; have c1'' := ((hbk.no hf1).no hf2).cell 1; simp only [hvL, List.getElem?_cons_zero, List.getElem?_cons_succ] at c0'' c1'')
            | (go_at_call 126; refine (has_any a b 1 _ l1 l2 (by omega) (by omega)).mono ?_; rw [M2.out]; rintro e w3 ⟨rfl, hf3⟩))
          go_ret2
          refine ⟨v2, by rw [E1.out]; rfl, ?_, ((hf.trans hf1).trans hf2).trans hf3⟩
          rw [E2.out, ← M1.out]
          have := own_low (hf3.own ho2 (fun _ _ x => x)) (Nat.le_trans hf.size hf1.size)
          simpa using this
        | true =>
          obtain ⟨m1, m2⟩ := map_great HM.out hab hbb
          rw [hbb] at hbig
          have l1' := setA_lt a 1 l1 (by omega)
          have l2' := setB_lt b 1 l2 (by omega)
          have M1 := Lib.hid m1; have M2 := Lib.hid m2; have HBIG := Lib.hid hbig
          clear m1 m2 hbb hbig hab
          go_wp2_with (first
            | (go_at_call 127; refine (some_any a b 66 128 _ l1 l2 (by omega) (by omega) (by omega)).mono ?_; rw [show 128 + 1 - 66 = 63 from rfl, HBIG.out]; rintro e w1 ⟨rfl, hf1⟩)
            | (go_at_call 205; refine (set_any w.heap.size a b 1 _ l1 l2 (hbk.no hf1) (by omega) (by omega)).mono ?_; rintro e ws ⟨rfl, hfs, hbs⟩; have c0' := hbs.cell 0; have c1' := hbs.cell 1; simp only [hvL, List.getElem?_cons_zero, List.getElem?_cons_succ] at c0' c1')
            | (go_at_call 206; with_reducible refine (put_any none 0 0 [] (setA a 1) 8 _ (Rd.nil_ _) ?_ l1').mono ?_; omega; rw [H8.out]; rintro e w2 ⟨v2, rfl, ho2, hf2⟩; obtain ⟨V2, d2, rfl, hr2, _⟩ := Rd.of_own ho2; have c0'' := (hbs.no hf2).cell 0; have c1'' := (hbs.no hf2).cell 1; simp only [hvL, List.getElem?_cons_zero, List.getElem?_cons_succ] at c0'' c1'')
            | (go_at_call 126; refine (has_any (setA a 1) (setB b 1) 1 _ l1' l2' (by omega) (by omega)).mono ?_; rw [M2.out]; rintro e w3 ⟨rfl, hf3⟩; have d1x := ((hbs.no hf2).no hf3).cell 1; simp only [hvL, List.getElem?_cons_zero, List.getElem?_cons_succ] at d1x)
            | (go_at_call 206; refine (put_any V2 _ d2 _ (setB b 1) 8 _ (hr2.no hf3) ?_ l2').mono ?_; omega; rw [H8.out]; rintro e w4 ⟨v4, rfl, ho4, hf4⟩))
          go_ret2
          have hF2 : Fr No w ws := (hf.trans hf1).trans_just hfs (Nat.le_refl _)
          refine ⟨v4, by rw [E1.out]; rfl, ?_, ((hF2.trans hf2).trans hf3).trans hf4⟩
          rw [E2.out, ← M1.out]
          have := own_low ho4 (((hF2.trans hf2).trans hf3).size)
          simpa using this
end Go.Proofs.YthlgnmgjfgbffaaGreatDoor
/- What package bitmap does: contracts of its calls, Parse. -/
namespace Go.Proofs.YthlgnmgjfgbffaaGreatDoor
open Go.RowKit
set_option maxHeartbeats 400000
set_option linter.unusedVariables false
set_option maxRecDepth 20000

/-- the head of what a slice holds -/
theorem Rd.head {w : World} {A : Option Addr} {n c : Nat} {l : List UInt8} (h : Rd w A n c (u8s l)) {m : Nat} (hm : m ≤ n) : Rd w A m c (u8s (l.take m)) := by
  have h1 := h.len
  rw [u8s_length] at h1
  refine ⟨by rw [u8s_length, List.length_take]; omega, Nat.le_trans hm h.cap, h.max, h.nil, fun ad e j u hu => h.cells ad e j u ?_⟩
  unfold u8s at hu ⊢
  rw [List.getElem?_map] at hu ⊢
  rw [List.getElem?_take] at hu
  split at hu
  · exact hu
  · cases hu

/-- a block of two halves, as cells -/
theorem hv_cells {w : World} {g : Nat} {t : TypeId} {a b : Int} (h : Bk w g t [.int .u64 a, .int .u64 b]) :
    w.cell? ⟨g, 0, none⟩ = some (.int .u64 a) ∧ w.cell? ⟨g, 1, none⟩ = some (.int .u64 b) ∧ w.frozen? ⟨g, 0, none⟩ = false ∧ w.frozen? ⟨g, 1, none⟩ = false :=
  ⟨h.cell 0, h.cell 1, h.frozen 0, h.frozen 1⟩
/-- written anew -/
theorem hv_put {w : World} {g : Nat} {t : TypeId} {a b : Int} (h : Bk w g t [.int .u64 a, .int .u64 b]) (c d : Int) :
    (w.setCell ⟨g, 0, none⟩ (.int .u64 c)).cell? ⟨g, 0, none⟩ = some (.int .u64 c) ∧ ((w.setCell ⟨g, 0, none⟩ (.int .u64 c)).setCell ⟨g, 1, none⟩ (.int .u64 d)).cell? ⟨g, 1, none⟩ = some (.int .u64 d) :=
  ⟨(h.set_ 0 (.int .u64 c)).cell 0, ((h.set_ 0 (.int .u64 c)).set_ 1 (.int .u64 d)).cell 1⟩
theorem Fr.hv {S : Nat → Prop} {a w : World} {g : Nat} (h : Fr S a w) (hg : a.heap.size ≤ g) (u v : Value) : Fr S a ((w.setCell ⟨g, 0, none⟩ u).setCell ⟨g, 1, none⟩ v) :=
  (h.setCell (.inr hg) _).setCell (.inr hg) _

theorem at_same {B : Nat} (g : Nat) (b : List UInt8) (k : Nat) (w : World) (h : Cur w B g b k) :
    Calls Tryz.prog 129 #[.pointer (some ⟨g, 0, none⟩)] w fun e w' => e = .returned (.int .i64 (k : Int)) ∧ w' = w := by
  obtain ⟨A, c, h1, h2, h3, hgB, hBw, h4⟩ := h
  have c1 := h1.cell 1
  simp only [List.getElem?_cons_zero, List.getElem?_cons_succ] at c1
  go_enter Tryz.func129, Tryz.ntmps129
  go_wp2
  go_ret
  exact ⟨rfl, rfl⟩

theorem read_facts {S : Nat → Prop} {w w1 w2 w3 w5 : World} {g X : Nat} (hbR : Bk (w.alloc (.cells #[.int .u64 0, .int .u64 0] 169)) w.heap.size 169 [.int .u64 0, .int .u64 0])
    (hf1 : Fr No (w.alloc (.cells #[.int .u64 0, .int .u64 0] 169)) w1) (hf2 : Fr (Just g) w1 w2) (hg : (w.alloc (.cells #[.int .u64 0, .int .u64 0] 169)).heap.size ≤ g)
    (hf3 : Fr No (w2.alloc (.cells #[.int .u64 (X : Int), .int .u64 0] 169)) w3) (hk : Fr S w3 w5) (hR : ¬ S w.heap.size) (hH : ¬ S w2.heap.size) (y : Int) :
    w5.cell? ⟨w2.heap.size, 1, none⟩ = some (.int .u64 0) ∧ w5.frozen? ⟨w2.heap.size, 1, none⟩ = false ∧
      Bk (w5.setCell ⟨w2.heap.size, 1, none⟩ (.int .u64 y)) w.heap.size 169 [.int .u64 0, .int .u64 0] ∧
      Bk (w5.setCell ⟨w2.heap.size, 1, none⟩ (.int .u64 y)) w2.heap.size 169 [.int .u64 (X : Int), .int .u64 y] ∧ w.heap.size < w2.heap.size ∧ w2.heap.size ≤ w5.heap.size := by
  have hH5 : Bk w5 w2.heap.size 169 [.int .u64 (X : Int), .int .u64 0] := ((Bk.new w2 _ _ : Bk (w2.alloc (.cells #[.int .u64 (X : Int), .int .u64 0] 169)) _ _ _).no hf3).fr hk hH
  have hne : w.heap.size < w2.heap.size := Nat.lt_of_lt_of_le (by simp) (Nat.le_trans hf1.size hf2.size)
  have hR5 := ((hbR.no ((hf1.trans_just hf2 hg).alloc _)).no hf3).fr hk hR
  refine ⟨hH5.cell 1, hH5.frozen 1, hR5.fr (S := Just w2.heap.size) ((Fr.refl _ w5).setCell (p := ⟨w2.heap.size, 1, none⟩) (.inl (Just.at _)) (.int .u64 y)) (fun e => ?_), hH5.set_ 1 (.int .u64 y), hne, Nat.le_of_lt hH5.lt⟩
  have e' : w.heap.size = w2.heap.size := e
  omega

theorem read_any (A : Option Addr) (n c : Nat) (b : List UInt8) (w : World) (ha : Rd w A n c (u8s b)) (hn : n ≤ 65536) :
    Calls Tryz.prog 125 #[.slice A n c] w fun e w' => Fr No w w' ∧
      ((∃ a d : Nat, e = .returned (.tuple #[hvV a d, .int .i64 0, .int .i64 3]) ∧ (b.length < 8 ∨ b.length < mapN b)) ∨
       (∃ a d : Nat, e = .returned (.tuple #[hvV a d, .int .i64 (mapN b : Int), .int .i64 0]) ∧ mapN b ≤ b.length ∧ Reads a d b (mapN b))) := by
  have hl : b.length = n := by simpa using ha.len
  have hcap := ha.cap
  have HL := Lib.hid hl
  clear hl
  have hbR : Bk (w.alloc (.cells #[.int .u64 0, .int .u64 0] 169)) w.heap.size 169 [.int .u64 0, .int .u64 0] := Bk.new w _ _
  have hf0 : Fr No w (w.alloc (.cells #[.int .u64 0, .int .u64 0] 169)) := (Fr.refl No w).alloc _
  rcases Nat.lt_or_ge n 8 with h8 | h8
  · go_enter Tryz.func125, Tryz.ntmps125
    go_wp2_with (first
      | (go_at_call 41; refine (new_any _ _ _ b _ (ha.no hf0) (by omega)).mono ?_; rintro e w1 ⟨g, rfl, hg, hc1, hf1⟩)
      | (go_at_call 146; refine (number_short g 8 b 0 _ hc1 (by omega) (by omega) (by have := HL.out; omega)).mono ?_; rintro e w2 ⟨rfl, hd2⟩; have hb2 := (hbR.no hf1).no hd2.fr; obtain ⟨q0, q1, q2, q3⟩ := hv_cells hb2))
    obtain ⟨p0, p1⟩ := hv_put hb2 0 0
    refine bodyPost_ret (v := .tuple #[hvV 0 0, .int .i64 0, .int .i64 3]) (by simp [results, Tryz.results125, go_sem, p0, p1, hvV]) rfl ?_
    exact ⟨((hf0.trans hf1).dr hd2).hv (Nat.le_refl _) _ _, .inl ⟨0, 0, rfl, .inl (by rw [HL.out]; exact h8)⟩⟩
  · obtain ⟨m, hm8, hmn, hmb, hm16⟩ : ∃ m : Nat, 8 ≤ m ∧ m ≤ n ∧ m ≤ 16 ∧ ((n ≤ 16 ∧ m = n) ∨ (16 < n ∧ m = 16)) := by
      rcases Nat.lt_or_ge 16 n with h | h
      · exact ⟨16, by omega, by omega, by omega, .inr ⟨h, rfl⟩⟩
      · exact ⟨n, by omega, by omega, by omega, .inl ⟨h, rfl⟩⟩
    have hl2 := HL.out
    obtain ⟨b', hb'⟩ : ∃ b', b' = b.take m := ⟨_, rfl⟩
    have hl' : b'.length = m := by rw [hb', List.length_take]; omega
    have hh := ha.head hmn
    rw [← hb'] at hh
    have t8 : b'.take 8 = b.take 8 := by rw [hb', List.take_take]; congr 1; omega
    have d8 : 16 ≤ m → (b'.drop 8).take 8 = (b.drop 8).take 8 := fun h => by rw [hb', show m = 16 from by omega, List.drop_take, List.take_take]; rfl
    have hr1 := reads_one b (by omega)
    have h81 : hbit (beN (b.take 8)) 0 1 = bitAt b 0 := hr1.2.2 1 (by omega) (by omega)
    have eX : beN ((b'.drop 0).take 8) = beN (b.take 8) := by rw [List.drop_zero, t8]
    have l1 := hr1.1
    have hr2 : 16 ≤ m → Reads (beN (b.take 8)) (beN ((b'.drop 8).take 8)) b 16 := fun h => by rw [d8 h]; exact reads_two b (by omega)
    have HR1 := Lib.hid hr1; have HR2 := Lib.hid hr2; have HX := Lib.hid eX; have HL' := Lib.hid hl'
    have hmm : min (n : Int) 16 = (m : Int) := by omega
    clear hl2 hr1 hr2 eX t8 d8 hb' hl'
    generalize beN (b.take 8) = X at *
    generalize hY : beN ((b'.drop 8).take 8) = Y at *
    have HY := Lib.hid hY
    clear hY
    cases hb0 : bitAt b 0 with
    | false =>
      have hm : mapN b = 8 := by unfold mapN; rw [if_neg (by rw [hb0]; simp)]
      have HM := Lib.hid hm
      rw [hb0] at h81
      have H81 := Lib.hid h81
      clear h81 hm hb0
      rcases hm16 with ⟨hn16, rfl⟩ | ⟨hn16, rfl⟩
      all_goals
        go_enter Tryz.func125, Tryz.ntmps125
        go_wp2_with (first
          | (go_at_call 41; refine (new_any _ _ _ b' _ (hh.no hf0) (by omega)).mono ?_; rintro e w1 ⟨g, rfl, hg, hc1, hf1⟩)
          | (go_at_call 146; refine (number_ok g 8 b' 0 _ hc1 (by omega) (by omega) (by have := HL'.out; omega)).mono ?_; rw [HX.out]; rintro e w2 ⟨rfl, hc2, hf2⟩; have hF2 : Fr No w w2 := (hf0.trans hf1).trans_just hf2 (by simp at hg; omega))
          | (go_at_call 126; refine (has_any X 0 1 _ l1 (by omega) (by omega) (by omega)).mono ?_; rw [H81.out]; rintro e w3 ⟨rfl, hf3⟩; have hF3 := (hF2.alloc _).trans hf3))
        refine wp_region_reads 3 (by kernel_rfl) (by kernel_rfl) ?_
        intro w4 hd4
        simp only [List.take_succ_cons, List.take_zero, List.drop_succ_cons, List.drop_zero]
        have hH4 : Bk w4 w2.heap.size 169 [.int .u64 (X : Int), .int .u64 0] := ((Bk.new w2 _ _ : Bk (w2.alloc (.cells #[.int .u64 (X : Int), .int .u64 0] 169)) _ _ _).no hf3).no hd4.fr
        obtain ⟨y0, y1, -, -⟩ := hv_cells hH4
        have hR4 := ((hbR.no ((hf1.trans_just hf2 hg).alloc _)).no hf3).no hd4.fr
        obtain ⟨q0, q1, q2, q3⟩ := hv_cells hR4
        have hC4 := ((hc2.no ((Fr.refl No w2).alloc _)).no hf3).dr hd4
        still_step
        still_step
        still_call (at_same g b' 8 _ hC4)
        refine wpStill_nil ?_
        go_wp2
        obtain ⟨p0, p1⟩ := hv_put hR4 (X : Int) 0
        refine bodyPost_ret (v := .tuple #[hvV X 0, .int .i64 8, .int .i64 0]) (by simp [results, Tryz.results125, go_sem, p0, p1, hvV]) rfl ?_
        exact ⟨(hF3.dr hd4).hv (Nat.le_refl _) _ _, .inr ⟨X, 0, by rw [HM.out]; rfl, by rw [HM.out, HL.out]; exact h8, by rw [HM.out]; exact HR1.out⟩⟩
    | true =>
      have hm : mapN b = 16 := by unfold mapN; rw [if_pos hb0]
      have HM := Lib.hid hm
      rw [hb0] at h81
      have H81 := Lib.hid h81
      clear h81 hm hb0
      rcases Nat.lt_or_ge n 16 with hn16 | hn16
      · obtain rfl : m = n := by omega
        have tok1 : True := trivial
        go_enter Tryz.func125, Tryz.ntmps125
        go_wp2_with (first
          | (go_at_call 41; refine (new_any _ _ _ b' _ (hh.no hf0) (by omega)).mono ?_; rintro e w1 ⟨g, rfl, hg, hc1, hf1⟩)
          | (go_at_call 146; clear tok1; refine (number_ok g 8 b' 0 _ hc1 (by omega) (by omega) (by have := HL'.out; omega)).mono ?_; rw [HX.out]; rintro e w2 ⟨rfl, hc2, hf2⟩; have hF2 : Fr No w w2 := (hf0.trans hf1).trans_just hf2 (by simp at hg; omega))
          | (go_at_call 126; refine (has_any X 0 1 _ l1 (by omega) (by omega) (by omega)).mono ?_; rw [H81.out]; rintro e w3 ⟨rfl, hf3⟩; have hF3 := (hF2.alloc _).trans hf3; have hC3 := ((hc2.no ((Fr.refl No w2).alloc _)).no hf3))
          | (go_at_call 146; refine (number_short g 8 b' 8 _ hC3 (by omega) (by omega) (by have := HL'.out; omega)).mono ?_; rintro e w5 ⟨rfl, hd5⟩; obtain ⟨y1, y3, hR6, hH6, hne, hle⟩ := read_facts hbR hf1 hf2 hg hf3 hd5.fr (S := No) (fun x => x) (fun x => x) 0; obtain ⟨q0, q1, q2, q3⟩ := hv_cells hR6))
        obtain ⟨p0, p1⟩ := hv_put hR6 0 0
        refine bodyPost_ret (v := .tuple #[hvV 0 0, .int .i64 0, .int .i64 3]) (by simp [results, Tryz.results125, go_sem, p0, p1, hvV]) rfl ?_
        exact ⟨((hF3.dr hd5).setCell (.inr (Nat.le_of_lt hne)) _).hv (Nat.le_refl _) _ _, .inl ⟨0, 0, rfl, .inr (by rw [HL.out, HM.out]; exact hn16)⟩⟩
      · obtain rfl : m = 16 := by omega
        have tok1 : True := trivial
        have hn3 : (n ≤ 16 ∧ 16 = n) ∨ (16 < n ∧ 16 = 16) := hm16
        clear hm16
        rcases hn3 with ⟨hn16, rfl⟩ | ⟨hn16, -⟩
        all_goals
          go_enter Tryz.func125, Tryz.ntmps125
          go_wp2_with (first
            | (go_at_call 41; refine (new_any _ _ _ b' _ (hh.no hf0) (by omega)).mono ?_; rintro e w1 ⟨g, rfl, hg, hc1, hf1⟩)
            | (go_at_call 146; clear tok1; refine (number_ok g 8 b' 0 _ hc1 (by omega) (by omega) (by have := HL'.out; omega)).mono ?_; rw [HX.out]; rintro e w2 ⟨rfl, hc2, hf2⟩; have hF2 : Fr No w w2 := (hf0.trans hf1).trans_just hf2 (by simp at hg; omega))
            | (go_at_call 126; refine (has_any X 0 1 _ l1 (by omega) (by omega) (by omega)).mono ?_; rw [H81.out]; rintro e w3 ⟨rfl, hf3⟩; have hF3 := (hF2.alloc _).trans hf3; have hC3 := ((hc2.no ((Fr.refl No w2).alloc _)).no hf3))
            | (go_at_call 146; refine (number_ok g 8 b' 8 _ hC3 (by omega) (by omega) (by have := HL'.out; omega)).mono ?_; rw [HY.out]; rintro e w5 ⟨rfl, hc5, hf5⟩; obtain ⟨y1, y3, hR6, hH6, hne, hle⟩ := read_facts hbR hf1 hf2 hg hf3 hf5 (fun e => by have e' : w.heap.size = g := e; simp at hg; omega) (fun e => by have e' : w2.heap.size = g := e; have := hc2.lt; omega) (Y : Int); obtain ⟨q0, q1, q2, q3⟩ := hv_cells hR6))
          refine wp_region_reads 3 (by kernel_rfl) (by kernel_rfl) ?_
          intro w7 hd7
          simp only [List.take_succ_cons, List.take_zero, List.drop_succ_cons, List.drop_zero]
          have hH7 := hH6.no hd7.fr
          obtain ⟨z0, z1, -, -⟩ := hv_cells hH7
          have hR7 := hR6.no hd7.fr
          clear q0 q1 q2 q3
          obtain ⟨q0, q1, q2, q3⟩ := hv_cells hR7
          have hC6 : Cur (w5.setCell ⟨w2.heap.size, 1, none⟩ (.int .u64 (Y : Int))) w1.heap.size g b' 16 := hc5.just (g' := w2.heap.size) ((Fr.refl _ w5).setCell (p := ⟨w2.heap.size, 1, none⟩) (.inl (Just.at _)) _) hf2.size
          have hC7 := hC6.dr hd7
          still_step
          still_step
          still_call (at_same g b' 16 _ hC7)
          refine wpStill_nil ?_
          go_wp2
          obtain ⟨p0, p1⟩ := hv_put hR7 (X : Int) (Y : Int)
          refine bodyPost_ret (v := .tuple #[hvV X Y, .int .i64 16, .int .i64 0]) (by simp [results, Tryz.results125, go_sem, p0, p1, hvV]) rfl ?_
          have hF5 : Fr No w w5 := hF3.trans_just hf5 (by simp at hg; omega)
          exact ⟨((hF5.setCell (p := ⟨w2.heap.size, 1, none⟩) (.inr (Nat.le_of_lt hne)) _).dr hd7).hv (Nat.le_refl _) _ _, .inr ⟨X, Y, by rw [HM.out]; rfl, by rw [HM.out, HL.out]; omega, by rw [HM.out]; exact HR2.out (by omega)⟩⟩
end Go.Proofs.YthlgnmgjfgbffaaGreatDoor
