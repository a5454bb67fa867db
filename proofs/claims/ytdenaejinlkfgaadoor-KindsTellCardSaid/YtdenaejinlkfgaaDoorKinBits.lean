/- Kinds of messages: the program's table, and its sets of parts, against the document's. No program. -/
import Derived.Test.YtdenaejinlkfgaaDoorKinMath
import Derived.Test.YtdenaejinlkfgaaDoorKinDev
import Derived.Laws.BitsLemmas
namespace Go.Proofs.YtdenaejinlkfgaaDoor
open Go.RowKit
set_option linter.unusedVariables false

/-! ### rows -/
theorem dev_table : (List.range 11).all (fun i => (dRow i).kind == ((i : Int) + 1) && ((dRow i).code.data.toList == (kRow (i + 1)).code.data.toList && ((dRow i).mti.data.toList == (kRow (i + 1)).mti.data.toList && (Nat.blt (dRow i).must 2048 && Nat.blt (dRow i).may 2048)))) = true := by decide +kernel
theorem dev_row {i : Nat} (hi : i < 11) : (dRow i).kind = (i : Int) + 1 ∧ (dRow i).code = (kRow (i + 1)).code ∧ (dRow i).mti = (kRow (i + 1)).mti ∧ (dRow i).must < 2048 ∧ (dRow i).may < 2048 := by
  have h := List.all_eq_true.1 dev_table i (List.mem_range.2 hi)
  simp only [Bool.and_eq_true, beq_iff_eq, Nat.blt_eq] at h
  exact ⟨h.1, s_eq h.2.1, s_eq h.2.2.1, h.2.2.2.1, h.2.2.2.2⟩
/-- the test of a number -/
def pNum (K : Int) (i : Nat) : Bool := (dRow i).kind == K
def pCode (S : ByteArray) (i : Nat) : Bool := (dRow i).code.data.toList == S.data.toList
def pMti (S : ByteArray) (i : Nat) : Bool := (dRow i).mti.data.toList == S.data.toList
theorem first_num (K : Int) : (1 ≤ K ∧ K < 12 → ∃ i : Nat, i < 11 ∧ K = (i : Int) + 1 ∧ dFirst (pNum K) = dRow i) ∧ (¬ (1 ≤ K ∧ K < 12) → dFirst (pNum K) = dNone) := by
  constructor
  · intro h
    refine ⟨K.toNat - 1, by omega, by omega, dFirst_at (by omega) (fun j hj => ?_) ?_⟩
    · unfold pNum
      rw [(dev_row (i := j) (by omega)).1, beq_eq_false_iff_ne]
      omega
    · unfold pNum
      rw [(dev_row (i := K.toNat - 1) (by omega)).1, beq_iff_eq]
      omega
  · intro h
    refine dFirst_none (fun j hj => ?_)
    unfold pNum
    rw [(dev_row hj).1, beq_eq_false_iff_ne]
    omega
theorem rowOf_at (i : Nat) (hi : i < 11) : rowOf ((i : Int) + 1) = kRow (i + 1) := by
  unfold rowOf
  rw [if_pos (by omega)]
  congr 1
theorem first_words (K : Int) : (dFirst (pNum K)).code = cdB K ∧ (dFirst (pNum K)).mti = mtB K := by
  unfold cdB mtB
  by_cases h : 1 ≤ K ∧ K < 12
  · obtain ⟨i, hi, rfl, he⟩ := (first_num K).1 h
    obtain ⟨_, h1, h2, _⟩ := dev_row hi
    rw [he, rowOf_at i hi, h1, h2]
    exact ⟨rfl, rfl⟩
  · rw [(first_num K).2 h]
    unfold rowOf
    rw [if_neg h]
    exact ⟨rfl, rfl⟩
theorem dFirstF_kind (p : Nat → Bool) (q : KRow → Bool) (h : ∀ i, i < 11 → p i = q (kRow (i + 1))) : ∀ n k, k + n ≤ 11 → (dFirstF p k n).kind = kindF q (k + 1) n
  | 0, _, _ => rfl
  | n + 1, k, hk => by
    rw [dFirstF, kindF, h k (by omega)]
    split
    · rw [(dev_row (i := k) (by omega)).1]; omega
    · exact dFirstF_kind p q h n (k + 1) (by omega)
theorem first_code (S : ByteArray) : (dFirst (pCode S)).kind = ofCode S := by
  refine dFirstF_kind (pCode S) (fun r => r.code.data.toList == S.data.toList) (fun i hi => ?_) 11 0 (by omega)
  unfold pCode
  rw [(dev_row hi).2.1]
theorem first_mti (S : ByteArray) : (dFirst (pMti S)).kind = ofMti S := by
  refine dFirstF_kind (pMti S) (fun r => r.mti.data.toList == S.data.toList) (fun i hi => ?_) 11 0 (by omega)
  unfold pMti
  rw [(dev_row hi).2.2.1]

/-! ### sets of parts -/
def maskN (th : List Bool) : Nat → Nat
  | 0 => 0
  | k + 1 => if (th[k]?).getD false then maskN th k ||| 2 ^ k else maskN th k
theorem maskN_bit (th : List Bool) : ∀ (k i : Nat), (maskN th k).testBit i = (decide (i < k) && (th[i]?).getD false)
  | 0, i => by simp [maskN]
  | k + 1, i => by
    rw [maskN]
    by_cases hk : (th[k]?).getD false = true
    · rw [if_pos hk, Nat.testBit_or, maskN_bit th k i, Nat.testBit_two_pow]
      by_cases h : k = i
      · subst h; simp [hk]
      · simp [h, show (i < k + 1) = (i < k) from by rw [eq_iff_iff]; omega]
    · rw [if_neg hk, maskN_bit th k i]
      by_cases h : k = i
      · subst h; simp [Bool.not_eq_true _ ▸ hk]
      · rw [show (decide (i < k + 1)) = decide (i < k) from by rw [decide_eq_decide]; omega]
theorem maskN_lt (th : List Bool) : ∀ k, maskN th k < 2 ^ k
  | 0 => by simp [maskN]
  | k + 1 => by
    have h := maskN_lt th k
    have h2 : 2 ^ k < 2 ^ (k + 1) := Nat.pow_lt_pow_right (by decide) (by omega)
    rw [maskN]
    split
    · exact Nat.or_lt_two_pow (by omega) h2
    · omega
theorem wraps_u16 (n : Int) (h0 : 0 ≤ n) (h1 : n < 2 ^ 16) : IntKind.u16.wrap n = n := by
  simp [IntKind.wrap, IntKind.bits, IntKind.signed]
  omega
theorem and_u16 (a b : Nat) (ha : a < 65536) (hb : b < 65536) : bits .and .u16 (a : Int) (b : Int) = ((a &&& b : Nat) : Int) := (bits_nat .u16 16 (by decide) wraps_u16 a b ha hb).1
theorem or_u16 (a b : Nat) (ha : a < 65536) (hb : b < 65536) : bits .or .u16 (a : Int) (b : Int) = ((a ||| b : Nat) : Int) := (bits_nat .u16 16 (by decide) wraps_u16 a b ha hb).2
/-- a without b's bits -/
def without (a b : Nat) : Nat := (BitVec.ofNat 16 a &&& ~~~BitVec.ofNat 16 b).toNat
theorem not_u16 (a b : Nat) : bits .andNot .u16 (a : Int) (b : Int) = (without a b : Int) := by
  simp only [bits, BitVec.ofInt_natCast]
  exact wraps_u16 _ (Int.natCast_nonneg _) (by have := (BitVec.ofNat 16 a &&& ~~~BitVec.ofNat 16 b).isLt; exact_mod_cast this)
theorem without_bit (a b i : Nat) : (without a b).testBit i = (decide (i < 16) && (a.testBit i && !b.testBit i)) := by
  unfold without
  rw [BitVec.testBit_toNat, BitVec.getLsbD_and, BitVec.getLsbD_not, BitVec.getLsbD_ofNat, BitVec.getLsbD_ofNat]
  by_cases h : i < 16 <;> simp [h]
theorem without_lt (a b : Nat) : without a b < 65536 := (BitVec.ofNat 16 a &&& ~~~BitVec.ofNat 16 b).isLt
/-- may a message have just these parts? -/
def letsB (r : DRow) (h : Nat) : Bool := (h &&& r.must) == r.must && without h (r.must ||| r.may) == 0
theorem small_bit {n i : Nat} (hn : n < 2048) (hi : 11 ≤ i) : n.testBit i = false := by
  refine Nat.testBit_lt_two_pow (Nat.lt_of_lt_of_le hn ?_)
  exact Nat.le_trans (by decide : 2048 ≤ 2 ^ 11) (Nat.pow_le_pow_right (by decide) hi)
theorem must_iff {h m : Nat} (hm : m < 2048) : ((h &&& m) == m) = true ↔ ∀ i, i < 11 → m.testBit i = true → h.testBit i = true := by
  rw [beq_iff_eq]
  constructor
  · intro e i _ hb
    have := congrArg (fun x => x.testBit i) e
    simp only [Nat.testBit_and, hb, Bool.and_true] at this
    exact this
  · intro e
    apply Nat.eq_of_testBit_eq
    intro i
    rw [Nat.testBit_and]
    by_cases hi : i < 11
    · cases hb : m.testBit i with
      | true => rw [e i hi hb]; rfl
      | false => simp
    · rw [small_bit hm (by omega)]; simp
theorem may_iff {h m : Nat} (hh : h < 2048) : (without h m == 0) = true ↔ ∀ i, i < 11 → h.testBit i = true → m.testBit i = true := by
  rw [beq_iff_eq]
  constructor
  · intro e i hi hb
    have := congrArg (fun x => x.testBit i) e
    simp only [without_bit, hb, Nat.zero_testBit, Bool.true_and, show i < 16 from by omega, decide_true] at this
    simpa using this
  · intro e
    apply Nat.eq_of_testBit_eq
    intro i
    rw [without_bit, Nat.zero_testBit]
    by_cases hi : i < 11
    · cases hb : h.testBit i with
      | true => rw [e i hi hb]; simp
      | false => simp
    · rw [small_bit hh (by omega)]; simp
theorem dev_bits : (List.range 11).all (fun k => (List.range 11).all (fun i => inL (kRow (k + 1)).must.data.toList (lettersL.getD i 0) == (dRow k).must.testBit i && inL (kRow (k + 1)).may.data.toList (lettersL.getD i 0) == (dRow k).may.testBit i) && ((kRow (k + 1)).must.data.toList.all (fun c => inL lettersL c) && !((kRow (k + 1)).code.data.toList == []))) = true := by decide +kernel
theorem dev_bit {k i : Nat} (hk : k < 11) (hi : i < 11) : inL (kRow (k + 1)).must.data.toList (lettersL.getD i 0) = (dRow k).must.testBit i ∧ inL (kRow (k + 1)).may.data.toList (lettersL.getD i 0) = (dRow k).may.testBit i := by
  have h := List.all_eq_true.1 dev_bits k (List.mem_range.2 hk)
  rw [Bool.and_eq_true] at h
  have h2 := List.all_eq_true.1 h.1 i (List.mem_range.2 hi)
  simp only [Bool.and_eq_true, beq_iff_eq] at h2
  exact h2
theorem dev_more {k : Nat} (hk : k < 11) : (∀ c ∈ (kRow (k + 1)).must.data.toList, ∃ i, i < 11 ∧ lettersL.getD i 0 = c) ∧ (kRow (k + 1)).code.data.toList ≠ [] := by
  have h := List.all_eq_true.1 dev_bits k (List.mem_range.2 hk)
  simp only [Bool.and_eq_true, Bool.not_eq_true', beq_eq_false_iff_ne] at h
  refine ⟨fun c hc => ?_, h.2.2⟩
  have h3 := List.all_eq_true.1 h.2.1 c hc
  unfold inL at h3
  rw [List.any_eq_true] at h3
  obtain ⟨x, hx, he⟩ := h3
  obtain ⟨i, hi, rfl⟩ := List.getElem_of_mem hx
  rw [beq_iff_eq] at he
  exact ⟨i, hi, by rw [List.getD_eq_getElem?_getD, List.getElem?_eq_getElem hi]; exact he⟩
theorem letters_nodup {i j : Nat} (hi : i < 11) (hj : j < 11) (h : lettersL.getD i 0 = lettersL.getD j 0) : i = j := by
  have ht : (List.range 11).all (fun i => (List.range 11).all (fun j => !(lettersL.getD i 0 == lettersL.getD j 0) || i == j)) = true := by decide +kernel
  have h2 := List.all_eq_true.1 (List.all_eq_true.1 ht i (List.mem_range.2 hi)) j (List.mem_range.2 hj)
  simp only [h, beq_self_eq_true, Bool.not_true, Bool.false_or, beq_iff_eq] at h2
  exact h2
theorem hasF_mem (th : List Bool) : ∀ (k : Nat) (c : UInt8), c ∈ hasF th k ↔ ∃ i, i < k ∧ (th[i]?).getD false = true ∧ lettersL.getD i 0 = c
  | 0, c => by simp [hasF]
  | k + 1, c => by
    rw [hasF, List.mem_append, hasF_mem th k c]
    constructor
    · rintro (⟨i, hi, h1, h2⟩ | h)
      · exact ⟨i, by omega, h1, h2⟩
      · split at h
        · rename_i hk
          rw [List.mem_singleton] at h
          exact ⟨k, by omega, hk, by rw [List.getD_eq_getElem?_getD]; exact h.symm⟩
        · cases h
    · rintro ⟨i, hi, h1, h2⟩
      by_cases hik : i = k
      · subst hik
        right
        rw [if_pos h1, List.mem_singleton, ← h2, List.getD_eq_getElem?_getD]
      · exact .inl ⟨i, by omega, h1, h2⟩
theorem inL_iff {l : List UInt8} {c : UInt8} : inL l c = true ↔ c ∈ l := by
  unfold inL
  rw [List.any_eq_true]
  constructor
  · rintro ⟨x, hx, he⟩
    rw [beq_iff_eq] at he
    exact he ▸ hx
  · intro h
    exact ⟨c, h, beq_self_eq_true c⟩
theorem has_letter (th : List Bool) {i : Nat} (hi : i < 11) : lettersL.getD i 0 ∈ hasL th ↔ (maskN th 11).testBit i = true := by
  unfold hasL
  rw [hasF_mem, maskN_bit, Bool.and_eq_true, decide_eq_true_eq]
  constructor
  · rintro ⟨j, hj, h1, h2⟩
    rw [letters_nodup hj hi h2] at h1
    exact ⟨hi, h1⟩
  · rintro ⟨_, h⟩
    exact ⟨i, hi, h, rfl⟩
/-- the program's sets are the document's letters -/
theorem lets_eq (th : List Bool) {k : Nat} (hk : k < 11) : letsB (dRow k) (maskN th 11) = ((kRow (k + 1)).must.data.toList.all (fun c => inL (hasL th) c) && (hasL th).all (fun c => inL ((kRow (k + 1)).must.data.toList ++ (kRow (k + 1)).may.data.toList) c)) := by
  obtain ⟨_, _, _, hm1, hm2⟩ := dev_row hk
  have hlt : maskN th 11 < 2048 := maskN_lt th 11
  unfold letsB
  rw [Bool.eq_iff_iff, Bool.and_eq_true, Bool.and_eq_true, must_iff hm1, may_iff hlt, List.all_eq_true, List.all_eq_true]
  constructor
  · rintro ⟨h1, h2⟩
    refine ⟨fun c hc => ?_, fun c hc => ?_⟩
    · obtain ⟨i, hi, rfl⟩ := (dev_more hk).1 c hc
      rw [inL_iff, has_letter th hi]
      refine h1 i hi ?_
      rw [← (dev_bit hk hi).1]
      exact inL_iff.2 hc
    · obtain ⟨i, hi, ht, rfl⟩ := (hasF_mem th 11 c).1 hc
      have h3 := h2 i hi ((has_letter th hi).1 hc)
      rw [Nat.testBit_or, Bool.or_eq_true, ← (dev_bit hk hi).1, ← (dev_bit hk hi).2, inL_iff, inL_iff] at h3
      rw [inL_iff, List.mem_append]
      exact h3
  · rintro ⟨h1, h2⟩
    refine ⟨fun i hi hb => ?_, fun i hi hb => ?_⟩
    · rw [← (dev_bit hk hi).1, inL_iff] at hb
      exact (has_letter th hi).1 (inL_iff.1 (h1 _ hb))
    · have h3 := h2 _ ((has_letter th hi).2 hb)
      rw [inL_iff, List.mem_append, ← inL_iff, ← inL_iff, (dev_bit hk hi).1, (dev_bit hk hi).2] at h3
      rw [Nat.testBit_or, Bool.or_eq_true]
      exact h3
/-- what Fits tells, by the program's row -/
theorem fits_dev (th : List Bool) (bad : Bool) (K : Int) : fitsR (rowOf K) (hasL th) bad = if (dFirst (pNum K)).kind = 0 then 15 else if !letsB (dFirst (pNum K)) (maskN th 11) || bad then 19 else 0 := by
  by_cases h : 1 ≤ K ∧ K < 12
  · obtain ⟨i, hi, rfl, he⟩ := (first_num K).1 h
    rw [he, rowOf_at i hi, (dev_row hi).1, if_neg (by omega), lets_eq th hi]
    unfold fitsR
    rw [if_neg (dev_more hi).2]
    cases (kRow (i + 1)).must.data.toList.all (fun c => inL (hasL th) c) <;> cases (hasL th).all (fun c => inL ((kRow (i + 1)).must.data.toList ++ (kRow (i + 1)).may.data.toList) c) <;> cases bad <;> rfl
  · rw [(first_num K).2 h, if_pos (show dNone.kind = 0 from rfl)]
    unfold rowOf
    rw [if_neg h]
    rfl
end Go.Proofs.YtdenaejinlkfgaaDoor
