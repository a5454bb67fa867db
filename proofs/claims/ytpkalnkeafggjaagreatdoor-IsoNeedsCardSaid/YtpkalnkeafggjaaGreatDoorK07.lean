/- The texts BmMath, joined. -/
import Derived.Test.YtpkalnkeafggjaaGreatDoorK01
import Derived.Test.YtpkalnkeafggjaaGreatDoorK06
/- Bits of bytes, the highest first, and rising numbers: plain functions on lists, no program. -/
namespace Go.Proofs.YtpkalnkeafggjaaGreatDoor
set_option linter.unusedVariables false

/-- is bit i (from 0 on, the highest of the first byte ahead) set? -/
def bitAt (bs : List UInt8) (i : Nat) : Bool := (bs.getD (i / 8) 0).toNat.testBit (7 - i % 8)
/-- bytes alike in their bits are alike -/
theorem bits_ext {bs cs : List UInt8} (hl : bs.length = cs.length) (h : ∀ i, i < 8 * bs.length → bitAt bs i = bitAt cs i) : bs = cs := by
  apply List.ext_getElem? 
  intro j
  by_cases hj : j < bs.length
  · have hj2 : j < cs.length := by omega
    rw [List.getElem?_eq_getElem hj, List.getElem?_eq_getElem hj2]
    congr 1
    apply UInt8.toNat_inj.1
    apply Nat.eq_of_testBit_eq
    intro k
    by_cases hk : k < 8
    · have := h (8 * j + (7 - k)) (by omega)
      unfold bitAt at this
      rw [show (8 * j + (7 - k)) / 8 = j from by omega, show 7 - (8 * j + (7 - k)) % 8 = k from by omega] at this
      simpa [List.getD, List.getElem?_eq_getElem hj, List.getElem?_eq_getElem hj2] using this
    · rw [Nat.testBit_lt_two_pow, Nat.testBit_lt_two_pow]
      · exact Nat.lt_of_lt_of_le (UInt8.toNat_lt _) (Nat.pow_le_pow_right (n := 2) (by decide) (show 8 ≤ k by omega))
      · exact Nat.lt_of_lt_of_le (UInt8.toNat_lt _) (Nat.pow_le_pow_right (n := 2) (by decide) (show 8 ≤ k by omega))
  · rw [List.getElem?_eq_none (by omega), List.getElem?_eq_none (by omega)]
/-- one bit more -/
def setBit (bs : List UInt8) (i : Nat) : List UInt8 := bs.set (i / 8) (bs.getD (i / 8) 0 ||| (128 >>> UInt8.ofNat (i % 8)))
theorem setBit_length (bs : List UInt8) (i : Nat) : (setBit bs i).length = bs.length := by simp [setBit]
theorem mask_bit : ∀ m k : Fin 8, ((128 : UInt8) >>> UInt8.ofNat m.val).toNat.testBit k.val = decide (k.val = 7 - m.val) := by decide +kernel
theorem bitAt_setBit (bs : List UInt8) (i k : Nat) (hi : i < 8 * bs.length) : bitAt (setBit bs i) k = (bitAt bs k || decide (k = i)) := by
  unfold bitAt setBit
  have hj : i / 8 < bs.length := by omega
  by_cases hk : k / 8 = i / 8
  · rw [hk]
    have hg : (bs.set (i / 8) (bs.getD (i / 8) 0 ||| (128 >>> UInt8.ofNat (i % 8)))).getD (i / 8) 0 = (bs.getD (i / 8) 0 ||| (128 >>> UInt8.ofNat (i % 8))) := by
      simp [List.getD, hj]
    rw [hg, UInt8.toNat_or, Nat.testBit_or]
    have hm := mask_bit ⟨i % 8, by omega⟩ ⟨7 - k % 8, by omega⟩
    simp only at hm
    rw [hm]
    congr 1
    rw [decide_eq_decide]
    omega
  · have hg : (bs.set (i / 8) (bs.getD (i / 8) 0 ||| (128 >>> UInt8.ofNat (i % 8)))).getD (k / 8) 0 = bs.getD (k / 8) 0 := by
      simp only [List.getD, List.getElem?_set]
      rw [if_neg (by omega)]
    rw [hg]
    have : decide (k = i) = false := decide_eq_false (by rintro rfl; exact hk rfl)
    rw [this, Bool.or_false]
theorem bitAt_zero (n k : Nat) : bitAt (List.replicate n 0) k = false := by
  unfold bitAt
  have : (List.replicate n (0 : UInt8)).getD (k / 8) 0 = 0 := by
    simp only [List.getD, List.getElem?_replicate]
    split <;> rfl
  rw [this]
  simp
/-- bytes behind -/
theorem bitAt_append_zero (bs : List UInt8) (n k : Nat) : bitAt (bs ++ List.replicate n 0) k = bitAt bs k := by
  unfold bitAt
  congr 2
  simp only [List.getD, List.getElem?_append]
  split
  · rfl
  · rename_i h
    rw [List.getElem?_eq_none (show bs.length ≤ k / 8 by omega), List.getElem?_replicate]
    split <;> rfl
theorem bitAt_append_left (bs cs : List UInt8) (k : Nat) (h : k < 8 * bs.length) : bitAt (bs ++ cs) k = bitAt bs k := by
  unfold bitAt
  rw [List.getD, List.getD, List.getElem?_append_left (by omega)]

/-! ### the numbers -/
/-- may it be in a map? -/
def mayB (n : Int) : Bool := decide (2 ≤ n) && (decide (n ≤ 128) && decide (n ≠ 65))
/-- rising, each as it may be -/
def risesB : List Int → Bool
  | [] => true
  | [x] => mayB x
  | x :: y :: r => mayB x && (decide (x < y) && risesB (y :: r))
/-- one is above 64 -/
def bigB (l : List Int) : Bool := l.any fun n => decide (64 < n)
/-- bit i of the map of these -/
def inMap (l : List Int) (i : Nat) : Bool := l.contains ((i : Int) + 1) || (decide (i = 0) && bigB l)
def sizeOfMap (l : List Int) : Nat := if bigB l then 16 else 8
/-- the map itself, number by number -/
def mapStep (bs : List UInt8) (n : Int) : List UInt8 :=
  setBit (if 64 < n ∧ bs.length = 8 then setBit (bs ++ List.replicate 8 0) 0 else bs) (n.toNat - 1)
def mapOf (l : List Int) : List UInt8 := l.foldl mapStep (List.replicate 8 0)

theorem mayB_iff {n : Int} : mayB n = true ↔ 2 ≤ n ∧ n ≤ 128 ∧ n ≠ 65 := by simp [mayB]
theorem bigB_snoc (l : List Int) (n : Int) : bigB (l ++ [n]) = (bigB l || decide (64 < n)) := by simp [bigB]
theorem inMap_snoc (l : List Int) (n : Int) (i : Nat) : inMap (l ++ [n]) i = (inMap l i || (decide ((i : Int) + 1 = n) || (decide (i = 0) && decide (64 < n)))) := by
  unfold inMap
  rw [bigB_snoc]
  simp only [List.contains_append, List.contains_cons, List.contains_nil, Bool.or_false]
  have : ((i : Int) + 1 == n) = decide ((i : Int) + 1 = n) := by rfl
  rw [this]
  cases l.contains ((i : Int) + 1) <;> cases decide (i = 0) <;> cases bigB l <;> cases decide (64 < n) <;> cases decide ((i : Int) + 1 = n) <;> rfl
theorem mapOf_snoc (l : List Int) (n : Int) : mapOf (l ++ [n]) = mapStep (mapOf l) n := by simp [mapOf]
/-- what the map is: so long, with just these bits -/
theorem mapOf_spec (l : List Int) (h : ∀ n ∈ l, mayB n = true) : (mapOf l).length = sizeOfMap l ∧ ∀ i, bitAt (mapOf l) i = inMap l i := by
  have hr : ∀ m : List Int, (∀ n ∈ m, mayB n = true) → (mapOf m.reverse).length = sizeOfMap m.reverse ∧ ∀ i, bitAt (mapOf m.reverse) i = inMap m.reverse i := by
    intro m
    induction m with
    | nil => intro _; exact ⟨rfl, fun i => by rw [show mapOf [].reverse = List.replicate 8 0 from rfl, bitAt_zero]; simp [inMap, bigB]⟩
    | cons n m ih =>
      intro hm
      obtain ⟨h1, h2⟩ := ih (fun x hx => hm x (List.mem_cons_of_mem _ hx))
      have hn := mayB_iff.1 (hm n (List.mem_cons_self ..))
      rw [List.reverse_cons]
      generalize m.reverse = l at h1 h2
      rw [mapOf_snoc]
      have hs : (mapStep (mapOf l) n).length = sizeOfMap (l ++ [n]) := by
        unfold mapStep sizeOfMap
        rw [setBit_length, bigB_snoc]
        unfold sizeOfMap at h1
        cases hb : bigB l with
        | true =>
          rw [hb] at h1
          rw [if_neg (by rw [h1]; simp), h1]
          simp
        | false =>
          rw [hb] at h1
          by_cases h64 : 64 < n
          · rw [if_pos ⟨h64, h1⟩, setBit_length, List.length_append, h1]
            simp [h64]
          · rw [if_neg (by omega), h1]
            simp [h64]
      refine ⟨hs, fun i => ?_⟩
      unfold mapStep
      rw [inMap_snoc, ← h2 i]
      have hd : decide (i = n.toNat - 1) = decide ((i : Int) + 1 = n) := by rw [decide_eq_decide]; omega
      by_cases hc : 64 < n ∧ (mapOf l).length = 8
      · rw [if_pos hc, bitAt_setBit _ _ _ (by rw [setBit_length, List.length_append, hc.2]; simp; omega), bitAt_setBit _ _ _ (by rw [List.length_append, hc.2]; simp), bitAt_append_zero, hd]
        have h64 : decide (64 < n) = true := decide_eq_true hc.1
        rw [h64]
        cases bitAt (mapOf l) i <;> cases decide (i = 0) <;> cases decide ((i : Int) + 1 = n) <;> rfl
      · have hlen : n.toNat - 1 < 8 * (mapOf l).length := by
          unfold sizeOfMap at h1
          split at h1
          · omega
          · by_cases h64 : 64 < n
            · exact absurd ⟨h64, h1⟩ hc
            · omega
        rw [if_neg hc, bitAt_setBit _ _ _ hlen, hd]
        have h0 : (bitAt (mapOf l) i || (decide ((i : Int) + 1 = n) || (decide (i = 0) && decide (64 < n)))) = (bitAt (mapOf l) i || decide ((i : Int) + 1 = n)) := by
          by_cases h64 : 64 < n
          · have hb : bigB l = true := by
              unfold sizeOfMap at h1
              by_cases hb : bigB l = true
              · exact hb
              · rw [if_neg hb] at h1
                exact absurd ⟨h64, h1⟩ hc
            by_cases hi : i = 0
            · rw [h2 i]
              unfold inMap
              rw [hb, decide_eq_true hi]
              simp
            · rw [decide_eq_false hi]
              simp
          · rw [decide_eq_false h64]
            simp
        rw [h0]
  have := hr l.reverse (by simpa using h)
  simpa using this
end Go.Proofs.YtpkalnkeafggjaaGreatDoor
