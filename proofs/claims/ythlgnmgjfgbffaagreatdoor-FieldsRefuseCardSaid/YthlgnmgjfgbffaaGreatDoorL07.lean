/- The texts Bits, BmMath, BmMath2, BmMath3, Dig0, Tests, Str, TxtProg0, RefTxt, RefChr, RefTxt2, RefTxt3, CodMath, KinMath, joined. -/
import Derived.Test.YthlgnmgjfgbffaaGreatDoorL01
import Derived.Laws.BitsLemmas
import Derived.IntWalk
import Derived.Test.YthlgnmgjfgbffaaGreatDoorL02
/- Shifts and masks of bytes, as the walk spells them and as Lean has them: no program. -/
namespace Go.Proofs.YthlgnmgjfgbffaaGreatDoor
set_option linter.unusedVariables false

theorem u8_wrap (n : Int) (h0 : 0 ≤ n) (h1 : n < 2 ^ 8) : IntKind.u8.wrap n = n := IntWalk.u8_in _ ⟨h0, by omega⟩
theorem or_u8 (x y : UInt8) : bits .or .u8 (x.toNat : Int) (y.toNat : Int) = ((x ||| y).toNat : Int) := by
  rw [(bits_nat .u8 8 (by decide) u8_wrap _ _ x.toNat_lt y.toNat_lt).2, UInt8.toNat_or]
theorem and_u8 (x y : UInt8) : bits .and .u8 (x.toNat : Int) (y.toNat : Int) = ((x &&& y).toNat : Int) := by
  rw [(bits_nat .u8 8 (by decide) u8_wrap _ _ x.toNat_lt y.toNat_lt).1, UInt8.toNat_and]
theorem wrap_u8 (n : Int) : IntKind.u8.wrap n = n % 256 := by
  simp [IntKind.wrap, IntKind.bits, IntKind.signed]
theorem shl4_u8 (x : UInt8) : IntKind.u8.wrap ((x.toNat : Int) * 16) = ((x <<< 4).toNat : Int) := by
  rw [wrap_u8, UInt8.toNat_shiftLeft]
  have h : x.toNat <<< ((4 : UInt8).toNat % 8) = x.toNat * 16 := by rw [Nat.shiftLeft_eq]; rfl
  rw [h]
  omega
theorem shr4_u8 (x : UInt8) : (x.toNat : Int) / 16 = ((x >>> 4).toNat : Int) := by
  rw [UInt8.toNat_shiftRight, Nat.shiftRight_eq_div_pow]
  have h : 2 ^ ((4 : UInt8).toNat % 8) = 16 := rfl
  rw [h]
  omega
/-- what 'int(uint(p) % b)' makes -/
theorem rem_nat (p b : Int) (hb : 0 < b) : ∃ m : Nat, (IntKind.u64.wrap p).tmod b = (m : Int) ∧ (m : Int) < b := by
  have hw : 0 ≤ IntKind.u64.wrap p := by rw [IntKind.wrap_u64]; omega
  rw [Int.tmod_eq_emod_of_nonneg hw]
  have h0 : 0 ≤ IntKind.u64.wrap p % b := Int.emod_nonneg _ (by omega)
  have h1 : IntKind.u64.wrap p % b < b := Int.emod_lt_of_pos _ hb
  obtain ⟨m, hm⟩ := Int.eq_ofNat_of_zero_le h0
  exact ⟨m, hm, by omega⟩

end Go.Proofs.YthlgnmgjfgbffaaGreatDoor
/- Bits of bytes, the highest first, and rising numbers: plain functions on lists, no program. -/
namespace Go.Proofs.YthlgnmgjfgbffaaGreatDoor
set_option linter.unusedVariables false

/-- is bit i (from 0 on, the highest of the first byte ahead) set? -/
def bitAt (bs : List UInt8) (i : Nat) : Bool := (bs.getD (i / 8) 0).toNat.testBit (7 - i % 8)
/-- bytes alike in their bits are alike -/
theorem bits_ext {bs cs : List UInt8} (hl : bs.length = cs.length) (h : ∀ i, i < 8 * bs.length → bitAt bs i = bitAt cs i) : bs = cs := by
  apply List.ext_getElem? 
  intro j
  by_cases hj : j < bs.length
  · have hj2 : j < cs.length := by omega
    rw [List.getElem?_eq_getElem hj, List.getElem?_eq_getElem hj2]
    congr 1
    apply UInt8.toNat_inj.1
    apply Nat.eq_of_testBit_eq
    intro k
    by_cases hk : k < 8
    · have := h (8 * j + (7 - k)) (by omega)
      unfold bitAt at this
      rw [show (8 * j + (7 - k)) / 8 = j from by omega, show 7 - (8 * j + (7 - k)) % 8 = k from by omega] at this
      simpa [List.getD, List.getElem?_eq_getElem hj, List.getElem?_eq_getElem hj2] using this
    · rw [Nat.testBit_lt_two_pow, Nat.testBit_lt_two_pow]
      · exact Nat.lt_of_lt_of_le (UInt8.toNat_lt _) (Nat.pow_le_pow_right (n := 2) (by decide) (show 8 ≤ k by omega))
      · exact Nat.lt_of_lt_of_le (UInt8.toNat_lt _) (Nat.pow_le_pow_right (n := 2) (by decide) (show 8 ≤ k by omega))
  · rw [List.getElem?_eq_none (by omega), List.getElem?_eq_none (by omega)]
/-- one bit more -/
def setBit (bs : List UInt8) (i : Nat) : List UInt8 := bs.set (i / 8) (bs.getD (i / 8) 0 ||| (128 >>> UInt8.ofNat (i % 8)))
theorem setBit_length (bs : List UInt8) (i : Nat) : (setBit bs i).length = bs.length := by simp [setBit]
theorem mask_bit : ∀ m k : Fin 8, ((128 : UInt8) >>> UInt8.ofNat m.val).toNat.testBit k.val = decide (k.val = 7 - m.val) := by decide +kernel
theorem bitAt_setBit (bs : List UInt8) (i k : Nat) (hi : i < 8 * bs.length) : bitAt (setBit bs i) k = (bitAt bs k || decide (k = i)) := by
  unfold bitAt setBit
  have hj : i / 8 < bs.length := by omega
  by_cases hk : k / 8 = i / 8
  · rw [hk]
    have hg : (bs.set (i / 8) (bs.getD (i / 8) 0 ||| (128 >>> UInt8.ofNat (i % 8)))).getD (i / 8) 0 = (bs.getD (i / 8) 0 ||| (128 >>> UInt8.ofNat (i % 8))) := by
      simp [List.getD, hj]
    rw [hg, UInt8.toNat_or, Nat.testBit_or]
    have hm := mask_bit ⟨i % 8, by omega⟩ ⟨7 - k % 8, by omega⟩
    simp only at hm
    rw [hm]
    congr 1
    rw [decide_eq_decide]
    omega
  · have hg : (bs.set (i / 8) (bs.getD (i / 8) 0 ||| (128 >>> UInt8.ofNat (i % 8)))).getD (k / 8) 0 = bs.getD (k / 8) 0 := by
      simp only [List.getD, List.getElem?_set]
      rw [if_neg (by omega)]
    rw [hg]
    have : decide (k = i) = false := decide_eq_false (by rintro rfl; exact hk rfl)
    rw [this, Bool.or_false]
theorem bitAt_zero (n k : Nat) : bitAt (List.replicate n 0) k = false := by
  unfold bitAt
  have : (List.replicate n (0 : UInt8)).getD (k / 8) 0 = 0 := by
    simp only [List.getD, List.getElem?_replicate]
    split <;> rfl
  rw [this]
  simp
/-- bytes behind -/
theorem bitAt_append_zero (bs : List UInt8) (n k : Nat) : bitAt (bs ++ List.replicate n 0) k = bitAt bs k := by
  unfold bitAt
  congr 2
  simp only [List.getD, List.getElem?_append]
  split
  · rfl
  · rename_i h
    rw [List.getElem?_eq_none (show bs.length ≤ k / 8 by omega), List.getElem?_replicate]
    split <;> rfl
theorem bitAt_append_left (bs cs : List UInt8) (k : Nat) (h : k < 8 * bs.length) : bitAt (bs ++ cs) k = bitAt bs k := by
  unfold bitAt
  rw [List.getD, List.getD, List.getElem?_append_left (by omega)]

/-! ### the numbers -/
/-- may it be in a map? -/
def mayB (n : Int) : Bool := decide (2 ≤ n) && (decide (n ≤ 128) && decide (n ≠ 65))
/-- rising, each as it may be -/
def risesB : List Int → Bool
  | [] => true
  | [x] => mayB x
  | x :: y :: r => mayB x && (decide (x < y) && risesB (y :: r))
/-- one is above 64 -/
def bigB (l : List Int) : Bool := l.any fun n => decide (64 < n)
/-- bit i of the map of these -/
def inMap (l : List Int) (i : Nat) : Bool := l.contains ((i : Int) + 1) || (decide (i = 0) && bigB l)
def sizeOfMap (l : List Int) : Nat := if bigB l then 16 else 8
/-- the map itself, number by number -/
def mapStep (bs : List UInt8) (n : Int) : List UInt8 :=
  setBit (if 64 < n ∧ bs.length = 8 then setBit (bs ++ List.replicate 8 0) 0 else bs) (n.toNat - 1)
def mapOf (l : List Int) : List UInt8 := l.foldl mapStep (List.replicate 8 0)

theorem mayB_iff {n : Int} : mayB n = true ↔ 2 ≤ n ∧ n ≤ 128 ∧ n ≠ 65 := by simp [mayB]
theorem bigB_snoc (l : List Int) (n : Int) : bigB (l ++ [n]) = (bigB l || decide (64 < n)) := by simp [bigB]
theorem inMap_snoc (l : List Int) (n : Int) (i : Nat) : inMap (l ++ [n]) i = (inMap l i || (decide ((i : Int) + 1 = n) || (decide (i = 0) && decide (64 < n)))) := by
  unfold inMap
  rw [bigB_snoc]
  simp only [List.contains_append, List.contains_cons, List.contains_nil, Bool.or_false]
  have : ((i : Int) + 1 == n) = decide ((i : Int) + 1 = n) := by rfl
  rw [this]
  cases l.contains ((i : Int) + 1) <;> cases decide (i = 0) <;> cases bigB l <;> cases decide (64 < n) <;> cases decide ((i : Int) + 1 = n) <;> rfl
theorem mapOf_snoc (l : List Int) (n : Int) : mapOf (l ++ [n]) = mapStep (mapOf l) n := by simp [mapOf]
/-- what the map is: so long, with just these bits -/
theorem mapOf_spec (l : List Int) (h : ∀ n ∈ l, mayB n = true) : (mapOf l).length = sizeOfMap l ∧ ∀ i, bitAt (mapOf l) i = inMap l i := by
  have hr : ∀ m : List Int, (∀ n ∈ m, mayB n = true) → (mapOf m.reverse).length = sizeOfMap m.reverse ∧ ∀ i, bitAt (mapOf m.reverse) i = inMap m.reverse i := by
    intro m
    induction m with
    | nil => intro _; exact ⟨rfl, fun i => by rw [show mapOf [].reverse = List.replicate 8 0 from rfl, bitAt_zero]; simp [inMap, bigB]⟩
    | cons n m ih =>
      intro hm
      obtain ⟨h1, h2⟩ := ih (fun x hx => hm x (List.mem_cons_of_mem _ hx))
      have hn := mayB_iff.1 (hm n (List.mem_cons_self ..))
      rw [List.reverse_cons]
      generalize m.reverse = l at h1 h2
      rw [mapOf_snoc]
      have hs : (mapStep (mapOf l) n).length = sizeOfMap (l ++ [n]) := by
        unfold mapStep sizeOfMap
        rw [setBit_length, bigB_snoc]
        unfold sizeOfMap at h1
        cases hb : bigB l with
        | true =>
          rw [hb] at h1
          rw [if_neg (by rw [h1]; simp), h1]
          simp
        | false =>
          rw [hb] at h1
          by_cases h64 : 64 < n
          · rw [if_pos ⟨h64, h1⟩, setBit_length, List.length_append, h1]
            simp [h64]
          · rw [if_neg (by omega), h1]
            simp [h64]
      refine ⟨hs, fun i => ?_⟩
      unfold mapStep
      rw [inMap_snoc, ← h2 i]
      have hd : decide (i = n.toNat - 1) = decide ((i : Int) + 1 = n) := by rw [decide_eq_decide]; omega
      by_cases hc : 64 < n ∧ (mapOf l).length = 8
      · rw [if_pos hc, bitAt_setBit _ _ _ (by rw [setBit_length, List.length_append, hc.2]; simp; omega), bitAt_setBit _ _ _ (by rw [List.length_append, hc.2]; simp), bitAt_append_zero, hd]
        have h64 : decide (64 < n) = true := decide_eq_true hc.1
        rw [h64]
        cases bitAt (mapOf l) i <;> cases decide (i = 0) <;> cases decide ((i : Int) + 1 = n) <;> rfl
      · have hlen : n.toNat - 1 < 8 * (mapOf l).length := by
          unfold sizeOfMap at h1
          split at h1
          · omega
          · by_cases h64 : 64 < n
            · exact absurd ⟨h64, h1⟩ hc
            · omega
        rw [if_neg hc, bitAt_setBit _ _ _ hlen, hd]
        have h0 : (bitAt (mapOf l) i || (decide ((i : Int) + 1 = n) || (decide (i = 0) && decide (64 < n)))) = (bitAt (mapOf l) i || decide ((i : Int) + 1 = n)) := by
          by_cases h64 : 64 < n
          · have hb : bigB l = true := by
              unfold sizeOfMap at h1
              by_cases hb : bigB l = true
              · exact hb
              · rw [if_neg hb] at h1
                exact absurd ⟨h64, h1⟩ hc
            by_cases hi : i = 0
            · rw [h2 i]
              unfold inMap
              rw [hb, decide_eq_true hi]
              simp
            · rw [decide_eq_false hi]
              simp
          · rw [decide_eq_false h64]
            simp
        rw [h0]
  have := hr l.reverse (by simpa using h)
  simpa using this
end Go.Proofs.YthlgnmgjfgbffaaGreatDoor
/- Maps of bits, parsed: which numbers are set, and what follows: plain functions on lists, no program. -/
namespace Go.Proofs.YthlgnmgjfgbffaaGreatDoor
set_option linter.unusedVariables false

/-- strictly rising lists of the same numbers are the same -/
theorem rise_ext : ∀ (a b : List Int), a.Pairwise (· < ·) → b.Pairwise (· < ·) → (∀ x, x ∈ a ↔ x ∈ b) → a = b
  | [], [], _, _, _ => rfl
  | [], y :: b, _, _, h => absurd ((h y).2 (List.mem_cons_self ..)) (by simp)
  | x :: a, [], _, _, h => absurd ((h x).1 (List.mem_cons_self ..)) (by simp)
  | x :: a, y :: b, ha, hb, h => by
    rw [List.pairwise_cons] at ha hb
    have hxy : x = y := by
      rcases List.mem_cons.1 ((h x).1 (List.mem_cons_self ..)) with e | e
      · exact e
      · rcases List.mem_cons.1 ((h y).2 (List.mem_cons_self ..)) with e2 | e2
        · exact e2.symm
        · have h1 := hb.1 x e
          have h2 := ha.1 y e2
          omega
    subst hxy
    congr 1
    refine rise_ext a b ha.2 hb.2 fun z => ⟨fun hz => ?_, fun hz => ?_⟩
    · rcases List.mem_cons.1 ((h z).1 (List.mem_cons_of_mem _ hz)) with e | e
      · have := ha.1 z hz; omega
      · exact e
    · rcases List.mem_cons.1 ((h z).2 (List.mem_cons_of_mem _ hz)) with e | e
      · have := hb.1 z hz; omega
      · exact e
theorem risesB_iff : ∀ l : List Int, risesB l = true ↔ l.Pairwise (· < ·) ∧ ∀ n ∈ l, mayB n = true
  | [] => by simp [risesB]
  | [x] => by simp [risesB]
  | x :: y :: r => by
    have ih := risesB_iff (y :: r)
    simp only [risesB, Bool.and_eq_true, decide_eq_true_eq, ih]
    constructor
    · rintro ⟨h1, h2, h3, h4⟩
      refine ⟨List.pairwise_cons.2 ⟨fun z hz => ?_, h3⟩, fun n hn => ?_⟩
      · rcases List.mem_cons.1 hz with rfl | hz
        · exact h2
        · have := (List.pairwise_cons.1 h3).1 z hz
          omega
      · rcases List.mem_cons.1 hn with rfl | hn
        · exact h1
        · exact h4 n hn
    · rintro ⟨h1, h2⟩
      obtain ⟨h3, h4⟩ := List.pairwise_cons.1 h1
      exact ⟨h2 x (List.mem_cons_self ..), h3 y (List.mem_cons_self ..), h4, fun n hn => h2 n (List.mem_cons_of_mem _ hn)⟩

/-- the numbers from 2 to 8m that are set -/
def setOf (b : List UInt8) (m : Nat) : List Int := ((List.range (8 * m - 1)).map fun (k : Nat) => ((k : Int) + 2)).filter fun n => bitAt b (n.toNat - 1)
theorem setOf_mem (b : List UInt8) (m : Nat) (hm : 1 ≤ m) (n : Int) : n ∈ setOf b m ↔ 2 ≤ n ∧ n ≤ 8 * (m : Int) ∧ bitAt b (n.toNat - 1) = true := by
  unfold setOf
  rw [List.mem_filter, List.mem_map]
  constructor
  · rintro ⟨⟨k, hk, rfl⟩, h⟩
    rw [List.mem_range] at hk
    exact ⟨by omega, by omega, h⟩
  · rintro ⟨h1, h2, h3⟩
    exact ⟨⟨n.toNat - 2, by rw [List.mem_range]; omega, by omega⟩, h3⟩
theorem setOf_rises (b : List UInt8) (m : Nat) : (setOf b m).Pairwise (· < ·) := by
  unfold setOf
  apply List.Pairwise.filter
  rw [List.pairwise_map]
  exact List.Pairwise.imp (fun h => by omega) List.pairwise_lt_range

/-- how many bytes a map has -/
def mapN (b : List UInt8) : Nat := if bitAt b 0 then 16 else 8
/-- why there is none -/
def mapBad (b : List UInt8) : Bool := bitAt b 0 && (bitAt b 64 || !(setOf b 16).any fun n => decide (66 ≤ n))
def parE (b : List UInt8) : Int := if b.length < 8 then 3 else if b.length < mapN b then 3 else if mapBad b then 6 else 0
def parN (b : List UInt8) : Nat := if parE b = 0 then mapN b else 0
def parL (b : List UInt8) : List Int := if parE b = 0 then setOf b (mapN b) else []

/-- bits of a head are the whole's -/
theorem bitAt_take (b : List UInt8) (m i : Nat) (h : i < 8 * m) : bitAt (b.take m) i = bitAt b i := by
  unfold bitAt
  congr 2
  simp only [List.getD, List.getElem?_take]
  rw [if_pos (by omega)]

/-- what is written is parsed, whatever stands behind -/
theorem par_map (l : List Int) (h : risesB l = true) (more : List UInt8) : parE (mapOf l ++ more) = 0 ∧ parN (mapOf l ++ more) = (mapOf l).length ∧ parL (mapOf l ++ more) = l := by
  obtain ⟨hp, hm⟩ := (risesB_iff l).1 h
  obtain ⟨h1, h2⟩ := mapOf_spec l hm
  have hpos : 8 ≤ (mapOf l).length := by rw [h1]; unfold sizeOfMap; split <;> omega
  have hb0 : bitAt (mapOf l ++ more) 0 = bigB l := by
    rw [bitAt_append_left _ _ _ (by omega), h2]
    unfold inMap
    have : l.contains (((0 : Nat) : Int) + 1) = false := by
      rw [Bool.eq_false_iff]
      intro hc
      have := mayB_iff.1 (hm _ (List.contains_iff_mem.1 hc))
      omega
    rw [this]
    simp
  have hN : mapN (mapOf l ++ more) = (mapOf l).length := by
    unfold mapN
    rw [hb0, h1]
    rfl
  have hin : ∀ n : Int, 2 ≤ n → n ≤ 8 * ((mapOf l).length : Int) → (bitAt (mapOf l ++ more) (n.toNat - 1) = true ↔ n ∈ l) := fun n hn1 hn2 => by
    rw [bitAt_append_left _ _ _ (by omega), h2]
    unfold inMap
    rw [decide_eq_false (by omega : ¬ n.toNat - 1 = 0), Bool.false_and, Bool.or_false, List.contains_iff_mem]
    rw [show ((n.toNat - 1 : Nat) : Int) + 1 = n from by omega]
  have hset : setOf (mapOf l ++ more) (mapOf l).length = l := by
    apply rise_ext _ _ (setOf_rises _ _) hp
    intro n
    rw [setOf_mem _ _ (by omega)]
    constructor
    · rintro ⟨a, b, c⟩
      exact (hin n a b).1 c
    · intro hn
      have hmn := mayB_iff.1 (hm n hn)
      have hle : n ≤ 8 * ((mapOf l).length : Int) := by
        rw [h1]
        unfold sizeOfMap
        split
        · omega
        · rename_i hb
          have : ¬ 64 < n := fun h64 => hb (List.any_eq_true.2 ⟨n, hn, decide_eq_true h64⟩)
          omega
      exact ⟨hmn.1, hle, (hin n hmn.1 hle).2 hn⟩
  have hbad : mapBad (mapOf l ++ more) = false := by
    unfold mapBad
    rw [hb0]
    cases hb : bigB l with
    | false => rfl
    | true =>
      have h16 : (mapOf l).length = 16 := by rw [h1]; unfold sizeOfMap; rw [if_pos hb]
      rw [h16] at hset
      rw [hset, Bool.true_and, Bool.or_eq_false_iff]
      constructor
      · rw [bitAt_append_left _ _ _ (by omega), h2]
        unfold inMap
        rw [decide_eq_false (by omega : ¬ 64 = 0), Bool.false_and, Bool.or_false, Bool.eq_false_iff]
        intro hc
        have := mayB_iff.1 (hm _ (List.contains_iff_mem.1 hc))
        omega
      · rw [Bool.not_eq_false', List.any_eq_true]
        obtain ⟨n, hn, h64⟩ := List.any_eq_true.1 hb
        have h64' := of_decide_eq_true h64
        have hmn := mayB_iff.1 (hm n hn)
        exact ⟨n, hn, decide_eq_true (by omega)⟩
  have hE : parE (mapOf l ++ more) = 0 := by
    unfold parE
    rw [if_neg (by simp; omega), hN, if_neg (by simp), hbad]
    rfl
  refine ⟨hE, ?_, ?_⟩
  · unfold parN; rw [if_pos hE, hN]
  · unfold parL; rw [if_pos hE, hN, hset]

/-- what is parsed may be written, and is the bytes that it took -/
theorem map_par (b : List UInt8) (h : parE b = 0) : risesB (parL b) = true ∧ mapOf (parL b) = b.take (parN b) ∧ parN b ≤ b.length := by
  have hE := h
  unfold parE at h
  split at h
  · cases h
  rename_i h8
  split at h
  · cases h
  rename_i hlen
  split at h
  · cases h
  rename_i hbad
  have hL : parL b = setOf b (mapN b) := by unfold parL; rw [if_pos hE]
  have hN : parN b = mapN b := by unfold parN; rw [if_pos hE]
  have hN8 : mapN b = 8 ∨ mapN b = 16 := by unfold mapN; split <;> simp
  rw [hL, hN]
  have hmem := setOf_mem b (mapN b) (by omega)
  have hmay : ∀ n ∈ setOf b (mapN b), mayB n = true := fun n hn => by
    obtain ⟨a1, a2, a3⟩ := (hmem n).1 hn
    rw [mayB_iff]
    refine ⟨a1, by omega, ?_⟩
    rintro rfl
    have h0 : bitAt b 0 = true := by
      unfold mapN at a2
      split at a2
      · assumption
      · omega
    have a4 : bitAt b 64 = true := a3
    apply hbad
    unfold mapBad
    rw [h0, a4]
    rfl
  have hr : risesB (setOf b (mapN b)) = true := (risesB_iff _).2 ⟨setOf_rises _ _, hmay⟩
  obtain ⟨s1, s2⟩ := mapOf_spec _ hmay
  have hbig : bigB (setOf b (mapN b)) = bitAt b 0 := by
    cases h0 : bitAt b 0 with
    | false =>
      rw [Bool.eq_false_iff]
      intro hc
      obtain ⟨n, hn, h64⟩ := List.any_eq_true.1 hc
      have h64' := of_decide_eq_true h64
      obtain ⟨_, a2, _⟩ := (hmem n).1 hn
      unfold mapN at a2
      rw [h0] at a2
      simp at a2
      omega
    | true =>
      have h16 : mapN b = 16 := by unfold mapN; rw [if_pos h0]
      unfold mapBad at hbad
      rw [h0, Bool.true_and, Bool.or_eq_true, not_or] at hbad
      obtain ⟨_, hb2⟩ := hbad
      rw [h16]
      have : ((setOf b 16).any fun n => decide (66 ≤ n)) = true := by simpa using hb2
      obtain ⟨n, hn, h66⟩ := List.any_eq_true.1 this
      have h66' := of_decide_eq_true h66
      exact List.any_eq_true.2 ⟨n, hn, decide_eq_true (by omega)⟩
  have hsz : (mapOf (setOf b (mapN b))).length = mapN b := by
    rw [s1]
    unfold sizeOfMap
    rw [hbig]
    rfl
  refine ⟨hr, ?_, by omega⟩
  apply bits_ext (by rw [hsz, List.length_take]; omega)
  intro i hi
  rw [hsz] at hi
  rw [s2, bitAt_take _ _ _ hi]
  unfold inMap
  rw [hbig]
  by_cases h0 : i = 0
  · subst h0
    have : (setOf b (mapN b)).contains (((0 : Nat) : Int) + 1) = false := by
      rw [Bool.eq_false_iff]
      intro hc
      have := (hmem _).1 (List.contains_iff_mem.1 hc)
      omega
    rw [this]
    simp
  · rw [decide_eq_false h0, Bool.false_and, Bool.or_false, Bool.eq_iff_iff, List.contains_iff_mem, hmem]
    rw [show ((i : Int) + 1).toNat - 1 = i from by omega]
    constructor
    · rintro ⟨_, _, c⟩
      exact c
    · intro c
      exact ⟨by omega, by omega, c⟩
end Go.Proofs.YthlgnmgjfgbffaaGreatDoor
/- What Write of maps answers, and lists that rise, number by number: plain functions on lists, no program. -/
namespace Go.Proofs.YthlgnmgjfgbffaaGreatDoor
set_option linter.unusedVariables false

/-- what Write answers -/
def wmE (l : List Int) : Int := if risesB l then 0 else 1
def wmR (l : List Int) : List UInt8 := if risesB l then mapOf l else []

theorem rises_take {l : List Int} (h : risesB l = true) (k : Nat) : risesB (l.take k) = true := by
  obtain ⟨h1, h2⟩ := (risesB_iff l).1 h
  exact (risesB_iff _).2 ⟨h1.sublist (List.take_sublist k l), fun n hn => h2 n (List.mem_of_mem_take hn)⟩
theorem rises_snoc {l : List Int} {k : Nat} (hk : k < l.length) (h : risesB (l.take k) = true) :
    risesB (l.take (k + 1)) = (mayB l[k] && (decide (k = 0) || decide (l.getD (k - 1) 0 < l[k]))) := by
  obtain ⟨h1, h2⟩ := (risesB_iff _).1 h
  rw [Bool.eq_iff_iff, risesB_iff, List.take_succ_eq_append_getElem hk, List.pairwise_append]
  simp only [Bool.and_eq_true, Bool.or_eq_true, decide_eq_true_eq, List.mem_append, List.mem_singleton]
  constructor
  · rintro ⟨⟨_, _, h3⟩, h4⟩
    refine ⟨h4 _ (.inr rfl), ?_⟩
    by_cases h0 : k = 0
    · exact .inl h0
    · refine .inr (h3 _ ?_ _ rfl)
      rw [List.getD, List.getElem?_eq_getElem (by omega), Option.getD_some]
      exact List.mem_take_iff_getElem.2 ⟨k - 1, by omega, rfl⟩
  · rintro ⟨h3, h4⟩
    refine ⟨⟨h1, by simp, ?_⟩, ?_⟩
    · rintro a ha b rfl
      rcases h4 with rfl | h4
      · simp at ha
      · obtain ⟨i, hi, rfl⟩ := List.mem_take_iff_getElem.1 ha
        rw [List.getD, List.getElem?_eq_getElem (by omega), Option.getD_some] at h4
        by_cases hik : i = k - 1
        · subst hik; exact h4
        · have hp := List.pairwise_iff_getElem.1 h1 i (k - 1) (by rw [List.length_take]; omega) (by rw [List.length_take]; omega) (by omega)
          rw [List.getElem_take, List.getElem_take] at hp
          omega
    · rintro n (hn | rfl)
      · exact h2 n hn
      · exact h3
theorem mapOf_len {l : List Int} (h : risesB l = true) : (mapOf l).length = 8 ∨ (mapOf l).length = 16 := by
  rw [(mapOf_spec l ((risesB_iff l).1 h).2).1]
  unfold sizeOfMap
  split <;> simp

/-- the number ahead of the k-th, 1 ahead of the first -/
def ahd (l : List Int) (k : Nat) : Int := if k = 0 then 1 else l.getD (k - 1) 0
theorem ahd_succ (l : List Int) (k : Nat) (hk : k < l.length) : ahd l (k + 1) = l[k] := by
  unfold ahd
  rw [if_neg (by omega), Nat.add_sub_cancel, List.getD, List.getElem?_eq_getElem hk]
  rfl
theorem ahd_pos {l : List Int} {k : Nat} (hk : k ≤ l.length) (h : risesB (l.take k) = true) : 1 ≤ ahd l k := by
  unfold ahd
  split
  · omega
  · rename_i h0
    have h2 := ((risesB_iff _).1 h).2
    have hm : l.getD (k - 1) 0 ∈ l.take k := by
      rw [List.getD, List.getElem?_eq_getElem (by omega), Option.getD_some]
      exact List.mem_take_iff_getElem.2 ⟨k - 1, by omega, rfl⟩
    have := mayB_iff.1 (h2 _ hm)
    omega
theorem rises_next {l : List Int} {k : Nat} (hk : k < l.length) (h : risesB (l.take k) = true) : risesB (l.take (k + 1)) = (decide (ahd l k < l[k]) && (decide (l[k] ≠ 65) && decide (l[k] ≤ 128))) := by
  rw [rises_snoc hk h, Bool.eq_iff_iff]
  have hp := ahd_pos (by omega : k ≤ l.length) h
  simp only [Bool.and_eq_true, Bool.or_eq_true, decide_eq_true_eq, mayB_iff]
  unfold ahd at hp ⊢
  by_cases h0 : k = 0
  · rw [if_pos h0]
    omega
  · rw [if_neg h0] at hp ⊢
    omega
end Go.Proofs.YthlgnmgjfgbffaaGreatDoor
/- Small words on what a call hands back: no program. -/
namespace Go.Proofs.YthlgnmgjfgbffaaGreatDoor
theorem ret_bool {a b : Bool} (h : a = b) : Ending.returned (.bool a) = .returned (.bool b) := by rw [h]
theorem ret_u8 {a : Int} {b : UInt8} (h : a = (b.toNat : Int)) : Ending.returned (.int .u8 a) = .returned (.int .u8 (b.toNat : Int)) := by rw [h]
/-- a row of one's own, said of an elder world -/
theorem own_low {w : World} {base base' : Nat} {e : TypeId} {size : Nat} {v : Value} {n : Nat} {xs : List Value} (h : w.ownsRow base e size v n xs) (hb : base' ≤ base) : w.ownsRow base' e size v n xs := by
  refine ⟨h.1, ?_⟩
  rcases h.2 with h2 | ⟨g, cap, cur, e1, hg, r⟩
  · exact .inl h2
  · exact .inr ⟨g, cap, cur, e1, Nat.le_trans hb hg, r⟩
end Go.Proofs.YthlgnmgjfgbffaaGreatDoor
/- Tests of bytes that are handed in as functions: no package's own. -/
namespace Go.Proofs.YthlgnmgjfgbffaaGreatDoor
open Go.RowKit
set_option linter.unusedVariables false

theorem at_data (s : ByteArray) (k : Nat) (h : k < s.size) : s[k] = s.data.toList[k]'(by simpa using h) := rfl
theorem take_snoc (s : ByteArray) (k : Nat) (h : k < s.size) : s.data.toList.take (k + 1) = s.data.toList.take k ++ [s[k]] := by
  rw [List.take_succ_eq_append_getElem (by simpa using h)]; rfl

/-- each stands the test -/
def allB (l : List UInt8) (t : UInt8 → Bool) : Bool := l.all t
/-- what a test of signs answers -/
structure Tests (f : FuncId) (t : UInt8 → Bool) : Prop where
  enters : ∀ args w, (callFunc f args).run Tryz.prog w = .ok (.enter f args) w
  tells : ∀ (c : UInt8) (w : World), Calls Tryz.prog f #[.int .u8 (c.toNat : Int)] w fun e w' => e = .returned (.bool (t c)) ∧ w = w'
end Go.Proofs.YthlgnmgjfgbffaaGreatDoor
/- Small facts on strings as lists of bytes. No program. -/
namespace Go.Proofs.YthlgnmgjfgbffaaGreatDoor
set_option linter.unusedVariables false

theorem s_list (S : ByteArray) : S.toList = S.data.toList := bstr_toList S.data.toList
theorem s_size (S : ByteArray) : S.data.toList.length = S.size := by simp
theorem s_ext (S : ByteArray) (i j : Nat) : (S.extract i j).data.toList = (S.data.toList.drop i).take (j - i) := by
  rw [ByteArray.data_extract, Array.toList_extract, List.extract_eq_take_drop]
theorem s_app (S T : ByteArray) : (S ++ T).data.toList = S.data.toList ++ T.data.toList := by
  rw [ByteArray.data_append, Array.toList_append]
theorem s_eq {S T : ByteArray} (h : S.data.toList = T.data.toList) : S = T := by
  cases S; cases T; congr 1; exact Array.ext' h
theorem s_beq (S T : ByteArray) : (S.toList == T.toList) = (S.data.toList == T.data.toList) := by rw [s_list, s_list]
/-- uint(x) % n as a number -/
theorem umod (x : Int) (n : Nat) (hn : 0 < n) (h64 : n < 18446744073709551616) : ∃ m : Nat, m < n ∧ (IntKind.u64.wrap x).tmod (n : Int) = (m : Int) := by
  have hu : 0 ≤ IntKind.u64.wrap x := by
    show 0 ≤ x % 18446744073709551616
    omega
  rw [Int.tmod_eq_emod_of_nonneg hu]
  generalize IntKind.u64.wrap x = U at hu
  have h2 := Int.emod_nonneg U (b := (n : Int)) (by omega)
  have h3 := Int.emod_lt_of_pos U (b := (n : Int)) (by omega)
  exact ⟨(U % (n : Int)).toNat, by omega, by omega⟩
end Go.Proofs.YthlgnmgjfgbffaaGreatDoor
/- What package text does with bytes alone: contracts of its calls that read no table. -/
namespace Go.Proofs.YthlgnmgjfgbffaaGreatDoor
open Go.RowKit
set_option maxHeartbeats 400000
set_option linter.unusedVariables false
set_option maxRecDepth 20000

theorem t_above_any (c : UInt8) (w : World) : Calls Tryz.prog 143 #[.int .u8 (c.toNat : Int)] w fun e w' => e = .returned (.bool (decide (32 ≤ c.toNat))) ∧ w = w' := by
  go_enter Tryz.func143, Tryz.ntmps143
  go_wp2
  all_goals
    go_ret
    refine ⟨ret_bool ?_, rfl⟩
    rw [Bool.eq_iff_iff]
    simp
    try omega
theorem t_printed_any (c : UInt8) (w : World) : Calls Tryz.prog 202 #[.int .u8 (c.toNat : Int)] w fun e w' => e = .returned (.bool (ansC c)) ∧ w = w' := by
  go_enter Tryz.func202, Tryz.ntmps202
  go_wp2_with (go_at_call 143; refine (t_above_any _ _).mono ?_; rintro e w' ⟨rfl, rfl⟩)
  all_goals
    go_ret
    refine ⟨ret_bool ?_, rfl⟩
    unfold ansC
    rw [Bool.eq_iff_iff]
    simp_all
    try omega
def isDig (b : UInt8) : Bool := decide (48 ≤ b.toNat ∧ b.toNat ≤ 57)
def isLet (b : UInt8) : Bool := decide ((65 ≤ b.toNat ∧ b.toNat ≤ 90) ∨ (97 ≤ b.toNat ∧ b.toNat ≤ 122))
theorem t_digit_any (c : UInt8) (w : World) : Calls Tryz.prog 264 #[.int .u8 (c.toNat : Int)] w fun e w' => e = .returned (.bool (isDig c)) ∧ w = w' := by
  go_enter Tryz.func264, Tryz.ntmps264
  go_wp2
  all_goals
    go_ret
    refine ⟨ret_bool ?_, rfl⟩
    unfold isDig
    rw [Bool.eq_iff_iff]
    simp
    omega
theorem t_letter_any (c : UInt8) (w : World) : Calls Tryz.prog 265 #[.int .u8 (c.toNat : Int)] w fun e w' => e = .returned (.bool (isLet c)) ∧ w = w' := by
  go_enter Tryz.func265, Tryz.ntmps265
  go_wp2
  all_goals
    go_ret
    refine ⟨ret_bool ?_, rfl⟩
    unfold isLet
    rw [Bool.eq_iff_iff]
    simp
    omega
theorem t_alnum_any (c : UInt8) (w : World) : Calls Tryz.prog 262 #[.int .u8 (c.toNat : Int)] w fun e w' => e = .returned (.bool (alnC c)) ∧ w = w' := by
  go_enter Tryz.func262, Tryz.ntmps262
  go_wp2_with (first
    | (go_at_call 264; refine (t_digit_any _ _).mono ?_; rintro e w' ⟨rfl, rfl⟩)
    | (go_at_call 265; refine (t_letter_any _ _).mono ?_; rintro e w' ⟨rfl, rfl⟩))
  all_goals
    go_ret
    refine ⟨ret_bool ?_, rfl⟩
    rw [Bool.eq_iff_iff]
    simp_all [alnC, isDig, isLet]
    try omega
theorem t_within_any (n low top : Int) (w : World) : Calls Tryz.prog 140 #[.int .i64 n, .int .i64 low, .int .i64 top] w fun e w' => e = .returned (.bool (decide (low ≤ n) && decide (n ≤ top))) ∧ w = w' := by
  go_enter Tryz.func140, Tryz.ntmps140
  go_wp2
  all_goals
    go_ret
    refine ⟨ret_bool ?_, rfl⟩
    rw [Bool.eq_iff_iff]
    simp
    try omega

theorem t_every_any (f : FuncId) (t : UInt8 → Bool) (ht : Tests f t) (s : ByteArray) (w : World) (hs : s.size ≤ maxLen) :
    Calls Tryz.prog 142 #[.string s, .func (.func f) #[] #[]] w fun e w' => e = .returned (.bool (allB s.data.toList t)) ∧ w = w' := by
  unfold maxLen at hs
  go_enter Tryz.func142, Tryz.ntmps142
  go_wp2
  go_loop [8] (fun i => ∃ k : Nat, k ≤ s.size ∧ i = .int .i64 (k : Int) ∧ (s.data.toList.take k).all t = true) (fun i => s.size - (intOf i).toNat)
  case atStart => exact ⟨0, Nat.zero_le _, rfl, by simp⟩
  case round =>
    obtain ⟨k, hk, rfl, hall⟩ := hrel
    have HA := Lib.hid hall
    clear hall
    have h63 : (k : Int) + 1 ≤ 9223372036854775807 ∨ k = s.size := by omega
    by_cases hlt : k < s.size
    · have hts := take_snoc s k hlt
      have HT := Lib.hid hts
      clear hts
      have htc : ∀ w : World, Calls Tryz.prog f #[.int .u8 (s[k].toNat : Int)] w fun e w' => e = .returned (.bool (t s[k])) ∧ w = w' := fun w => ht.tells s[k] w
      have hen := ht.enters
      have HC := Lib.hid htc
      clear htc
      cases hb : t s[k] with
      | true =>
        have HB := Lib.hid hb
        clear hb
        go_wp2_with (refine (HC.out _).mono ?_; rw [HB.out]; rintro e w' ⟨rfl, rfl⟩)
        go_round
        case rel => exact ⟨k + 1, by omega, by go_num, by rw [HT.out, List.all_append, HA.out]; simp [HB.out]⟩
        case measure => simp [intOf]; omega
      | false =>
        have HB := Lib.hid hb
        clear hb
        go_wp2_with (refine (HC.out _).mono ?_; rw [HB.out]; rintro e w' ⟨rfl, rfl⟩)
        go_ret
        refine ⟨ret_bool ?_, rfl⟩
        symm
        unfold allB
        rw [← Bool.not_eq_true, List.all_eq_true]
        intro hx
        have := hx s[k] (by rw [at_data s k hlt]; exact List.getElem_mem _)
        rw [HB.out] at this
        cases this
    · obtain rfl : k = s.size := by omega
      go_wp2
      go_ret
      refine ⟨ret_bool ?_, rfl⟩
      have := HA.out
      rw [List.take_of_length_le (by simp)] at this
      exact this.symm


theorem tests_above : Tests 143 (fun c => decide (32 ≤ c.toNat)) := ⟨fun _ _ => by kernel_rfl, fun c w => t_above_any c w⟩
theorem tests_printed : Tests 202 ansC := ⟨fun _ _ => by kernel_rfl, fun c w => t_printed_any c w⟩
theorem tests_alnum : Tests 262 alnC := ⟨fun _ _ => by kernel_rfl, fun c w => t_alnum_any c w⟩

theorem text_ans_any (s : ByteArray) (top : Int) (w : World) (hs : s.size ≤ 140737488355328) :
    Calls Tryz.prog 156 #[.string s, .int .i64 top] w fun e w' => e = .returned (.bool (ansB s.data.toList top)) ∧ Fr No w w' := by
  have e : ansB s.data.toList top = ((decide (1 ≤ (s.size : Int)) && decide ((s.size : Int) ≤ top)) && allB s.data.toList ansC) := by
    unfold ansB allB
    rw [show s.data.toList.length = s.size by simp, Bool.and_comm]
  have hm : s.size ≤ maxLen := by unfold maxLen; omega
  have h63 : (s.size : Int) ≤ 9223372036854775807 := by omega
  rw [e]
  generalize hq : allB s.data.toList ansC = q
  have HQ := Lib.hid hq; have HM := Lib.hid hm
  clear hq e hs hm
  go_enter Tryz.func156, Tryz.ntmps156
  go_wp2_with (first
    | (go_at_call 140; refine (t_within_any _ _ _ _).mono ?_; rintro e w' ⟨rfl, rfl⟩)
    | (go_at_call 142; refine (t_every_any _ _ tests_printed s _ HM.out).mono ?_; rw [HQ.out]; rintro e w' ⟨rfl, rfl⟩))
  all_goals
    go_ret
    refine ⟨ret_bool ?_, Fr.refl _ _⟩
    first
      | (simp_all; done)
      | (rw [show (q : Bool) = q from rfl]; simp_all; intros; omega)
theorem text_aln_any (s : ByteArray) (low top : Int) (w : World) (hs : s.size ≤ 140737488355328) :
    Calls Tryz.prog 258 #[.string s, .int .i64 low, .int .i64 top] w fun e w' => e = .returned (.bool (alnB s.data.toList low top)) ∧ Fr No w w' := by
  have e : alnB s.data.toList low top = ((decide (low ≤ (s.size : Int)) && decide ((s.size : Int) ≤ top)) && allB s.data.toList alnC) := by
    unfold alnB allB
    rw [show s.data.toList.length = s.size by simp, Bool.and_comm]
  have hm : s.size ≤ maxLen := by unfold maxLen; omega
  have h63 : (s.size : Int) ≤ 9223372036854775807 := by omega
  rw [e]
  generalize hq : allB s.data.toList alnC = q
  have HQ := Lib.hid hq; have HM := Lib.hid hm
  clear hq e hs hm
  go_enter Tryz.func258, Tryz.ntmps258
  go_wp2_with (first
    | (go_at_call 140; refine (t_within_any _ _ _ _).mono ?_; rintro e w' ⟨rfl, rfl⟩)
    | (go_at_call 142; refine (t_every_any _ _ tests_alnum s _ HM.out).mono ?_; rw [HQ.out]; rintro e w' ⟨rfl, rfl⟩))
  all_goals
    go_ret
    refine ⟨ret_bool ?_, Fr.refl _ _⟩
    first
      | (simp_all; done)
      | (rw [show (q : Bool) = q from rfl]; simp_all; intros; omega)
end Go.Proofs.YthlgnmgjfgbffaaGreatDoor
/- The statements' own answers about texts: characters, how many, and of which kinds. -/
namespace Go.Proofs.YthlgnmgjfgbffaaGreatDoor
open Go.RowKit
set_option maxHeartbeats 400000
set_option linter.unusedVariables false

theorem drop_at (s : ByteArray) (i : Nat) (h : i < s.size) : s.data.toList.drop i = s[i] :: s.data.toList.drop (i + 1) := by
  rw [List.drop_eq_getElem_cons (by simpa using h)]
  rfl

/-- no character: the size is nought -/
theorem size_none {x : UInt8} {r : List UInt8} (h : lead x.toNat = none) : sizeB (x :: r) = 0 := by rw [sizeB_cons, h]; rfl

end Go.Proofs.YthlgnmgjfgbffaaGreatDoor
/- The statements' own reading of one character in a text: what it answers. -/
namespace Go.Proofs.YthlgnmgjfgbffaaGreatDoor
open Go.RowKit
set_option maxHeartbeats 400000
set_option linter.unusedVariables false

theorem and_i64 (x m : Nat) (hx : x < 9223372036854775808) (hm : m < 9223372036854775808) : bits BinOp.and IntKind.i64 (x : Int) (m : Int) = ((x &&& m : Nat) : Int) :=
  (bits_nat .i64 63 (by decide) (fun n h0 h1 => IntWalk.i64_in _ ⟨by omega, by omega⟩) _ _ (by simpa using hx) (by simpa using hm)).1
theorem or_i64 (x m : Nat) (hx : x < 9223372036854775808) (hm : m < 9223372036854775808) : bits BinOp.or IntKind.i64 (x : Int) (m : Int) = ((x ||| m : Nat) : Int) :=
  (bits_nat .i64 63 (by decide) (fun n h0 h1 => IntWalk.i64_in _ ⟨by omega, by omega⟩) _ _ (by simpa using hx) (by simpa using hm)).2
theorem and31 (x : Nat) (hx : x < 256) : bits BinOp.and IntKind.i64 (x : Int) 31 = ((x % 32 : Nat) : Int) := by
  have h := and_i64 x 31 (by omega) (by omega)
  rw [show x &&& 31 = x % 32 from Nat.and_two_pow_sub_one_eq_mod x 5] at h
  exact h
theorem and15 (x : Nat) (hx : x < 256) : bits BinOp.and IntKind.i64 (x : Int) 15 = ((x % 16 : Nat) : Int) := by
  have h := and_i64 x 15 (by omega) (by omega)
  rw [show x &&& 15 = x % 16 from Nat.and_two_pow_sub_one_eq_mod x 4] at h
  exact h
theorem and7 (x : Nat) (hx : x < 256) : bits BinOp.and IntKind.i64 (x : Int) 7 = ((x % 8 : Nat) : Int) := by
  have h := and_i64 x 7 (by omega) (by omega)
  rw [show x &&& 7 = x % 8 from Nat.and_two_pow_sub_one_eq_mod x 3] at h
  exact h
theorem and63 (b : UInt8) : bits BinOp.and IntKind.u8 (b.toNat : Int) 63 = ((b.toNat % 64 : Nat) : Int) := by
  have h := and_u8 b 63
  rw [UInt8.toNat_and, show (63 : UInt8).toNat = 63 from rfl, show b.toNat &&& 63 = b.toNat % 64 from Nat.and_two_pow_sub_one_eq_mod b.toNat 6] at h
  exact h
theorem cont_bits (b : UInt8) : (bits BinOp.and IntKind.u8 (b.toNat : Int) 192 != 128) = !contB b := by
  have h := and_u8 b 192
  have hk : ∀ y : Fin 256, ((y.val &&& 192) != 128) = !decide (128 ≤ y.val ∧ y.val < 192) := by decide +kernel
  have h2 := hk ⟨b.toNat, b.toNat_lt⟩
  have h192 : ((192 : UInt8).toNat : Int) = 192 := rfl
  rw [h192] at h
  rw [h, UInt8.toNat_and]
  unfold contB
  rw [← h2]
  rw [Bool.eq_iff_iff]
  simp
  omega
theorem or_tail (c y : Nat) (hc : c < 16777216) (hy : y < 64) : bits BinOp.or IntKind.i64 ((c : Int) * 64) (y : Int) = ((c * 64 + y : Nat) : Int) := by
  have e : ((c : Int) * 64) = ((c * 64 : Nat) : Int) := by omega
  rw [e, or_i64 _ _ (by omega) (by omega)]
  congr 1
  have := Nat.two_pow_add_eq_or_of_lt (i := 6) (b := y) (by omega) c
  rw [show c * 64 = 2 ^ 6 * c from by omega, this]
theorem pow64 (k : Nat) (hk : k ≤ 4) : 64 ^ k ≤ 16777216 := by
  have := Nat.pow_le_pow_right (n := 64) (by decide) hk
  have e : (64 : Nat) ^ 4 = 16777216 := by decide
  omega

end Go.Proofs.YthlgnmgjfgbffaaGreatDoor
/- The statements' own answers about texts: how many characters, and of which kinds. -/
namespace Go.Proofs.YthlgnmgjfgbffaaGreatDoor
open Go.RowKit
set_option maxHeartbeats 1000000
set_option linter.unusedVariables false

/-- how many characters, or -1 -/
def cntZ (l : List UInt8) : Int := match cnt l with
  | none => -1
  | some n => n
theorem cntZ_utf8 (l : List UInt8) : decide (0 ≤ cntZ l) = utf8B l := by
  unfold cntZ utf8B
  cases cnt l <;> simp
theorem cntZ_runes (l : List UInt8) : max 0 (cntZ l) = (runesN l : Int) := by
  unfold cntZ runesN
  cases cnt l with
  | none => rfl
  | some n => simp
theorem cntZ_bound (l : List UInt8) : -1 ≤ cntZ l ∧ cntZ l ≤ l.length := by
  unfold cntZ
  cases h : cnt l with
  | none => simp
  | some n => have := cnt_le _ l (Nat.le_refl _) n h; simp; omega

theorem plain_eq {l : List UInt8} {low top : Int} (h : lowest l = true) : plainB l low top = (decide (0 ≤ cntZ l) && (decide (low ≤ cntZ l) && (decide (cntZ l ≤ top) && (decide (l = []) || (decide (l.getD 0 0 ≠ 32) && decide (l.getD (l.length - 1) 0 ≠ 32)))))) := by
  unfold plainB
  rw [h, Bool.true_and, ← cntZ_utf8 l]
  by_cases hz : 0 ≤ cntZ l
  · have e := cntZ_runes l
    rw [← e, show max 0 (cntZ l) = cntZ l from by omega]
  · rw [decide_eq_false hz, Bool.false_and, Bool.false_and]
theorem ne32 (x : UInt8) : decide (x ≠ 32) = ((x.toNat : Int) != 32) := by
  rw [Bool.eq_iff_iff, decide_eq_true_iff, bne_iff_ne]
  constructor
  · intro h e
    apply h
    apply UInt8.toNat_inj.1
    show x.toNat = 32
    omega
  · rintro h rfl
    exact h rfl
theorem lowest_take (l : List UInt8) (k : Nat) (h : k < l.length) : lowest (l.take (k + 1)) = (lowest (l.take k) && decide (32 ≤ l[k].toNat)) := by
  unfold lowest
  rw [List.take_succ_eq_append_getElem h, List.all_append]
  simp

end Go.Proofs.YthlgnmgjfgbffaaGreatDoor
/- The statements' own answers about texts: signs of one byte, and letters and digits. -/
namespace Go.Proofs.YthlgnmgjfgbffaaGreatDoor
open Go.RowKit
set_option maxHeartbeats 1000000
set_option linter.unusedVariables false
set_option maxRecDepth 20000

theorem rt_take (l : List UInt8) (p : UInt8 → Bool) (k : Nat) (h : k < l.length) : (l.take (k + 1)).all p = ((l.take k).all p && p l[k]) := by
  rw [List.take_succ_eq_append_getElem h, List.all_append]
  simp
theorem all_drop (l : List UInt8) (p : UInt8 → Bool) (k : Nat) (h : (l.take k).all p = false) : l.all p = false := by
  rw [Bool.eq_false_iff] at h ⊢
  intro h2
  apply h
  rw [List.all_eq_true] at h2 ⊢
  exact fun y hy => h2 y (List.mem_of_mem_take hy)

set_option maxRecDepth 100000 in
theorem ref_ans_any (s : ByteArray) (top : Int) (w : World) (hs : s.size ≤ 140737488355328) :
    Calls Tryz.prog 120 #[.string s, .int .i64 top] w fun e w' => e = .returned (.bool (ansB s.data.toList top)) ∧ w = w' := by
  have hl : s.data.toList.length = s.size := by simp
  have HL := Lib.hid hl
  clear hl
  go_enter Tryz.func120, Tryz.ntmps120
  go_wp2
  go_loop [5] (fun iv => ∃ i : Nat, i ≤ s.size ∧ iv = .int .i64 (i : Int) ∧ (s.data.toList.take i).all ansC = true) (fun iv => s.size - (intOf iv).toNat)
  case atStart => exact ⟨0, Nat.zero_le _, rfl, rfl⟩
  case round =>
    obtain ⟨i, hi, rfl, hlo⟩ := hrel
    rcases Nat.lt_or_ge i s.size with hlt | hge
    · have hlk : i < s.data.toList.length := by rw [HL.out]; exact hlt
      have hst := rt_take s.data.toList ansC i hlk
      rw [hlo, Bool.true_and] at hst
      have hdn := all_drop s.data.toList ansC (i + 1)
      obtain ⟨x, hx⟩ : ∃ x, s[i] = x := ⟨_, rfl⟩
      rw [show s.data.toList[i] = s[i] from rfl, hx] at hst
      have hcs : (x.toNat < 32 ∧ 1 = 1) ∨ (32 ≤ x.toNat ∧ x.toNat ≤ 126) ∨ (126 < x.toNat ∧ 1 = 1) := by omega
      rcases hcs with ⟨h1, h2⟩ | ⟨h1, h2⟩ | ⟨h1, h2⟩
      · have hp : ansC x = false := by unfold ansC; simp; omega
        have hI : (x.toNat : Int) < 32 := by omega
        rw [hp] at hst
        have hno : ansB s.data.toList top = false := by
          have : s.data.toList.all ansC = false := hdn hst
          unfold ansB
          rw [this]
          rfl
        have HNO := Lib.hid hno
        clear hst hlo hp h1 h2 hdn hno
        go_wp2
        go_ret
        exact ⟨ret_bool HNO.out.symm, rfl⟩
      · have hp : ansC x = true := by unfold ansC; simp; omega
        have hI : ¬ (x.toNat : Int) < 32 := by omega
        have hI2 : ¬ 126 < (x.toNat : Int) := by omega
        rw [hp] at hst
        have HST := Lib.hid hst
        clear hst hlo hp h1 h2 hdn
        go_wp2
        go_round
        case rel => exact ⟨i + 1, by omega, by go_num, HST.out⟩
        case measure => simp [intOf]; omega
      · have hp : ansC x = false := by unfold ansC; simp; omega
        have hI : ¬ (x.toNat : Int) < 32 := by omega
        have hI2 : 126 < (x.toNat : Int) := by omega
        rw [hp] at hst
        have hno : ansB s.data.toList top = false := by
          have : s.data.toList.all ansC = false := hdn hst
          unfold ansB
          rw [this]
          rfl
        have HNO := Lib.hid hno
        clear hst hlo hp h1 h2 hdn hno
        go_wp2
        go_ret
        exact ⟨ret_bool HNO.out.symm, rfl⟩
    · obtain rfl : i = s.size := by omega
      rw [List.take_of_length_le (by rw [HL.out]; exact Nat.le_refl _)] at hlo
      have hpe : ansB s.data.toList top = (decide (1 ≤ (s.size : Int)) && decide ((s.size : Int) ≤ top)) := by
        unfold ansB
        have hlo' : s.data.toList.all ansC = true := hlo
        rw [hlo', HL.out]
        rfl
      have HPE := Lib.hid hpe
      clear hlo hpe
      go_wp2
      all_goals
        go_ret
        refine ⟨ret_bool ?_, rfl⟩
        rw [HPE.out]
        first | rfl | (simp; omega) | (rw [Bool.eq_iff_iff]; simp; omega)

set_option maxRecDepth 100000 in
theorem ref_aln_any (s : ByteArray) (low top : Int) (w : World) (hs : s.size ≤ 140737488355328) :
    Calls Tryz.prog 119 #[.string s, .int .i64 low, .int .i64 top] w fun e w' => e = .returned (.bool (alnB s.data.toList low top)) ∧ w = w' := by
  have hl : s.data.toList.length = s.size := by simp
  have HL := Lib.hid hl
  clear hl
  go_enter Tryz.func119, Tryz.ntmps119
  go_wp2
  go_loop [7] (fun iv => ∃ i : Nat, i ≤ s.size ∧ iv = .int .i64 (i : Int) ∧ (s.data.toList.take i).all alnC = true) (fun iv => s.size - (intOf iv).toNat)
  case atStart => exact ⟨0, Nat.zero_le _, rfl, rfl⟩
  case round =>
    obtain ⟨i, hi, rfl, hlo⟩ := hrel
    rcases Nat.lt_or_ge i s.size with hlt | hge
    · have hlk : i < s.data.toList.length := by rw [HL.out]; exact hlt
      have hst := rt_take s.data.toList alnC i hlk
      rw [hlo, Bool.true_and] at hst
      have hdn := all_drop s.data.toList alnC (i + 1)
      obtain ⟨x, hx⟩ : ∃ x, s[i] = x := ⟨_, rfl⟩
      rw [show s.data.toList[i] = s[i] from rfl, hx] at hst
      have hcs : (x.toNat < 48 ∧ 1 = 1) ∨ (48 ≤ x.toNat ∧ x.toNat ≤ 57) ∨ (57 < x.toNat ∧ x.toNat < 65) ∨ (65 ≤ x.toNat ∧ x.toNat ≤ 90) ∨ (90 < x.toNat ∧ x.toNat < 97) ∨ (97 ≤ x.toNat ∧ x.toNat ≤ 122) ∨ (122 < x.toNat ∧ 1 = 1) := by omega
      rcases hcs with ⟨h1, h2⟩ | ⟨h1, h2⟩ | ⟨h1, h2⟩ | ⟨h1, h2⟩ | ⟨h1, h2⟩ | ⟨h1, h2⟩ | ⟨h1, h2⟩
      · have hp : alnC x = false := by unfold alnC; simp; omega
        have hI : (x.toNat : Int) < 48 := by omega
        rw [hp] at hst
        have hno : alnB s.data.toList low top = false := by
          have : s.data.toList.all alnC = false := hdn hst
          unfold alnB
          rw [this]
          rfl
        have HNO := Lib.hid hno
        clear hst hlo hp h1 h2 hdn hno
        go_wp2
        go_ret
        exact ⟨ret_bool HNO.out.symm, rfl⟩
      · have hp : alnC x = true := by unfold alnC; simp; omega
        have hI : 48 ≤ (x.toNat : Int) := by omega
        have hI2 : (x.toNat : Int) ≤ 57 := by omega
        rw [hp] at hst
        have HST := Lib.hid hst
        clear hst hlo hp h1 h2 hdn
        go_wp2
        go_round
        case rel => exact ⟨i + 1, by omega, by go_num, HST.out⟩
        case measure => simp [intOf]; omega
      · have hp : alnC x = false := by unfold alnC; simp; omega
        have hI : 57 < (x.toNat : Int) := by omega
        have hb57 : decide ((x.toNat : Int) ≤ 57) = false := decide_eq_false (by omega)
        have hI2 : (x.toNat : Int) < 65 := by omega
        rw [hp] at hst
        have hno : alnB s.data.toList low top = false := by
          have : s.data.toList.all alnC = false := hdn hst
          unfold alnB
          rw [this]
          rfl
        have HNO := Lib.hid hno
        clear hst hlo hp h1 h2 hdn hno
        go_wp2
        go_ret
        exact ⟨ret_bool HNO.out.symm, rfl⟩
      · have hp : alnC x = true := by unfold alnC; simp; omega
        have hI : 65 ≤ (x.toNat : Int) := by omega
        have hI2 : (x.toNat : Int) ≤ 90 := by omega
        rw [hp] at hst
        have HST := Lib.hid hst
        clear hst hlo hp h1 h2 hdn
        go_wp2
        go_round
        case rel => exact ⟨i + 1, by omega, by go_num, HST.out⟩
        case measure => simp [intOf]; omega
      · have hp : alnC x = false := by unfold alnC; simp; omega
        have hI : 90 < (x.toNat : Int) := by omega
        have hb57 : decide ((x.toNat : Int) ≤ 57) = false := decide_eq_false (by omega)
        have hb90 : decide ((x.toNat : Int) ≤ 90) = false := decide_eq_false (by omega)
        have hI2 : (x.toNat : Int) < 97 := by omega
        rw [hp] at hst
        have hno : alnB s.data.toList low top = false := by
          have : s.data.toList.all alnC = false := hdn hst
          unfold alnB
          rw [this]
          rfl
        have HNO := Lib.hid hno
        clear hst hlo hp h1 h2 hdn hno
        go_wp2
        go_ret
        exact ⟨ret_bool HNO.out.symm, rfl⟩
      · have hp : alnC x = true := by unfold alnC; simp; omega
        have hI : 97 ≤ (x.toNat : Int) := by omega
        have hI2 : (x.toNat : Int) ≤ 122 := by omega
        rw [hp] at hst
        have HST := Lib.hid hst
        clear hst hlo hp h1 h2 hdn
        go_wp2
        go_round
        case rel => exact ⟨i + 1, by omega, by go_num, HST.out⟩
        case measure => simp [intOf]; omega
      · have hp : alnC x = false := by unfold alnC; simp; omega
        have hI : 122 < (x.toNat : Int) := by omega
        have hb57 : decide ((x.toNat : Int) ≤ 57) = false := decide_eq_false (by omega)
        have hb90 : decide ((x.toNat : Int) ≤ 90) = false := decide_eq_false (by omega)
        have hb122 : decide ((x.toNat : Int) ≤ 122) = false := decide_eq_false (by omega)
        rw [hp] at hst
        have hno : alnB s.data.toList low top = false := by
          have : s.data.toList.all alnC = false := hdn hst
          unfold alnB
          rw [this]
          rfl
        have HNO := Lib.hid hno
        clear hst hlo hp h1 h2 hdn hno
        go_wp2
        go_ret
        exact ⟨ret_bool HNO.out.symm, rfl⟩
    · obtain rfl : i = s.size := by omega
      rw [List.take_of_length_le (by rw [HL.out]; exact Nat.le_refl _)] at hlo
      have hpe : alnB s.data.toList low top = (decide (low ≤ (s.size : Int)) && decide ((s.size : Int) ≤ top)) := by
        unfold alnB
        have hlo' : s.data.toList.all alnC = true := hlo
        rw [hlo', HL.out]
        rfl
      have HPE := Lib.hid hpe
      clear hlo hpe
      go_wp2
      all_goals
        go_ret
        refine ⟨ret_bool ?_, rfl⟩
        rw [HPE.out]
        first | rfl | (simp; omega) | (rw [Bool.eq_iff_iff]; simp; omega)
end Go.Proofs.YthlgnmgjfgbffaaGreatDoor
/- What was decided: the table, and plain functions on it, no program. -/
namespace Go.Proofs.YthlgnmgjfgbffaaGreatDoor
set_option linter.unusedVariables false

/-- action, status, reason -/
def codT : List (List UInt8 × List UInt8 × List UInt8) := [([48, 48, 48], [65, 80, 80, 82], [78, 79, 82, 77]), ([48, 48, 49], [65, 80, 80, 82], [73, 68, 69, 78]), ([48, 48, 50], [80, 65, 82, 84], [78, 79, 82, 77]), ([49, 48, 48], [68, 69, 67, 76], [78, 79, 82, 77]), ([49, 48, 49], [68, 69, 67, 76], [69, 88, 80, 68]), ([49, 48, 50], [68, 69, 67, 76], [70, 82, 65, 85]), ([49, 48, 52], [68, 69, 67, 76], [82, 69, 83, 84]), ([49, 48, 57], [68, 69, 67, 76], [77, 82, 67, 72]), ([49, 49, 48], [68, 69, 67, 76], [65, 77, 78, 84]), ([49, 49, 54], [68, 69, 67, 76], [73, 78, 83, 70]), ([49, 49, 55], [68, 69, 67, 76], [80, 73, 78, 86]), ([49, 49, 56], [68, 69, 67, 76], [78, 79, 67, 68]), ([49, 50, 49], [68, 69, 67, 76], [76, 73, 77, 84]), ([50, 48, 48], [80, 73, 67, 75], [78, 79, 82, 77]), ([52, 48, 48], [82, 86, 83, 76], [78, 79, 82, 77]), ([53, 48, 48], [82, 69, 67, 78], [78, 79, 82, 77]), ([56, 48, 48], [78, 69, 84, 87], [78, 79, 82, 77]), ([57, 48, 52], [84, 69, 67, 72], [70, 79, 82, 77]), ([57, 48, 55], [84, 69, 67, 72], [73, 83, 83, 82]), ([57, 48, 57], [84, 69, 67, 72], [66, 85, 83, 89]), ([57, 49, 49], [84, 69, 67, 72], [84, 73, 77, 79]), ([57, 49, 50], [84, 69, 67, 72], [68, 79, 87, 78])]
theorem codT_len : codT.length = 22 := rfl
/-- a row by its number -/
def cRow (k : Nat) : List UInt8 × List UInt8 × List UInt8 := codT.getD k ([], [], [])
def cAll (p : Nat → Bool) : Bool := (List.range 22).all p
theorem cAll_at {p : Nat → Bool} (h : cAll p = true) {k : Nat} (hk : k < 22) : p k = true := List.all_eq_true.1 h k (List.mem_range.2 hk)
/-- the first row, from n rows on, of which something is so -/
def firstC (p : List UInt8 × List UInt8 × List UInt8 → Bool) : Option (List UInt8 × List UInt8 × List UInt8) := codT.find? p
def wordsR (a : List UInt8) : Option (List UInt8 × List UInt8 × List UInt8) := firstC (fun r => r.1 == a)
def actionR (s t : List UInt8) : Option (List UInt8 × List UInt8 × List UInt8) := firstC (fun r => r.2.1 == s && r.2.2 == t)
def fstC (r : Option (List UInt8 × List UInt8 × List UInt8)) : List UInt8 := (r.map (·.1)).getD []
def staC (r : Option (List UInt8 × List UInt8 × List UInt8)) : List UInt8 := (r.map (·.2.1)).getD []
def reaC (r : Option (List UInt8 × List UInt8 × List UInt8)) : List UInt8 := (r.map (·.2.2)).getD []
/-- what the calls answer -/
def wS (A : ByteArray) : ByteArray := bstr (staC (wordsR A.data.toList))
def wR (A : ByteArray) : ByteArray := bstr (reaC (wordsR A.data.toList))
def wK (A : ByteArray) : Bool := (wordsR A.data.toList).isSome
def aA (S T : ByteArray) : ByteArray := bstr (fstC (actionR S.data.toList T.data.toList))
def aK (S T : ByteArray) : Bool := (actionR S.data.toList T.data.toList).isSome
def yB (A : ByteArray) : Bool := staC (wordsR A.data.toList) == [65, 80, 80, 82] || staC (wordsR A.data.toList) == [80, 65, 82, 84]
/-- all actions -/
def actsL : List ByteArray := codT.map fun r => bstr r.1
theorem actsL_len : actsL.length = 22 := rfl
theorem cod_first (p : List UInt8 × List UInt8 × List UInt8 → Bool) : ∀ (l : List (List UInt8 × List UInt8 × List UInt8)) (k : Nat) (hk : k < l.length), (∀ j (hj : j < k), p (l[j]'(by omega)) = false) → p l[k] = true → l.find? p = some l[k]
  | [], k, hk, _, _ => by simp at hk
  | x :: r, 0, _, _, h => by rw [List.find?_cons]; simp only [List.getElem_cons_zero] at h ⊢; rw [h]
  | x :: r, k + 1, hk, h0, h => by
    have hx := h0 0 (by omega)
    simp only [List.getElem_cons_zero] at hx
    rw [List.find?_cons, hx]
    simp only [List.getElem_cons_succ] at h ⊢
    exact cod_first p r k (by simpa using hk) (fun j hj => by have := h0 (j + 1) (by omega); simpa using this) h
theorem cRow_at (j : Nat) (hj : j < codT.length) : cRow j = codT[j] := by
  unfold cRow
  rw [List.getD_eq_getElem?_getD, List.getElem?_eq_getElem hj]
  rfl
theorem first_none (p : List UInt8 × List UInt8 × List UInt8 → Bool) (h : ∀ j (hj : j < 22), p (cRow j) = false) : firstC p = none := by
  unfold firstC
  rw [List.find?_eq_none]
  intro x hx
  obtain ⟨j, hj, rfl⟩ := List.getElem_of_mem hx
  have := h j (by rw [codT_len] at hj; exact hj)
  rw [cRow_at j hj] at this
  rw [this]
  decide
theorem first_some (p : List UInt8 × List UInt8 × List UInt8 → Bool) (k : Nat) (hk : k < 22) (h0 : ∀ j (hj : j < k), p (cRow j) = false) (h : p (cRow k) = true) : firstC p = some (cRow k) := by
  unfold firstC
  have hkl : k < codT.length := by rw [codT_len]; exact hk
  have e := cRow_at
  rw [e k hkl] at h ⊢
  exact cod_first p codT k hkl (fun j hj => by have := h0 j hj; rw [e j (by omega)] at this; exact this) h
/-- the rows as the statements' own table has them -/
def tabS : List ByteArray := codT.map fun r => bstr (r.1 ++ r.2.1 ++ r.2.2)
def tabAt (k : Nat) : ByteArray := tabS.getD k ⟨#[]⟩
theorem tab_table : cAll (fun k => (tabAt k).size == 11 && ((tabAt k).extract 0 3).data.toList == (cRow k).1 && ((tabAt k).extract 3 7).data.toList == (cRow k).2.1 && ((tabAt k).extract 7 11).data.toList == (cRow k).2.2) = true := by decide +kernel
theorem tab_facts {k : Nat} (hk : k < 22) : (tabAt k).size = 11 ∧ ((tabAt k).extract 0 3).data.toList = (cRow k).1 ∧ ((tabAt k).extract 3 7).data.toList = (cRow k).2.1 ∧ ((tabAt k).extract 7 11).data.toList = (cRow k).2.2 := by
  have h := cAll_at tab_table hk
  simp only [Bool.and_eq_true, beq_iff_eq] at h
  exact ⟨h.1.1.1, h.1.1.2, h.1.2, h.2⟩
theorem words_at {A : ByteArray} {k : Nat} (hk : k < 22) (h0 : ∀ j, j < k → ((cRow j).1 == A.data.toList) = false) (h : ((cRow k).1 == A.data.toList) = true) : wordsR A.data.toList = some (cRow k) := first_some _ k hk (fun j hj => h0 j hj) h
theorem words_no {A : ByteArray} (h0 : ∀ j, j < 22 → ((cRow j).1 == A.data.toList) = false) : wordsR A.data.toList = none := first_none _ (fun j hj => h0 j hj)
theorem action_at {S T : ByteArray} {k : Nat} (hk : k < 22) (h0 : ∀ j, j < k → ((cRow j).2.1 == S.data.toList && (cRow j).2.2 == T.data.toList) = false) (h : ((cRow k).2.1 == S.data.toList && (cRow k).2.2 == T.data.toList) = true) : actionR S.data.toList T.data.toList = some (cRow k) := first_some _ k hk (fun j hj => h0 j hj) h
theorem action_no {S T : ByteArray} (h0 : ∀ j, j < 22 → ((cRow j).2.1 == S.data.toList && (cRow j).2.2 == T.data.toList) = false) : actionR S.data.toList T.data.toList = none := first_none _ (fun j hj => h0 j hj)
end Go.Proofs.YthlgnmgjfgbffaaGreatDoor
/- Kinds of messages: the table, and plain functions on it, no program. -/
namespace Go.Proofs.YthlgnmgjfgbffaaGreatDoor
set_option linter.unusedVariables false

/-- code, number, what it must have, what it may have -/
structure KRow where
  code : ByteArray
  mti : ByteArray
  must : ByteArray
  may : ByteArray
def kinT : List KRow := [⟨{ data := #[] }, { data := #[] }, { data := #[] }, { data := #[] }⟩, ⟨{ data := #[65, 85, 84, 81] }, { data := #[50, 49, 48, 48] }, { data := #[80, 67, 84, 77] }, { data := #[82, 69, 71] }⟩, ⟨{ data := #[65, 85, 84, 80] }, { data := #[50, 49, 49, 48] }, { data := #[68] }, { data := #[80, 67, 82, 65, 71] }⟩, ⟨{ data := #[67, 77, 80, 86] }, { data := #[50, 50, 50, 48] }, { data := #[80, 67, 84, 77] }, { data := #[82, 69, 65, 79, 68] }⟩, ⟨{ data := #[67, 77, 80, 75] }, { data := #[50, 50, 51, 48] }, { data := #[68] }, { data := #[82] }⟩, ⟨{ data := #[82, 86, 82, 65] }, { data := #[50, 52, 50, 48] }, { data := #[80, 67, 79, 78] }, { data := #[82, 84, 77] }⟩, ⟨{ data := #[82, 86, 82, 82] }, { data := #[50, 52, 51, 48] }, { data := #[68] }, { data := #[82] }⟩, ⟨{ data := #[82, 67, 76, 81] }, { data := #[50, 53, 50, 48] }, { data := #[67] }, { data := #[] }⟩, ⟨{ data := #[82, 67, 76, 80] }, { data := #[50, 53, 51, 48] }, { data := #[68] }, { data := #[67] }⟩, ⟨{ data := #[68, 71, 78, 81] }, { data := #[50, 56, 48, 48] }, { data := #[] }, { data := #[] }⟩, ⟨{ data := #[68, 71, 78, 80] }, { data := #[50, 56, 49, 48] }, { data := #[68] }, { data := #[] }⟩, ⟨{ data := #[82, 74, 67, 84] }, { data := #[50, 54, 52, 52] }, { data := #[78] }, { data := #[] }⟩]
theorem kinT_len : kinT.length = 12 := rfl
def kNone : KRow := ⟨⟨#[]⟩, ⟨#[]⟩, ⟨#[]⟩, ⟨#[]⟩⟩
def kRow (k : Nat) : KRow := kinT.getD k kNone
def kAll (p : Nat → Bool) : Bool := (List.range 12).all p
theorem kAll_at {p : Nat → Bool} (h : kAll p = true) {k : Nat} (hk : k < 12) : p k = true := List.all_eq_true.1 h k (List.mem_range.2 hk)
/-- the row of a kind; an empty one -/
def rowOf (k : Int) : KRow := if 1 ≤ k ∧ k < 12 then kRow k.toNat else kNone
def cdB (k : Int) : ByteArray := (rowOf k).code
def mtB (k : Int) : ByteArray := (rowOf k).mti
/-- the first kind of which that is so -/
def kindF (p : KRow → Bool) : Nat → Nat → Int
  | _, 0 => 0
  | k, n + 1 => if p (kRow k) then (k : Int) else kindF p (k + 1) n
def kindOf (p : KRow → Bool) : Int := kindF p 1 11
def ofCode (S : ByteArray) : Int := kindOf (fun r => r.code.data.toList == S.data.toList)
def ofMti (S : ByteArray) : Int := kindOf (fun r => r.mti.data.toList == S.data.toList)
theorem kindF_at (p : KRow → Bool) : ∀ (n k j : Nat), j < n → (∀ i, i < j → p (kRow (k + i)) = false) → p (kRow (k + j)) = true → kindF p k n = ((k + j : Nat) : Int)
  | 0, _, _, h, _, _ => by omega
  | n + 1, k, 0, _, _, h => by rw [kindF, if_pos (by simpa using h)]; simp
  | n + 1, k, j + 1, hj, h0, h => by
    have h1 := h0 0 (by omega)
    rw [Nat.add_zero] at h1
    rw [kindF, h1, if_neg (by decide), kindF_at p n (k + 1) j (by omega) (fun i hi => by have := h0 (i + 1) (by omega); rw [show k + 1 + i = k + (i + 1) by omega]; exact this) (by rw [show k + 1 + j = k + (j + 1) by omega]; exact h)]
    omega
theorem kindF_none (p : KRow → Bool) : ∀ (n k : Nat), (∀ i, i < n → p (kRow (k + i)) = false) → kindF p k n = 0
  | 0, _, _ => rfl
  | n + 1, k, h => by
    have h1 := h 0 (by omega)
    rw [Nat.add_zero] at h1
    rw [kindF, h1, if_neg (by decide)]
    exact kindF_none p n (k + 1) (fun i hi => by have := h (i + 1) (by omega); rw [show k + 1 + i = k + (i + 1) by omega]; exact this)
theorem kind_at (p : KRow → Bool) {k : Nat} (h1 : 1 ≤ k) (hk : k < 12) (h0 : ∀ j, 1 ≤ j → j < k → p (kRow j) = false) (h : p (kRow k) = true) : kindOf p = (k : Int) := by
  have := kindF_at p 11 1 (k - 1) (by omega) (fun i hi => h0 (1 + i) (by omega) (by omega)) (by rw [show 1 + (k - 1) = k by omega]; exact h)
  rw [show 1 + (k - 1) = k by omega] at this
  exact this
theorem kind_none (p : KRow → Bool) (h0 : ∀ j, 1 ≤ j → j < 12 → p (kRow j) = false) : kindOf p = 0 := kindF_none p 11 1 (fun i hi => h0 (1 + i) (by omega) (by omega))
def ansI (k : Int) : Int := if 1 ≤ k ∧ k ≤ 9 ∧ k.tmod 2 = 1 then k + 1 else 0
def monB (k : Int) : Bool := decide (k = 1 ∨ k = 3)

/-! ### whether a message has what it must, and may -/
def lettersL : List UInt8 := [80, 67, 82, 77, 84, 65, 69, 68, 78, 79, 71]
/-- the letters of what is there -/
def hasF (th : List Bool) : Nat → List UInt8
  | 0 => []
  | k + 1 => hasF th k ++ (if (th[k]?).getD false then [(lettersL[k]?).getD 0] else [])
def hasL (th : List Bool) : List UInt8 := hasF th 11
def inL (l : List UInt8) (c : UInt8) : Bool := l.any (fun x => x == c)
/-- bad: an amount without a currency, a number of another exchange without its time -/
def fitsR (r : KRow) (h : List UInt8) (bad : Bool) : Int :=
  if r.code.data.toList = [] then 15 else if !r.must.data.toList.all (fun c => inL h c) then 19 else if !h.all (fun c => inL (r.must.data.toList ++ r.may.data.toList) c) then 19 else if bad then 19 else 0
theorem hasF_len (th : List Bool) : ∀ k, (hasF th k).length ≤ k
  | 0 => Nat.le_refl _
  | k + 1 => by
    have := hasF_len th k
    unfold hasF
    rw [List.length_append]
    split <;> simp <;> omega
end Go.Proofs.YthlgnmgjfgbffaaGreatDoor
