/- The texts BmMath2, BmMath3, joined. -/
import Derived.Test.YtpkalnkeafggjaaGreatDoorK07
/- Maps of bits, parsed: which numbers are set, and what follows: plain functions on lists, no program. -/
namespace Go.Proofs.YtpkalnkeafggjaaGreatDoor
set_option linter.unusedVariables false

/-- strictly rising lists of the same numbers are the same -/
theorem rise_ext : ∀ (a b : List Int), a.Pairwise (· < ·) → b.Pairwise (· < ·) → (∀ x, x ∈ a ↔ x ∈ b) → a = b
  | [], [], _, _, _ => rfl
  | [], y :: b, _, _, h => absurd ((h y).2 (List.mem_cons_self ..)) (by simp)
  | x :: a, [], _, _, h => absurd ((h x).1 (List.mem_cons_self ..)) (by simp)
  | x :: a, y :: b, ha, hb, h => by
    rw [List.pairwise_cons] at ha hb
    have hxy : x = y := by
      rcases List.mem_cons.1 ((h x).1 (List.mem_cons_self ..)) with e | e
      · exact e
      · rcases List.mem_cons.1 ((h y).2 (List.mem_cons_self ..)) with e2 | e2
        · exact e2.symm
        · have h1 := hb.1 x e
          have h2 := ha.1 y e2
          omega
    subst hxy
    congr 1
    refine rise_ext a b ha.2 hb.2 fun z => ⟨fun hz => ?_, fun hz => ?_⟩
    · rcases List.mem_cons.1 ((h z).1 (List.mem_cons_of_mem _ hz)) with e | e
      · have := ha.1 z hz; omega
      · exact e
    · rcases List.mem_cons.1 ((h z).2 (List.mem_cons_of_mem _ hz)) with e | e
      · have := hb.1 z hz; omega
      · exact e
theorem risesB_iff : ∀ l : List Int, risesB l = true ↔ l.Pairwise (· < ·) ∧ ∀ n ∈ l, mayB n = true
  | [] => by simp [risesB]
  | [x] => by simp [risesB]
  | x :: y :: r => by
    have ih := risesB_iff (y :: r)
    simp only [risesB, Bool.and_eq_true, decide_eq_true_eq, ih]
    constructor
    · rintro ⟨h1, h2, h3, h4⟩
      refine ⟨List.pairwise_cons.2 ⟨fun z hz => ?_, h3⟩, fun n hn => ?_⟩
      · rcases List.mem_cons.1 hz with rfl | hz
        · exact h2
        · have := (List.pairwise_cons.1 h3).1 z hz
          omega
      · rcases List.mem_cons.1 hn with rfl | hn
        · exact h1
        · exact h4 n hn
    · rintro ⟨h1, h2⟩
      obtain ⟨h3, h4⟩ := List.pairwise_cons.1 h1
      exact ⟨h2 x (List.mem_cons_self ..), h3 y (List.mem_cons_self ..), h4, fun n hn => h2 n (List.mem_cons_of_mem _ hn)⟩

/-- the numbers from 2 to 8m that are set -/
def setOf (b : List UInt8) (m : Nat) : List Int := ((List.range (8 * m - 1)).map fun (k : Nat) => ((k : Int) + 2)).filter fun n => bitAt b (n.toNat - 1)
theorem setOf_mem (b : List UInt8) (m : Nat) (hm : 1 ≤ m) (n : Int) : n ∈ setOf b m ↔ 2 ≤ n ∧ n ≤ 8 * (m : Int) ∧ bitAt b (n.toNat - 1) = true := by
  unfold setOf
  rw [List.mem_filter, List.mem_map]
  constructor
  · rintro ⟨⟨k, hk, rfl⟩, h⟩
    rw [List.mem_range] at hk
    exact ⟨by omega, by omega, h⟩
  · rintro ⟨h1, h2, h3⟩
    exact ⟨⟨n.toNat - 2, by rw [List.mem_range]; omega, by omega⟩, h3⟩
theorem setOf_rises (b : List UInt8) (m : Nat) : (setOf b m).Pairwise (· < ·) := by
  unfold setOf
  apply List.Pairwise.filter
  rw [List.pairwise_map]
  exact List.Pairwise.imp (fun h => by omega) List.pairwise_lt_range

/-- how many bytes a map has -/
def mapN (b : List UInt8) : Nat := if bitAt b 0 then 16 else 8
/-- why there is none -/
def mapBad (b : List UInt8) : Bool := bitAt b 0 && (bitAt b 64 || !(setOf b 16).any fun n => decide (66 ≤ n))
def parE (b : List UInt8) : Int := if b.length < 8 then 3 else if b.length < mapN b then 3 else if mapBad b then 6 else 0
def parN (b : List UInt8) : Nat := if parE b = 0 then mapN b else 0
def parL (b : List UInt8) : List Int := if parE b = 0 then setOf b (mapN b) else []

/-- bits of a head are the whole's -/
theorem bitAt_take (b : List UInt8) (m i : Nat) (h : i < 8 * m) : bitAt (b.take m) i = bitAt b i := by
  unfold bitAt
  congr 2
  simp only [List.getD, List.getElem?_take]
  rw [if_pos (by omega)]

/-- what is written is parsed, whatever stands behind -/
theorem par_map (l : List Int) (h : risesB l = true) (more : List UInt8) : parE (mapOf l ++ more) = 0 ∧ parN (mapOf l ++ more) = (mapOf l).length ∧ parL (mapOf l ++ more) = l := by
  obtain ⟨hp, hm⟩ := (risesB_iff l).1 h
  obtain ⟨h1, h2⟩ := mapOf_spec l hm
  have hpos : 8 ≤ (mapOf l).length := by rw [h1]; unfold sizeOfMap; split <;> omega
  have hb0 : bitAt (mapOf l ++ more) 0 = bigB l := by
    rw [bitAt_append_left _ _ _ (by omega), h2]
    unfold inMap
    have : l.contains (((0 : Nat) : Int) + 1) = false := by
      rw [Bool.eq_false_iff]
      intro hc
      have := mayB_iff.1 (hm _ (List.contains_iff_mem.1 hc))
      omega
    rw [this]
    simp
  have hN : mapN (mapOf l ++ more) = (mapOf l).length := by
    unfold mapN
    rw [hb0, h1]
    rfl
  have hin : ∀ n : Int, 2 ≤ n → n ≤ 8 * ((mapOf l).length : Int) → (bitAt (mapOf l ++ more) (n.toNat - 1) = true ↔ n ∈ l) := fun n hn1 hn2 => by
    rw [bitAt_append_left _ _ _ (by omega), h2]
    unfold inMap
    rw [decide_eq_false (by omega : ¬ n.toNat - 1 = 0), Bool.false_and, Bool.or_false, List.contains_iff_mem]
    rw [show ((n.toNat - 1 : Nat) : Int) + 1 = n from by omega]
  have hset : setOf (mapOf l ++ more) (mapOf l).length = l := by
    apply rise_ext _ _ (setOf_rises _ _) hp
    intro n
    rw [setOf_mem _ _ (by omega)]
    constructor
    · rintro ⟨a, b, c⟩
      exact (hin n a b).1 c
    · intro hn
      have hmn := mayB_iff.1 (hm n hn)
      have hle : n ≤ 8 * ((mapOf l).length : Int) := by
        rw [h1]
        unfold sizeOfMap
        split
        · omega
        · rename_i hb
          have : ¬ 64 < n := fun h64 => hb (List.any_eq_true.2 ⟨n, hn, decide_eq_true h64⟩)
          omega
      exact ⟨hmn.1, hle, (hin n hmn.1 hle).2 hn⟩
  have hbad : mapBad (mapOf l ++ more) = false := by
    unfold mapBad
    rw [hb0]
    cases hb : bigB l with
    | false => rfl
    | true =>
      have h16 : (mapOf l).length = 16 := by rw [h1]; unfold sizeOfMap; rw [if_pos hb]
      rw [h16] at hset
      rw [hset, Bool.true_and, Bool.or_eq_false_iff]
      constructor
      · rw [bitAt_append_left _ _ _ (by omega), h2]
        unfold inMap
        rw [decide_eq_false (by omega : ¬ 64 = 0), Bool.false_and, Bool.or_false, Bool.eq_false_iff]
        intro hc
        have := mayB_iff.1 (hm _ (List.contains_iff_mem.1 hc))
        omega
      · rw [Bool.not_eq_false', List.any_eq_true]
        obtain ⟨n, hn, h64⟩ := List.any_eq_true.1 hb
        have h64' := of_decide_eq_true h64
        have hmn := mayB_iff.1 (hm n hn)
        exact ⟨n, hn, decide_eq_true (by omega)⟩
  have hE : parE (mapOf l ++ more) = 0 := by
    unfold parE
    rw [if_neg (by simp; omega), hN, if_neg (by simp), hbad]
    rfl
  refine ⟨hE, ?_, ?_⟩
  · unfold parN; rw [if_pos hE, hN]
  · unfold parL; rw [if_pos hE, hN, hset]

/-- what is parsed may be written, and is the bytes that it took -/
theorem map_par (b : List UInt8) (h : parE b = 0) : risesB (parL b) = true ∧ mapOf (parL b) = b.take (parN b) ∧ parN b ≤ b.length := by
  have hE := h
  unfold parE at h
  split at h
  · cases h
  rename_i h8
  split at h
  · cases h
  rename_i hlen
  split at h
  · cases h
  rename_i hbad
  have hL : parL b = setOf b (mapN b) := by unfold parL; rw [if_pos hE]
  have hN : parN b = mapN b := by unfold parN; rw [if_pos hE]
  have hN8 : mapN b = 8 ∨ mapN b = 16 := by unfold mapN; split <;> simp
  rw [hL, hN]
  have hmem := setOf_mem b (mapN b) (by omega)
  have hmay : ∀ n ∈ setOf b (mapN b), mayB n = true := fun n hn => by
    obtain ⟨a1, a2, a3⟩ := (hmem n).1 hn
    rw [mayB_iff]
    refine ⟨a1, by omega, ?_⟩
    rintro rfl
    have h0 : bitAt b 0 = true := by
      unfold mapN at a2
      split at a2
      · assumption
      · omega
    have a4 : bitAt b 64 = true := a3
    apply hbad
    unfold mapBad
    rw [h0, a4]
    rfl
  have hr : risesB (setOf b (mapN b)) = true := (risesB_iff _).2 ⟨setOf_rises _ _, hmay⟩
  obtain ⟨s1, s2⟩ := mapOf_spec _ hmay
  have hbig : bigB (setOf b (mapN b)) = bitAt b 0 := by
    cases h0 : bitAt b 0 with
    | false =>
      rw [Bool.eq_false_iff]
      intro hc
      obtain ⟨n, hn, h64⟩ := List.any_eq_true.1 hc
      have h64' := of_decide_eq_true h64
      obtain ⟨_, a2, _⟩ := (hmem n).1 hn
      unfold mapN at a2
      rw [h0] at a2
      simp at a2
      omega
    | true =>
      have h16 : mapN b = 16 := by unfold mapN; rw [if_pos h0]
      unfold mapBad at hbad
      rw [h0, Bool.true_and, Bool.or_eq_true, not_or] at hbad
      obtain ⟨_, hb2⟩ := hbad
      rw [h16]
      have : ((setOf b 16).any fun n => decide (66 ≤ n)) = true := by simpa using hb2
      obtain ⟨n, hn, h66⟩ := List.any_eq_true.1 this
      have h66' := of_decide_eq_true h66
      exact List.any_eq_true.2 ⟨n, hn, decide_eq_true (by omega)⟩
  have hsz : (mapOf (setOf b (mapN b))).length = mapN b := by
    rw [s1]
    unfold sizeOfMap
    rw [hbig]
    rfl
  refine ⟨hr, ?_, by omega⟩
  apply bits_ext (by rw [hsz, List.length_take]; omega)
  intro i hi
  rw [hsz] at hi
  rw [s2, bitAt_take _ _ _ hi]
  unfold inMap
  rw [hbig]
  by_cases h0 : i = 0
  · subst h0
    have : (setOf b (mapN b)).contains (((0 : Nat) : Int) + 1) = false := by
      rw [Bool.eq_false_iff]
      intro hc
      have := (hmem _).1 (List.contains_iff_mem.1 hc)
      omega
    rw [this]
    simp
  · rw [decide_eq_false h0, Bool.false_and, Bool.or_false, Bool.eq_iff_iff, List.contains_iff_mem, hmem]
    rw [show ((i : Int) + 1).toNat - 1 = i from by omega]
    constructor
    · rintro ⟨_, _, c⟩
      exact c
    · intro c
      exact ⟨by omega, by omega, c⟩
end Go.Proofs.YtpkalnkeafggjaaGreatDoor
/- What Write of maps answers, and lists that rise, number by number: plain functions on lists, no program. -/
namespace Go.Proofs.YtpkalnkeafggjaaGreatDoor
set_option linter.unusedVariables false

/-- what Write answers -/
def wmE (l : List Int) : Int := if risesB l then 0 else 1
def wmR (l : List Int) : List UInt8 := if risesB l then mapOf l else []

theorem rises_take {l : List Int} (h : risesB l = true) (k : Nat) : risesB (l.take k) = true := by
  obtain ⟨h1, h2⟩ := (risesB_iff l).1 h
  exact (risesB_iff _).2 ⟨h1.sublist (List.take_sublist k l), fun n hn => h2 n (List.mem_of_mem_take hn)⟩
theorem rises_snoc {l : List Int} {k : Nat} (hk : k < l.length) (h : risesB (l.take k) = true) :
    risesB (l.take (k + 1)) = (mayB l[k] && (decide (k = 0) || decide (l.getD (k - 1) 0 < l[k]))) := by
  obtain ⟨h1, h2⟩ := (risesB_iff _).1 h
  rw [Bool.eq_iff_iff, risesB_iff, List.take_succ_eq_append_getElem hk, List.pairwise_append]
  simp only [Bool.and_eq_true, Bool.or_eq_true, decide_eq_true_eq, List.mem_append, List.mem_singleton]
  constructor
  · rintro ⟨⟨_, _, h3⟩, h4⟩
    refine ⟨h4 _ (.inr rfl), ?_⟩
    by_cases h0 : k = 0
    · exact .inl h0
    · refine .inr (h3 _ ?_ _ rfl)
      rw [List.getD, List.getElem?_eq_getElem (by omega), Option.getD_some]
      exact List.mem_take_iff_getElem.2 ⟨k - 1, by omega, rfl⟩
  · rintro ⟨h3, h4⟩
    refine ⟨⟨h1, by simp, ?_⟩, ?_⟩
    · rintro a ha b rfl
      rcases h4 with rfl | h4
      · simp at ha
      · obtain ⟨i, hi, rfl⟩ := List.mem_take_iff_getElem.1 ha
        rw [List.getD, List.getElem?_eq_getElem (by omega), Option.getD_some] at h4
        by_cases hik : i = k - 1
        · subst hik; exact h4
        · have hp := List.pairwise_iff_getElem.1 h1 i (k - 1) (by rw [List.length_take]; omega) (by rw [List.length_take]; omega) (by omega)
          rw [List.getElem_take, List.getElem_take] at hp
          omega
    · rintro n (hn | rfl)
      · exact h2 n hn
      · exact h3
theorem mapOf_len {l : List Int} (h : risesB l = true) : (mapOf l).length = 8 ∨ (mapOf l).length = 16 := by
  rw [(mapOf_spec l ((risesB_iff l).1 h).2).1]
  unfold sizeOfMap
  split <;> simp

/-- the number ahead of the k-th, 1 ahead of the first -/
def ahd (l : List Int) (k : Nat) : Int := if k = 0 then 1 else l.getD (k - 1) 0
theorem ahd_succ (l : List Int) (k : Nat) (hk : k < l.length) : ahd l (k + 1) = l[k] := by
  unfold ahd
  rw [if_neg (by omega), Nat.add_sub_cancel, List.getD, List.getElem?_eq_getElem hk]
  rfl
theorem ahd_pos {l : List Int} {k : Nat} (hk : k ≤ l.length) (h : risesB (l.take k) = true) : 1 ≤ ahd l k := by
  unfold ahd
  split
  · omega
  · rename_i h0
    have h2 := ((risesB_iff _).1 h).2
    have hm : l.getD (k - 1) 0 ∈ l.take k := by
      rw [List.getD, List.getElem?_eq_getElem (by omega), Option.getD_some]
      exact List.mem_take_iff_getElem.2 ⟨k - 1, by omega, rfl⟩
    have := mayB_iff.1 (h2 _ hm)
    omega
theorem rises_next {l : List Int} {k : Nat} (hk : k < l.length) (h : risesB (l.take k) = true) : risesB (l.take (k + 1)) = (decide (ahd l k < l[k]) && (decide (l[k] ≠ 65) && decide (l[k] ≤ 128))) := by
  rw [rises_snoc hk h, Bool.eq_iff_iff]
  have hp := ahd_pos (by omega : k ≤ l.length) h
  simp only [Bool.and_eq_true, Bool.or_eq_true, decide_eq_true_eq, mayB_iff]
  unfold ahd at hp ⊢
  by_cases h0 : k = 0
  · rw [if_pos h0]
    omega
  · rw [if_neg h0] at hp ⊢
    omega
end Go.Proofs.YtpkalnkeafggjaaGreatDoor
