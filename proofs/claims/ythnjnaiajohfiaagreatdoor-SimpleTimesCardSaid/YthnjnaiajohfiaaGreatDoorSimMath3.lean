/- Times, amounts, and sevens, as the statements draw them: plain math, no program. -/
import Derived.Test.YthnjnaiajohfiaaGreatDoorSimMath2
namespace Go.Proofs.YthnjnaiajohfiaaGreatDoor
set_option linter.unusedVariables false

/-! ### times there and back -/
theorem list14 {l : List UInt8} (h : l.length = 14) : ∃ a b c d e f g i j k m n o p, l = [a, b, c, d, e, f, g, i, j, k, m, n, o, p] := by
  match l, h with
  | [a, b, c, d, e, f, g, i, j, k, m, n, o, p], _ => exact ⟨a, b, c, d, e, f, g, i, j, k, m, n, o, p, rfl⟩
theorem hid_shown {l : List UInt8} (h : l.length = 14) : hidL (shownL l) = l ∧ (shownL l).length = 19 := by
  obtain ⟨a, b, c, d, e, f, g, i, j, k, m, n, o, p, rfl⟩ := list14 h
  exact ⟨by simp [hidL, shownL, cutN], by simp [shownL, cutN]⟩
theorem timeB_len {l : List UInt8} (h : timeB l = true) : l.length = 14 ∧ l.all isD = true := by
  unfold timeB at h
  rw [Bool.and_eq_true] at h
  obtain ⟨h1, h2, h3⟩ := rightB_len h.1
  exact ⟨by omega, h3⟩
/-- what is shown is read -/
theorem timeOf_shown {l : List UInt8} (h : timeB l = true) : timeOfB (shownL l) = true ∧ hidL (shownL l) = l := by
  obtain ⟨h1, h2⟩ := hid_shown (timeB_len h).1
  refine ⟨?_, h1⟩
  unfold timeOfB
  rw [h1, h, decide_eq_true h2]
  simp
/-- a time of six numbers -/
def timeL (y m d h n s : Nat) : List UInt8 := textR y 4 ++ twoL m ++ twoL d ++ twoL h ++ twoL n ++ twoL s
theorem four_digits (y : Nat) (h : y < 10000) : (textR y 4).length = 4 ∧ (textR y 4).all isD = true ∧ numV (textR y 4) = y ∧ textE y 4 = 0 := by
  have hl : (Lib.decDigits y).length ≤ 4 := by
    rw [Lib.decDigits_length]
    have key : ∀ (k u : Nat), u < 10 ^ (k + 1) → Lib.nDigits u ≤ k + 1 := by
      intro k
      induction k with
      | zero => intro u hu; rw [Lib.nDigits_small (by omega)]; omega
      | succ k ih =>
        intro u hu
        by_cases h1 : u < 10
        · rw [Lib.nDigits_small h1]; omega
        · rw [Lib.nDigits_big h1]
          have := ih (u / 10) (by rw [Nat.pow_succ] at hu; omega)
          omega
    exact key 3 y h
  have he : textE y 4 = 0 := by unfold textE; rw [if_neg (by omega), if_neg (by omega)]
  have hr : textR y 4 = wide y (4 - (Lib.decDigits y).length) := by unfold textR; rw [if_pos he]; rfl
  rw [hr]
  exact ⟨by rw [wide_length]; omega, wide_all _ _, numV_wide _ _, he⟩
theorem list4 {l : List UInt8} (h : l.length = 4) : ∃ a b c d, l = [a, b, c, d] := by
  match l, h with
  | [a, b, c, d], _ => exact ⟨a, b, c, d, rfl⟩
theorem timeL_is (y m d h n s : Nat) (hy : y < 10000) (hm : m < 100) (hd : d < 100) (hh : h < 100) (hn : n < 100) (hs : s < 100) :
    timeB (timeL y m d h n s) = timeP y m d h n s ∧ (timeL y m d h n s).length = 14 := by
  obtain ⟨h1, h2, h3, _⟩ := four_digits y hy
  have a1 := twoL_all m hm
  have a2 := twoL_all d hd
  have a3 := twoL_all h hh
  have a4 := twoL_all n hn
  have a5 := twoL_all s hs
  have v1 := numV_two m hm
  have v2 := numV_two d hd
  have v3 := numV_two h hh
  have v4 := numV_two n hn
  have v5 := numV_two s hs
  obtain ⟨a, b, c, e, hl⟩ := list4 h1
  unfold timeL timeB
  rw [hl] at h2 h3 ⊢
  have hall : ([a, b, c, e] ++ twoL m ++ twoL d ++ twoL h ++ twoL n ++ twoL s).all isD = true := by
    rw [List.all_append, List.all_append, List.all_append, List.all_append, List.all_append, h2, a1, a2, a3, a4, a5]
    rfl
  have hr : rightB ([a, b, c, e] ++ twoL m ++ twoL d ++ twoL h ++ twoL n ++ twoL s) 14 14 = true := by
    unfold rightB
    rw [hall]
    rfl
  rw [hr]
  refine ⟨?_, rfl⟩
  have p1 : prt ([a, b, c, e] ++ twoL m ++ twoL d ++ twoL h ++ twoL n ++ twoL s) 0 4 = y := h3
  have p2 : prt ([a, b, c, e] ++ twoL m ++ twoL d ++ twoL h ++ twoL n ++ twoL s) 4 6 = m := v1
  have p3 : prt ([a, b, c, e] ++ twoL m ++ twoL d ++ twoL h ++ twoL n ++ twoL s) 6 8 = d := v2
  have p4 : prt ([a, b, c, e] ++ twoL m ++ twoL d ++ twoL h ++ twoL n ++ twoL s) 8 10 = h := v3
  have p5 : prt ([a, b, c, e] ++ twoL m ++ twoL d ++ twoL h ++ twoL n ++ twoL s) 10 12 = n := v4
  have p6 : prt ([a, b, c, e] ++ twoL m ++ twoL d ++ twoL h ++ twoL n ++ twoL s) 12 14 = s := v5
  rw [p1, p2, p3, p4, p5, p6, Bool.true_and]
/-- the days of the months, as the statement has them -/
def tabD : List Nat := [0, 31, 28, 31, 30, 31, 30, 31, 31, 30, 31, 30, 31, 0, 0]
def lastD (y m : Nat) : Nat := if m = 2 ∧ (y % 400 = 0 ∨ y % 4 = 0 ∧ y % 100 ≠ 0) then 29 else tabD.getD m 0
theorem leap_law (y : Nat) : leapB y = true ↔ (y % 400 = 0 ∨ y % 4 = 0 ∧ y % 100 ≠ 0) := by
  unfold leapB
  split <;> simp <;> omega
theorem timeP_law (y m d h n s : Nat) (hm : m < 15) : timeP y m d h n s = decide (0 < y ∧ 1 ≤ d ∧ d ≤ lastD y m ∧ h < 24 ∧ n < 60 ∧ s < 60) := by
  have key : datedB y m d = decide (1 ≤ d ∧ d ≤ lastD y m) := by
    unfold datedB lastD daysN
    by_cases hl : (y % 400 = 0 ∨ y % 4 = 0 ∧ y % 100 ≠ 0)
    · rw [if_pos ((leap_law y).2 hl)]
      simp only [hl, and_true]
      obtain rfl | rfl | rfl | rfl | rfl | rfl | rfl | rfl | rfl | rfl | rfl | rfl | rfl | rfl | rfl : m = 0 ∨ m = 1 ∨ m = 2 ∨ m = 3 ∨ m = 4 ∨ m = 5 ∨ m = 6 ∨ m = 7 ∨ m = 8 ∨ m = 9 ∨ m = 10 ∨ m = 11 ∨ m = 12 ∨ m = 13 ∨ m = 14 := by omega
      all_goals
        rw [Bool.eq_iff_iff]
        simp [tabD]
        try omega
    · have hl2 : leapB y = false := by rw [← Bool.not_eq_true, leap_law]; exact hl
      rw [hl2]
      simp only [hl, and_false, if_false]
      obtain rfl | rfl | rfl | rfl | rfl | rfl | rfl | rfl | rfl | rfl | rfl | rfl | rfl | rfl | rfl : m = 0 ∨ m = 1 ∨ m = 2 ∨ m = 3 ∨ m = 4 ∨ m = 5 ∨ m = 6 ∨ m = 7 ∨ m = 8 ∨ m = 9 ∨ m = 10 ∨ m = 11 ∨ m = 12 ∨ m = 13 ∨ m = 14 := by omega
      all_goals
        rw [Bool.eq_iff_iff]
        simp [tabD]
        try omega
  unfold timeP
  rw [key, Bool.eq_iff_iff]
  simp
  omega

/-! ### amounts -/
theorem amtB_amtL {v : Nat} (h : v ≤ 999999999999) : amtB (amtL v) = true ∧ amtV (amtL v) = v := by
  refine ⟨?_, amtV_amtL v⟩
  unfold amtB
  rw [amtV_amtL, decide_eq_true h]
  simp
/-- what is an amount is told by its number -/
theorem amtB_is {l : List UInt8} (h : amtB l = true) : amtL (amtV l) = l := by
  unfold amtB at h
  simp only [Bool.and_eq_true, decide_eq_true_eq] at h
  exact h.2
theorem amtB_not {l : List UInt8} (h : amtL (amtV l) ≠ l) : amtB l = false := by
  rw [← Bool.not_eq_true]
  exact fun hb => h (amtB_is hb)
theorem amtV_cons (c : UInt8) (l : List UInt8) (h : c = 48 ∨ isD c = false) : amtV (c :: l) = amtV l := by
  unfold amtV
  rcases h with rfl | h
  · rfl
  · rw [List.filter_cons, if_neg (by rw [h]; decide)]
theorem amt_nought (v : Nat) : amtB (48 :: amtL v) = false := by
  apply amtB_not
  rw [amtV_cons _ _ (.inl rfl), amtV_amtL]
  intro h
  have := congrArg List.length h
  simp at this
theorem amt_minus (v : Nat) : amtB (45 :: amtL v) = false := by
  apply amtB_not
  rw [amtV_cons _ _ (.inr (by decide)), amtV_amtL]
  intro h
  have := congrArg List.length h
  simp at this
/-- three from the end there is the dot -/
theorem amt_dot (v : Nat) : (amtL v).reverse.drop 2 = 46 :: (Lib.decDigits (v / 100)).reverse := by
  unfold amtL twoL
  simp
theorem amt_more (v : Nat) : amtB (amtL v ++ [48]) = false := by
  apply amtB_not
  intro h
  have h1 := amt_dot (amtV (amtL v ++ [48]))
  rw [h] at h1
  unfold amtL twoL at h1
  simp only [List.reverse_append, List.reverse_cons, List.reverse_nil, List.nil_append, List.cons_append, List.drop_succ_cons, List.drop_zero, List.cons.injEq] at h1
  have h2 := h1.1
  have h3 : isD (UInt8.ofNat (48 + v % 100 / 10)) = true := isD_mk (by rw [UInt8.toNat_ofNat']; omega) (by rw [UInt8.toNat_ofNat']; omega)
  rw [h2] at h3
  revert h3
  decide
theorem amt_digits (v : Nat) : amtB (Lib.decDigits v) = false := by
  apply amtB_not
  intro h
  have hm : (46 : UInt8) ∈ Lib.decDigits v := by
    rw [← h]
    unfold amtL
    simp
  have := List.all_eq_true.1 (dec_all v) 46 hm
  revert this
  decide

/-! ### one sign of a time -/
def day1 : List UInt8 := [50, 48, 50, 54, 45, 48, 50, 45, 50, 56, 84, 50, 51, 58, 53, 57, 58, 53, 56]
theorem day1_is : timeOfB day1 = true ∧ hidL day1 = [50, 48, 50, 54, 48, 50, 50, 56, 50, 51, 53, 57, 53, 56] := by decide
theorem day1_same {i : Nat} (h : i < 19) : day1.set i (day1.getD i 0) = day1 := by
  obtain rfl | rfl | rfl | rfl | rfl | rfl | rfl | rfl | rfl | rfl | rfl | rfl | rfl | rfl | rfl | rfl | rfl | rfl | rfl : i = 0 ∨ i = 1 ∨ i = 2 ∨ i = 3 ∨ i = 4 ∨ i = 5 ∨ i = 6 ∨ i = 7 ∨ i = 8 ∨ i = 9 ∨ i = 10 ∨ i = 11 ∨ i = 12 ∨ i = 13 ∨ i = 14 ∨ i = 15 ∨ i = 16 ∨ i = 17 ∨ i = 18 := by omega
  all_goals rfl
theorem timeOf_is {l : List UInt8} (h : timeOfB l = true) : timeB (hidL l) = true ∧ shownL (hidL l) = l := by
  unfold timeOfB at h
  simp only [Bool.and_eq_true, decide_eq_true_eq] at h
  exact h.2
theorem day1_other {i : Nat} (h : i < 19) (c : UInt8) (hc : c ≠ day1.getD i 0) (hb : timeOfB (day1.set i c) = true) : isD c = true := by
  obtain ⟨h1, h2⟩ := timeOf_is hb
  have h3 := (timeB_len h1).2
  clear hb h1
  rcases (by omega : i = 0 ∨ i = 1 ∨ i = 2 ∨ i = 3 ∨ i = 4 ∨ i = 5 ∨ i = 6 ∨ i = 7 ∨ i = 8 ∨ i = 9 ∨ i = 10 ∨ i = 11 ∨ i = 12 ∨ i = 13 ∨ i = 14 ∨ i = 15 ∨ i = 16 ∨ i = 17 ∨ i = 18) with rfl | rfl | rfl | rfl | rfl | rfl | rfl | rfl | rfl | rfl | rfl | rfl | rfl | rfl | rfl | rfl | rfl | rfl | rfl
  · exact List.all_eq_true.1 h3 c (by simp [hidL, cutN, day1])
  · exact List.all_eq_true.1 h3 c (by simp [hidL, cutN, day1])
  · exact List.all_eq_true.1 h3 c (by simp [hidL, cutN, day1])
  · exact List.all_eq_true.1 h3 c (by simp [hidL, cutN, day1])
  · have h4 := congrArg (fun l => l[4]?) h2
    simp [shownL, hidL, cutN, day1] at h4
    exact absurd h4.symm (by simpa [day1] using hc)
  · exact List.all_eq_true.1 h3 c (by simp [hidL, cutN, day1])
  · exact List.all_eq_true.1 h3 c (by simp [hidL, cutN, day1])
  · have h4 := congrArg (fun l => l[7]?) h2
    simp [shownL, hidL, cutN, day1] at h4
    exact absurd h4.symm (by simpa [day1] using hc)
  · exact List.all_eq_true.1 h3 c (by simp [hidL, cutN, day1])
  · exact List.all_eq_true.1 h3 c (by simp [hidL, cutN, day1])
  · have h4 := congrArg (fun l => l[10]?) h2
    simp [shownL, hidL, cutN, day1] at h4
    exact absurd h4.symm (by simpa [day1] using hc)
  · exact List.all_eq_true.1 h3 c (by simp [hidL, cutN, day1])
  · exact List.all_eq_true.1 h3 c (by simp [hidL, cutN, day1])
  · have h4 := congrArg (fun l => l[13]?) h2
    simp [shownL, hidL, cutN, day1] at h4
    exact absurd h4.symm (by simpa [day1] using hc)
  · exact List.all_eq_true.1 h3 c (by simp [hidL, cutN, day1])
  · exact List.all_eq_true.1 h3 c (by simp [hidL, cutN, day1])
  · have h4 := congrArg (fun l => l[16]?) h2
    simp [shownL, hidL, cutN, day1] at h4
    exact absurd h4.symm (by simpa [day1] using hc)
  · exact List.all_eq_true.1 h3 c (by simp [hidL, cutN, day1])
  · exact List.all_eq_true.1 h3 c (by simp [hidL, cutN, day1])

/-! ### sevens -/
def sevL (n : Nat) : List UInt8 := List.replicate n 55
theorem sev_all (p : UInt8 → Bool) (hp : p 55 = true) (n : Nat) : (sevL n).all p = true := by
  unfold sevL
  rw [List.all_eq_true]
  intro x hx
  rw [List.eq_of_mem_replicate hx]
  exact hp
theorem sev_right (n : Nat) (low top : Int) : rightB (sevL n) low top = (decide (low ≤ (n : Int)) && decide ((n : Int) ≤ top)) := by
  unfold rightB
  rw [sev_all isD (by decide)]
  simp [sevL]
theorem sev_aln (n : Nat) (low top : Int) : alnB (sevL n) low top = (decide (low ≤ (n : Int)) && decide ((n : Int) ≤ top)) := by
  unfold alnB
  rw [sev_all alnC (by decide)]
  simp [sevL]
theorem sev_cnt : ∀ n : Nat, cnt (sevL n) = some n
  | 0 => rfl
  | n + 1 => by
    have h1 : cnt [55] = some 1 := by rw [cnt_one]; decide
    have h2 := cnt_app (b := sevL n) h1
    rw [sev_cnt n] at h2
    show cnt ([55] ++ sevL n) = _
    rw [h2]
    simp
    omega
theorem sev_get (n k : Nat) (h : k < n) : (sevL n).getD k 0 = 55 := by
  unfold sevL
  simp [List.getD, h]
theorem sev_plain (n : Nat) (low top : Int) : plainB (sevL n) low top = (decide (low ≤ (n : Int)) && decide ((n : Int) ≤ top)) := by
  unfold plainB utf8B runesN lowest
  rw [sev_all _ (by decide), sev_cnt]
  have h : (decide (sevL n = []) || (decide ((sevL n).getD 0 0 ≠ 32) && decide ((sevL n).getD ((sevL n).length - 1) 0 ≠ 32))) = true := by
    cases n with
    | zero => rfl
    | succ n =>
      rw [sev_get _ _ (by omega), sev_get _ _ (by simp [sevL])]
      simp
  rw [h]
  simp
theorem sev_code (n : Nat) : codeB (sevL n) = false := by
  unfold codeB
  cases n with
  | zero => rfl
  | succ n =>
    have : (sevL (n + 1)).all capC = false := by
      show (capC 55 && (sevL n).all capC) = false
      rw [show capC 55 = false by decide]
      rfl
    rw [this, Bool.and_false]
end Go.Proofs.YthnjnaiajohfiaaGreatDoor
