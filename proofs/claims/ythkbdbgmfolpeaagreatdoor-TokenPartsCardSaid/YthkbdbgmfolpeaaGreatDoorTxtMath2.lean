/- Characters as bytes, and plain texts: plain functions on lists of bytes, no program. -/
import Derived.Test.YthkbdbgmfolpeaaGreatDoorTxtMath
namespace Go.Proofs.YthkbdbgmfolpeaaGreatDoor
set_option linter.unusedVariables false

/-- a character as bytes, as the model writes it -/
def encL (c : Int) : List UInt8 := (Utf8.encode c).data.toList
theorem u8_nat (n : Nat) (h : n < 256) : (UInt8.ofNat n).toNat = n := by rw [UInt8.toNat_ofNat']; omega
theorem contB_of {n : Nat} (h1 : 128 ≤ n) (h2 : n < 192) : contB (UInt8.ofNat n) = true := by unfold contB; rw [u8_nat n (by omega)]; simp [h1, h2]
theorem tlB_go {k n : Nat} {r : List UInt8} {c : Nat} (h1 : 128 ≤ n) (h2 : n < 192) : tlB (k + 1) (UInt8.ofNat n :: r) c = tlB k r (c * 64 + n % 64) := by
  rw [tlB, if_pos (contB_of h1 h2), u8_nat n (by omega)]
theorem tlB_short {k : Nat} {r : List UInt8} {c : Nat} (h : r.length < k) : tlB k r c = none := by
  cases ht : tlB k r c with
  | none => rfl
  | some v => have := tlB_len _ _ _ _ ht; omega
theorem size_cut {b : UInt8} {r : List UInt8} {n least c : Nat} (h : lead b.toNat = some (n, least, c)) (hr : r.length + 1 < n) : sizeB (b :: r) = 0 := by
  rw [sizeB_cons, h, sizeC_some, tlB_short (by omega), finB_none]

theorem enc_valid {c : Nat} (h : c ≤ 1114111) (hs : ¬ (55296 ≤ c ∧ c ≤ 57343)) : Utf8.valid (c : Int) = true := by
  unfold Utf8.valid
  simp
  omega
set_option maxRecDepth 100000 in
/-- a character that is one, as bytes: of so many, if it may be; cut none -/
theorem enc_size {c : Nat} (h : c ≤ 1114111) (hs : ¬ (55296 ≤ c ∧ c ≤ 57343)) :
    sizeB (encL c) = (if charB c then (encL c).length else 0) ∧ 1 ≤ (encL c).length ∧ (encL c).length ≤ 4 ∧ ∀ k, 0 < k → k < (encL c).length → sizeB ((encL c).take k) = 0 := by
  have hv := enc_valid h hs
  unfold encL Utf8.encode
  simp only [hv, if_true, Int.toNat_natCast]
  by_cases h1 : c < 128
  · rw [if_pos h1]
    simp only [List.length_cons, List.length_nil]
    have hl : lead (UInt8.ofNat c).toNat = some (1, 0, c) := by rw [u8_nat c (by omega)]; unfold lead; rw [if_pos h1]
    refine ⟨?_, by omega, by omega, fun k h0 hk => by omega⟩
    rw [sizeB_cons, hl, sizeC_some]
    show finB (some c) 1 0 = _
    rw [finB_some, if_neg (by omega)]
  · rw [if_neg h1]
    by_cases h2 : c < 2048
    · rw [if_pos h2]
      simp only [List.length_cons, List.length_nil]
      have hl : lead (UInt8.ofNat (192 + c / 64)).toNat = some (2, 128, c / 64) := by
        rw [u8_nat _ (by omega)]
        unfold lead
        rw [if_neg (by omega), if_pos (by omega), show (192 + c / 64) % 32 = c / 64 from by omega]
      refine ⟨?_, by omega, by omega, fun k h0 hk => ?_⟩
      · rw [sizeB_cons, hl, sizeC_some, tlB_go (by omega) (by omega)]
        show finB (some _) 2 128 = _
        rw [finB_some, show c / 64 * 64 + (128 + c % 64) % 64 = c from by omega, if_neg (by omega)]
      · obtain rfl : k = 1 := by omega
        exact size_cut hl (by simp)
    · rw [if_neg h2]
      by_cases h3 : c < 65536
      · rw [if_pos h3]
        simp only [List.length_cons, List.length_nil]
        have hl : lead (UInt8.ofNat (224 + c / 4096)).toNat = some (3, 2048, c / 4096) := by
          rw [u8_nat _ (by omega)]
          unfold lead
          rw [if_neg (by omega), if_neg (by omega), if_pos (by omega), show (224 + c / 4096) % 16 = c / 4096 from by omega]
        refine ⟨?_, by omega, by omega, fun k h0 hk => ?_⟩
        · rw [sizeB_cons, hl, sizeC_some, tlB_go (by omega) (by omega), tlB_go (by omega) (by omega)]
          show finB (some _) 3 2048 = _
          rw [finB_some, show (c / 4096 * 64 + (128 + c / 64 % 64) % 64) * 64 + (128 + c % 64) % 64 = c from by omega, if_neg (by omega)]
        · obtain rfl | rfl : k = 1 ∨ k = 2 := by omega
          all_goals exact size_cut hl (by simp)
      · rw [if_neg h3]
        simp only [List.length_cons, List.length_nil]
        have hl : lead (UInt8.ofNat (240 + c / 262144)).toNat = some (4, 65536, c / 262144) := by
          rw [u8_nat _ (by omega)]
          unfold lead
          rw [if_neg (by omega), if_neg (by omega), if_neg (by omega), if_pos (by omega), show (240 + c / 262144) % 8 = c / 262144 from by omega]
        refine ⟨?_, by omega, by omega, fun k h0 hk => ?_⟩
        · rw [sizeB_cons, hl, sizeC_some, tlB_go (by omega) (by omega), tlB_go (by omega) (by omega), tlB_go (by omega) (by omega)]
          show finB (some _) 4 65536 = _
          rw [finB_some, show ((c / 262144 * 64 + (128 + c / 4096 % 64) % 64) * 64 + (128 + c / 64 % 64) % 64) * 64 + (128 + c % 64) % 64 = c from by omega, if_neg (by omega)]
        · obtain rfl | rfl | rfl : k = 1 ∨ k = 2 ∨ k = 3 := by omega
          all_goals exact size_cut hl (by simp)
set_option maxRecDepth 100000 in
/-- one that is none is written as another one, which may be -/
theorem enc_bad {c : Nat} (h : 1114111 < c ∨ (55296 ≤ c ∧ c ≤ 57343)) : encL c = [239, 191, 189] := by
  have hv : Utf8.valid (c : Int) = false := by
    rw [Bool.eq_false_iff]
    unfold Utf8.valid
    simp
    omega
  unfold encL Utf8.encode
  simp only [hv, Bool.false_eq_true, if_false]
  rfl
theorem utf8_bad : utf8B [239, 191, 189] = true := by decide
set_option maxRecDepth 100000 in
/-- one character alone -/
theorem cnt_enc {c : Nat} (h : c ≤ 1114111) (hs : ¬ (55296 ≤ c ∧ c ≤ 57343)) : cnt (encL c) = if charB c then some 1 else none := by
  obtain ⟨h1, h2, h3, h4⟩ := enc_size h hs
  have hne : encL c ≠ [] := by intro e; rw [e] at h2; simp at h2
  rw [cnt_step hne, h1]
  cases charB c with
  | false => rfl
  | true =>
    rw [if_pos rfl, if_neg (by omega), List.drop_length]
    rfl
theorem cnt_enc_cut {c : Nat} (h : c ≤ 1114111) (hs : ¬ (55296 ≤ c ∧ c ≤ 57343)) {k : Nat} (h0 : 0 < k) (hk : k < (encL c).length) : cnt ((encL c).take k) = none := by
  obtain ⟨h1, h2, h3, h4⟩ := enc_size h hs
  have hne : (encL c).take k ≠ [] := by
    intro e
    have := congrArg List.length e
    rw [List.length_take, List.length_nil] at this
    omega
  rw [cnt_step hne, if_pos (h4 k h0 hk)]

/-! ### plain texts -/
theorem plain_first (s : List UInt8) (low top : Int) : plainB (32 :: s) low top = false := by
  unfold plainB
  simp [List.getD]
theorem plain_last (s : List UInt8) (low top : Int) : plainB (s ++ [32]) low top = false := by
  unfold plainB
  simp [List.getD]
theorem plain_below (s r : List UInt8) (low top : Int) : plainB (s ++ (10 :: r)) low top = false := by
  unfold plainB lowest
  simp
theorem plain_low {s : List UInt8} (h : plainB s 0 300 = true) (n : Nat) : plainB s 0 n = decide (runesN s ≤ n) ∧ plainB s n 300 = decide (n ≤ runesN s) := by
  unfold plainB at h ⊢
  simp only [Bool.and_eq_true] at h
  obtain ⟨h1, h2, h3, h4, h5⟩ := h
  rw [h1, h2, h3, h4, h5]
  constructor
  · simp only [Bool.true_and, Bool.and_true, decide_eq_decide]
    omega
  · simp only [Bool.true_and, Bool.and_true, decide_eq_decide]
    omega
theorem runes_app {a b : List UInt8} (ha : utf8B a = true) (hb : utf8B b = true) : utf8B (a ++ b) = true ∧ runesN (a ++ b) = runesN a + runesN b := by
  unfold utf8B at *
  unfold runesN
  obtain ⟨x, hx⟩ := Option.isSome_iff_exists.1 ha
  obtain ⟨y, hy⟩ := Option.isSome_iff_exists.1 hb
  rw [cnt_app hx, hx, hy]
  simp
theorem plain_twice {s : List UInt8} (h : plainB s 0 300 = true) (hne : s ≠ []) : plainB (s ++ (32 :: s)) 0 700 = true := by
  unfold plainB at h ⊢
  simp only [Bool.and_eq_true, Bool.or_eq_true, decide_eq_true_eq] at h ⊢
  obtain ⟨h1, h2, h3, h4, h5⟩ := h
  have h32 : utf8B [32] = true := by decide
  have hr32 : runesN [32] = 1 := by decide
  obtain ⟨a1, a2⟩ := runes_app h32 h2
  obtain ⟨b1, b2⟩ := runes_app h2 a1
  rw [show ([32] ++ s : List UInt8) = 32 :: s from rfl] at a1 a2 b1 b2
  have hlen : 0 < s.length := by cases s; exact absurd rfl hne; simp
  refine ⟨?_, b1, by omega, by rw [b2, a2, hr32]; omega, .inr ⟨?_, ?_⟩⟩
  · unfold lowest at h1 ⊢
    rw [List.all_append, List.all_cons, h1]
    rfl
  · rcases h5 with h5 | ⟨h5, h6⟩
    · exact absurd h5 hne
    · rw [List.getD, List.getElem?_append_left hlen]
      exact h5
  · rcases h5 with h5 | ⟨h5, h6⟩
    · exact absurd h5 hne
    · rw [List.getD, List.length_append, List.length_cons, List.getElem?_append_right (by omega), show s.length + (s.length + 1) - 1 - s.length = (s.length - 1) + 1 from by omega, List.getElem?_cons_succ]
      exact h6
end Go.Proofs.YthkbdbgmfolpeaaGreatDoor
