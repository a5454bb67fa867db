/- The statements' own times: contracts of their calls. -/
import Derived.Test.YtdfehdjpbmkaoaaDoorSimTime
import Derived.Test.YtdfehdjpbmkaoaaDoorRefDig
namespace Go.Proofs.YtdfehdjpbmkaoaaDoor
open Go.RowKit
set_option maxHeartbeats 1000000
set_option linter.unusedVariables false

theorem leap_ref (y : Nat) : leapB y = (decide (y % 4 = 0) && (decide (y % 100 ≠ 0) || decide (y % 400 = 0))) := by
  unfold leapB
  split <;> rw [Bool.eq_iff_iff] <;> simp <;> omega
theorem r_days (y m : Nat) (w : World) : Calls Tryd.prog 51 #[.int .i64 (y : Int), .int .i64 (m : Int)] w fun e w' => e = .returned (.int .i64 (daysN y m : Int)) ∧ w = w' := by
  cases hl : leapB y with
  | true =>
    have hf : daysN y m = if m = 4 ∨ m = 6 ∨ m = 9 ∨ m = 11 then 30 else if m = 2 then 29 else 31 := by unfold daysN; rw [hl]; rfl
    rw [leap_ref] at hl
    simp only [Bool.and_eq_true, Bool.or_eq_true, decide_eq_true_eq] at hl
    have HF := Lib.hid hf; have HL := Lib.hid hl
    clear hf hl
    go_enter Tryd.func51, Tryd.ntmps51
    go_wp2
    all_goals
      go_ret
      refine ⟨?_, rfl⟩
      rw [HF.out]
      have hl := HL.out
      repeat' split
      all_goals (first | rfl | (exfalso; simp_all; done) | (exfalso; simp at *; omega))
  | false =>
    have hf : daysN y m = if m = 4 ∨ m = 6 ∨ m = 9 ∨ m = 11 then 30 else if m = 2 then 28 else 31 := by unfold daysN; rw [hl]; rfl
    rw [leap_ref] at hl
    simp only [Bool.and_eq_false_iff, Bool.or_eq_false_iff, decide_eq_false_iff_not] at hl
    have HF := Lib.hid hf; have HL := Lib.hid hl
    clear hf hl
    go_enter Tryd.func51, Tryd.ntmps51
    go_wp2
    all_goals
      go_ret
      refine ⟨?_, rfl⟩
      rw [HF.out]
      have hl := HL.out
      repeat' split
      all_goals (first | rfl | (exfalso; simp_all; done) | (exfalso; simp at *; omega))
theorem r_part (s : ByteArray) (i j : Nat) (hd : s.data.toList.all isD = true) (h1 : i < j) (h2 : j ≤ s.size) (h3 : j - i ≤ 4) (w : World) :
    Calls Tryd.prog 50 #[.string s, .int .i64 (i : Int), .int .i64 (j : Int)] w fun e w' => e = .returned (.int .i64 (prt s.data.toList i j : Int)) ∧ w = w' := by
  have hsl := s_size s
  obtain ⟨X, hX⟩ : ∃ X, s.extract i j = X := ⟨_, rfl⟩
  have hx := ext_cutN s i j
  rw [hX] at hx
  have hln := cutN_len s.data.toList i j (by omega)
  have hxs : X.size ≤ maxLen := by have := s_size X; rw [hx] at this; unfold maxLen; omega
  have hc := fun u => ref_number X u hxs
  obtain ⟨n1, n2⟩ := num_digits (cutN_all hd i j) (by omega) (by omega)
  rw [hx, n1, n2] at hc
  have hlt := prt_lt hd i j (by omega) h3
  have e0 : numV (cutN s.data.toList i j) = prt s.data.toList i j := rfl
  rw [e0] at hc
  generalize prt s.data.toList i j = V at hc hlt ⊢
  have hg1 : (i : Int) ≤ (j : Int) := by omega
  have hg2 : (j : Int) ≤ (s.size : Int) := by omega
  have HC := Lib.hid hc
  clear hc n1 n2 hd hx hln hxs hsl e0 h3
  go_enter Tryd.func50, Tryd.ntmps50
  go_wp2_with (go_at_call 68; refine (HC.out _).mono ?_; rintro e w' ⟨rfl, rfl⟩)
  go_ret
  exact ⟨rfl, rfl⟩

set_option maxHeartbeats 4000000 in
theorem r_time (s : ByteArray) (w : World) (hs : s.size ≤ maxLen) :
    Calls Tryd.prog 37 #[.string s] w fun e w' => e = .returned (.bool (timeB s.data.toList)) ∧ Dr w w' := by
  have hr := fun u => ref_right s 14 14 u hs
  unfold timeB
  cases hb : rightB s.data.toList 14 14 with
  | false =>
    rw [hb] at hr
    have HR := Lib.hid hr
    clear hr hb
    go_enter Tryd.func37, Tryd.ntmps37
    go_wp2_with (go_at_call 49; refine (HR.out _).mono ?_; rintro e w' ⟨rfl, rfl⟩)
    go_ret
    exact ⟨rfl, Dr.refl _⟩
  | true =>
    rw [hb] at hr
    obtain ⟨b1, b2, b3⟩ := rightB_len hb
    have hl := s_size s
    have hsz : s.size = 14 := by omega
    have p0 := fun u => r_part s 0 4 b3 (by omega) (by omega) (by omega) u
    have p1 := fun u => r_part s 4 6 b3 (by omega) (by omega) (by omega) u
    have p2 := fun u => r_part s 6 8 b3 (by omega) (by omega) (by omega) u
    have p3 := fun u => r_part s 8 10 b3 (by omega) (by omega) (by omega) u
    have p4 := fun u => r_part s 10 12 b3 (by omega) (by omega) (by omega) u
    have p5 := fun u => r_part s 12 14 b3 (by omega) (by omega) (by omega) u
    simp only [Int.cast_ofNat_Int] at p0 p1 p2 p3 p4 p5
    generalize prt s.data.toList 0 4 = Y at p0 ⊢
    generalize prt s.data.toList 4 6 = M at p1 ⊢
    generalize prt s.data.toList 6 8 = D at p2 ⊢
    generalize prt s.data.toList 8 10 = H at p3 ⊢
    generalize prt s.data.toList 10 12 = N at p4 ⊢
    generalize prt s.data.toList 12 14 = C at p5 ⊢
    have hdn := fun u => r_days Y M u
    unfold timeP datedB
    generalize daysN Y M = DN at hdn ⊢
    have P0 := Lib.hid p0; have P1 := Lib.hid p1; have P2 := Lib.hid p2; have P3 := Lib.hid p3; have P4 := Lib.hid p4; have P5 := Lib.hid p5; have HR := Lib.hid hr; have HDN := Lib.hid hdn
    clear p0 p1 p2 p3 p4 p5 hr hb b1 b2 b3 hl hsz hs hdn
    go_enter Tryd.func37, Tryd.ntmps37
    go_wp2_with (first
      | (go_at_call 49; refine (HR.out _).mono ?_; rintro e w' ⟨rfl, rfl⟩)
      | (go_at_call 51; refine (HDN.out _).mono ?_; rintro e w' ⟨rfl, rfl⟩)
      | (go_at_call 50; (with_reducible refine (P0.out _).mono ?_); rintro e w' ⟨rfl, rfl⟩)
      | (go_at_call 50; (with_reducible refine (P1.out _).mono ?_); rintro e w' ⟨rfl, rfl⟩)
      | (go_at_call 50; (with_reducible refine (P2.out _).mono ?_); rintro e w' ⟨rfl, rfl⟩)
      | (go_at_call 50; (with_reducible refine (P3.out _).mono ?_); rintro e w' ⟨rfl, rfl⟩)
      | (go_at_call 50; (with_reducible refine (P4.out _).mono ?_); rintro e w' ⟨rfl, rfl⟩)
      | (go_at_call 50; (with_reducible refine (P5.out _).mono ?_); rintro e w' ⟨rfl, rfl⟩))
    all_goals
      go_ret
      refine ⟨ret_bool ?_, Dr.refl _⟩
      rw [Bool.eq_iff_iff]
      simp
      try omega
end Go.Proofs.YtdfehdjpbmkaoaaDoor
