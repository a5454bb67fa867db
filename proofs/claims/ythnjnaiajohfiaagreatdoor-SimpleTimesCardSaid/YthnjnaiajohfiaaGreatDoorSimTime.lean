/- Package simple's times: contracts of its calls. -/
import Derived.Test.YthnjnaiajohfiaaGreatDoorSimMath
import Derived.Test.YthnjnaiajohfiaaGreatDoorDig2
import Derived.Test.YthnjnaiajohfiaaGreatDoorStr
namespace Go.Proofs.YthnjnaiajohfiaaGreatDoor
open Go.RowKit
set_option maxHeartbeats 400000
set_option linter.unusedVariables false

theorem s_leaps_any (y : Nat) (w : World) : Calls Tryz.prog 68 #[.int .u64 (y : Int)] w fun e w' => e = .returned (.bool (leapB y)) ∧ w = w' := by
  have h4 : ((y : Int) % 400 == 0) = decide (y % 400 = 0) := by rw [Bool.eq_iff_iff]; simp; omega
  have h5 : ((y : Int) % 4 == 0) = decide (y % 4 = 0) := by rw [Bool.eq_iff_iff]; simp; omega
  have H4 := Lib.hid h4; have H5 := Lib.hid h5
  clear h4 h5
  unfold leapB
  by_cases hc : y % 100 = 0
  · rw [if_pos hc]
    have h1 : (y : Int) % 100 = 0 := by omega
    go_enter Tryz.func68, Tryz.ntmps68
    go_wp2
    go_ret
    exact ⟨ret_bool H4.out, rfl⟩
  · rw [if_neg hc]
    have h1 : ¬ (y : Int) % 100 = 0 := by omega
    go_enter Tryz.func68, Tryz.ntmps68
    go_wp2
    go_ret
    exact ⟨ret_bool H5.out, rfl⟩
theorem s_days_any (y m : Nat) (w : World) : Calls Tryz.prog 46 #[.int .u64 (y : Int), .int .u64 (m : Int)] w fun e w' => e = .returned (.int .u64 (daysN y m : Int)) ∧ w = w' := by
  cases hl : leapB y with
  | true =>
    have hf : daysN y m = if m = 4 ∨ m = 6 ∨ m = 9 ∨ m = 11 then 30 else if m = 2 then 29 else 31 := by unfold daysN; rw [hl]; rfl
    have HF := Lib.hid hf; have HL := Lib.hid hl
    clear hf hl
    go_enter Tryz.func46, Tryz.ntmps46
    go_wp2_with (go_at_call 68; refine (s_leaps_any _ _).mono ?_; rw [HL.out]; rintro e w' ⟨rfl, rfl⟩)
    all_goals
      go_ret
      refine ⟨?_, rfl⟩
      rw [HF.out]
      repeat' split
      all_goals (first | rfl | (exfalso; simp_all; done) | (exfalso; simp at *; omega))
  | false =>
    have hf : daysN y m = if m = 4 ∨ m = 6 ∨ m = 9 ∨ m = 11 then 30 else if m = 2 then 28 else 31 := by unfold daysN; rw [hl]; rfl
    have HF := Lib.hid hf; have HL := Lib.hid hl
    clear hf hl
    go_enter Tryz.func46, Tryz.ntmps46
    go_wp2_with (go_at_call 68; refine (s_leaps_any _ _).mono ?_; rw [HL.out]; rintro e w' ⟨rfl, rfl⟩)
    all_goals
      go_ret
      refine ⟨?_, rfl⟩
      rw [HF.out]
      repeat' split
      all_goals (first | rfl | (exfalso; simp_all; done) | (exfalso; simp at *; omega))
theorem s_dated_any (y m d : Nat) (w : World) : Calls Tryz.prog 31 #[.int .u64 (y : Int), .int .u64 (m : Int), .int .u64 (d : Int)] w fun e w' => e = .returned (.bool (datedB y m d)) ∧ w = w' := by
  obtain ⟨D, hD⟩ : ∃ D, daysN y m = D := ⟨_, rfl⟩
  unfold datedB
  rw [hD]
  have HD := Lib.hid hD
  clear hD
  go_enter Tryz.func31, Tryz.ntmps31
  go_wp2_with (go_at_call 46; refine (s_days_any _ _ _).mono ?_; rw [HD.out]; rintro e w' ⟨rfl, rfl⟩)
  all_goals
    go_ret
    refine ⟨ret_bool ?_, rfl⟩
    first
      | (symm; exact decide_eq_false (by omega))
      | (symm; exact decide_eq_true (by omega))
      | (rw [Bool.eq_iff_iff]; simp; omega)
/-- the number of digits that are there -/
theorem s_part_any (s : ByteArray) (l : List UInt8) (hl : s.data.toList = l) (hd : l.all isD = true) (h1 : 1 ≤ l.length) (h2 : l.length ≤ 18) (w : World) :
    Calls Tryz.prog 30 #[.string s] w fun e w' => e = .returned (.int .u64 (numV l : Int)) ∧ w = w' := by
  have hs : s.size ≤ maxLen := by have := s_size s; rw [hl] at this; unfold maxLen; omega
  have hc := fun u => number_any s u hs
  obtain ⟨n1, n2⟩ := num_digits hd h1 h2
  rw [hl, n1, n2] at hc
  have HC := Lib.hid hc
  clear hc n1 n2 hl hd h1 h2 hs
  go_enter Tryz.func30, Tryz.ntmps30
  go_wp2_with (go_at_call 25; refine (HC.out _).mono ?_; rintro e w' ⟨rfl, rfl⟩)
  go_ret
  exact ⟨rfl, rfl⟩

theorem ext_cutN (s : ByteArray) (i j : Nat) : (s.extract i j).data.toList = cutN s.data.toList i j := by rw [s_ext]; rfl
theorem ext_cutN_end (s : ByteArray) (i j : Nat) (h : s.size = j) : (s.extract i s.size).data.toList = cutN s.data.toList i j := by rw [h]; exact ext_cutN s i j

set_option maxHeartbeats 1000000 in
theorem s_time_any (s : ByteArray) (w : World) (hs : s.size ≤ maxLen) :
    Calls Tryz.prog 16 #[.string s] w fun e w' => e = .returned (.bool (timeB s.data.toList)) ∧ Dr w w' := by
  have hr := fun u => right_any s 14 14 u hs
  unfold timeB
  cases hb : rightB s.data.toList 14 14 with
  | false =>
    rw [hb] at hr
    have HR := Lib.hid hr
    clear hr hb
    go_enter Tryz.func16, Tryz.ntmps16
    go_wp2_with (go_at_call 29; refine (HR.out _).mono ?_; rintro e w' ⟨rfl, rfl⟩)
    go_ret
    exact ⟨rfl, Dr.refl _⟩
  | true =>
    rw [hb] at hr
    obtain ⟨b1, b2, b3⟩ := rightB_len hb
    have hl := s_size s
    have hsz : s.size = 14 := by omega
    have hln : s.data.toList.length = 14 := by omega
    have part : ∀ i j, i < j → j ≤ 14 → ∀ u, Calls Tryz.prog 30 #[.string (s.extract i j)] u fun e w' => e = .returned (.int .u64 (prt s.data.toList i j : Int)) ∧ u = w' := fun i j h1 h2 u =>
      s_part_any _ _ (ext_cutN s i j) (cutN_all b3 i j) (by rw [cutN_len _ _ _ (by omega)]; omega) (by rw [cutN_len _ _ _ (by omega)]; omega) u
    have p0 := part 0 4 (by omega) (by omega)
    have p1 := part 4 6 (by omega) (by omega)
    have p2 := part 6 8 (by omega) (by omega)
    have p3 := part 8 10 (by omega) (by omega)
    have p4 := part 10 12 (by omega) (by omega)
    have p5 := part 12 14 (by omega) (by omega)
    rw [show s.extract 12 14 = s.extract 12 s.size from by rw [hsz]] at p5
    obtain ⟨X0, x0⟩ : ∃ X, s.extract 0 4 = X := ⟨_, rfl⟩
    obtain ⟨X1, x1⟩ : ∃ X, s.extract 4 6 = X := ⟨_, rfl⟩
    obtain ⟨X2, x2⟩ : ∃ X, s.extract 6 8 = X := ⟨_, rfl⟩
    obtain ⟨X3, x3⟩ : ∃ X, s.extract 8 10 = X := ⟨_, rfl⟩
    obtain ⟨X4, x4⟩ : ∃ X, s.extract 10 12 = X := ⟨_, rfl⟩
    obtain ⟨X5, x5⟩ : ∃ X, s.extract 12 s.size = X := ⟨_, rfl⟩
    rw [x0] at p0
    rw [x1] at p1
    rw [x2] at p2
    rw [x3] at p3
    rw [x4] at p4
    rw [x5] at p5
    generalize prt s.data.toList 0 4 = Y at p0 ⊢
    generalize prt s.data.toList 4 6 = M at p1 ⊢
    generalize prt s.data.toList 6 8 = D at p2 ⊢
    generalize prt s.data.toList 8 10 = H at p3 ⊢
    generalize prt s.data.toList 10 12 = N at p4 ⊢
    generalize prt s.data.toList 12 14 = C at p5 ⊢
    have hdt := fun u => s_dated_any Y M D u
    have hg : (4 : Int) ≤ (s.size : Int) := by omega
    have hg2 : (6 : Int) ≤ (s.size : Int) := by omega
    have hg3 : (8 : Int) ≤ (s.size : Int) := by omega
    have hg4 : (10 : Int) ≤ (s.size : Int) := by omega
    have hg5 : (12 : Int) ≤ (s.size : Int) := by omega
    have HSZ := Lib.hid hsz
    have P0 := Lib.hid p0; have P1 := Lib.hid p1; have P2 := Lib.hid p2; have P3 := Lib.hid p3; have P4 := Lib.hid p4; have P5 := Lib.hid p5; have HR := Lib.hid hr
    clear p0 p1 p2 p3 p4 p5 hr part hb b1 b2 b3 hl hln hsz hs
    cases hd : datedB Y M D with
    | _ =>
      rw [hd] at hdt
      have HDT := Lib.hid hdt
      clear hdt
      have HD := Lib.hid hd
      clear hd
      go_enter Tryz.func16, Tryz.ntmps16
      go_wp2_with (go_at_call 29; refine (HR.out _).mono ?_; rintro e w' ⟨rfl, rfl⟩)
      go_quiet ((go_at_call 30; first | with_reducible exact quiet_same (P0.out _) | with_reducible exact quiet_same (P1.out _) | with_reducible exact quiet_same (P2.out _)))
      have hd1 : Dr w (w.drewN nq) := (Dr.refl w).drewN nq
      generalize w.drewN nq = w1 at hd1 ⊢
      go_wp2
      go_quiet ((go_at_call 30; first | with_reducible exact quiet_same (P3.out _) | with_reducible exact quiet_same (P4.out _) | with_reducible exact quiet_same (P5.out _)))
      go_wp2_with (go_at_call 31; refine (HDT.out _).mono ?_; rintro e w' ⟨rfl, rfl⟩)
      all_goals
        go_ret
        refine ⟨ret_bool ?_, hd1.drewN _⟩
        unfold timeP
        rw [HD.out, Bool.eq_iff_iff]
        simp
        try omega
end Go.Proofs.YthnjnaiajohfiaaGreatDoor
