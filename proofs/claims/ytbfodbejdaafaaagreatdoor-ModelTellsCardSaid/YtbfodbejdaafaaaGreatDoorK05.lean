/- The texts SimTime, SimTime2, SimMath2, joined. -/
import Derived.Test.YtbfodbejdaafaaaGreatDoorK03
import Derived.Test.YtbfodbejdaafaaaGreatDoorK04
/- Package simple's times: contracts of its calls. -/
namespace Go.Proofs.YtbfodbejdaafaaaGreatDoor
open Go.RowKit
set_option maxHeartbeats 400000
set_option linter.unusedVariables false

theorem s_leaps_any (y : Nat) (w : World) : Calls Tryz.prog 165 #[.int .u64 (y : Int)] w fun e w' => e = .returned (.bool (leapB y)) ∧ w = w' := by
  have h4 : ((y : Int) % 400 == 0) = decide (y % 400 = 0) := by rw [Bool.eq_iff_iff]; simp; omega
  have h5 : ((y : Int) % 4 == 0) = decide (y % 4 = 0) := by rw [Bool.eq_iff_iff]; simp; omega
  have H4 := Lib.hid h4; have H5 := Lib.hid h5
  clear h4 h5
  unfold leapB
  by_cases hc : y % 100 = 0
  · rw [if_pos hc]
    have h1 : (y : Int) % 100 = 0 := by omega
    go_enter Tryz.func165, Tryz.ntmps165
    go_wp2
    go_ret
    exact ⟨ret_bool H4.out, rfl⟩
  · rw [if_neg hc]
    have h1 : ¬ (y : Int) % 100 = 0 := by omega
    go_enter Tryz.func165, Tryz.ntmps165
    go_wp2
    go_ret
    exact ⟨ret_bool H5.out, rfl⟩
theorem s_days_any (y m : Nat) (w : World) : Calls Tryz.prog 154 #[.int .u64 (y : Int), .int .u64 (m : Int)] w fun e w' => e = .returned (.int .u64 (daysN y m : Int)) ∧ w = w' := by
  cases hl : leapB y with
  | true =>
    have hf : daysN y m = if m = 4 ∨ m = 6 ∨ m = 9 ∨ m = 11 then 30 else if m = 2 then 29 else 31 := by unfold daysN; rw [hl]; rfl
    have HF := Lib.hid hf; have HL := Lib.hid hl
    clear hf hl
    go_enter Tryz.func154, Tryz.ntmps154
    go_wp2_with (go_at_call 165; refine (s_leaps_any _ _).mono ?_; rw [HL.out]; rintro e w' ⟨rfl, rfl⟩)
    all_goals
      go_ret
      refine ⟨?_, rfl⟩
      rw [HF.out]
      repeat' split
      all_goals (first | rfl | (exfalso; simp_all; done) | (exfalso; simp at *; omega))
  | false =>
    have hf : daysN y m = if m = 4 ∨ m = 6 ∨ m = 9 ∨ m = 11 then 30 else if m = 2 then 28 else 31 := by unfold daysN; rw [hl]; rfl
    have HF := Lib.hid hf; have HL := Lib.hid hl
    clear hf hl
    go_enter Tryz.func154, Tryz.ntmps154
    go_wp2_with (go_at_call 165; refine (s_leaps_any _ _).mono ?_; rw [HL.out]; rintro e w' ⟨rfl, rfl⟩)
    all_goals
      go_ret
      refine ⟨?_, rfl⟩
      rw [HF.out]
      repeat' split
      all_goals (first | rfl | (exfalso; simp_all; done) | (exfalso; simp at *; omega))
theorem s_dated_any (y m d : Nat) (w : World) : Calls Tryz.prog 150 #[.int .u64 (y : Int), .int .u64 (m : Int), .int .u64 (d : Int)] w fun e w' => e = .returned (.bool (datedB y m d)) ∧ w = w' := by
  obtain ⟨D, hD⟩ : ∃ D, daysN y m = D := ⟨_, rfl⟩
  unfold datedB
  rw [hD]
  have HD := Lib.hid hD
  clear hD
  go_enter Tryz.func150, Tryz.ntmps150
  go_wp2_with (go_at_call 154; refine (s_days_any _ _ _).mono ?_; rw [HD.out]; rintro e w' ⟨rfl, rfl⟩)
  all_goals
    go_ret
    refine ⟨ret_bool ?_, rfl⟩
    first
      | (symm; exact decide_eq_false (by omega))
      | (symm; exact decide_eq_true (by omega))
      | (rw [Bool.eq_iff_iff]; simp; omega)
/-- the number of digits that are there -/
theorem s_part_any (s : ByteArray) (l : List UInt8) (hl : s.data.toList = l) (hd : l.all isD = true) (h1 : 1 ≤ l.length) (h2 : l.length ≤ 18) (w : World) :
    Calls Tryz.prog 149 #[.string s] w fun e w' => e = .returned (.int .u64 (numV l : Int)) ∧ w = w' := by
  have hs : s.size ≤ maxLen := by have := s_size s; rw [hl] at this; unfold maxLen; omega
  have hc := fun u => number_any s u hs
  obtain ⟨n1, n2⟩ := num_digits hd h1 h2
  rw [hl, n1, n2] at hc
  have HC := Lib.hid hc
  clear hc n1 n2 hl hd h1 h2 hs
  go_enter Tryz.func149, Tryz.ntmps149
  go_wp2_with (go_at_call 131; refine (HC.out _).mono ?_; rintro e w' ⟨rfl, rfl⟩)
  go_ret
  exact ⟨rfl, rfl⟩

theorem ext_cutN (s : ByteArray) (i j : Nat) : (s.extract i j).data.toList = cutN s.data.toList i j := by rw [s_ext]; rfl
theorem ext_cutN_end (s : ByteArray) (i j : Nat) (h : s.size = j) : (s.extract i s.size).data.toList = cutN s.data.toList i j := by rw [h]; exact ext_cutN s i j

set_option maxHeartbeats 1000000 in
theorem s_time_any (s : ByteArray) (w : World) (hs : s.size ≤ maxLen) :
    Calls Tryz.prog 142 #[.string s] w fun e w' => e = .returned (.bool (timeB s.data.toList)) ∧ Dr w w' := by
  have hr := fun u => right_any s 14 14 u hs
  unfold timeB
  cases hb : rightB s.data.toList 14 14 with
  | false =>
    rw [hb] at hr
    have HR := Lib.hid hr
    clear hr hb
    go_enter Tryz.func142, Tryz.ntmps142
    go_wp2_with (go_at_call 112; refine (HR.out _).mono ?_; rintro e w' ⟨rfl, rfl⟩)
    go_ret
    exact ⟨rfl, Dr.refl _⟩
  | true =>
    rw [hb] at hr
    obtain ⟨b1, b2, b3⟩ := rightB_len hb
    have hl := s_size s
    have hsz : s.size = 14 := by omega
    have hln : s.data.toList.length = 14 := by omega
    have part : ∀ i j, i < j → j ≤ 14 → ∀ u, Calls Tryz.prog 149 #[.string (s.extract i j)] u fun e w' => e = .returned (.int .u64 (prt s.data.toList i j : Int)) ∧ u = w' := fun i j h1 h2 u =>
      s_part_any _ _ (ext_cutN s i j) (cutN_all b3 i j) (by rw [cutN_len _ _ _ (by omega)]; omega) (by rw [cutN_len _ _ _ (by omega)]; omega) u
    have p0 := part 0 4 (by omega) (by omega)
    have p1 := part 4 6 (by omega) (by omega)
    have p2 := part 6 8 (by omega) (by omega)
    have p3 := part 8 10 (by omega) (by omega)
    have p4 := part 10 12 (by omega) (by omega)
    have p5 := part 12 14 (by omega) (by omega)
    rw [show s.extract 12 14 = s.extract 12 s.size from by rw [hsz]] at p5
    obtain ⟨X0, x0⟩ : ∃ X, s.extract 0 4 = X := ⟨_, rfl⟩
    obtain ⟨X1, x1⟩ : ∃ X, s.extract 4 6 = X := ⟨_, rfl⟩
    obtain ⟨X2, x2⟩ : ∃ X, s.extract 6 8 = X := ⟨_, rfl⟩
    obtain ⟨X3, x3⟩ : ∃ X, s.extract 8 10 = X := ⟨_, rfl⟩
    obtain ⟨X4, x4⟩ : ∃ X, s.extract 10 12 = X := ⟨_, rfl⟩
    obtain ⟨X5, x5⟩ : ∃ X, s.extract 12 s.size = X := ⟨_, rfl⟩
    rw [x0] at p0
    rw [x1] at p1
    rw [x2] at p2
    rw [x3] at p3
    rw [x4] at p4
    rw [x5] at p5
    generalize prt s.data.toList 0 4 = Y at p0 ⊢
    generalize prt s.data.toList 4 6 = M at p1 ⊢
    generalize prt s.data.toList 6 8 = D at p2 ⊢
    generalize prt s.data.toList 8 10 = H at p3 ⊢
    generalize prt s.data.toList 10 12 = N at p4 ⊢
    generalize prt s.data.toList 12 14 = C at p5 ⊢
    have hdt := fun u => s_dated_any Y M D u
    have hg : (4 : Int) ≤ (s.size : Int) := by omega
    have hg2 : (6 : Int) ≤ (s.size : Int) := by omega
    have hg3 : (8 : Int) ≤ (s.size : Int) := by omega
    have hg4 : (10 : Int) ≤ (s.size : Int) := by omega
    have hg5 : (12 : Int) ≤ (s.size : Int) := by omega
    have HSZ := Lib.hid hsz
    have P0 := Lib.hid p0; have P1 := Lib.hid p1; have P2 := Lib.hid p2; have P3 := Lib.hid p3; have P4 := Lib.hid p4; have P5 := Lib.hid p5; have HR := Lib.hid hr
    clear p0 p1 p2 p3 p4 p5 hr part hb b1 b2 b3 hl hln hsz hs
    cases hd : datedB Y M D with
    | _ =>
      rw [hd] at hdt
      have HDT := Lib.hid hdt
      clear hdt
      have HD := Lib.hid hd
      clear hd
      go_enter Tryz.func142, Tryz.ntmps142
      go_wp2_with (go_at_call 112; refine (HR.out _).mono ?_; rintro e w' ⟨rfl, rfl⟩)
      go_quiet ((go_at_call 149; first | with_reducible exact quiet_same (P0.out _) | with_reducible exact quiet_same (P1.out _) | with_reducible exact quiet_same (P2.out _)))
      have hd1 : Dr w (w.drewN nq) := (Dr.refl w).drewN nq
      generalize w.drewN nq = w1 at hd1 ⊢
      go_wp2
      go_quiet ((go_at_call 149; first | with_reducible exact quiet_same (P3.out _) | with_reducible exact quiet_same (P4.out _) | with_reducible exact quiet_same (P5.out _)))
      go_wp2_with (go_at_call 150; refine (HDT.out _).mono ?_; rintro e w' ⟨rfl, rfl⟩)
      all_goals
        go_ret
        refine ⟨ret_bool ?_, hd1.drewN _⟩
        unfold timeP
        rw [HD.out, Bool.eq_iff_iff]
        simp
        try omega
end Go.Proofs.YtbfodbejdaafaaaGreatDoor
/- Package simple's times as text, and back: contracts of its calls. -/
namespace Go.Proofs.YtbfodbejdaafaaaGreatDoor
open Go.RowKit
set_option linter.unusedVariables false

set_option maxHeartbeats 1000000 in
theorem s_timetext_any (s : ByteArray) (w : World) (hs : s.size ≤ maxLen) :
    Calls Tryz.prog 129 #[.string s] w fun e w' => ∃ T : ByteArray, e = .returned (.tuple #[.string T, .int .i64 (timeTextE s.data.toList)]) ∧ T.data.toList = timeTextR s.data.toList ∧ Dr w w' := by
  have ht := fun u => s_time_any s u hs
  unfold timeTextE timeTextR
  cases hb : timeB s.data.toList with
  | false =>
    rw [hb] at ht
    have HT := Lib.hid ht
    clear ht hb
    go_enter Tryz.func129, Tryz.ntmps129
    go_wp2_with (go_at_call 142; refine (HT.out _).mono ?_; rintro e w' ⟨rfl, hd⟩)
    go_ret2
    exact ⟨_, rfl, rfl, hd⟩
  | true =>
    rw [hb] at ht
    have hb2 := hb
    unfold timeB at hb2
    rw [Bool.and_eq_true] at hb2
    obtain ⟨b1, b2, b3⟩ := rightB_len hb2.1
    have hl := s_size s
    have hsz : s.size = 14 := by omega
    have c0 := ext_cutN s 0 4
    have c1 := ext_cutN s 4 6
    have c2 := ext_cutN s 6 8
    have c3 := ext_cutN s 8 10
    have c4 := ext_cutN s 10 12
    have c5 := ext_cutN_end s 12 14 hsz
    obtain ⟨X0, x0⟩ : ∃ X, s.extract 0 4 = X := ⟨_, rfl⟩
    obtain ⟨X1, x1⟩ : ∃ X, s.extract 4 6 = X := ⟨_, rfl⟩
    obtain ⟨X2, x2⟩ : ∃ X, s.extract 6 8 = X := ⟨_, rfl⟩
    obtain ⟨X3, x3⟩ : ∃ X, s.extract 8 10 = X := ⟨_, rfl⟩
    obtain ⟨X4, x4⟩ : ∃ X, s.extract 10 12 = X := ⟨_, rfl⟩
    obtain ⟨X5, x5⟩ : ∃ X, s.extract 12 s.size = X := ⟨_, rfl⟩
    have hg : (4 : Int) ≤ (s.size : Int) := by omega
    have hg2 : (6 : Int) ≤ (s.size : Int) := by omega
    have hg3 : (8 : Int) ≤ (s.size : Int) := by omega
    have hg4 : (10 : Int) ≤ (s.size : Int) := by omega
    have hg5 : (12 : Int) ≤ (s.size : Int) := by omega
    have hz0 : X0.size ≤ 14 := by rw [← x0, ByteArray.size_extract]; omega
    have hz1 : X1.size ≤ 14 := by rw [← x1, ByteArray.size_extract]; omega
    have hz2 : X2.size ≤ 14 := by rw [← x2, ByteArray.size_extract]; omega
    have hz3 : X3.size ≤ 14 := by rw [← x3, ByteArray.size_extract]; omega
    have hz4 : X4.size ≤ 14 := by rw [← x4, ByteArray.size_extract]; omega
    have hz5 : X5.size ≤ 14 := by rw [← x5, ByteArray.size_extract]; omega
    rw [x0] at c0
    rw [x1] at c1
    rw [x2] at c2
    rw [x3] at c3
    rw [x4] at c4
    rw [x5] at c5
    have hsh : (X0 ++ ({ data := #[45] } : ByteArray) ++ X1 ++ ({ data := #[45] } : ByteArray) ++ X2 ++ ({ data := #[84] } : ByteArray) ++ X3 ++ ({ data := #[58] } : ByteArray) ++ X4 ++ ({ data := #[58] } : ByteArray) ++ X5).data.toList = shownL s.data.toList := by
      rw [s_app, s_app, s_app, s_app, s_app, s_app, s_app, s_app, s_app, s_app, c0, c1, c2, c3, c4, c5]
      rfl
    have HSH := Lib.hid hsh
    have HT := Lib.hid ht
    clear ht hb hb2 b1 b2 b3 hl hsz hs c0 c1 c2 c3 c4 c5 hsh
    go_enter Tryz.func129, Tryz.ntmps129
    go_wp2_with (go_at_call 142; refine (HT.out _).mono ?_; rintro e w' ⟨rfl, hd⟩)
    go_quiet (fail)
    go_wp2
    go_ret2
    exact ⟨_, rfl, HSH.out, hd.drewN _⟩

set_option maxHeartbeats 1000000 in
theorem s_timeof_any (s : ByteArray) (w : World) (hs : s.size ≤ maxLen) :
    Calls Tryz.prog 114 #[.string s] w fun e w' => ∃ T : ByteArray, e = .returned (.tuple #[.string T, .int .i64 (timeOfE s.data.toList)]) ∧ T.data.toList = timeOfR s.data.toList ∧ Dr w w' := by
  have hl := s_size s
  unfold timeOfE timeOfR
  by_cases hsz : s.size = 19
  · have c0 := ext_cutN s 0 4
    have c1 := ext_cutN s 5 7
    have c2 := ext_cutN s 8 10
    have c3 := ext_cutN s 11 13
    have c4 := ext_cutN s 14 16
    have c5 := ext_cutN_end s 17 19 hsz
    obtain ⟨X0, x0⟩ : ∃ X, s.extract 0 4 = X := ⟨_, rfl⟩
    obtain ⟨X1, x1⟩ : ∃ X, s.extract 5 7 = X := ⟨_, rfl⟩
    obtain ⟨X2, x2⟩ : ∃ X, s.extract 8 10 = X := ⟨_, rfl⟩
    obtain ⟨X3, x3⟩ : ∃ X, s.extract 11 13 = X := ⟨_, rfl⟩
    obtain ⟨X4, x4⟩ : ∃ X, s.extract 14 16 = X := ⟨_, rfl⟩
    obtain ⟨X5, x5⟩ : ∃ X, s.extract 17 s.size = X := ⟨_, rfl⟩
    have hg : (4 : Int) ≤ (s.size : Int) := by omega
    have hg2 : (7 : Int) ≤ (s.size : Int) := by omega
    have hg3 : (10 : Int) ≤ (s.size : Int) := by omega
    have hg4 : (13 : Int) ≤ (s.size : Int) := by omega
    have hg5 : (16 : Int) ≤ (s.size : Int) := by omega
    have hg6 : (17 : Int) ≤ (s.size : Int) := by omega
    have hz0 : X0.size ≤ 4 := by rw [← x0, ByteArray.size_extract]; omega
    have hz1 : X1.size ≤ 4 := by rw [← x1, ByteArray.size_extract]; omega
    have hz2 : X2.size ≤ 4 := by rw [← x2, ByteArray.size_extract]; omega
    have hz3 : X3.size ≤ 4 := by rw [← x3, ByteArray.size_extract]; omega
    have hz4 : X4.size ≤ 4 := by rw [← x4, ByteArray.size_extract]; omega
    have hz5 : X5.size ≤ 4 := by rw [← x5, ByteArray.size_extract]; omega
    rw [x0] at c0
    rw [x1] at c1
    rw [x2] at c2
    rw [x3] at c3
    rw [x4] at c4
    rw [x5] at c5
    have hT1 : (X0 ++ X1 ++ X2 ++ X3 ++ X4 ++ X5).data.toList = hidL s.data.toList := by
      rw [s_app, s_app, s_app, s_app, s_app, c0, c1, c2, c3, c4, c5]
      rfl
    have hT2 : (X0 ++ X1 ++ X2 ++ X3 ++ X4 ++ X5).size ≤ maxLen := by
      have := s_size (X0 ++ X1 ++ X2 ++ X3 ++ X4 ++ X5)
      simp only [ByteArray.size_append] at *
      unfold maxLen
      omega
    obtain ⟨T, hT⟩ : ∃ T, X0 ++ X1 ++ X2 ++ X3 ++ X4 ++ X5 = T := ⟨_, rfl⟩
    rw [hT] at hT1 hT2
    have htt := fun u => s_timetext_any T u hT2
    rw [hT1] at htt
    have hlen : s.data.toList.length = 19 := by omega
    have hne : ¬ ((s.size : Int) != 19) = true := by simp; omega
    have hnb : ((s.size : Int) != 19) = false := by simpa using hne
    have hrc : (19 : Int) = (s.size : Int) := by omega
    have HT := Lib.hid hT; have HT1 := Lib.hid hT1; have HLEN := Lib.hid hlen; have HSZ := Lib.hid hsz; have HRC := Lib.hid hrc
    unfold timeTextE timeTextR at htt
    cases hb : timeB (hidL s.data.toList) with
    | false =>
      have hto : timeOfB s.data.toList = false := by unfold timeOfB; rw [hb]; simp
      rw [hb] at htt
      have HTT := Lib.hid htt
      rw [hto]
      clear htt hto hb hT hT1 hlen hl c0 c1 c2 c3 c4 c5 hT2 hsz hne hs hrc
      go_enter Tryz.func114, Tryz.ntmps114
      go_wp2
      go_quiet (fail)
      rw [HT.out]
      go_wp2_with (go_at_call 129; refine (HTT.out _).mono ?_; rintro e w' ⟨T2, rfl, hT2, hd⟩)
      go_ret2
      exact ⟨_, rfl, rfl, ((Dr.refl _).drewN _).trans hd⟩
    | true =>
      rw [hb] at htt
      have hto : (shownL (hidL s.data.toList) == s.data.toList) = timeOfB s.data.toList := by
        unfold timeOfB
        rw [hb, decide_eq_true hlen, Bool.true_and, Bool.true_and, Bool.eq_iff_iff, beq_iff_eq, decide_eq_true_iff]
      have HTT := Lib.hid htt
      cases ho : timeOfB s.data.toList with
      | _ =>
        rw [ho] at hto
        have HTO := Lib.hid hto
        clear htt hto ho hb hT hT1 hlen hl c0 c1 c2 c3 c4 c5 hT2 hsz hne hs hrc
        go_enter Tryz.func114, Tryz.ntmps114
        go_wp2
        go_quiet (fail)
        rw [HT.out]
        go_wp2_with (go_at_call 129; refine (HTT.out _).mono ?_; rintro e w' ⟨T2, rfl, hT2, hd⟩; (have hT2 : T2.data.toList = shownL (hidL s.data.toList) := hT2); (have hq := s_beq T2 s); rw [hT2, HTO.out] at hq; clear hT2)
        go_ret2
        first
          | exact ⟨T, rfl, HT1.out, ((Dr.refl _).drewN _).trans hd⟩
          | exact ⟨_, rfl, rfl, ((Dr.refl _).drewN _).trans hd⟩
  · have hto : timeOfB s.data.toList = false := by unfold timeOfB; rw [decide_eq_false (by omega)]; rfl
    rw [hto]
    have hne : ¬ (s.size : Int) = 19 := by omega
    clear hto hl hsz hs
    go_enter Tryz.func114, Tryz.ntmps114
    go_wp2
    go_ret2
    exact ⟨_, rfl, rfl, Dr.refl _⟩
end Go.Proofs.YtbfodbejdaafaaaGreatDoor
/- Amounts: three ways to be none, or one; numbers fit: no program. -/
namespace Go.Proofs.YtbfodbejdaafaaaGreatDoor
set_option linter.unusedVariables false

/-- three ways -/
theorem amt_cases {l ab : List UInt8} (h1 : amtB l = true → numE ab = 0 ∧ numR ab = amtV l ∧ amtR (amtV l) = l ∧ amtE (amtV l) = 0)
    (h2 : numE ab = 0 → amtE (numR ab) = 0 → amtR (numR ab) = l → amtB l = true) :
    (numE ab = 5 ∧ amtB l = false) ∨ (numE ab = 0 ∧ amtE (numR ab) = 4 ∧ amtB l = false) ∨ (numE ab = 0 ∧ amtE (numR ab) = 0 ∧ (amtR (numR ab) == l) = amtB l ∧ (amtB l = true → numR ab = amtV l)) := by
  have e1 : numE ab = 0 ∨ numE ab = 5 := by unfold numE; split <;> simp
  have e2 : amtE (numR ab) = 0 ∨ amtE (numR ab) = 4 := by unfold amtE; split <;> simp
  cases hb : amtB l with
  | true =>
    obtain ⟨a1, a2, a3, a4⟩ := h1 hb
    refine .inr (.inr ⟨a1, by rw [a2]; exact a4, by rw [a2, a3]; simp, fun _ => a2⟩)
  | false =>
    rcases e1 with e1 | e1
    · rcases e2 with e2 | e2
      · refine .inr (.inr ⟨e1, e2, ?_, fun h => by cases h⟩)
        rw [beq_eq_false_iff_ne]
        intro h
        have := h2 e1 e2 h
        rw [hb] at this
        cases this
      · exact .inr (.inl ⟨e1, e2, rfl⟩)
    · exact .inl ⟨e1, rfl⟩
theorem numR_lt (l : List UInt8) : numR l < 18446744073709551616 := by
  unfold numR
  split
  · rename_i h
    obtain ⟨h1, h2, h3⟩ := rightB_len h
    have h4 := numV_le h3
    have h5 : 10 ^ l.length ≤ 10 ^ 18 := Nat.pow_le_pow_right (by decide) (by omega)
    have h6 : (10 : Nat) ^ 18 = 1000000000000000000 := by decide
    omega
  · omega
end Go.Proofs.YtbfodbejdaafaaaGreatDoor
