/- Package simple's times as text, and back: contracts of its calls. -/
import Derived.Test.YthnjnaiajohfiaaGreatDoorSimTime
namespace Go.Proofs.YthnjnaiajohfiaaGreatDoor
open Go.RowKit
set_option linter.unusedVariables false

set_option maxHeartbeats 1000000 in
theorem s_timetext_any (s : ByteArray) (w : World) (hs : s.size ≤ maxLen) :
    Calls Tryz.prog 8 #[.string s] w fun e w' => ∃ T : ByteArray, e = .returned (.tuple #[.string T, .int .i64 (timeTextE s.data.toList)]) ∧ T.data.toList = timeTextR s.data.toList ∧ Dr w w' := by
  have ht := fun u => s_time_any s u hs
  unfold timeTextE timeTextR
  cases hb : timeB s.data.toList with
  | false =>
    rw [hb] at ht
    have HT := Lib.hid ht
    clear ht hb
    go_enter Tryz.func8, Tryz.ntmps8
    go_wp2_with (go_at_call 16; refine (HT.out _).mono ?_; rintro e w' ⟨rfl, hd⟩)
    go_ret2
    exact ⟨_, rfl, rfl, hd⟩
  | true =>
    rw [hb] at ht
    have hb2 := hb
    unfold timeB at hb2
    rw [Bool.and_eq_true] at hb2
    obtain ⟨b1, b2, b3⟩ := rightB_len hb2.1
    have hl := s_size s
    have hsz : s.size = 14 := by omega
    have c0 := ext_cutN s 0 4
    have c1 := ext_cutN s 4 6
    have c2 := ext_cutN s 6 8
    have c3 := ext_cutN s 8 10
    have c4 := ext_cutN s 10 12
    have c5 := ext_cutN_end s 12 14 hsz
    obtain ⟨X0, x0⟩ : ∃ X, s.extract 0 4 = X := ⟨_, rfl⟩
    obtain ⟨X1, x1⟩ : ∃ X, s.extract 4 6 = X := ⟨_, rfl⟩
    obtain ⟨X2, x2⟩ : ∃ X, s.extract 6 8 = X := ⟨_, rfl⟩
    obtain ⟨X3, x3⟩ : ∃ X, s.extract 8 10 = X := ⟨_, rfl⟩
    obtain ⟨X4, x4⟩ : ∃ X, s.extract 10 12 = X := ⟨_, rfl⟩
    obtain ⟨X5, x5⟩ : ∃ X, s.extract 12 s.size = X := ⟨_, rfl⟩
    have hg : (4 : Int) ≤ (s.size : Int) := by omega
    have hg2 : (6 : Int) ≤ (s.size : Int) := by omega
    have hg3 : (8 : Int) ≤ (s.size : Int) := by omega
    have hg4 : (10 : Int) ≤ (s.size : Int) := by omega
    have hg5 : (12 : Int) ≤ (s.size : Int) := by omega
    have hz0 : X0.size ≤ 14 := by rw [← x0, ByteArray.size_extract]; omega
    have hz1 : X1.size ≤ 14 := by rw [← x1, ByteArray.size_extract]; omega
    have hz2 : X2.size ≤ 14 := by rw [← x2, ByteArray.size_extract]; omega
    have hz3 : X3.size ≤ 14 := by rw [← x3, ByteArray.size_extract]; omega
    have hz4 : X4.size ≤ 14 := by rw [← x4, ByteArray.size_extract]; omega
    have hz5 : X5.size ≤ 14 := by rw [← x5, ByteArray.size_extract]; omega
    rw [x0] at c0
    rw [x1] at c1
    rw [x2] at c2
    rw [x3] at c3
    rw [x4] at c4
    rw [x5] at c5
    have hsh : (X0 ++ ({ data := #[45] } : ByteArray) ++ X1 ++ ({ data := #[45] } : ByteArray) ++ X2 ++ ({ data := #[84] } : ByteArray) ++ X3 ++ ({ data := #[58] } : ByteArray) ++ X4 ++ ({ data := #[58] } : ByteArray) ++ X5).data.toList = shownL s.data.toList := by
      rw [s_app, s_app, s_app, s_app, s_app, s_app, s_app, s_app, s_app, s_app, c0, c1, c2, c3, c4, c5]
      rfl
    have HSH := Lib.hid hsh
    have HT := Lib.hid ht
    clear ht hb hb2 b1 b2 b3 hl hsz hs c0 c1 c2 c3 c4 c5 hsh
    go_enter Tryz.func8, Tryz.ntmps8
    go_wp2_with (go_at_call 16; refine (HT.out _).mono ?_; rintro e w' ⟨rfl, hd⟩)
    go_quiet (fail)
    go_wp2
    go_ret2
    exact ⟨_, rfl, HSH.out, hd.drewN _⟩

set_option maxHeartbeats 1000000 in
theorem s_timeof_any (s : ByteArray) (w : World) (hs : s.size ≤ maxLen) :
    Calls Tryz.prog 10 #[.string s] w fun e w' => ∃ T : ByteArray, e = .returned (.tuple #[.string T, .int .i64 (timeOfE s.data.toList)]) ∧ T.data.toList = timeOfR s.data.toList ∧ Dr w w' := by
  have hl := s_size s
  unfold timeOfE timeOfR
  by_cases hsz : s.size = 19
  · have c0 := ext_cutN s 0 4
    have c1 := ext_cutN s 5 7
    have c2 := ext_cutN s 8 10
    have c3 := ext_cutN s 11 13
    have c4 := ext_cutN s 14 16
    have c5 := ext_cutN_end s 17 19 hsz
    obtain ⟨X0, x0⟩ : ∃ X, s.extract 0 4 = X := ⟨_, rfl⟩
    obtain ⟨X1, x1⟩ : ∃ X, s.extract 5 7 = X := ⟨_, rfl⟩
    obtain ⟨X2, x2⟩ : ∃ X, s.extract 8 10 = X := ⟨_, rfl⟩
    obtain ⟨X3, x3⟩ : ∃ X, s.extract 11 13 = X := ⟨_, rfl⟩
    obtain ⟨X4, x4⟩ : ∃ X, s.extract 14 16 = X := ⟨_, rfl⟩
    obtain ⟨X5, x5⟩ : ∃ X, s.extract 17 s.size = X := ⟨_, rfl⟩
    have hg : (4 : Int) ≤ (s.size : Int) := by omega
    have hg2 : (7 : Int) ≤ (s.size : Int) := by omega
    have hg3 : (10 : Int) ≤ (s.size : Int) := by omega
    have hg4 : (13 : Int) ≤ (s.size : Int) := by omega
    have hg5 : (16 : Int) ≤ (s.size : Int) := by omega
    have hg6 : (17 : Int) ≤ (s.size : Int) := by omega
    have hz0 : X0.size ≤ 4 := by rw [← x0, ByteArray.size_extract]; omega
    have hz1 : X1.size ≤ 4 := by rw [← x1, ByteArray.size_extract]; omega
    have hz2 : X2.size ≤ 4 := by rw [← x2, ByteArray.size_extract]; omega
    have hz3 : X3.size ≤ 4 := by rw [← x3, ByteArray.size_extract]; omega
    have hz4 : X4.size ≤ 4 := by rw [← x4, ByteArray.size_extract]; omega
    have hz5 : X5.size ≤ 4 := by rw [← x5, ByteArray.size_extract]; omega
    rw [x0] at c0
    rw [x1] at c1
    rw [x2] at c2
    rw [x3] at c3
    rw [x4] at c4
    rw [x5] at c5
    have hT1 : (X0 ++ X1 ++ X2 ++ X3 ++ X4 ++ X5).data.toList = hidL s.data.toList := by
      rw [s_app, s_app, s_app, s_app, s_app, c0, c1, c2, c3, c4, c5]
      rfl
    have hT2 : (X0 ++ X1 ++ X2 ++ X3 ++ X4 ++ X5).size ≤ maxLen := by
      have := s_size (X0 ++ X1 ++ X2 ++ X3 ++ X4 ++ X5)
      simp only [ByteArray.size_append] at *
      unfold maxLen
      omega
    obtain ⟨T, hT⟩ : ∃ T, X0 ++ X1 ++ X2 ++ X3 ++ X4 ++ X5 = T := ⟨_, rfl⟩
    rw [hT] at hT1 hT2
    have htt := fun u => s_timetext_any T u hT2
    rw [hT1] at htt
    have hlen : s.data.toList.length = 19 := by omega
    have hne : ¬ ((s.size : Int) != 19) = true := by simp; omega
    have hnb : ((s.size : Int) != 19) = false := by simpa using hne
    have hrc : (19 : Int) = (s.size : Int) := by omega
    have HT := Lib.hid hT; have HT1 := Lib.hid hT1; have HLEN := Lib.hid hlen; have HSZ := Lib.hid hsz; have HRC := Lib.hid hrc
    unfold timeTextE timeTextR at htt
    cases hb : timeB (hidL s.data.toList) with
    | false =>
      have hto : timeOfB s.data.toList = false := by unfold timeOfB; rw [hb]; simp
      rw [hb] at htt
      have HTT := Lib.hid htt
      rw [hto]
      clear htt hto hb hT hT1 hlen hl c0 c1 c2 c3 c4 c5 hT2 hsz hne hs hrc
      go_enter Tryz.func10, Tryz.ntmps10
      go_wp2
      go_quiet (fail)
      rw [HT.out]
      go_wp2_with (go_at_call 8; refine (HTT.out _).mono ?_; rintro e w' ⟨T2, rfl, hT2, hd⟩)
      go_ret2
      exact ⟨_, rfl, rfl, ((Dr.refl _).drewN _).trans hd⟩
    | true =>
      rw [hb] at htt
      have hto : (shownL (hidL s.data.toList) == s.data.toList) = timeOfB s.data.toList := by
        unfold timeOfB
        rw [hb, decide_eq_true hlen, Bool.true_and, Bool.true_and, Bool.eq_iff_iff, beq_iff_eq, decide_eq_true_iff]
      have HTT := Lib.hid htt
      cases ho : timeOfB s.data.toList with
      | _ =>
        rw [ho] at hto
        have HTO := Lib.hid hto
        clear htt hto ho hb hT hT1 hlen hl c0 c1 c2 c3 c4 c5 hT2 hsz hne hs hrc
        go_enter Tryz.func10, Tryz.ntmps10
        go_wp2
        go_quiet (fail)
        rw [HT.out]
        go_wp2_with (go_at_call 8; refine (HTT.out _).mono ?_; rintro e w' ⟨T2, rfl, hT2, hd⟩; (have hT2 : T2.data.toList = shownL (hidL s.data.toList) := hT2); (have hq := s_beq T2 s); rw [hT2, HTO.out] at hq; clear hT2)
        go_ret2
        first
          | exact ⟨T, rfl, HT1.out, ((Dr.refl _).drewN _).trans hd⟩
          | exact ⟨_, rfl, rfl, ((Dr.refl _).drewN _).trans hd⟩
  · have hto : timeOfB s.data.toList = false := by unfold timeOfB; rw [decide_eq_false (by omega)]; rfl
    rw [hto]
    have hne : ¬ (s.size : Int) = 19 := by omega
    clear hto hl hsz hs
    go_enter Tryz.func10, Tryz.ntmps10
    go_wp2
    go_ret2
    exact ⟨_, rfl, rfl, Dr.refl _⟩
end Go.Proofs.YthnjnaiajohfiaaGreatDoor
