/- The texts RefTime2, RefAmt, joined. -/
import Derived.Test.YtbfodbejdaafaaaGreatDoorK30
import Derived.Test.YtbfodbejdaafaaaGreatDoorK05
import Derived.Test.YtbfodbejdaafaaaGreatDoorK04
/- The statements' own times as text, and back: contracts of their calls. -/
namespace Go.Proofs.YtbfodbejdaafaaaGreatDoor
open Go.RowKit
set_option linter.unusedVariables false

set_option maxHeartbeats 1000000 in
theorem r_timetext (s : ByteArray) (w : World) (hs : s.size ≤ maxLen) :
    Calls Tryz.prog 71 #[.string s] w fun e w' => ∃ T : ByteArray, e = .returned (.tuple #[.string T, .int .i64 (timeTextE s.data.toList)]) ∧ T.data.toList = timeTextR s.data.toList ∧ Dr w w' := by
  have ht := fun u => r_time s u hs
  unfold timeTextE timeTextR
  cases hb : timeB s.data.toList with
  | false =>
    rw [hb] at ht
    have HT := Lib.hid ht
    clear ht hb
    go_enter Tryz.func71, Tryz.ntmps71
    go_wp2_with (go_at_call 89; refine (HT.out _).mono ?_; rintro e w' ⟨rfl, hd⟩)
    go_ret2
    exact ⟨_, rfl, rfl, hd⟩
  | true =>
    rw [hb] at ht
    have hb2 := hb
    unfold timeB at hb2
    rw [Bool.and_eq_true] at hb2
    obtain ⟨b1, b2, b3⟩ := rightB_len hb2.1
    have hl := s_size s
    have hsz : s.size = 14 := by omega
    have c0 := ext_cutN s 0 4
    have c1 := ext_cutN s 4 6
    have c2 := ext_cutN s 6 8
    have c3 := ext_cutN s 8 10
    have c4 := ext_cutN s 10 12
    have c5 := ext_cutN_end s 12 14 hsz
    obtain ⟨X0, x0⟩ : ∃ X, s.extract 0 4 = X := ⟨_, rfl⟩
    obtain ⟨X1, x1⟩ : ∃ X, s.extract 4 6 = X := ⟨_, rfl⟩
    obtain ⟨X2, x2⟩ : ∃ X, s.extract 6 8 = X := ⟨_, rfl⟩
    obtain ⟨X3, x3⟩ : ∃ X, s.extract 8 10 = X := ⟨_, rfl⟩
    obtain ⟨X4, x4⟩ : ∃ X, s.extract 10 12 = X := ⟨_, rfl⟩
    obtain ⟨X5, x5⟩ : ∃ X, s.extract 12 s.size = X := ⟨_, rfl⟩
    have hg : (4 : Int) ≤ (s.size : Int) := by omega
    have hg2 : (6 : Int) ≤ (s.size : Int) := by omega
    have hg3 : (8 : Int) ≤ (s.size : Int) := by omega
    have hg4 : (10 : Int) ≤ (s.size : Int) := by omega
    have hg5 : (12 : Int) ≤ (s.size : Int) := by omega
    have hz0 : X0.size ≤ 14 := by rw [← x0, ByteArray.size_extract]; omega
    have hz1 : X1.size ≤ 14 := by rw [← x1, ByteArray.size_extract]; omega
    have hz2 : X2.size ≤ 14 := by rw [← x2, ByteArray.size_extract]; omega
    have hz3 : X3.size ≤ 14 := by rw [← x3, ByteArray.size_extract]; omega
    have hz4 : X4.size ≤ 14 := by rw [← x4, ByteArray.size_extract]; omega
    have hz5 : X5.size ≤ 14 := by rw [← x5, ByteArray.size_extract]; omega
    rw [x0] at c0
    rw [x1] at c1
    rw [x2] at c2
    rw [x3] at c3
    rw [x4] at c4
    rw [x5] at c5
    have hsh : (X0 ++ ({ data := #[45] } : ByteArray) ++ X1 ++ ({ data := #[45] } : ByteArray) ++ X2 ++ ({ data := #[84] } : ByteArray) ++ X3 ++ ({ data := #[58] } : ByteArray) ++ X4 ++ ({ data := #[58] } : ByteArray) ++ X5).data.toList = shownL s.data.toList := by
      rw [s_app, s_app, s_app, s_app, s_app, s_app, s_app, s_app, s_app, s_app, c0, c1, c2, c3, c4, c5]
      rfl
    have HSH := Lib.hid hsh
    have HT := Lib.hid ht
    clear ht hb hb2 b1 b2 b3 hl hsz hs c0 c1 c2 c3 c4 c5 hsh
    go_enter Tryz.func71, Tryz.ntmps71
    go_wp2_with (go_at_call 89; refine (HT.out _).mono ?_; rintro e w' ⟨rfl, hd⟩)
    go_quiet (fail)
    go_wp2
    go_ret2
    exact ⟨_, rfl, HSH.out, hd.drewN _⟩

set_option maxHeartbeats 1000000 in
theorem r_timeof (s : ByteArray) (w : World) (hs : s.size ≤ maxLen) :
    Calls Tryz.prog 48 #[.string s] w fun e w' => ∃ T : ByteArray, e = .returned (.tuple #[.string T, .int .i64 (timeOfE s.data.toList)]) ∧ T.data.toList = timeOfR s.data.toList ∧ Dr w w' := by
  have hl := s_size s
  unfold timeOfE timeOfR
  by_cases hsz : s.size = 19
  · have c0 := ext_cutN s 0 4
    have c1 := ext_cutN s 5 7
    have c2 := ext_cutN s 8 10
    have c3 := ext_cutN s 11 13
    have c4 := ext_cutN s 14 16
    have c5 := ext_cutN_end s 17 19 hsz
    obtain ⟨X0, x0⟩ : ∃ X, s.extract 0 4 = X := ⟨_, rfl⟩
    obtain ⟨X1, x1⟩ : ∃ X, s.extract 5 7 = X := ⟨_, rfl⟩
    obtain ⟨X2, x2⟩ : ∃ X, s.extract 8 10 = X := ⟨_, rfl⟩
    obtain ⟨X3, x3⟩ : ∃ X, s.extract 11 13 = X := ⟨_, rfl⟩
    obtain ⟨X4, x4⟩ : ∃ X, s.extract 14 16 = X := ⟨_, rfl⟩
    obtain ⟨X5, x5⟩ : ∃ X, s.extract 17 s.size = X := ⟨_, rfl⟩
    have hg : (4 : Int) ≤ (s.size : Int) := by omega
    have hg2 : (7 : Int) ≤ (s.size : Int) := by omega
    have hg3 : (10 : Int) ≤ (s.size : Int) := by omega
    have hg4 : (13 : Int) ≤ (s.size : Int) := by omega
    have hg5 : (16 : Int) ≤ (s.size : Int) := by omega
    have hg6 : (17 : Int) ≤ (s.size : Int) := by omega
    have hz0 : X0.size ≤ 4 := by rw [← x0, ByteArray.size_extract]; omega
    have hz1 : X1.size ≤ 4 := by rw [← x1, ByteArray.size_extract]; omega
    have hz2 : X2.size ≤ 4 := by rw [← x2, ByteArray.size_extract]; omega
    have hz3 : X3.size ≤ 4 := by rw [← x3, ByteArray.size_extract]; omega
    have hz4 : X4.size ≤ 4 := by rw [← x4, ByteArray.size_extract]; omega
    have hz5 : X5.size ≤ 4 := by rw [← x5, ByteArray.size_extract]; omega
    rw [x0] at c0
    rw [x1] at c1
    rw [x2] at c2
    rw [x3] at c3
    rw [x4] at c4
    rw [x5] at c5
    have hT1 : (X0 ++ X1 ++ X2 ++ X3 ++ X4 ++ X5).data.toList = hidL s.data.toList := by
      rw [s_app, s_app, s_app, s_app, s_app, c0, c1, c2, c3, c4, c5]
      rfl
    have hT2 : (X0 ++ X1 ++ X2 ++ X3 ++ X4 ++ X5).size ≤ maxLen := by
      have := s_size (X0 ++ X1 ++ X2 ++ X3 ++ X4 ++ X5)
      simp only [ByteArray.size_append] at *
      unfold maxLen
      omega
    obtain ⟨T, hT⟩ : ∃ T, X0 ++ X1 ++ X2 ++ X3 ++ X4 ++ X5 = T := ⟨_, rfl⟩
    rw [hT] at hT1 hT2
    have htt := fun u => r_timetext T u hT2
    rw [hT1] at htt
    have hlen : s.data.toList.length = 19 := by omega
    have hne : ¬ ((s.size : Int) != 19) = true := by simp; omega
    have hnb : ((s.size : Int) != 19) = false := by simpa using hne
    have hrc : (19 : Int) = (s.size : Int) := by omega
    have HT := Lib.hid hT; have HT1 := Lib.hid hT1; have HLEN := Lib.hid hlen; have HSZ := Lib.hid hsz; have HRC := Lib.hid hrc
    unfold timeTextE timeTextR at htt
    cases hb : timeB (hidL s.data.toList) with
    | false =>
      have hto : timeOfB s.data.toList = false := by unfold timeOfB; rw [hb]; simp
      rw [hb] at htt
      have HTT := Lib.hid htt
      rw [hto]
      clear htt hto hb hT hT1 hlen hl c0 c1 c2 c3 c4 c5 hT2 hsz hne hs hrc
      go_enter Tryz.func48, Tryz.ntmps48
      go_wp2
      go_quiet (fail)
      rw [HT.out]
      go_wp2_with (go_at_call 71; refine (HTT.out _).mono ?_; rintro e w' ⟨T2, rfl, hT2, hd⟩)
      go_ret2
      exact ⟨_, rfl, rfl, ((Dr.refl _).drewN _).trans hd⟩
    | true =>
      rw [hb] at htt
      have hto : (shownL (hidL s.data.toList) == s.data.toList) = timeOfB s.data.toList := by
        unfold timeOfB
        rw [hb, decide_eq_true hlen, Bool.true_and, Bool.true_and, Bool.eq_iff_iff, beq_iff_eq, decide_eq_true_iff]
      have HTT := Lib.hid htt
      cases ho : timeOfB s.data.toList with
      | _ =>
        rw [ho] at hto
        have HTO := Lib.hid hto
        clear htt hto ho hb hT hT1 hlen hl c0 c1 c2 c3 c4 c5 hT2 hsz hne hs hrc
        go_enter Tryz.func48, Tryz.ntmps48
        go_wp2
        go_quiet (fail)
        rw [HT.out]
        go_wp2_with (go_at_call 71; refine (HTT.out _).mono ?_; rintro e w' ⟨T2, rfl, hT2, hd⟩; (have hT2 : T2.data.toList = shownL (hidL s.data.toList) := hT2); (have hq := s_beq T2 s); rw [hT2, HTO.out] at hq; clear hT2)
        go_ret2
        first
          | exact ⟨T, rfl, HT1.out, ((Dr.refl _).drewN _).trans hd⟩
          | exact ⟨_, rfl, rfl, ((Dr.refl _).drewN _).trans hd⟩
  · have hto : timeOfB s.data.toList = false := by unfold timeOfB; rw [decide_eq_false (by omega)]; rfl
    rw [hto]
    have hne : ¬ (s.size : Int) = 19 := by omega
    clear hto hl hsz hs
    go_enter Tryz.func48, Tryz.ntmps48
    go_wp2
    go_ret2
    exact ⟨_, rfl, rfl, Dr.refl _⟩
end Go.Proofs.YtbfodbejdaafaaaGreatDoor
/- The statements' own amounts, capitals: contracts of their calls. -/
namespace Go.Proofs.YtbfodbejdaafaaaGreatDoor
open Go.RowKit
set_option maxHeartbeats 1000000
set_option linter.unusedVariables false

theorem r_amttext (v : Nat) (w : World) (hv : v < 18446744073709551616) :
    Calls Tryz.prog 73 #[.int .u64 (v : Int)] w fun e w' => ∃ T : ByteArray, e = .returned (.tuple #[.string T, .int .i64 (amtE v)]) ∧ T.data.toList = amtR v ∧ Fr No w w' := by
  unfold amtE amtR
  by_cases hm : v ≤ 999999999999
  · rw [if_pos hm, if_pos hm]
    obtain ⟨q, hq⟩ : ∃ q, v / 100 = q := ⟨_, rfl⟩
    obtain ⟨r, hr⟩ : ∃ r, v % 100 = r := ⟨_, rfl⟩
    obtain ⟨t1, t2⟩ := two_wide r (by omega)
    have htx := fun u => ref_digits r 2 u (by omega)
    rw [t1, t2] at htx
    have hfm := fun u => digits_any q u (by omega)
    have hamt : (bstr (Lib.decDigits q) ++ ({ data := #[46] } : ByteArray) ++ bstr (twoL r)).data.toList = amtL v := by
      rw [s_app, s_app, bstr_data, bstr_data]
      unfold amtL
      rw [hq, hr]
    have hz1 : (bstr (Lib.decDigits q)).size ≤ 20 := by rw [bstr_size]; exact decDigits_len q (by omega)
    have hz2 : (bstr (twoL r)).size ≤ 2 := by rw [bstr_size]; exact Nat.le_refl 2
    generalize bstr (Lib.decDigits q) = Q at hfm hamt hz1
    generalize bstr (twoL r) = R at htx hamt hz2
    have e1 : (v : Int).tmod 100 = (r : Int) := by rw [Int.tmod_eq_emod_of_nonneg (by omega)]; omega
    have e2 : (v : Int) % 100 = (r : Int) := by omega
    have e3 : (v : Int) / 100 = (q : Int) := by omega
    have e4 : IntKind.u64.wrap ((v : Int).tdiv 100) = (q : Int) := by rw [IntWalk.u64_quo _ _ (by omega)]; omega
    have e6 : IntKind.u64.wrap ((v : Int) / 100) = (q : Int) := by rw [IntWalk.u64_in _ (by omega)]; omega
    have hi : (v : Int) ≤ 999999999999 := by omega
    have HX := Lib.hid htx; have HF := Lib.hid hfm; have HA := Lib.hid hamt; have HV := Lib.hid hv
    clear htx hfm hamt hq hr t1 t2 hm hv
    go_enter Tryz.func73, Tryz.ntmps73
    go_wp2_with (first
      | (go_at_call 90; refine (HX.out _).mono ?_; rintro e w1 ⟨rfl, hf1⟩)
      | (go_at_call 91; refine (HF.out _).mono ?_; rintro e w2 ⟨rfl, hf2⟩))
    go_ret2
    exact ⟨_, rfl, HA.out, hf1.trans hf2⟩
  · rw [if_neg hm, if_neg hm]
    have hi : ¬ (v : Int) ≤ 999999999999 := by omega
    clear hm
    go_enter Tryz.func73, Tryz.ntmps73
    go_wp2
    go_ret2
    exact ⟨_, rfl, rfl, Fr.refl _ _⟩

theorem r_amtof (s : ByteArray) (w : World) (hs : s.size ≤ 140737488355328) :
    Calls Tryz.prog 49 #[.string s] w fun e w' => e = .returned (.tuple #[.int .u64 (amtOfR s.data.toList : Int), .int .i64 (amtOfE s.data.toList)]) ∧ Fr No w w' := by
  have hl := s_size s
  by_cases hn : s.size < 4 ∨ 13 < s.size
  · have hb : amtB s.data.toList = false := by
      rw [← Bool.not_eq_true]
      intro h
      have := amt_len h
      omega
    unfold amtOfR amtOfE
    rw [hb]
    have hns : ¬ (1 ≤ (s.size : Int) - 3 ∧ (s.size : Int) - 3 ≤ 10) := by omega
    have hns3 : (s.size : Int) - 3 < 1 ∨ 10 < (s.size : Int) - 3 := by omega
    rcases hns3 with h3 | h3
    · clear hb hl hn hns
      go_enter Tryz.func49, Tryz.ntmps49
      go_wp2
      go_ret2
      exact ⟨rfl, Fr.refl _ _⟩
    · clear hb hl hn hns
      go_enter Tryz.func49, Tryz.ntmps49
      go_wp2
      go_ret2
      exact ⟨rfl, Fr.refl _ _⟩
  obtain ⟨n, hnn⟩ : ∃ n, n = s.size - 3 := ⟨_, rfl⟩
  have hsn : s.size = n + 3 := by omega
  obtain ⟨m1, m2⟩ := amt_ref s.data.toList (by omega)
  rw [hl, hsn, Nat.add_sub_cancel] at m1 m2
  have hcs := amt_cases m1 (fun _ => m2)
  have hx := s_ext s 0 n
  have hy : (s.extract (n + 1) s.size).data.toList = s.data.toList.drop (n + 1) := by
    rw [s_ext]
    exact List.take_of_length_le (by rw [List.length_drop]; omega)
  obtain ⟨X, hX⟩ : ∃ X, s.extract 0 n = X := ⟨_, rfl⟩
  obtain ⟨Y, hY⟩ : ∃ Y, s.extract (n + 1) s.size = Y := ⟨_, rfl⟩
  rw [hX] at hx
  rw [hY] at hy
  have hz1 : X.size ≤ 13 := by rw [← hX, ByteArray.size_extract]; omega
  have hz2 : Y.size ≤ 13 := by rw [← hY, ByteArray.size_extract]; omega
  obtain ⟨A, hA⟩ : ∃ A, X ++ Y = A := ⟨_, rfl⟩
  have hA1 : A.data.toList = s.data.toList.take n ++ s.data.toList.drop (n + 1) := by
    rw [← hA, s_app, hx, hy]
    simp
  have hnum := fun u => ref_number A u (by have := congrArg ByteArray.size hA; rw [ByteArray.size_append] at this; unfold maxLen; omega)
  rw [hA1] at hnum
  have hlt := numR_lt (s.data.toList.take n ++ s.data.toList.drop (n + 1))
  generalize s.data.toList.take n ++ s.data.toList.drop (n + 1) = ab at hcs hnum hlt hA1
  obtain ⟨P, hP⟩ : ∃ P, numR ab = P := ⟨_, rfl⟩
  obtain ⟨E, hE⟩ : ∃ E, numE ab = E := ⟨_, rfl⟩
  rw [hP, hE] at hcs hnum
  rw [hP] at hlt
  have htx := fun u => r_amttext P u hlt
  have f0 : ¬ (s.size : Int) - 3 < 1 := by omega
  have f1 : ¬ 10 < (s.size : Int) - 3 := by omega
  have f2 : ((s.size : Int) - 3).toNat = n := by omega
  have f3 : ((s.size : Int) - 3 + 1).toNat = n + 1 := by omega
  have f4 : (0 : Int) ≤ (s.size : Int) - 3 := by omega
  have f5 : (s.size : Int) - 3 + 1 ≤ (s.size : Int) := by omega
  have f6 : (s.size : Int) - 3 ≤ (s.size : Int) := by omega
  have f7 : (0 : Int) ≤ (s.size : Int) - 3 + 1 := by omega
  have f8 : (s.size : Int) ≤ 13 := by omega
  have f9 : (4 : Int) ≤ (s.size : Int) := by omega
  have HN := Lib.hid hnum
  have HSA := Lib.hid hA
  clear hnum hlt hP hE m1 m2 hl hn hnn hsn hx hy hA1 hA
  unfold amtOfR amtOfE
  rcases hcs with ⟨rfl, hb⟩ | ⟨rfl, he, hb⟩ | ⟨rfl, he, hq, hv⟩
  · rw [hb]
    have HX := Lib.hid htx
    clear hb htx
    go_enter Tryz.func49, Tryz.ntmps49
    go_wp2
    go_quiet ((go_at_call 72; rw [HSA.out]; exact quiet_same (HN.out _)))
    go_wp2_with (go_at_call 73; refine (HX.out _).mono ?_; rintro e w2 ⟨T, rfl, hT2, hf2⟩; clear hT2)
    go_ret2
    exact ⟨rfl, ((Fr.refl _ _).drewN _).trans hf2⟩
  · rw [hb]
    rw [he] at htx
    have HX := Lib.hid htx
    clear hb he htx
    go_enter Tryz.func49, Tryz.ntmps49
    go_wp2
    go_quiet ((go_at_call 72; rw [HSA.out]; exact quiet_same (HN.out _)))
    go_wp2_with (go_at_call 73; refine (HX.out _).mono ?_; rintro e w2 ⟨T, rfl, hT2, hf2⟩; clear hT2)
    go_ret2
    exact ⟨rfl, ((Fr.refl _ _).drewN _).trans hf2⟩
  · rw [he] at htx
    have HX := Lib.hid htx
    have HQ := Lib.hid hq
    clear he htx hq
    cases hb : amtB s.data.toList with
    | true =>
      have hv2 := hv hb
      rw [hb] at HQ
      rw [← hv2]
      clear hb hv hv2
      go_enter Tryz.func49, Tryz.ntmps49
      go_wp2
      go_quiet ((go_at_call 72; rw [HSA.out]; exact quiet_same (HN.out _)))
      go_wp2_with (go_at_call 73; refine (HX.out _).mono ?_; rintro e w2 ⟨T, rfl, hT2, hf2⟩; (have hq := s_beq T s); rw [hT2, HQ.out] at hq; clear hT2)
      go_ret2
      exact ⟨rfl, ((Fr.refl _ _).drewN _).trans hf2⟩
    | false =>
      rw [hb] at HQ
      clear hb hv
      go_enter Tryz.func49, Tryz.ntmps49
      go_wp2
      go_quiet ((go_at_call 72; rw [HSA.out]; exact quiet_same (HN.out _)))
      go_wp2_with (go_at_call 73; refine (HX.out _).mono ?_; rintro e w2 ⟨T, rfl, hT2, hf2⟩; (have hq := s_beq T s); rw [hT2, HQ.out] at hq; clear hT2)
      go_ret2
      exact ⟨rfl, ((Fr.refl _ _).drewN _).trans hf2⟩

theorem cap_step (s : ByteArray) (k : Nat) (h : k < s.size) : (s.data.toList.take (k + 1)).all capC = ((s.data.toList.take k).all capC && capC s[k]) := by
  rw [take_snoc s k h, List.all_append]
  simp
theorem r_capitals (s : ByteArray) (w : World) (hs : s.size ≤ 140737488355328) :
    Calls Tryz.prog 47 #[.string s, .int .i64 4] w fun e w' => e = .returned (.bool (codeB s.data.toList)) ∧ w = w' := by
  have hl := s_size s
  generalize hcb : codeB s.data.toList = cb
  unfold codeB at hcb
  rw [hl] at hcb
  have HL := Lib.hid hl
  have HCB := Lib.hid hcb
  clear hl hcb
  go_enter Tryz.func47, Tryz.ntmps47
  go_wp2
  go_loop [5] (fun i => ∃ k : Nat, k ≤ s.size ∧ i = .int .i64 (k : Int) ∧ (s.data.toList.take k).all capC = true) (fun i => s.size - (intOf i).toNat)
  case atStart => exact ⟨0, Nat.zero_le _, rfl, by simp⟩
  case round =>
    obtain ⟨k, hk, rfl, hall⟩ := hrel
    have HA := Lib.hid hall
    clear hall
    by_cases hlt : k < s.size
    · have hst := cap_step s k hlt
      rw [HA.out, Bool.true_and] at hst
      cases hc : capC s[k] with
      | true =>
        rw [hc] at hst
        have HS := Lib.hid hst
        unfold capC at hc
        simp only [Bool.and_eq_true, decide_eq_true_eq] at hc
        have hc1 : ¬ (s[k].toNat : Int) < 65 := by omega
        have hc2 : ¬ (90 : Int) < (s[k].toNat : Int) := by omega
        clear hst hc
        go_wp2
        go_round
        case rel => exact ⟨k + 1, by omega, by go_num, HS.out⟩
        case measure => simp [intOf]; omega
      | false =>
        have hno : s.data.toList.all capC = false := by
          rw [← Bool.not_eq_true]
          intro h
          have := List.all_eq_true.1 h s[k] (by rw [at_data s k hlt]; exact List.getElem_mem _)
          rw [hc] at this
          cases this
        have HNO := Lib.hid hno
        unfold capC at hc
        simp only [Bool.and_eq_false_iff, decide_eq_false_iff_not] at hc
        have hc1 : (s[k].toNat : Int) < 65 ∨ ¬ (s[k].toNat : Int) < 65 ∧ (90 : Int) < (s[k].toNat : Int) := by omega
        clear hst hc hno
        rcases hc1 with h1 | ⟨h1, h2⟩
        · go_wp2
          go_ret
          exact ⟨ret_bool (by rw [← HCB.out, HNO.out, Bool.and_false]), rfl⟩
        · go_wp2
          go_ret
          exact ⟨ret_bool (by rw [← HCB.out, HNO.out, Bool.and_false]), rfl⟩
    · obtain rfl : k = s.size := by omega
      have hall : s.data.toList.all capC = true := by
        have := HA.out
        rwa [List.take_of_length_le (by rw [HL.out]; exact Nat.le_refl _)] at this
      have HALL := Lib.hid hall
      clear hall
      go_wp2
      go_ret
      refine ⟨ret_bool ?_, rfl⟩
      rw [← HCB.out, HALL.out, Bool.and_true]
      rw [Bool.eq_iff_iff]
      simp
      try omega
end Go.Proofs.YtbfodbejdaafaaaGreatDoor
