/- The statements' own messages: texts. -/
import Derived.Test.YtdfehdjpbmkaoaaDoorPlay1
namespace Go.Proofs.YtdfehdjpbmkaoaaDoor
open Go.RowKit
set_option maxHeartbeats 1000000
set_option linter.unusedVariables false

theorem split_last (l : List UInt8) (n : Nat) (h : l.length = n + 1) : l = l.take n ++ [l[n]] := by
  rw [← List.take_succ_eq_append_getElem (by omega), List.take_of_length_le (by omega)]
/-- what the tail of Text makes -/
def endL (R : List UInt8) : List UInt8 := if trimL R = [] then [120] else trimL R
set_option maxRecDepth 20000 in
theorem p_text (s : ByteArray) (top : Nat) (side : Int) (w : World) (hs : s.size ≤ 140737488355328) (ht : top ≤ 1000) :
    Calls Tryd.prog 23 #[.string s, .int .i64 (top : Int), .int .i64 side] w fun e w' => ∃ T : ByteArray, e = .returned (.string T) ∧ T.data.toList = txtL s.data.toList top side ∧ w = w' := by
  have hpl := fun u => ref_plain_any s 1 (top : Int) u hs
  obtain ⟨R, hR⟩ : ∃ R, pickF txtP top [] s.data.toList = R := ⟨_, rfl⟩
  have hRl : R.length ≤ top := by rw [← hR]; exact pickF_len _ _ (by simp)
  obtain ⟨F, hF⟩ : ∃ F, txtL s.data.toList top side = F := ⟨_, rfl⟩
  have hfin : F = if side = 0 ∧ plainB s.data.toList 1 top = true then s.data.toList else endL R := by rw [← hF]; unfold txtL txtL0 endL; rw [hR]
  rw [hF]
  generalize plainB s.data.toList 1 top = pb at hpl hfin
  have HPL := Lib.hid hpl; have HR := Lib.hid hR
  clear hpl hR hF hRl
  have hside : (side = 0 ∧ pb = true ∧ F = s.data.toList) ∨ ((side = 0 ∧ pb = false) ∧ F = endL R) ∨ ((side ≠ 0 ∧ 0 = 0) ∧ F = endL R) := by
    by_cases h : side = 0
    · cases hb : pb with
      | true => rw [if_pos ⟨h, hb⟩] at hfin; exact .inl ⟨h, rfl, hfin⟩
      | false => rw [if_neg (by rw [hb]; simp)] at hfin; exact .inr (.inl ⟨⟨h, rfl⟩, hfin⟩)
    · rw [if_neg (by simp [h])] at hfin; exact .inr (.inr ⟨⟨h, rfl⟩, hfin⟩)
  clear hfin
  go_enter Tryd.func23, Tryd.ntmps23
  rcases hside with ⟨rfl, rfl, hE⟩ | ⟨h0, hE⟩ | ⟨h0, hE⟩
  · have HE := Lib.hid hE
    clear hE
    go_wp2_with (go_at_call 39; refine (HPL.out _).mono ?_; rintro e w1 ⟨rfl, rfl⟩)
    go_ret
    exact ⟨_, rfl, HE.out.symm, rfl⟩
  all_goals
    have HE := Lib.hid hE
    clear hE
    first | obtain ⟨rfl, rfl⟩ := h0 | (have h0 := h0.1)
    go_wp2_with (go_at_call 39; refine (HPL.out _).mono ?_; rintro e w1 ⟨rfl, rfl⟩)
    clear HPL
    go_loop [7, 8] (fun ov v => ∃ (O : ByteArray) (i : Nat), i ≤ s.size ∧ ov = .string O ∧ v = .int .i64 (i : Int) ∧ O.size ≤ top ∧ pickF txtP top O.data.toList (s.data.toList.drop i) = R) (fun _ v => s.size - (intOf v).toNat)
    case atStart => exact ⟨⟨#[]⟩, 0, by omega, rfl, rfl, Nat.zero_le _, by rw [List.drop_zero]; exact HR.out⟩
    case round =>
      obtain ⟨O, i, hi, rfl, rfl, hO, hP⟩ := hrel
      have hout : (s.size ≤ i ∨ top ≤ O.size) → O.data.toList = R := by
        rintro (h | h)
        · rw [List.drop_eq_nil_of_le (by rw [s_size]; exact h)] at hP
          exact hP
        · rw [pickF_full _ (by rw [s_size]; exact h)] at hP
          exact hP
      have HOUT := Lib.hid hout; have HP := Lib.hid hP
      clear hout hP
      have hcase : (i < s.size ∧ O.size < top) ∨ (i < s.size ∧ top ≤ O.size) ∨ (s.size ≤ i ∧ 0 = 0) := by omega
      rcases hcase with ⟨h1, h2⟩ | hx
      · have hhl : i < s.data.toList.length := by rw [s_size]; exact h1
        have hd : s.data.toList.drop i = s[i] :: s.data.toList.drop (i + 1) := by rw [List.drop_eq_getElem_cons hhl]; rfl
        have hst := HP.out
        rw [hd, pickF_step (by rw [s_size]; exact h2)] at hst
        obtain ⟨X, hX⟩ : ∃ X, s.extract i (i + 1) = X := ⟨_, rfl⟩
        have hXl : X.data.toList = [s[i]] := by rw [← hX, s_ext, List.drop_eq_getElem_cons hhl, Nat.add_sub_cancel_left]; rfl
        have hXs : X.size = 1 := by rw [← s_size, hXl]; rfl
        obtain ⟨x, hx⟩ : ∃ x, s[i] = x := ⟨_, rfl⟩
        rw [hx] at hst hXl
        have hI1 : (i : Int) < (s.size : Int) := by omega
        have hI2 : (O.size : Int) < (top : Int) := by omega
        have f1 : (0 : Int) ≤ (i : Int) ∧ (i : Int) ≤ (i : Int) + 1 := by omega
        have f2 : (i : Int) + 1 ≤ (s.size : Int) := by omega
        have hsum : O.size + X.size ≤ 9223372036854775807 := by omega
        have hOe : (O.toList.isEmpty = true ∧ (O.data.toList == []) = true) ∨ (O.toList.isEmpty = false ∧ (O.data.toList == []) = false) := by
          rw [s_list, pl_nil_ie]
          cases O.data.toList.isEmpty <;> simp
        have hcs : (32 < x.toNat ∧ x.toNat < 127 ∧ txtP O.data.toList x = true) ∨ (127 ≤ x.toNat ∧ txtP O.data.toList x = false) ∨ ((x.toNat < 32 ∧ 0 = 0) ∧ txtP O.data.toList x = false) ∨ ((x.toNat = 32 ∧ O.toList.isEmpty = true) ∧ txtP O.data.toList x = false) ∨ ((x.toNat = 32 ∧ O.toList.isEmpty = false) ∧ txtP O.data.toList x = true) := by
          unfold txtP
          rcases hOe with ⟨he1, he2⟩ | ⟨he1, he2⟩
          all_goals
            rw [he1, he2]
            simp
            omega
        have HST := Lib.hid hst; have HXL := Lib.hid hXl; have HXS := Lib.hid hXs
        clear hst hXl hXs hd hi hOe
        rcases hcs with ⟨q1, q2, hq⟩ | ⟨q1, hq⟩ | ⟨⟨q1, -⟩, hq⟩ | ⟨⟨q1, q2⟩, hq⟩ | ⟨⟨q1, q2⟩, hq⟩
        · have HQ := Lib.hid hq
          have q1I : 32 < (x.toNat : Int) := by omega
          have q2I : (x.toNat : Int) < 127 := by omega
          clear hq q1 q2
          go_wp2
          go_round
          case rel => exact ⟨O ++ X, i + 1, by omega, rfl, by go_num, by rw [← s_size, s_app, List.length_append, s_size, s_size, HXS.out]; omega, by have := HST.out; rw [HQ.out] at this; rw [s_app, HXL.out]; exact this⟩
          case measure => simp [intOf]; omega
        · have HQ := Lib.hid hq
          have q1I : 32 < (x.toNat : Int) := by omega
          have q2I : ¬ (x.toNat : Int) < 127 := by omega
          have q3I : ((x.toNat : Int) == 32) = false := by rw [beq_eq_false_iff_ne]; omega
          have q4I : ¬ (x.toNat : Int) = 32 := by omega
          clear hq q1
          go_wp2
          go_round
          case rel => exact ⟨O, i + 1, by omega, rfl, by go_num, by omega, by have := HST.out; rw [HQ.out] at this; exact this⟩
          case measure => simp [intOf]; omega
        · have HQ := Lib.hid hq
          have q1I : ¬ 32 < (x.toNat : Int) := by omega
          have q3I : ((x.toNat : Int) == 32) = false := by rw [beq_eq_false_iff_ne]; omega
          have q4I : ¬ (x.toNat : Int) = 32 := by omega
          clear hq q1
          go_wp2
          go_round
          case rel => exact ⟨O, i + 1, by omega, rfl, by go_num, by omega, by have := HST.out; rw [HQ.out] at this; exact this⟩
          case measure => simp [intOf]; omega
        · have HQ := Lib.hid hq
          have q1I : (x.toNat : Int) = 32 := by omega
          clear hq q1
          go_wp2
          go_round
          case rel => exact ⟨O, i + 1, by omega, rfl, by go_num, by omega, by have := HST.out; rw [HQ.out] at this; exact this⟩
          case measure => simp [intOf]; omega
        · have HQ := Lib.hid hq
          have q1I : (x.toNat : Int) = 32 := by omega
          clear hq q1
          go_wp2
          go_round
          case rel => exact ⟨O ++ X, i + 1, by omega, rfl, by go_num, by rw [← s_size, s_app, List.length_append, s_size, s_size, HXS.out]; omega, by have := HST.out; rw [HQ.out] at this; rw [s_app, HXL.out]; exact this⟩
          case measure => simp [intOf]; omega
      · have hRe : O.data.toList = R := HOUT.out (by rcases hx with ⟨_, h⟩ | ⟨h, _⟩ <;> simp [h])
        have HRE := Lib.hid hRe
        clear hRe HP HOUT
        have hx2 : ((i : Int) < (s.size : Int) ∧ ¬ (O.size : Int) < (top : Int)) ∨ (¬ (i : Int) < (s.size : Int) ∧ 0 = 0) := by omega
        clear hx
        rcases hx2 with ⟨hI1, hI2⟩ | ⟨hI1, -⟩
        all_goals
          go_wp2
          go_loop [7] (fun ov => ∃ Q : ByteArray, ov = .string Q ∧ Q.size ≤ O.size ∧ trimL Q.data.toList = trimL R) (fun ov => (match ov with | .string Q => Q.size | _ => 0))
          case atStart => exact ⟨O, rfl, Nat.le_refl _, by rw [HRE.out]⟩
          case round =>
            obtain ⟨Q, rfl, hQO, hQ⟩ := hrel
            have HQ := Lib.hid hQ
            clear hQ
            by_cases hz : Q.size = 0
            · have hQe : Q.data.toList = [] := List.eq_nil_of_length_eq_zero (by rw [s_size]; exact hz)
              have hF : F = [120] := by
                rw [HE.out]
                unfold endL
                rw [← HQ.out, hQe, if_pos trimL_nil]
              have hie : Q.toList.isEmpty = true := by rw [s_list, hQe]; rfl
              have HF := Lib.hid hF
              have hqn : Q.toList = [] := by rw [s_list, hQe]
              clear hF hQe hz
              go_wp2
              go_ret
              exact ⟨_, rfl, HF.out.symm, rfl⟩
            · have hl1 : Q.size - 1 < Q.size := by omega
              obtain ⟨y, hy⟩ : ∃ y, Q[Q.size - 1]'hl1 = y := ⟨_, rfl⟩
              obtain ⟨Z, hZ⟩ : ∃ Z, Q.extract 0 (Q.size - 1) = Z := ⟨_, rfl⟩
              have hZl : Z.data.toList = Q.data.toList.take (Q.size - 1) := by rw [← hZ, s_ext]; simp
              have hlast := split_last Q.data.toList (Q.size - 1) (by rw [s_size]; omega)
              rw [← hZl, show Q.data.toList[Q.size - 1]'(by rw [s_size]; exact hl1) = y from hy] at hlast
              have hZs : Z.size = Q.size - 1 := by rw [← s_size, hZl, List.length_take, s_size]; omega
              have hne : Q.data.toList ≠ [] := by rw [hlast]; simp
              have hie : Q.toList.isEmpty = false := by rw [s_list, List.isEmpty_eq_false_iff]; exact hne
              have hqn : ¬ Q.toList = [] := by rw [s_list]; exact hne
              have htn : ((Q.size : Int) - 1).toNat = Q.size - 1 := by omega
              have h1I : (1 : Int) ≤ (Q.size : Int) := by omega
              have HL := Lib.hid hlast; have HZS := Lib.hid hZs
              clear hZl hlast hne hZs
              by_cases hyb : y = 32
              · subst hyb
                have hnx : trimL Z.data.toList = trimL R := by rw [← HQ.out, HL.out, trimL_blank]
                have HNX := Lib.hid hnx
                clear hnx
                go_wp2
                go_round
                case rel => exact ⟨Z, rfl, by rw [HZS.out]; omega, HNX.out⟩
                case measure => simp only [HZS.out]; omega
              · have hyI : ((y.toNat : Int) == 32) = false := by
                  rw [beq_eq_false_iff_ne]
                  intro e
                  exact hyb (UInt8.toNat_inj.1 (by rw [show (32 : UInt8).toNat = 32 from rfl]; omega))
                have hyI2 : ¬ (y.toNat : Int) = 32 := by rw [beq_eq_false_iff_ne] at hyI; exact hyI
                have hF : F = Q.data.toList := by
                  have h1 : trimL R = Q.data.toList := by rw [← HQ.out, HL.out, trimL_else _ _ hyb]
                  rw [HE.out]
                  unfold endL
                  rw [h1, if_neg (by rw [HL.out]; simp)]
                have HF := Lib.hid hF
                clear hF hyb
                go_wp2
                go_ret
                exact ⟨_, rfl, HF.out.symm, rfl⟩
end Go.Proofs.YtdfehdjpbmkaoaaDoor
