/- The statements' own messages: small contracts. -/
import Derived.Test.YtdfehdjpbmkaoaaDoorPlayM
import Derived.Test.YtdfehdjpbmkaoaaDoorRefTime
import Derived.Test.YtdfehdjpbmkaoaaDoorRefTxt2
import Derived.Test.YtdfehdjpbmkaoaaDoorRefTxt3
import Derived.Test.YtdfehdjpbmkaoaaDoorRefKin3
import Derived.LoopTactic
namespace Go.Proofs.YtdfehdjpbmkaoaaDoor
open Go.RowKit
set_option maxHeartbeats 400000
set_option linter.unusedVariables false

theorem p_mod (v : Int) (n : Nat) (hv0 : -9223372036854775808 ≤ v) (hv1 : v ≤ 9223372036854775807) (hn : 0 < n) (hn2 : n ≤ 4611686018427387904) (w : World) :
    Calls Tryd.prog 17 #[.int .i64 v, .int .i64 (n : Int)] w fun e w' => e = .returned (.int .i64 (modN v n : Int)) ∧ w = w' := by
  obtain ⟨h1, h2⟩ := modN_lt v n hn (by omega)
  generalize modN v n = m at h1 h2 ⊢
  have hw : wrap64 (m : Int) = (m : Int) := IntWalk.wrap64_in _ ⟨by omega, by omega⟩
  have hu : IntKind.u64.wrap (n : Int) = (n : Int) := by show (n : Int) % 18446744073709551616 = n; omega
  have hne : ¬ (n : Int) = 0 := by omega
  go_enter Tryd.func17, Tryd.ntmps17
  go_wp2
  go_ret
  exact ⟨rfl, rfl⟩
theorem p_time (s : ByteArray) (w : World) (hs : s.size ≤ maxLen) :
    Calls Tryd.prog 18 #[.string s] w fun e w' => ∃ T : ByteArray, e = .returned (.string T) ∧ T.data.toList = nowTL s.data.toList ∧ Dr w w' := by
  have ht := fun u => r_time s u hs
  unfold nowTL
  generalize timeB s.data.toList = b at ht ⊢
  have HT := Lib.hid ht
  clear ht
  go_enter Tryd.func18, Tryd.ntmps18
  cases b
  all_goals
    go_wp2_with (go_at_call 37; refine (HT.out _).mono ?_; rintro e w1 ⟨rfl, hd⟩)
    go_ret
    exact ⟨_, rfl, rfl, hd⟩

set_option maxRecDepth 20000 in
theorem p_digits (s : ByteArray) (low top : Nat) (w : World) (hs : s.size ≤ maxLen) (hl : low ≤ 100) (ht : top ≤ 100) :
    Calls Tryd.prog 19 #[.string s, .int .i64 (low : Int), .int .i64 (top : Int)] w fun e w' => e = .returned (.string (bstr (digL s.data.toList low top))) ∧ w = w' := by
  unfold maxLen at hs
  obtain ⟨R, hR⟩ : ∃ R, pickF (fun _ x => isD x) top [] s.data.toList = R := ⟨_, rfl⟩
  have hRl : R.length ≤ top := by rw [← hR]; exact pickF_len _ _ (by simp)
  have hfin : digL s.data.toList low top = R ++ List.replicate (low - R.length) 55 := by unfold digL fillF; rw [hR]
  have HFIN := Lib.hid hfin; have HR := Lib.hid hR; have HRL := Lib.hid hRl
  clear hfin hR hRl
  go_enter Tryd.func19, Tryd.ntmps19
  go_wp2
  go_loop [7, 8] (fun ov v => ∃ (O : ByteArray) (i : Nat), i ≤ s.size ∧ ov = .string O ∧ v = .int .i64 (i : Int) ∧ O.size ≤ top ∧ pickF (fun _ x => isD x) top O.data.toList (s.data.toList.drop i) = R) (fun _ v => s.size - (intOf v).toNat)
  case atStart => exact ⟨⟨#[]⟩, 0, by omega, rfl, rfl, Nat.zero_le _, by rw [List.drop_zero]; exact HR.out⟩
  case round =>
    obtain ⟨O, i, hi, rfl, rfl, hO, hP⟩ := hrel
    have hout : (s.size ≤ i ∨ top ≤ O.size) → O.data.toList = R := by
      rintro (h | h)
      · rw [List.drop_eq_nil_of_le (by rw [s_size]; exact h)] at hP
        exact hP
      · rw [pickF_full _ (by rw [s_size]; exact h)] at hP
        exact hP
    have HOUT := Lib.hid hout; have HP := Lib.hid hP
    clear hout hP
    have hcase : (i < s.size ∧ O.size < top) ∨ (i < s.size ∧ top ≤ O.size) ∨ (s.size ≤ i ∧ 0 = 0) := by omega
    rcases hcase with ⟨h1, h2⟩ | hx
    · have hhl : i < s.data.toList.length := by rw [s_size]; exact h1
      have hd : s.data.toList.drop i = s[i] :: s.data.toList.drop (i + 1) := by rw [List.drop_eq_getElem_cons hhl]; rfl
      have hst := HP.out
      rw [hd, pickF_step (by rw [s_size]; exact h2)] at hst
      obtain ⟨X, hX⟩ : ∃ X, s.extract i (i + 1) = X := ⟨_, rfl⟩
      have hXl : X.data.toList = [s[i]] := by rw [← hX, s_ext, List.drop_eq_getElem_cons hhl, Nat.add_sub_cancel_left]; rfl
      have hXs : X.size = 1 := by rw [← s_size, hXl]; rfl
      obtain ⟨x, hx⟩ : ∃ x, s[i] = x := ⟨_, rfl⟩
      rw [hx] at hst hXl
      have hI1 : (i : Int) < (s.size : Int) := by omega
      have hI2 : (O.size : Int) < (top : Int) := by omega
      have f1 : (0 : Int) ≤ (i : Int) ∧ (i : Int) ≤ (i : Int) + 1 := by omega
      have f2 : (i : Int) + 1 ≤ (s.size : Int) := by omega
      have hsum : O.size + X.size ≤ 9223372036854775807 := by omega

      have HST := Lib.hid hst; have HXL := Lib.hid hXl; have HXS := Lib.hid hXs
      clear hst hXl hXs hd hi
      cases hq : isD x with
      | true =>
        have HQ := Lib.hid hq
        have hq1 : 48 ≤ (x.toNat : Int) ∧ (x.toNat : Int) ≤ 57 := by unfold isD at hq; simp at hq; omega
        clear hq
        have hq2 := hq1.1
        have hq3 := hq1.2
        clear hq1
        go_wp2
        go_round
        case rel => exact ⟨O ++ X, i + 1, by omega, rfl, by go_num, by rw [← s_size, s_app, List.length_append, s_size, s_size, HXS.out]; omega, by have := HST.out; rw [HQ.out] at this; rw [s_app, HXL.out]; exact this⟩
        case measure => simp [intOf]; omega
      | false =>
        have HQ := Lib.hid hq
        have hq1 : (x.toNat : Int) < 48 ∨ (48 ≤ (x.toNat : Int) ∧ 57 < (x.toNat : Int)) := by unfold isD at hq; simp at hq; omega
        clear hq
        rcases hq1 with hq1 | ⟨hq1, hq2⟩
        all_goals
          go_wp2
          go_round
          case rel => exact ⟨O, i + 1, by omega, rfl, by go_num, by omega, by have := HST.out; rw [HQ.out] at this; exact this⟩
          case measure => simp [intOf]; omega
    · have hRe : O.data.toList = R := HOUT.out (by rcases hx with ⟨_, h⟩ | ⟨h, _⟩ <;> simp [h])
      have HRE := Lib.hid hRe
      clear hRe HP HOUT
      rcases hx with ⟨h1, h2⟩ | ⟨h1, _⟩
      · have hI1 : (i : Int) < (s.size : Int) ∧ ¬ (O.size : Int) < (top : Int) := by omega
        go_wp2
        go_loop [7] (fun ov => ∃ (Q : ByteArray) (k : Nat), ov = .string Q ∧ Q.data.toList = R ++ List.replicate k 55 ∧ (k = 0 ∨ Q.size ≤ low)) (fun ov => low - (match ov with | .string Q => Q.size | _ => 0))
        case atStart => exact ⟨O, 0, rfl, by rw [HRE.out]; simp, .inl rfl⟩
        case round =>
          obtain ⟨Q, k, rfl, hQ, hk⟩ := hrel
          have hQs : Q.size = R.length + k := by rw [← s_size, hQ]; simp
          have HQ := Lib.hid hQ; have HQS := Lib.hid hQs
          clear hQ hQs
          rcases Nat.lt_or_ge Q.size low with hlt | hge
          · have hltI : (Q.size : Int) < (low : Int) := by omega
            have hsum2 : Q.size + (⟨#[55]⟩ : ByteArray).size ≤ 9223372036854775807 := by have : (⟨#[55]⟩ : ByteArray).size = 1 := rfl; omega
            have hz : (Q ++ (⟨#[55]⟩ : ByteArray)).size = Q.size + 1 := by rw [← s_size, s_app, List.length_append, s_size]; rfl
            have HZ := Lib.hid hz
            clear hz
            go_wp2
            go_round
            case rel => exact ⟨Q ++ ⟨#[55]⟩, k + 1, rfl, by rw [s_app, HQ.out, List.append_assoc, List.replicate_succ'], .inr (by rw [HZ.out]; omega)⟩
            case measure => simp only [HZ.out]; omega
          · have hgeI : ¬ (Q.size : Int) < (low : Int) := by omega
            have hkk : k = low - R.length := by have := HQS.out; omega
            have hend : Q = bstr (digL s.data.toList low top) := s_eq (by rw [HFIN.out, HQ.out, hkk]; simp [bstr])
            have HEND := Lib.hid hend
            clear hend hkk
            go_wp2
            go_ret
            exact ⟨by rw [← HEND.out]; rfl, rfl⟩
      · have hI1 : ¬ (i : Int) < (s.size : Int) := by omega
        go_wp2
        go_loop [7] (fun ov => ∃ (Q : ByteArray) (k : Nat), ov = .string Q ∧ Q.data.toList = R ++ List.replicate k 55 ∧ (k = 0 ∨ Q.size ≤ low)) (fun ov => low - (match ov with | .string Q => Q.size | _ => 0))
        case atStart => exact ⟨O, 0, rfl, by rw [HRE.out]; simp, .inl rfl⟩
        case round =>
          obtain ⟨Q, k, rfl, hQ, hk⟩ := hrel
          have hQs : Q.size = R.length + k := by rw [← s_size, hQ]; simp
          have HQ := Lib.hid hQ; have HQS := Lib.hid hQs
          clear hQ hQs
          rcases Nat.lt_or_ge Q.size low with hlt | hge
          · have hltI : (Q.size : Int) < (low : Int) := by omega
            have hsum2 : Q.size + (⟨#[55]⟩ : ByteArray).size ≤ 9223372036854775807 := by have : (⟨#[55]⟩ : ByteArray).size = 1 := rfl; omega
            have hz : (Q ++ (⟨#[55]⟩ : ByteArray)).size = Q.size + 1 := by rw [← s_size, s_app, List.length_append, s_size]; rfl
            have HZ := Lib.hid hz
            clear hz
            go_wp2
            go_round
            case rel => exact ⟨Q ++ ⟨#[55]⟩, k + 1, rfl, by rw [s_app, HQ.out, List.append_assoc, List.replicate_succ'], .inr (by rw [HZ.out]; omega)⟩
            case measure => simp only [HZ.out]; omega
          · have hgeI : ¬ (Q.size : Int) < (low : Int) := by omega
            have hkk : k = low - R.length := by have := HQS.out; omega
            have hend : Q = bstr (digL s.data.toList low top) := s_eq (by rw [HFIN.out, HQ.out, hkk]; simp [bstr])
            have HEND := Lib.hid hend
            clear hend hkk
            go_wp2
            go_ret
            exact ⟨by rw [← HEND.out]; rfl, rfl⟩
set_option maxRecDepth 20000 in
theorem p_alnum (s : ByteArray) (top : Nat) (w : World) (hs : s.size ≤ maxLen) (ht : top ≤ 100) :
    Calls Tryd.prog 22 #[.string s, .int .i64 (top : Int)] w fun e w' => e = .returned (.string (bstr (alnL s.data.toList top))) ∧ w = w' := by
  unfold maxLen at hs
  obtain ⟨R, hR⟩ : ∃ R, pickF (fun _ x => alnC x) top [] s.data.toList = R := ⟨_, rfl⟩
  have hRl : R.length ≤ top := by rw [← hR]; exact pickF_len _ _ (by simp)
  have hfin : alnL s.data.toList top = R ++ List.replicate (top - R.length) 90 := by unfold alnL fillF; rw [hR]
  have HFIN := Lib.hid hfin; have HR := Lib.hid hR; have HRL := Lib.hid hRl
  clear hfin hR hRl
  go_enter Tryd.func22, Tryd.ntmps22
  go_wp2
  go_loop [5, 6] (fun ov v => ∃ (O : ByteArray) (i : Nat), i ≤ s.size ∧ ov = .string O ∧ v = .int .i64 (i : Int) ∧ O.size ≤ top ∧ pickF (fun _ x => alnC x) top O.data.toList (s.data.toList.drop i) = R) (fun _ v => s.size - (intOf v).toNat)
  case atStart => exact ⟨⟨#[]⟩, 0, by omega, rfl, rfl, Nat.zero_le _, by rw [List.drop_zero]; exact HR.out⟩
  case round =>
    obtain ⟨O, i, hi, rfl, rfl, hO, hP⟩ := hrel
    have hout : (s.size ≤ i ∨ top ≤ O.size) → O.data.toList = R := by
      rintro (h | h)
      · rw [List.drop_eq_nil_of_le (by rw [s_size]; exact h)] at hP
        exact hP
      · rw [pickF_full _ (by rw [s_size]; exact h)] at hP
        exact hP
    have HOUT := Lib.hid hout; have HP := Lib.hid hP
    clear hout hP
    have hcase : (i < s.size ∧ O.size < top) ∨ (i < s.size ∧ top ≤ O.size) ∨ (s.size ≤ i ∧ 0 = 0) := by omega
    rcases hcase with ⟨h1, h2⟩ | hx
    · have hhl : i < s.data.toList.length := by rw [s_size]; exact h1
      have hd : s.data.toList.drop i = s[i] :: s.data.toList.drop (i + 1) := by rw [List.drop_eq_getElem_cons hhl]; rfl
      have hst := HP.out
      rw [hd, pickF_step (by rw [s_size]; exact h2)] at hst
      obtain ⟨X, hX⟩ : ∃ X, s.extract i (i + 1) = X := ⟨_, rfl⟩
      have hXl : X.data.toList = [s[i]] := by rw [← hX, s_ext, List.drop_eq_getElem_cons hhl, Nat.add_sub_cancel_left]; rfl
      have hXs : X.size = 1 := by rw [← s_size, hXl]; rfl
      obtain ⟨x, hx⟩ : ∃ x, s[i] = x := ⟨_, rfl⟩
      rw [hx] at hst hXl
      have hI1 : (i : Int) < (s.size : Int) := by omega
      have hI2 : (O.size : Int) < (top : Int) := by omega
      have f1 : (0 : Int) ≤ (i : Int) ∧ (i : Int) ≤ (i : Int) + 1 := by omega
      have f2 : (i : Int) + 1 ≤ (s.size : Int) := by omega
      have hsum : O.size + X.size ≤ 9223372036854775807 := by omega
      have hal := fun u => ref_aln_any X 1 1 u (by omega)
      have hae : alnB X.data.toList 1 1 = alnC x := by rw [hXl]; simp [alnB]
      rw [hae] at hal
      clear hae
      have HST := Lib.hid hst; have HXL := Lib.hid hXl; have HXS := Lib.hid hXs
      clear hst hXl hXs hd hi
      cases hq : alnC x with
      | _ =>
        have HQ := Lib.hid hq
        rw [hq] at hal
        have HAL := Lib.hid hal
        clear hq hal
        go_wp2_with (go_at_call 38; refine (HAL.out _).mono ?_; rintro e w' ⟨rfl, rfl⟩)
        go_round
        case rel => first
          | exact ⟨O ++ X, i + 1, by omega, rfl, by go_num, by rw [← s_size, s_app, List.length_append, s_size, s_size, HXS.out]; omega, by have := HST.out; rw [HQ.out] at this; rw [s_app, HXL.out]; exact this⟩
          | exact ⟨O, i + 1, by omega, rfl, by go_num, by omega, by have := HST.out; rw [HQ.out] at this; exact this⟩
        case measure => simp [intOf]; omega
    · have hRe : O.data.toList = R := HOUT.out (by rcases hx with ⟨_, h⟩ | ⟨h, _⟩ <;> simp [h])
      have HRE := Lib.hid hRe
      clear hRe HP HOUT
      rcases hx with ⟨h1, h2⟩ | ⟨h1, _⟩
      · have hI1 : (i : Int) < (s.size : Int) ∧ ¬ (O.size : Int) < (top : Int) := by omega
        go_wp2
        go_loop [5] (fun ov => ∃ (Q : ByteArray) (k : Nat), ov = .string Q ∧ Q.data.toList = R ++ List.replicate k 90 ∧ (k = 0 ∨ Q.size ≤ top)) (fun ov => top - (match ov with | .string Q => Q.size | _ => 0))
        case atStart => exact ⟨O, 0, rfl, by rw [HRE.out]; simp, .inl rfl⟩
        case round =>
          obtain ⟨Q, k, rfl, hQ, hk⟩ := hrel
          have hQs : Q.size = R.length + k := by rw [← s_size, hQ]; simp
          have HQ := Lib.hid hQ; have HQS := Lib.hid hQs
          clear hQ hQs
          rcases Nat.lt_or_ge Q.size top with hlt | hge
          · have hltI : (Q.size : Int) < (top : Int) := by omega
            have hsum2 : Q.size + (⟨#[90]⟩ : ByteArray).size ≤ 9223372036854775807 := by have : (⟨#[90]⟩ : ByteArray).size = 1 := rfl; omega
            have hz : (Q ++ (⟨#[90]⟩ : ByteArray)).size = Q.size + 1 := by rw [← s_size, s_app, List.length_append, s_size]; rfl
            have HZ := Lib.hid hz
            clear hz
            go_wp2
            go_round
            case rel => exact ⟨Q ++ ⟨#[90]⟩, k + 1, rfl, by rw [s_app, HQ.out, List.append_assoc, List.replicate_succ'], .inr (by rw [HZ.out]; omega)⟩
            case measure => simp only [HZ.out]; omega
          · have hgeI : ¬ (Q.size : Int) < (top : Int) := by omega
            have hkk : k = top - R.length := by have := HQS.out; omega
            have hend : Q = bstr (alnL s.data.toList top) := s_eq (by rw [HFIN.out, HQ.out, hkk]; simp [bstr])
            have HEND := Lib.hid hend
            clear hend hkk
            go_wp2
            go_ret
            exact ⟨by rw [← HEND.out]; rfl, rfl⟩
      · have hI1 : ¬ (i : Int) < (s.size : Int) := by omega
        go_wp2
        go_loop [5] (fun ov => ∃ (Q : ByteArray) (k : Nat), ov = .string Q ∧ Q.data.toList = R ++ List.replicate k 90 ∧ (k = 0 ∨ Q.size ≤ top)) (fun ov => top - (match ov with | .string Q => Q.size | _ => 0))
        case atStart => exact ⟨O, 0, rfl, by rw [HRE.out]; simp, .inl rfl⟩
        case round =>
          obtain ⟨Q, k, rfl, hQ, hk⟩ := hrel
          have hQs : Q.size = R.length + k := by rw [← s_size, hQ]; simp
          have HQ := Lib.hid hQ; have HQS := Lib.hid hQs
          clear hQ hQs
          rcases Nat.lt_or_ge Q.size top with hlt | hge
          · have hltI : (Q.size : Int) < (top : Int) := by omega
            have hsum2 : Q.size + (⟨#[90]⟩ : ByteArray).size ≤ 9223372036854775807 := by have : (⟨#[90]⟩ : ByteArray).size = 1 := rfl; omega
            have hz : (Q ++ (⟨#[90]⟩ : ByteArray)).size = Q.size + 1 := by rw [← s_size, s_app, List.length_append, s_size]; rfl
            have HZ := Lib.hid hz
            clear hz
            go_wp2
            go_round
            case rel => exact ⟨Q ++ ⟨#[90]⟩, k + 1, rfl, by rw [s_app, HQ.out, List.append_assoc, List.replicate_succ'], .inr (by rw [HZ.out]; omega)⟩
            case measure => simp only [HZ.out]; omega
          · have hgeI : ¬ (Q.size : Int) < (top : Int) := by omega
            have hkk : k = top - R.length := by have := HQS.out; omega
            have hend : Q = bstr (alnL s.data.toList top) := s_eq (by rw [HFIN.out, HQ.out, hkk]; simp [bstr])
            have HEND := Lib.hid hend
            clear hend hkk
            go_wp2
            go_ret
            exact ⟨by rw [← HEND.out]; rfl, rfl⟩
theorem p_has (S : ByteArray) (c : UInt8) (hs : S.size ≤ 65536) (w : World) :
    Calls Tryd.prog 21 #[.string S, .int .u8 (c.toNat : Int)] w fun e w' => e = .returned (.bool (inL S.data.toList c)) ∧ w = w' := by
  generalize hres : inL S.data.toList c = res
  have HRES := Lib.hid hres
  clear hres
  go_enter Tryd.func21, Tryd.ntmps21
  go_wp2
  go_loop [5] (fun v => ∃ k : Nat, k ≤ S.size ∧ v = .int .i64 (k : Int) ∧ ∀ j (hj : j < k) (hl : j < S.data.toList.length), S.data.toList[j] ≠ c) (fun v => S.size - (intOf v).toNat)
  case atStart => exact ⟨0, by omega, rfl, fun j hj => by omega⟩
  case round =>
    obtain ⟨k, hk, rfl, hall⟩ := hrel
    have HALL := Lib.hid hall
    clear hall
    rcases Nat.lt_or_ge k S.size with hkn | hge
    · have hkI : (k : Int) < (S.size : Int) := by omega
      have hat := s_at S k hkn
      generalize hx : S[k] = x at hat
      by_cases hq : x = c
      · subst hq
        have hw : res = true := by
          rw [← HRES.out]
          unfold inL
          rw [List.any_eq_true]
          exact ⟨x, by rw [hat]; exact List.getElem_mem _, beq_self_eq_true x⟩
        have HW := Lib.hid hw
        clear hw hat
        go_wp2
        go_ret
        exact ⟨by rw [HW.out]; rfl, rfl⟩
      · have hne : ¬ ((x.toNat : Int) = (c.toNat : Int)) := fun e => hq (UInt8.toNat_inj.1 (by omega))
        have HQ := Lib.hid hq; have HAT := Lib.hid hat
        clear hq hat
        go_wp2
        go_round
        case rel => exact ⟨k + 1, by omega, by go_num, fun j hj hl => by
          by_cases hjk : j = k
          · subst hjk; rw [← HAT.out]; exact HQ.out
          · exact HALL.out j (by omega) hl⟩
        case measure => simp [intOf]; omega
    · obtain rfl : k = S.size := by omega
      have hw : res = false := by
        rw [← HRES.out]
        unfold inL
        rw [List.any_eq_false]
        intro y hy
        obtain ⟨j, hj, rfl⟩ := List.getElem_of_mem hy
        rw [beq_iff_eq]
        exact HALL.out j (by rw [s_size] at hj; exact hj) hj
      have HW := Lib.hid hw
      clear hw
      go_wp2
      go_ret
      exact ⟨by rw [HW.out]; rfl, rfl⟩
/-- may a message have that part? -/
def wantB (r : KRow) (c : UInt8) (there : Bool) : Bool := inL r.must.data.toList c || (there && inL r.may.data.toList c)
theorem p_want (r : KRow) (g : Nat) (c : UInt8) (there : Bool) (hm1 : r.must.size ≤ 11) (hm2 : r.may.size ≤ 11) (w : World) (hg : Bk w g 37 (rowV r)) :
    Calls Tryd.prog 20 #[.int .u8 (c.toNat : Int), .bool there, .pointer (some ⟨g, 0, none⟩)] w fun e w' => e = .returned (.bool (wantB r c there)) ∧ w = w' := by
  have d2 : w.cell? ⟨g, 2, none⟩ = some (.string r.must) := hg.cell 2
  have d3 : w.cell? ⟨g, 3, none⟩ = some (.string r.may) := hg.cell 3
  have h1 := fun u => p_has r.must c (by omega) u
  have h2 := fun u => p_has r.may c (by omega) u
  unfold wantB
  generalize inL r.must.data.toList c = b1 at h1 ⊢
  generalize inL r.may.data.toList c = b2 at h2 ⊢
  have H1 := Lib.hid h1; have H2 := Lib.hid h2
  have t1 : True := trivial
  clear h1 h2 hg
  go_enter Tryd.func20, Tryd.ntmps20
  cases b1 <;> cases there
  all_goals
    go_wp2_with (first
      | (go_at_call 21; (with_reducible refine (H1.out _).mono ?_); clear t1; rintro e w1 ⟨rfl, rfl⟩)
      | (go_at_call 21; (with_reducible refine (H2.out _).mono ?_); rintro e w2 ⟨rfl, rfl⟩))
    go_ret
    exact ⟨rfl, rfl⟩
end Go.Proofs.YtdfehdjpbmkaoaaDoor
