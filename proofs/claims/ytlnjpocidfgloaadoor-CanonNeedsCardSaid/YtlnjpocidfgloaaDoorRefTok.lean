/- The texts RefTok1, RefTok2, RefTok3, joined. -/
import Derived.Test.YtlnjpocidfgloaaDoorTokMath
import Derived.Test.YtlnjpocidfgloaaDoorDig0
import Derived.Test.YtlnjpocidfgloaaDoorHelp0
/- The statements' own walk over a file: tests of bytes, blanks. -/
namespace Go.Proofs.YtlnjpocidfgloaaDoor
open Go.RowKit
set_option maxHeartbeats 400000
set_option linter.unusedVariables false

theorem r_first_any (c : UInt8) (w : World) : Calls Tryd.prog 36 #[.int .u8 (c.toNat : Int)] w fun e w' => e = .returned (.bool (isFi c)) ∧ w = w' := by
  go_enter Tryd.func36, Tryd.ntmps36
  go_wp2
  all_goals
    go_ret
    refine ⟨ret_bool ?_, rfl⟩
    unfold isFi
    rw [Bool.eq_iff_iff]
    simp_all
    try omega
theorem r_within_any (c : UInt8) (w : World) : Calls Tryd.prog 35 #[.int .u8 (c.toNat : Int)] w fun e w' => e = .returned (.bool (isWi c)) ∧ w = w' := by
  go_enter Tryd.func35, Tryd.ntmps35
  go_wp2_with (go_at_call 36; refine (r_first_any _ _).mono ?_; rintro e w' ⟨rfl, rfl⟩)
  all_goals
    go_ret
    refine ⟨ret_bool ?_, rfl⟩
    unfold isWi
    rw [Bool.eq_iff_iff]
    simp_all
    try omega

theorem size_list (S : ByteArray) : S.data.toList.length = S.size := by simp
theorem sdrop_cons (S : ByteArray) (k : Nat) (h : k < S.size) : S.data.toList.drop k = S[k] :: S.data.toList.drop (k + 1) := by
  rw [List.drop_eq_getElem_cons (by rw [size_list]; exact h)]
  rfl
theorem ext_list (S : ByteArray) (i j : Nat) : (S.extract i j).data.toList = (S.data.toList.drop i).take (j - i) := by
  rw [ByteArray.data_extract, Array.toList_extract, List.extract_eq_take_drop]
theorem app_list (S T : ByteArray) : (S ++ T).data.toList = S.data.toList ++ T.data.toList := by
  rw [ByteArray.data_append, Array.toList_append]
theorem ba_list (S : ByteArray) : S.toList = S.data.toList := bstr_toList S.data.toList
theorem bstr_self (R : ByteArray) : bstr R.data.toList = R := rfl
theorem sz_eq {S : ByteArray} {L : List UInt8} (h : S.data.toList = L) : S.size = L.length := by rw [← h, size_list]
theorem str_empty {S : ByteArray} (h : S.data.toList = []) : S = ⟨#[]⟩ := by
  rw [← bstr_self S, h]; rfl
theorem byte_at (S : ByteArray) (i : Nat) (h : i < S.size) : S[i] = S.data.toList[i]'(by simpa using h) := rfl
theorem take_while_len (p : UInt8 → Bool) (l : List UInt8) (k : Nat) (h1 : ∀ j (hj : j < k) (hl : j < l.length), p l[j] = true) (hk : k ≤ l.length) (h2 : ∀ hl : k < l.length, p l[k] = false) : (l.takeWhile p).length = k := by
  induction k generalizing l with
  | zero =>
    cases l with
    | nil => rfl
    | cons c r => rw [List.takeWhile_cons, if_neg (by have := h2 (by simp); simpa using this)]; rfl
  | succ k ih =>
    cases l with
    | nil => simp at hk
    | cons c r =>
      have hc : p c = true := h1 0 (by omega) (by simp)
      rw [List.takeWhile_cons, if_pos hc, List.length_cons, ih r (fun j hj hl => by have h := h1 (j + 1) (by omega) (by simpa using hl); rwa [List.getElem_cons_succ] at h) (by simpa using hk) (fun hl => by have h := h2 (by simpa using hl); rwa [List.getElem_cons_succ] at h)]

end Go.Proofs.YtlnjpocidfgloaaDoor
/- The statements' own walk over a file: is, name. -/
namespace Go.Proofs.YtlnjpocidfgloaaDoor
open Go.RowKit
set_option maxHeartbeats 400000
set_option linter.unusedVariables false

end Go.Proofs.YtlnjpocidfgloaaDoor
/- The statements' own walk over a file: names. -/
namespace Go.Proofs.YtlnjpocidfgloaaDoor
open Go.RowKit
set_option maxHeartbeats 400000
set_option linter.unusedVariables false

theorem r_Name_any (S : ByteArray) (w : World) (hs : S.size ≤ 1000000000) :
    Calls Tryd.prog 20 #[.string S] w fun e w' => e = .returned (.bool (nameOk S.data.toList)) ∧ Dr w w' := by
  go_enter Tryd.func20, Tryd.ntmps20
  go_wp2
  go_loopw [3] (fun iv wr => ∃ k : Nat, iv = .int .i64 (k : Int) ∧ k ≤ S.size ∧ Dr w wr ∧ (S.data.toList.take k).all isWi = true) (fun iv _ => S.size - (intOf iv).toNat)
  case atStart => exact ⟨0, rfl, by omega, Dr.refl _, by simp⟩
  case round =>
    obtain ⟨k, rfl, hk, hd, hall⟩ := hrel
    have HALL := Lib.hid hall
    clear hall
    by_cases hlt : k < S.size
    · have hltI : (k : Int) < (S.size : Int) := by omega
      obtain ⟨x, hx⟩ : ∃ x, S[k] = x := ⟨_, rfl⟩
      have hst : S.data.toList.take (k + 1) = S.data.toList.take k ++ [x] := by
        rw [List.take_succ_eq_append_getElem (by simpa using hlt), ← hx]; rfl
      have HST := Lib.hid hst
      clear hst
      cases hb : isWi x with
      | true =>
        have hq := fun u => r_within_any x u
        rw [hb] at hq
        have HB := Lib.hid hb; have HQ := Lib.hid hq
        clear hb hq
        go_wp2_with (go_at_call 35; refine (HQ.out _).mono ?_; rintro e w' ⟨rfl, rfl⟩)
        go_roundw
        case rel => exact ⟨k + 1, by go_num, by omega, hd, by rw [HST.out, List.all_append, HALL.out]; simp [HB.out]⟩
        case measure => simp [intOf]; omega
      | false =>
        have hq := fun u => r_within_any x u
        rw [hb] at hq
        have hno : nameOk S.data.toList = false := by
          have h1 : S.data.toList.all isWi = false := by
            rw [Bool.eq_false_iff]
            intro h
            rw [List.all_eq_true] at h
            have := h x (by rw [← hx, byte_at S k hlt]; exact List.getElem_mem _)
            rw [hb] at this
            cases this
          cases hl : S.data.toList with
          | nil => rfl
          | cons c r => rw [hl] at h1; simp only [nameOk, h1, Bool.and_false]
        have HQ := Lib.hid hq; have HNO := Lib.hid hno
        clear hb hq hno
        go_wp2_with (go_at_call 35; refine (HQ.out _).mono ?_; rintro e w' ⟨rfl, rfl⟩)
        go_ret
        rw [HNO.out]
        exact ⟨rfl, hd⟩
    · have hltI : ¬ (k : Int) < (S.size : Int) := by omega
      obtain rfl : k = S.size := by omega
      have hall2 : S.data.toList.all isWi = true := by
        have h := HALL.out
        rwa [List.take_of_length_le (by simp)] at h
      by_cases h0 : S.size = 0
      · have hno : nameOk S.data.toList = false := by
          have hl : S.data.toList = [] := List.eq_nil_of_length_eq_zero (by rw [size_list]; exact h0)
          rw [hl]
          rfl
        have he : S.toList = [] := by rw [ByteArray.toList_eq]; exact List.eq_nil_of_length_eq_zero (by rw [size_list]; exact h0)
        have HNO := Lib.hid hno
        clear hno hall2
        go_wp2
        go_ret
        rw [HNO.out]
        exact ⟨rfl, hd⟩
      · obtain ⟨c, r, hl⟩ : ∃ c r, S.data.toList = c :: r := by
          cases hl : S.data.toList with
          | nil => have := size_list S; rw [hl] at this; simp at this; omega
          | cons c r => exact ⟨c, r, rfl⟩
        have hc : S[0]'(by omega) = c := by
          rw [byte_at S 0 (by omega)]
          simp [hl]
        have hans : nameOk S.data.toList = isFi c := by
          rw [hl] at hall2 ⊢
          simp only [nameOk, hall2, Bool.and_true]
        have he : ¬ S.toList = [] := by rw [ByteArray.toList_eq, hl]; simp
        have heb : (S.toList == []) = false := by rw [beq_eq_false_iff_ne]; exact he
        have hq := fun u => r_first_any c u
        have HANS := Lib.hid hans; have HQ := Lib.hid hq
        have h0I : (0 : Int) < (S.size : Int) := by omega
        clear hans hq hall2 hl
        go_wp2_with (go_at_call 36; refine (HQ.out _).mono ?_; rintro e w' ⟨rfl, rfl⟩)
        go_ret
        rw [HANS.out]
        exact ⟨rfl, hd⟩
end Go.Proofs.YtlnjpocidfgloaaDoor
