/- The statements' own escapes. -/
import Derived.Test.YtlnjpocidfgloaaDoorEscMath
import Derived.Test.YtlnjpocidfgloaaDoorRefTok
namespace Go.Proofs.YtlnjpocidfgloaaDoor
open Go.RowKit
set_option maxHeartbeats 400000
set_option linter.unusedVariables false

theorem escL_snoc (S : ByteArray) (k : Nat) (h : k < S.size) : escL (S.data.toList.take (k + 1)) = escL (S.data.toList.take k) ++ escB S[k] := by
  rw [List.take_succ_eq_append_getElem (by rw [size_list]; exact h), escL_app, escL_cons, show escL [] = [] from rfl, List.append_nil]
  rfl
theorem r_esc_any (S R : ByteArray) (w : World) (hs : S.size ≤ 1000000000) (hR : R.data.toList = escL S.data.toList) :
    Calls Tryd.prog 12 #[.string S] w fun e w' => e = .returned (.string R) ∧ w = w' := by
  have hsl := size_list S
  have HSL := Lib.hid hsl; have HR := Lib.hid hR
  clear hsl hR
  go_enter Tryd.func12, Tryd.ntmps12
  go_wp2
  go_loop [3, 4] (fun ov iv => ∃ (k : Nat) (O : ByteArray), ov = .string O ∧ iv = .int .i64 (k : Int) ∧ k ≤ S.size ∧ O.size ≤ 6 * k ∧ O.data.toList = escL (S.data.toList.take k)) (fun _ iv => S.size - (intOf iv).toNat)
  case atStart => exact ⟨0, ⟨#[]⟩, rfl, rfl, by omega, by decide, rfl⟩
  case round =>
    obtain ⟨k, O, rfl, rfl, hk, hO, hl⟩ := hrel
    have HL := Lib.hid hl
    clear hl
    by_cases hlt : k < S.size
    · have hltI : (k : Int) < (S.size : Int) := by omega
      have hsn := escL_snoc S k hlt
      obtain ⟨x, hx⟩ : ∃ x, S[k] = x := ⟨_, rfl⟩
      rw [hx] at hsn
      have f1 : (0 : Int) ≤ (k : Int) + 1 ∧ (k : Int) + 1 ≤ (S.size : Int) := by omega
      have f2 : (0 : Int) ≤ (k : Int) ∧ (k : Int) ≤ (k : Int) + 1 := by omega
      rcases esc_cases x with ⟨rfl, e⟩ | ⟨rfl, e⟩ | ⟨rfl, e⟩ | ⟨rfl, e⟩ | ⟨h1, h2, h3, h4, e⟩
      · rw [e] at hsn
        have HSN := Lib.hid hsn
        clear e hsn
        go_wp2
        go_round
        case rel => exact ⟨k + 1, O ++ ⟨#[38, 97, 109, 112, 59]⟩, rfl, by go_num, by omega, by rw [← size_list, app_list, List.length_append, size_list]; simp; omega, by rw [app_list, HL.out, HSN.out]⟩
        case measure => simp [intOf]; omega
      · rw [e] at hsn
        have HSN := Lib.hid hsn
        clear e hsn
        go_wp2
        go_round
        case rel => exact ⟨k + 1, O ++ ⟨#[38, 108, 116, 59]⟩, rfl, by go_num, by omega, by rw [← size_list, app_list, List.length_append, size_list]; simp; omega, by rw [app_list, HL.out, HSN.out]⟩
        case measure => simp [intOf]; omega
      · rw [e] at hsn
        have HSN := Lib.hid hsn
        clear e hsn
        go_wp2
        go_round
        case rel => exact ⟨k + 1, O ++ ⟨#[38, 103, 116, 59]⟩, rfl, by go_num, by omega, by rw [← size_list, app_list, List.length_append, size_list]; simp; omega, by rw [app_list, HL.out, HSN.out]⟩
        case measure => simp [intOf]; omega
      · rw [e] at hsn
        have HSN := Lib.hid hsn
        clear e hsn
        go_wp2
        go_round
        case rel => exact ⟨k + 1, O ++ ⟨#[38, 113, 117, 111, 116, 59]⟩, rfl, by go_num, by omega, by rw [← size_list, app_list, List.length_append, size_list]; simp; omega, by rw [app_list, HL.out, HSN.out]⟩
        case measure => simp [intOf]; omega
      · have b1 : ((x.toNat : Int) == 38) = false := by rw [beq_eq_false_iff_ne]; intro h; exact h1 (UInt8.toNat_inj.1 (by have : (38 : UInt8).toNat = 38 := rfl; omega))
        have b2 : ((x.toNat : Int) == 60) = false := by rw [beq_eq_false_iff_ne]; intro h; exact h2 (UInt8.toNat_inj.1 (by have : (60 : UInt8).toNat = 60 := rfl; omega))
        have b3 : ((x.toNat : Int) == 62) = false := by rw [beq_eq_false_iff_ne]; intro h; exact h3 (UInt8.toNat_inj.1 (by have : (62 : UInt8).toNat = 62 := rfl; omega))
        have b4 : ((x.toNat : Int) == 34) = false := by rw [beq_eq_false_iff_ne]; intro h; exact h4 (UInt8.toNat_inj.1 (by have : (34 : UInt8).toNat = 34 := rfl; omega))
        rw [e] at hsn
        have HSN := Lib.hid hsn; have HDC := Lib.hid (sdrop_cons S k hlt)
        clear e hsn h1 h2 h3 h4
        go_wp2
        go_round
        case rel => exact ⟨k + 1, O ++ S.extract k (k + 1), rfl, by go_num, by omega, by rw [← size_list, app_list, ext_list, List.length_append, size_list, List.length_take]; omega, by rw [app_list, HL.out, HSN.out, ext_list, HDC.out, hx]; simp⟩
        case measure => simp [intOf]; omega
    · obtain rfl : k = S.size := by omega
      have hltI : ¬ (S.size : Int) < (S.size : Int) := by omega
      have hO2 : O = R := by rw [← bstr_self O, ← bstr_self R, HR.out, HL.out, List.take_of_length_le (by rw [HSL.out]; exact Nat.le_refl _)]
      go_wp2
      go_ret
      exact ⟨by subst hO2; rfl, rfl⟩

/-! ### TokenTexts -/
end Go.Proofs.YtlnjpocidfgloaaDoor
