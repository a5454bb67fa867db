/- The statements' own Blank: is a text of blanks alone? A contract, for every text. -/
import Derived.Test.YthkjmbkfcnehoaaGreatDoorTreeMath
import Derived.Test.YthkjmbkfcnehoaaGreatDoorRefTokX
namespace Go.Proofs.YthkjmbkfcnehoaaGreatDoor
open Go.RowKit
set_option maxHeartbeats 400000
set_option linter.unusedVariables false

/-- of blanks alone -/
theorem r_Blank_any (S : ByteArray) (w : World) (hs : S.size ≤ 9223372036854775806) : Calls Tryz.prog 33 #[.string S] w fun e w' => e = .returned (.bool (blankB S.data.toList)) ∧ w = w' := by
  go_enter Tryz.func33, Tryz.ntmps33
  go_wp2
  go_loop [3] (fun v => ∃ k : Nat, k ≤ S.size ∧ v = .int .i64 (k : Int) ∧ (S.data.toList.take k).all isBl = true) (fun v => S.size - (intOf v).toNat)
  case atStart => exact ⟨0, Nat.zero_le _, rfl, rfl⟩
  case round =>
    obtain ⟨k, hk, rfl, hall⟩ := hrel
    rcases Nat.lt_or_ge k S.size with hlt | hge
    · have hltI : (k : Int) < (S.size : Int) := by omega
      obtain ⟨x, hx⟩ : ∃ x, S[k] = x := ⟨_, rfl⟩
      have hlk : k < S.data.toList.length := by rw [size_list]; exact hlt
      have hst : S.data.toList.take (k + 1) = S.data.toList.take k ++ [x] := by rw [List.take_succ_eq_append_getElem hlk, ← byte_at S k hlt, hx]
      have HST := Lib.hid hst; have HALL := Lib.hid hall
      clear hst hall
      cases hb : isBl x with
      | true =>
        have hq := fun u => r_blank_any x u
        rw [hb] at hq
        have HQ := Lib.hid hq; have HB := Lib.hid hb
        clear hq hb
        go_wp2_with (go_at_call 50; refine (HQ.out _).mono ?_; rintro e w2 ⟨rfl, rfl⟩)
        go_round
        case rel => exact ⟨k + 1, by omega, by go_num, by rw [HST.out, List.all_append, HALL.out, List.all_cons, HB.out]; rfl⟩
        case measure => simp [intOf]; omega
      | false =>
        have hq := fun u => r_blank_any x u
        rw [hb] at hq
        have HQ := Lib.hid hq; have HB := Lib.hid hb
        have hno : blankB S.data.toList = false := by
          have h : S.data.toList = S.data.toList.take (k + 1) ++ S.data.toList.drop (k + 1) := (List.take_append_drop _ _).symm
          unfold blankB
          rw [h, HST.out, List.all_append, List.all_append, List.all_cons, hb]
          simp
        have HN := Lib.hid hno
        clear hq hb hno
        go_wp2_with (go_at_call 50; refine (HQ.out _).mono ?_; rintro e w2 ⟨rfl, rfl⟩)
        go_ret
        exact ⟨ret_bool HN.out.symm, rfl⟩
    · have hkn : k = S.size := by omega
      subst hkn
      have hyes : blankB S.data.toList = true := by
        rw [List.take_of_length_le (by rw [size_list]; exact Nat.le_refl _)] at hall
        exact hall
      have HY := Lib.hid hyes
      clear hyes hall
      go_wp2
      go_ret
      exact ⟨ret_bool HY.out.symm, rfl⟩
end Go.Proofs.YthkjmbkfcnehoaaGreatDoor
