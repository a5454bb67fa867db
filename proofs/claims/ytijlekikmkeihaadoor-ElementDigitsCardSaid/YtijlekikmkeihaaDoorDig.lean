/- What package digits does with texts, numbers, halves of bytes and signs: contracts of its calls. -/
import Derived.Test.YtijlekikmkeihaaDoorDigMath
import Derived.Test.YtijlekikmkeihaaDoorHelp0
import Derived.Test.YtijlekikmkeihaaDoorTests
namespace Go.Proofs.YtijlekikmkeihaaDoor
open Go.RowKit
set_option maxHeartbeats 400000
set_option linter.unusedVariables false

theorem digit_any (c : UInt8) (w : World) : Calls Tryd.prog 56 #[.int .u8 (c.toNat : Int)] w fun e w' => e = .returned (.bool (isD c)) ∧ w = w' := by
  go_enter Tryd.func56, Tryd.ntmps56
  go_wp2
  all_goals
    go_ret
    refine ⟨ret_bool ?_, rfl⟩
    unfold isD
    rw [Bool.eq_iff_iff]
    simp
    omega

theorem half_any (c : UInt8) (w : World) : Calls Tryd.prog 48 #[.int .u8 (c.toNat : Int)] w fun e w' => e = .returned (.int .u8 ((half c).toNat : Int)) ∧ w = w' := by
  have h0 := c.toNat_lt
  by_cases hd : isD c = true
  · have hh := isD_true.1 hd
    have hv := half_digit hd
    have HV := Lib.hid hv
    clear hv
    go_enter Tryd.func48, Tryd.ntmps48
    go_wp2_with (go_at_call 56; refine (digit_any _ _).mono ?_; rintro e w' ⟨rfl, rfl⟩)
    go_ret
    exact ⟨ret_u8 (by rw [HV.out]; omega), rfl⟩
  · have hd : isD c = false := by simpa using hd
    have hv : ((half c).toNat : Int) = ((c.toNat : Int) - 65 + 10) % 256 := by
      unfold half
      rw [if_neg (by simp [hd])]
      simp only [UInt8.toNat_add, UInt8.toNat_sub]
      simp
      omega
    have HV := Lib.hid hv
    clear hv
    go_enter Tryd.func48, Tryd.ntmps48
    go_wp2_with (go_at_call 56; refine (digit_any _ _).mono ?_; rintro e w' ⟨rfl, rfl⟩)
    go_ret
    refine ⟨ret_u8 ?_, rfl⟩
    rw [HV.out]
    try omega

theorem every_any (f : FuncId) (t : UInt8 → Bool) (ht : Tests f t) (s : ByteArray) (w : World) (hs : s.size ≤ maxLen) :
    Calls Tryd.prog 55 #[.string s, .func (.func f) #[] #[]] w fun e w' => e = .returned (.bool (allB s.data.toList t)) ∧ w = w' := by
  unfold maxLen at hs
  go_enter Tryd.func55, Tryd.ntmps55
  go_wp2
  go_loop [8] (fun i => ∃ k : Nat, k ≤ s.size ∧ i = .int .i64 (k : Int) ∧ (s.data.toList.take k).all t = true) (fun i => s.size - (intOf i).toNat)
  case atStart => exact ⟨0, Nat.zero_le _, rfl, by simp⟩
  case round =>
    obtain ⟨k, hk, rfl, hall⟩ := hrel
    have HA := Lib.hid hall
    clear hall
    have h63 : (k : Int) + 1 ≤ 9223372036854775807 ∨ k = s.size := by omega
    by_cases hlt : k < s.size
    · have hts := take_snoc s k hlt
      have HT := Lib.hid hts
      clear hts
      have htc : ∀ w : World, Calls Tryd.prog f #[.int .u8 (s[k].toNat : Int)] w fun e w' => e = .returned (.bool (t s[k])) ∧ w = w' := fun w => ht.tells s[k] w
      have hen := ht.enters
      have HC := Lib.hid htc
      clear htc
      cases hb : t s[k] with
      | true =>
        have HB := Lib.hid hb
        clear hb
        go_wp2_with (refine (HC.out _).mono ?_; rw [HB.out]; rintro e w' ⟨rfl, rfl⟩)
        go_round
        case rel => exact ⟨k + 1, by omega, by go_num, by rw [HT.out, List.all_append, HA.out]; simp [HB.out]⟩
        case measure => simp [intOf]; omega
      | false =>
        have HB := Lib.hid hb
        clear hb
        go_wp2_with (refine (HC.out _).mono ?_; rw [HB.out]; rintro e w' ⟨rfl, rfl⟩)
        go_ret
        refine ⟨ret_bool ?_, rfl⟩
        symm
        unfold allB
        rw [← Bool.not_eq_true, List.all_eq_true]
        intro hx
        have := hx s[k] (by rw [at_data s k hlt]; exact List.getElem_mem _)
        rw [HB.out] at this
        cases this
    · obtain rfl : k = s.size := by omega
      go_wp2
      go_ret
      refine ⟨ret_bool ?_, rfl⟩
      have := HA.out
      rw [List.take_of_length_le (by simp)] at this
      exact this.symm

theorem tests_digit : Tests 56 isD := ⟨fun _ _ => by kernel_rfl, fun c w => digit_any c w⟩
theorem right_any (s : ByteArray) (low top : Int) (w : World) (hs : s.size ≤ maxLen) :
    Calls Tryd.prog 47 #[.string s, .int .i64 low, .int .i64 top] w fun e w' => e = .returned (.bool (rightB s.data.toList low top)) ∧ w = w' := by
  have hl : s.data.toList.length = s.size := by simp
  by_cases h1 : low ≤ (s.size : Int)
  · by_cases h2 : (s.size : Int) ≤ top
    · have e : rightB s.data.toList low top = allB s.data.toList isD := by simp [rightB, allB, hl, h1, h2]
      have E := Lib.hid e
      clear e hl
      go_enter Tryd.func47, Tryd.ntmps47
      go_wp2_with (go_at_call 55; refine (every_any _ _ tests_digit _ _ hs).mono ?_; rintro e w' ⟨rfl, rfl⟩)
      go_ret
      exact ⟨ret_bool (by rw [E.out]), rfl⟩
    · have e : rightB s.data.toList low top = false := by simp [rightB, hl, h1, h2]
      have E := Lib.hid e
      clear e hl
      go_enter Tryd.func47, Tryd.ntmps47
      go_wp2
      go_ret
      exact ⟨ret_bool (by rw [E.out]), rfl⟩
  · have e : rightB s.data.toList low top = false := by simp [rightB, hl, h1]
    have E := Lib.hid e
    clear e hl
    go_enter Tryd.func47, Tryd.ntmps47
    go_wp2
    go_ret
    exact ⟨ret_bool (by rw [E.out]), rfl⟩
end Go.Proofs.YtijlekikmkeihaaDoor
