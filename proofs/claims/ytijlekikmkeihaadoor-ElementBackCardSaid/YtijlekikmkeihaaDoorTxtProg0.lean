/- What package text does with bytes alone: contracts of its calls that read no table. -/
import Derived.Test.YtijlekikmkeihaaDoorTxtMath
import Derived.Test.YtijlekikmkeihaaDoorTests
namespace Go.Proofs.YtijlekikmkeihaaDoor
open Go.RowKit
set_option maxHeartbeats 400000
set_option linter.unusedVariables false

theorem t_above_any (c : UInt8) (w : World) : Calls Tryd.prog 81 #[.int .u8 (c.toNat : Int)] w fun e w' => e = .returned (.bool (decide (32 ≤ c.toNat))) ∧ w = w' := by
  go_enter Tryd.func81, Tryd.ntmps81
  go_wp2
  all_goals
    go_ret
    refine ⟨ret_bool ?_, rfl⟩
    rw [Bool.eq_iff_iff]
    simp
    try omega
theorem t_printed_any (c : UInt8) (w : World) : Calls Tryd.prog 69 #[.int .u8 (c.toNat : Int)] w fun e w' => e = .returned (.bool (ansC c)) ∧ w = w' := by
  go_enter Tryd.func69, Tryd.ntmps69
  go_wp2_with (go_at_call 81; refine (t_above_any _ _).mono ?_; rintro e w' ⟨rfl, rfl⟩)
  all_goals
    go_ret
    refine ⟨ret_bool ?_, rfl⟩
    unfold ansC
    rw [Bool.eq_iff_iff]
    simp_all
    try omega
def isDig (b : UInt8) : Bool := decide (48 ≤ b.toNat ∧ b.toNat ≤ 57)
def isLet (b : UInt8) : Bool := decide ((65 ≤ b.toNat ∧ b.toNat ≤ 90) ∨ (97 ≤ b.toNat ∧ b.toNat ≤ 122))
theorem t_digit_any (c : UInt8) (w : World) : Calls Tryd.prog 79 #[.int .u8 (c.toNat : Int)] w fun e w' => e = .returned (.bool (isDig c)) ∧ w = w' := by
  go_enter Tryd.func79, Tryd.ntmps79
  go_wp2
  all_goals
    go_ret
    refine ⟨ret_bool ?_, rfl⟩
    unfold isDig
    rw [Bool.eq_iff_iff]
    simp
    omega
theorem t_letter_any (c : UInt8) (w : World) : Calls Tryd.prog 80 #[.int .u8 (c.toNat : Int)] w fun e w' => e = .returned (.bool (isLet c)) ∧ w = w' := by
  go_enter Tryd.func80, Tryd.ntmps80
  go_wp2
  all_goals
    go_ret
    refine ⟨ret_bool ?_, rfl⟩
    unfold isLet
    rw [Bool.eq_iff_iff]
    simp
    omega
theorem t_alnum_any (c : UInt8) (w : World) : Calls Tryd.prog 68 #[.int .u8 (c.toNat : Int)] w fun e w' => e = .returned (.bool (alnC c)) ∧ w = w' := by
  go_enter Tryd.func68, Tryd.ntmps68
  go_wp2_with (first
    | (go_at_call 79; refine (t_digit_any _ _).mono ?_; rintro e w' ⟨rfl, rfl⟩)
    | (go_at_call 80; refine (t_letter_any _ _).mono ?_; rintro e w' ⟨rfl, rfl⟩))
  all_goals
    go_ret
    refine ⟨ret_bool ?_, rfl⟩
    rw [Bool.eq_iff_iff]
    simp_all [alnC, isDig, isLet]
    try omega
theorem t_within_any (n low top : Int) (w : World) : Calls Tryd.prog 66 #[.int .i64 n, .int .i64 low, .int .i64 top] w fun e w' => e = .returned (.bool (decide (low ≤ n) && decide (n ≤ top))) ∧ w = w' := by
  go_enter Tryd.func66, Tryd.ntmps66
  go_wp2
  all_goals
    go_ret
    refine ⟨ret_bool ?_, rfl⟩
    rw [Bool.eq_iff_iff]
    simp
    try omega

theorem t_every_any (f : FuncId) (t : UInt8 → Bool) (ht : Tests f t) (s : ByteArray) (w : World) (hs : s.size ≤ maxLen) :
    Calls Tryd.prog 67 #[.string s, .func (.func f) #[] #[]] w fun e w' => e = .returned (.bool (allB s.data.toList t)) ∧ w = w' := by
  unfold maxLen at hs
  go_enter Tryd.func67, Tryd.ntmps67
  go_wp2
  go_loop [8] (fun i => ∃ k : Nat, k ≤ s.size ∧ i = .int .i64 (k : Int) ∧ (s.data.toList.take k).all t = true) (fun i => s.size - (intOf i).toNat)
  case atStart => exact ⟨0, Nat.zero_le _, rfl, by simp⟩
  case round =>
    obtain ⟨k, hk, rfl, hall⟩ := hrel
    have HA := Lib.hid hall
    clear hall
    have h63 : (k : Int) + 1 ≤ 9223372036854775807 ∨ k = s.size := by omega
    by_cases hlt : k < s.size
    · have hts := take_snoc s k hlt
      have HT := Lib.hid hts
      clear hts
      have htc : ∀ w : World, Calls Tryd.prog f #[.int .u8 (s[k].toNat : Int)] w fun e w' => e = .returned (.bool (t s[k])) ∧ w = w' := fun w => ht.tells s[k] w
      have hen := ht.enters
      have HC := Lib.hid htc
      clear htc
      cases hb : t s[k] with
      | true =>
        have HB := Lib.hid hb
        clear hb
        go_wp2_with (refine (HC.out _).mono ?_; rw [HB.out]; rintro e w' ⟨rfl, rfl⟩)
        go_round
        case rel => exact ⟨k + 1, by omega, by go_num, by rw [HT.out, List.all_append, HA.out]; simp [HB.out]⟩
        case measure => simp [intOf]; omega
      | false =>
        have HB := Lib.hid hb
        clear hb
        go_wp2_with (refine (HC.out _).mono ?_; rw [HB.out]; rintro e w' ⟨rfl, rfl⟩)
        go_ret
        refine ⟨ret_bool ?_, rfl⟩
        symm
        unfold allB
        rw [← Bool.not_eq_true, List.all_eq_true]
        intro hx
        have := hx s[k] (by rw [at_data s k hlt]; exact List.getElem_mem _)
        rw [HB.out] at this
        cases this
    · obtain rfl : k = s.size := by omega
      go_wp2
      go_ret
      refine ⟨ret_bool ?_, rfl⟩
      have := HA.out
      rw [List.take_of_length_le (by simp)] at this
      exact this.symm


theorem tests_above : Tests 81 (fun c => decide (32 ≤ c.toNat)) := ⟨fun _ _ => by kernel_rfl, fun c w => t_above_any c w⟩
theorem tests_printed : Tests 69 ansC := ⟨fun _ _ => by kernel_rfl, fun c w => t_printed_any c w⟩
theorem tests_alnum : Tests 68 alnC := ⟨fun _ _ => by kernel_rfl, fun c w => t_alnum_any c w⟩

theorem text_ans_any (s : ByteArray) (top : Int) (w : World) (hs : s.size ≤ 140737488355328) :
    Calls Tryd.prog 58 #[.string s, .int .i64 top] w fun e w' => e = .returned (.bool (ansB s.data.toList top)) ∧ Fr No w w' := by
  have e : ansB s.data.toList top = ((decide (1 ≤ (s.size : Int)) && decide ((s.size : Int) ≤ top)) && allB s.data.toList ansC) := by
    unfold ansB allB
    rw [show s.data.toList.length = s.size by simp, Bool.and_comm]
  have hm : s.size ≤ maxLen := by unfold maxLen; omega
  have h63 : (s.size : Int) ≤ 9223372036854775807 := by omega
  rw [e]
  generalize hq : allB s.data.toList ansC = q
  have HQ := Lib.hid hq; have HM := Lib.hid hm
  clear hq e hs hm
  go_enter Tryd.func58, Tryd.ntmps58
  go_wp2_with (first
    | (go_at_call 66; refine (t_within_any _ _ _ _).mono ?_; rintro e w' ⟨rfl, rfl⟩)
    | (go_at_call 67; refine (t_every_any _ _ tests_printed s _ HM.out).mono ?_; rw [HQ.out]; rintro e w' ⟨rfl, rfl⟩))
  all_goals
    go_ret
    refine ⟨ret_bool ?_, Fr.refl _ _⟩
    first
      | (simp_all; done)
      | (rw [show (q : Bool) = q from rfl]; simp_all; intros; omega)
theorem text_aln_any (s : ByteArray) (low top : Int) (w : World) (hs : s.size ≤ 140737488355328) :
    Calls Tryd.prog 57 #[.string s, .int .i64 low, .int .i64 top] w fun e w' => e = .returned (.bool (alnB s.data.toList low top)) ∧ Fr No w w' := by
  have e : alnB s.data.toList low top = ((decide (low ≤ (s.size : Int)) && decide ((s.size : Int) ≤ top)) && allB s.data.toList alnC) := by
    unfold alnB allB
    rw [show s.data.toList.length = s.size by simp, Bool.and_comm]
  have hm : s.size ≤ maxLen := by unfold maxLen; omega
  have h63 : (s.size : Int) ≤ 9223372036854775807 := by omega
  rw [e]
  generalize hq : allB s.data.toList alnC = q
  have HQ := Lib.hid hq; have HM := Lib.hid hm
  clear hq e hs hm
  go_enter Tryd.func57, Tryd.ntmps57
  go_wp2_with (first
    | (go_at_call 66; refine (t_within_any _ _ _ _).mono ?_; rintro e w' ⟨rfl, rfl⟩)
    | (go_at_call 67; refine (t_every_any _ _ tests_alnum s _ HM.out).mono ?_; rw [HQ.out]; rintro e w' ⟨rfl, rfl⟩))
  all_goals
    go_ret
    refine ⟨ret_bool ?_, Fr.refl _ _⟩
    first
      | (simp_all; done)
      | (rw [show (q : Bool) = q from rfl]; simp_all; intros; omega)
end Go.Proofs.YtijlekikmkeihaaDoor
