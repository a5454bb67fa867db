/- The statements' own answers about texts: signs of one byte, and letters and digits. -/
import Derived.Test.YtijlekikmkeihaaDoorTxtMath
import Derived.Test.YtijlekikmkeihaaDoorDig0
namespace Go.Proofs.YtijlekikmkeihaaDoor
open Go.RowKit
set_option maxHeartbeats 1000000
set_option linter.unusedVariables false

theorem rt_take (l : List UInt8) (p : UInt8 → Bool) (k : Nat) (h : k < l.length) : (l.take (k + 1)).all p = ((l.take k).all p && p l[k]) := by
  rw [List.take_succ_eq_append_getElem h, List.all_append]
  simp
theorem all_drop (l : List UInt8) (p : UInt8 → Bool) (k : Nat) (h : (l.take k).all p = false) : l.all p = false := by
  rw [Bool.eq_false_iff] at h ⊢
  intro h2
  apply h
  rw [List.all_eq_true] at h2 ⊢
  exact fun y hy => h2 y (List.mem_of_mem_take hy)

set_option maxRecDepth 100000 in
theorem ref_ans_any (s : ByteArray) (top : Int) (w : World) (hs : s.size ≤ 140737488355328) :
    Calls Tryd.prog 45 #[.string s, .int .i64 top] w fun e w' => e = .returned (.bool (ansB s.data.toList top)) ∧ w = w' := by
  have hl : s.data.toList.length = s.size := by simp
  have HL := Lib.hid hl
  clear hl
  go_enter Tryd.func45, Tryd.ntmps45
  go_wp2
  go_loop [5] (fun iv => ∃ i : Nat, i ≤ s.size ∧ iv = .int .i64 (i : Int) ∧ (s.data.toList.take i).all ansC = true) (fun iv => s.size - (intOf iv).toNat)
  case atStart => exact ⟨0, Nat.zero_le _, rfl, rfl⟩
  case round =>
    obtain ⟨i, hi, rfl, hlo⟩ := hrel
    rcases Nat.lt_or_ge i s.size with hlt | hge
    · have hlk : i < s.data.toList.length := by rw [HL.out]; exact hlt
      have hst := rt_take s.data.toList ansC i hlk
      rw [hlo, Bool.true_and] at hst
      have hdn := all_drop s.data.toList ansC (i + 1)
      obtain ⟨x, hx⟩ : ∃ x, s[i] = x := ⟨_, rfl⟩
      rw [show s.data.toList[i] = s[i] from rfl, hx] at hst
      have hcs : (x.toNat < 32 ∧ 1 = 1) ∨ (32 ≤ x.toNat ∧ x.toNat ≤ 126) ∨ (126 < x.toNat ∧ 1 = 1) := by omega
      rcases hcs with ⟨h1, h2⟩ | ⟨h1, h2⟩ | ⟨h1, h2⟩
      · have hp : ansC x = false := by unfold ansC; simp; omega
        have hI : (x.toNat : Int) < 32 := by omega
        rw [hp] at hst
        have hno : ansB s.data.toList top = false := by
          have : s.data.toList.all ansC = false := hdn hst
          unfold ansB
          rw [this]
          rfl
        have HNO := Lib.hid hno
        clear hst hlo hp h1 h2 hdn hno
        go_wp2
        go_ret
        exact ⟨ret_bool HNO.out.symm, rfl⟩
      · have hp : ansC x = true := by unfold ansC; simp; omega
        have hI : ¬ (x.toNat : Int) < 32 := by omega
        have hI2 : ¬ 126 < (x.toNat : Int) := by omega
        rw [hp] at hst
        have HST := Lib.hid hst
        clear hst hlo hp h1 h2 hdn
        go_wp2
        go_round
        case rel => exact ⟨i + 1, by omega, by go_num, HST.out⟩
        case measure => simp [intOf]; omega
      · have hp : ansC x = false := by unfold ansC; simp; omega
        have hI : ¬ (x.toNat : Int) < 32 := by omega
        have hI2 : 126 < (x.toNat : Int) := by omega
        rw [hp] at hst
        have hno : ansB s.data.toList top = false := by
          have : s.data.toList.all ansC = false := hdn hst
          unfold ansB
          rw [this]
          rfl
        have HNO := Lib.hid hno
        clear hst hlo hp h1 h2 hdn hno
        go_wp2
        go_ret
        exact ⟨ret_bool HNO.out.symm, rfl⟩
    · obtain rfl : i = s.size := by omega
      rw [List.take_of_length_le (by rw [HL.out]; exact Nat.le_refl _)] at hlo
      have hpe : ansB s.data.toList top = (decide (1 ≤ (s.size : Int)) && decide ((s.size : Int) ≤ top)) := by
        unfold ansB
        have hlo' : s.data.toList.all ansC = true := hlo
        rw [hlo', HL.out]
        rfl
      have HPE := Lib.hid hpe
      clear hlo hpe
      go_wp2
      all_goals
        go_ret
        refine ⟨ret_bool ?_, rfl⟩
        rw [HPE.out]
        first | rfl | (simp; omega) | (rw [Bool.eq_iff_iff]; simp; omega)

set_option maxRecDepth 100000 in
theorem ref_aln_any (s : ByteArray) (low top : Int) (w : World) (hs : s.size ≤ 140737488355328) :
    Calls Tryd.prog 44 #[.string s, .int .i64 low, .int .i64 top] w fun e w' => e = .returned (.bool (alnB s.data.toList low top)) ∧ w = w' := by
  have hl : s.data.toList.length = s.size := by simp
  have HL := Lib.hid hl
  clear hl
  go_enter Tryd.func44, Tryd.ntmps44
  go_wp2
  go_loop [7] (fun iv => ∃ i : Nat, i ≤ s.size ∧ iv = .int .i64 (i : Int) ∧ (s.data.toList.take i).all alnC = true) (fun iv => s.size - (intOf iv).toNat)
  case atStart => exact ⟨0, Nat.zero_le _, rfl, rfl⟩
  case round =>
    obtain ⟨i, hi, rfl, hlo⟩ := hrel
    rcases Nat.lt_or_ge i s.size with hlt | hge
    · have hlk : i < s.data.toList.length := by rw [HL.out]; exact hlt
      have hst := rt_take s.data.toList alnC i hlk
      rw [hlo, Bool.true_and] at hst
      have hdn := all_drop s.data.toList alnC (i + 1)
      obtain ⟨x, hx⟩ : ∃ x, s[i] = x := ⟨_, rfl⟩
      rw [show s.data.toList[i] = s[i] from rfl, hx] at hst
      have hcs : (x.toNat < 48 ∧ 1 = 1) ∨ (48 ≤ x.toNat ∧ x.toNat ≤ 57) ∨ (57 < x.toNat ∧ x.toNat < 65) ∨ (65 ≤ x.toNat ∧ x.toNat ≤ 90) ∨ (90 < x.toNat ∧ x.toNat < 97) ∨ (97 ≤ x.toNat ∧ x.toNat ≤ 122) ∨ (122 < x.toNat ∧ 1 = 1) := by omega
      rcases hcs with ⟨h1, h2⟩ | ⟨h1, h2⟩ | ⟨h1, h2⟩ | ⟨h1, h2⟩ | ⟨h1, h2⟩ | ⟨h1, h2⟩ | ⟨h1, h2⟩
      · have hp : alnC x = false := by unfold alnC; simp; omega
        have hI : (x.toNat : Int) < 48 := by omega
        rw [hp] at hst
        have hno : alnB s.data.toList low top = false := by
          have : s.data.toList.all alnC = false := hdn hst
          unfold alnB
          rw [this]
          rfl
        have HNO := Lib.hid hno
        clear hst hlo hp h1 h2 hdn hno
        go_wp2
        go_ret
        exact ⟨ret_bool HNO.out.symm, rfl⟩
      · have hp : alnC x = true := by unfold alnC; simp; omega
        have hI : 48 ≤ (x.toNat : Int) := by omega
        have hI2 : (x.toNat : Int) ≤ 57 := by omega
        rw [hp] at hst
        have HST := Lib.hid hst
        clear hst hlo hp h1 h2 hdn
        go_wp2
        go_round
        case rel => exact ⟨i + 1, by omega, by go_num, HST.out⟩
        case measure => simp [intOf]; omega
      · have hp : alnC x = false := by unfold alnC; simp; omega
        have hI : 57 < (x.toNat : Int) := by omega
        have hb57 : decide ((x.toNat : Int) ≤ 57) = false := decide_eq_false (by omega)
        have hI2 : (x.toNat : Int) < 65 := by omega
        rw [hp] at hst
        have hno : alnB s.data.toList low top = false := by
          have : s.data.toList.all alnC = false := hdn hst
          unfold alnB
          rw [this]
          rfl
        have HNO := Lib.hid hno
        clear hst hlo hp h1 h2 hdn hno
        go_wp2
        go_ret
        exact ⟨ret_bool HNO.out.symm, rfl⟩
      · have hp : alnC x = true := by unfold alnC; simp; omega
        have hI : 65 ≤ (x.toNat : Int) := by omega
        have hI2 : (x.toNat : Int) ≤ 90 := by omega
        rw [hp] at hst
        have HST := Lib.hid hst
        clear hst hlo hp h1 h2 hdn
        go_wp2
        go_round
        case rel => exact ⟨i + 1, by omega, by go_num, HST.out⟩
        case measure => simp [intOf]; omega
      · have hp : alnC x = false := by unfold alnC; simp; omega
        have hI : 90 < (x.toNat : Int) := by omega
        have hb57 : decide ((x.toNat : Int) ≤ 57) = false := decide_eq_false (by omega)
        have hb90 : decide ((x.toNat : Int) ≤ 90) = false := decide_eq_false (by omega)
        have hI2 : (x.toNat : Int) < 97 := by omega
        rw [hp] at hst
        have hno : alnB s.data.toList low top = false := by
          have : s.data.toList.all alnC = false := hdn hst
          unfold alnB
          rw [this]
          rfl
        have HNO := Lib.hid hno
        clear hst hlo hp h1 h2 hdn hno
        go_wp2
        go_ret
        exact ⟨ret_bool HNO.out.symm, rfl⟩
      · have hp : alnC x = true := by unfold alnC; simp; omega
        have hI : 97 ≤ (x.toNat : Int) := by omega
        have hI2 : (x.toNat : Int) ≤ 122 := by omega
        rw [hp] at hst
        have HST := Lib.hid hst
        clear hst hlo hp h1 h2 hdn
        go_wp2
        go_round
        case rel => exact ⟨i + 1, by omega, by go_num, HST.out⟩
        case measure => simp [intOf]; omega
      · have hp : alnC x = false := by unfold alnC; simp; omega
        have hI : 122 < (x.toNat : Int) := by omega
        have hb57 : decide ((x.toNat : Int) ≤ 57) = false := decide_eq_false (by omega)
        have hb90 : decide ((x.toNat : Int) ≤ 90) = false := decide_eq_false (by omega)
        have hb122 : decide ((x.toNat : Int) ≤ 122) = false := decide_eq_false (by omega)
        rw [hp] at hst
        have hno : alnB s.data.toList low top = false := by
          have : s.data.toList.all alnC = false := hdn hst
          unfold alnB
          rw [this]
          rfl
        have HNO := Lib.hid hno
        clear hst hlo hp h1 h2 hdn hno
        go_wp2
        go_ret
        exact ⟨ret_bool HNO.out.symm, rfl⟩
    · obtain rfl : i = s.size := by omega
      rw [List.take_of_length_le (by rw [HL.out]; exact Nat.le_refl _)] at hlo
      have hpe : alnB s.data.toList low top = (decide (low ≤ (s.size : Int)) && decide ((s.size : Int) ≤ top)) := by
        unfold alnB
        have hlo' : s.data.toList.all alnC = true := hlo
        rw [hlo', HL.out]
        rfl
      have HPE := Lib.hid hpe
      clear hlo hpe
      go_wp2
      all_goals
        go_ret
        refine ⟨ret_bool ?_, rfl⟩
        rw [HPE.out]
        first | rfl | (simp; omega) | (rw [Bool.eq_iff_iff]; simp; omega)
end Go.Proofs.YtijlekikmkeihaaDoor
