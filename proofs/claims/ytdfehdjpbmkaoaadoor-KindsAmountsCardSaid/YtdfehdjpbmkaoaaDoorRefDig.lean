/- The statements' own digits, halves of bytes and signs: what they answer. -/
import Derived.Test.YtdfehdjpbmkaoaaDoorDig3
import Derived.Test.YtdfehdjpbmkaoaaDoorRefDigits
import Derived.Test.YtdfehdjpbmkaoaaDoorDigText
namespace Go.Proofs.YtdfehdjpbmkaoaaDoor
open Go.RowKit
set_option maxHeartbeats 400000
set_option linter.unusedVariables false

theorem ref_right (s : ByteArray) (low top : Int) (w : World) (hs : s.size ≤ maxLen) :
    Calls Tryd.prog 49 #[.string s, .int .i64 low, .int .i64 top] w fun e w' => e = .returned (.bool (rightB s.data.toList low top)) ∧ w = w' := by
  have hl : s.data.toList.length = s.size := by simp
  unfold maxLen at hs
  go_enter Tryd.func49, Tryd.ntmps49
  go_wp2
  go_loop [7] (fun i => ∃ k : Nat, k ≤ s.size ∧ i = .int .i64 (k : Int) ∧ (s.data.toList.take k).all isD = true) (fun i => s.size - (intOf i).toNat)
  case atStart => exact ⟨0, Nat.zero_le _, rfl, by simp⟩
  case round =>
    obtain ⟨k, hk, rfl, hall⟩ := hrel
    have HA := Lib.hid hall
    have HL := Lib.hid hl
    clear hall hl
    by_cases hlt : k < s.size
    · have HT := Lib.hid (take_snoc s k hlt)
      have hno : isD s[k] = false → rightB s.data.toList low top = false := fun hb => by
        unfold rightB
        rw [show s.data.toList.all isD = false from ?_, Bool.and_false, Bool.and_false]
        rw [← Bool.not_eq_true, List.all_eq_true]
        intro hx
        have := hx s[k] (by rw [at_data s k hlt]; exact List.getElem_mem _)
        rw [hb] at this
        cases this
      have HN := Lib.hid hno
      clear hno
      have hcs : s[k].toNat < 48 ∨ (48 ≤ s[k].toNat ∧ s[k].toNat ≤ 57) ∨ 57 < s[k].toNat := by omega
      rcases hcs with h1 | ⟨h1, h2⟩ | h1
      · go_wp2
        go_ret
        exact ⟨ret_bool (HN.out (isD_false (.inl h1))).symm, rfl⟩
      · have hb : decide ((s[k].toNat : Int) < 48) = false := decide_eq_false (by omega)
        have hb2 : decide (57 < (s[k].toNat : Int)) = false := decide_eq_false (by omega)
        go_wp2
        go_round
        case rel => exact ⟨k + 1, by omega, by go_num, by rw [HT.out, List.all_append, HA.out]; simp [isD_mk h1 h2]⟩
        case measure => simp [intOf]; omega
      · have hb : decide ((s[k].toNat : Int) < 48) = false := decide_eq_false (by omega)
        go_wp2
        go_ret
        exact ⟨ret_bool (HN.out (isD_false (.inr h1))).symm, rfl⟩
    · obtain rfl : k = s.size := by omega
      have hd : s.data.toList.all isD = true := by
        have := HA.out
        rwa [List.take_of_length_le (by simp)] at this
      have hr : rightB s.data.toList low top = (decide (low ≤ (s.size : Int)) && decide ((s.size : Int) ≤ top)) := by
        unfold rightB
        rw [hd, HL.out, Bool.and_true]
      have HR := Lib.hid hr
      clear hd hr
      by_cases h1 : low ≤ (s.size : Int)
      all_goals
        go_wp2
        go_ret
        refine ⟨ret_bool ?_, rfl⟩
        rw [HR.out]
        first
          | (simp [h1]; done)
          | (simp; omega)

theorem ref_number (s : ByteArray) (w : World) (hs : s.size ≤ maxLen) :
    Calls Tryd.prog 68 #[.string s] w fun e w' => e = .returned (.tuple #[.int .u64 (numR s.data.toList : Int), .int .i64 (numE s.data.toList)]) ∧ w = w' := by
  cases hr : rightB s.data.toList 1 18 with
  | false =>
    have e1 : numR s.data.toList = 0 := by simp [numR, hr]
    have e2 : numE s.data.toList = 5 := by simp [numE, hr]
    have E1 := Lib.hid e1
    have E2 := Lib.hid e2
    have HR := Lib.hid hr
    clear e1 e2 hr
    go_enter Tryd.func68, Tryd.ntmps68
    go_wp2_with (go_at_call 49; refine (ref_right _ _ _ _ hs).mono ?_; rw [HR.out]; rintro e w' ⟨rfl, rfl⟩)
    go_ret2
    exact ⟨by rw [E1.out, E2.out]; rfl, rfl⟩
  | true =>
    have e1 : numR s.data.toList = numV s.data.toList := by simp [numR, hr]
    have e2 : numE s.data.toList = 0 := by simp [numE, hr]
    obtain ⟨h1, h2, h3⟩ := rightB_len hr
    have hsz : s.size ≤ 18 := by simp at h2; omega
    have E1 := Lib.hid e1
    have E2 := Lib.hid e2
    have HR := Lib.hid hr
    have HD := Lib.hid h3
    clear e1 e2 hr h1 h2 h3
    go_enter Tryd.func68, Tryd.ntmps68
    go_wp2_with (go_at_call 49; refine (ref_right _ _ _ _ hs).mono ?_; rw [HR.out]; rintro e w' ⟨rfl, rfl⟩)
    go_loop [4, 5] (fun v i => ∃ k : Nat, k ≤ s.size ∧ i = .int .i64 (k : Int) ∧ v = .int .u64 (numV (s.data.toList.take k) : Int)) (fun _ i => s.size - (intOf i).toNat)
    case atStart => exact ⟨0, Nat.zero_le _, rfl, rfl⟩
    case round =>
      obtain ⟨k, hk, rfl, rfl⟩ := hrel
      by_cases hlt : k < s.size
      · have hts := take_snoc s k hlt
        have hn := numV_snoc (s.data.toList.take k) s[k]
        rw [← hts] at hn
        have hb := numV_le (dig_take HD.out k)
        have hb2 := pow_le_18 (k := k) (by omega)
        have hl : (s.data.toList.take k).length = k := by simp; omega
        rw [hl] at hb
        have hb3 : numV (s.data.toList.take k) ≤ 100000000000000000 := by omega
        have hdk : isD s[k] = true := by
          have := List.all_eq_true.1 HD.out s[k] (by rw [at_data s k hlt]; exact List.getElem_mem _)
          exact this
        have hh := half_digit hdk
        have hd2 := isD_true.1 hdk
        rw [hh] at hn
        have HN := Lib.hid hn
        clear hn hts hb hb2 hl hh hdk
        obtain ⟨g1, g2⟩ := hd2
        go_wp2
        go_round
        case rel => exact ⟨k + 1, by omega, by go_num, by rw [HN.out]; congr 1; omega⟩
        case measure => simp [intOf]; omega
      · obtain rfl : k = s.size := by omega
        go_wp2
        go_ret2
        exact ⟨by rw [E1.out, E2.out, List.take_of_length_le (by simp)]; rfl, rfl⟩

theorem wide_step (v k : Nat) : ({ data := #[48] } : ByteArray) ++ bstr (wide v k) = bstr (wide v (k + 1)) := by
  apply ByteArray.ext
  rw [ByteArray.data_append]
  simp [bstr, wide, List.replicate_succ]

/-- what the statements' own sign stands for -/
def sgn (c : UInt8) : UInt8 := if isH c then half c else 16
theorem ref_sign (c : UInt8) (w : World) : Calls Tryd.prog 58 #[.int .u8 (c.toNat : Int)] w fun e w' => e = .returned (.int .u8 ((sgn c).toNat : Int)) ∧ w = w' := by
  have h0 := c.toNat_lt
  have hcs : c.toNat < 48 ∨ (48 ≤ c.toNat ∧ c.toNat ≤ 57) ∨ (57 < c.toNat ∧ c.toNat < 65) ∨ (65 ≤ c.toNat ∧ c.toNat ≤ 70) ∨ 70 < c.toNat := by omega
  rcases hcs with h1 | ⟨h1, h2⟩ | ⟨h1, h2⟩ | ⟨h1, h2⟩ | h1
  all_goals
    first
    | (have hD : isD c = true := isD_mk h1 h2
       have hv : ((sgn c).toNat : Int) = (c.toNat : Int) - 48 := by unfold sgn isH; rw [hD, Bool.true_or, if_pos rfl, half_digit hD]; omega
       have HV := Lib.hid hv
       clear hv hD)
    | (have hD : isD c = false := isD_false (by omega)
       have hv : ((sgn c).toNat : Int) = (c.toNat : Int) - 65 + 10 := by
         unfold sgn isH half
         rw [hD, Bool.false_or, decide_eq_true (show 65 ≤ c.toNat by omega), decide_eq_true (show c.toNat ≤ 70 by omega), Bool.true_and, if_pos rfl, if_neg Bool.false_ne_true]
         simp only [UInt8.toNat_add, UInt8.toNat_sub]
         simp
         omega
       have hb57 : decide ((c.toNat : Int) ≤ 57) = false := decide_eq_false (by omega)
       have hb70 : decide ((c.toNat : Int) ≤ 70) = true := decide_eq_true (by omega)
       have HV := Lib.hid hv
       clear hv hD)
    | (have hv : ((sgn c).toNat : Int) = 16 := by
         unfold sgn isH
         rw [isD_false (by omega), Bool.false_or, if_neg (by simp; omega)]
         rfl
       have hb57 : decide ((c.toNat : Int) ≤ 57) = false ∨ decide ((c.toNat : Int) ≤ 57) = true := by simp; omega
       have HV := Lib.hid hv
       clear hv)
    go_enter Tryd.func58, Tryd.ntmps58
    go_wp2
    all_goals
      go_ret
      refine ⟨ret_u8 ?_, rfl⟩
      rw [HV.out]
end Go.Proofs.YtdfehdjpbmkaoaaDoor
