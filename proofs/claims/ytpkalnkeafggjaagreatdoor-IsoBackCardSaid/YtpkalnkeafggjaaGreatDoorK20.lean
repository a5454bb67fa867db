/- The texts Dig2, TxtProg0, joined. -/
import Derived.Test.YtpkalnkeafggjaaGreatDoorK19
import Derived.Test.YtpkalnkeafggjaaGreatDoorK06
import Derived.Test.YtpkalnkeafggjaaGreatDoorK05
/- What package digits makes of texts: a number, bytes of two signs each, signs of bytes: contracts of its calls. -/
namespace Go.Proofs.YtpkalnkeafggjaaGreatDoor
open Go.RowKit
set_option maxHeartbeats 400000
set_option linter.unusedVariables false
set_option maxRecDepth 20000

theorem number_any (s : ByteArray) (w : World) (hs : s.size ≤ maxLen) :
    Calls Tryz.prog 93 #[.string s] w fun e w' => e = .returned (.tuple #[.int .u64 (numR s.data.toList : Int), .int .i64 (numE s.data.toList)]) ∧ w = w' := by
  cases hr : rightB s.data.toList 1 18 with
  | false =>
    have e1 : numR s.data.toList = 0 := by simp [numR, hr]
    have e2 : numE s.data.toList = 5 := by simp [numE, hr]
    have E1 := Lib.hid e1
    have E2 := Lib.hid e2
    have HR := Lib.hid hr
    clear e1 e2 hr
    go_enter Tryz.func93, Tryz.ntmps93
    go_wp2_with (go_at_call 37; refine (right_any _ _ _ _ hs).mono ?_; rw [HR.out]; rintro e w' ⟨rfl, rfl⟩)
    go_ret2
    exact ⟨by rw [E1.out, E2.out]; rfl, rfl⟩
  | true =>
    have e1 : numR s.data.toList = numV s.data.toList := by simp [numR, hr]
    have e2 : numE s.data.toList = 0 := by simp [numE, hr]
    obtain ⟨h1, h2, h3⟩ := rightB_len hr
    have hsz : s.size ≤ 18 := by simp at h2; omega
    have E1 := Lib.hid e1
    have E2 := Lib.hid e2
    have HR := Lib.hid hr
    have HD := Lib.hid h3
    clear e1 e2 hr h1 h2 h3
    go_enter Tryz.func93, Tryz.ntmps93
    go_wp2_with (go_at_call 37; refine (right_any _ _ _ _ hs).mono ?_; rw [HR.out]; rintro e w' ⟨rfl, rfl⟩)
    go_loop [4, 11] (fun v i => ∃ k : Nat, k ≤ s.size ∧ i = .int .i64 (k : Int) ∧ v = .int .u64 (numV (s.data.toList.take k) : Int)) (fun _ i => s.size - (intOf i).toNat)
    case atStart => exact ⟨0, Nat.zero_le _, rfl, rfl⟩
    case round =>
      obtain ⟨k, hk, rfl, rfl⟩ := hrel
      by_cases hlt : k < s.size
      · have hts := take_snoc s k hlt
        have hn := numV_snoc (s.data.toList.take k) s[k]
        rw [← hts] at hn
        have hb := numV_le (dig_take HD.out k)
        have hb2 := pow_le_18 (k := k) (by omega)
        have hl : (s.data.toList.take k).length = k := by simp; omega
        rw [hl] at hb
        have hb3 : numV (s.data.toList.take k) ≤ 100000000000000000 := by omega
        have hh : (half s[k]).toNat < 256 := UInt8.toNat_lt _
        have HN := Lib.hid hn
        clear hn hts hb hb2 hl
        go_wp2_with (go_at_call 97; refine (half_any _ _).mono ?_; rintro e w' ⟨rfl, rfl⟩)
        go_round
        case rel => exact ⟨k + 1, by omega, by go_num, by rw [HN.out]; go_num⟩
        case measure => simp [intOf]; omega
      · obtain rfl : k = s.size := by omega
        go_wp2
        go_ret2
        exact ⟨by rw [E1.out, E2.out, List.take_of_length_le (by simp)]; rfl, rfl⟩

/-- as many bytes as there are pairs: the first k are those of the text, the others 0 -/
def pairRow (l : List UInt8) (n k : Nat) : List UInt8 := pairL (l.take (2 * k)) ++ List.replicate (n - k) 0
theorem pairRow_set (s : ByteArray) (n k : Nat) (hn : n = s.size / 2) (hk : k < n) (h1 : 2 * k < s.size) (h2 : 2 * k + 1 < s.size) :
    (u8s (pairRow s.data.toList n k)).set k (.int .u8 ((pr s[2 * k] s[2 * k + 1]).toNat : Int)) = u8s (pairRow s.data.toList n (k + 1)) := by
  have hp : (pairL (s.data.toList.take (2 * k))).length = k := by rw [pairL_length]; simp; omega
  unfold pairRow
  rw [pairL_snoc k s.data.toList s[2 * k] s[2 * k + 1] (List.getElem?_eq_getElem (by simpa using h1)) (List.getElem?_eq_getElem (by simpa using h2))]
  obtain ⟨m, hm⟩ : ∃ m, n - k = m + 1 := ⟨n - k - 1, by omega⟩
  rw [hm, show n - (k + 1) = m from by omega, List.replicate_succ]
  simp only [u8s, List.map_append, List.map_cons, List.map_nil, List.append_assoc]
  rw [List.set_append_right _ _ (by simp [hp])]
  simp [hp]

theorem pairL_even : ∀ l m : List UInt8, m.length ≤ 1 → l.length % 2 = 0 → pairL (l ++ m) = pairL l
  | [], [], _, _ => rfl
  | [], [x], _, _ => rfl
  | [], _ :: _ :: _, h, _ => by simp at h
  | [x], _, _, h => by simp at h
  | x :: y :: r, m, h, h2 => by
    simp only [List.cons_append, pairL, pairL_even r m h (by simp at h2; omega)]
theorem pairL_all (s : ByteArray) (n : Nat) (hn : n = s.size / 2) : pairL (s.data.toList.take (2 * n)) = pairL s.data.toList := by
  have h := pairL_even (s.data.toList.take (2 * n)) (s.data.toList.drop (2 * n)) (by simp; omega) (by simp; omega)
  rw [List.take_append_drop] at h
  exact h.symm
theorem pairRow_length (s : ByteArray) (n k : Nat) (hn : n = s.size / 2) (hk : k ≤ n) : (pairRow s.data.toList n k).length = n := by
  unfold pairRow
  rw [List.length_append, pairL_length]
  simp
  omega

theorem half_still (c : UInt8) (w : World) : Calls Tryz.prog 97 #[.int .u8 (c.toNat : Int)] w fun e w' => e = .returned (.int .u8 ((half c).toNat : Int)) ∧ w' = w := (half_any c w).mono fun _ _ h => ⟨h.1, h.2.symm⟩

theorem nought_data (s : ByteArray) : (({ data := #[48] } : ByteArray) ++ s).data.toList = 48 :: s.data.toList := by simp
theorem nought_size (s : ByteArray) : (({ data := #[48] } : ByteArray) ++ s).size = s.size + 1 := by
  rw [ByteArray.size_append]
  exact Nat.add_comm _ _

/-- what Bcd answers -/
def bcdR (l : List UInt8) : List UInt8 := if rightB l 0 100 then pairL (evenL l) else []
def bcdE (l : List UInt8) : Int := if rightB l 0 100 then 0 else 5

/-- what UnHex answers -/
def unhexB (l : List UInt8) : Bool := decide (l.length % 2 = 0) && l.all isH
def unhexR (l : List UInt8) : List UInt8 := if unhexB l then pairL l else []
def unhexE (l : List UInt8) : Int := if unhexB l then 0 else 5

end Go.Proofs.YtpkalnkeafggjaaGreatDoor
/- What package text does with bytes alone: contracts of its calls that read no table. -/
namespace Go.Proofs.YtpkalnkeafggjaaGreatDoor
open Go.RowKit
set_option maxHeartbeats 400000
set_option linter.unusedVariables false
set_option maxRecDepth 20000

theorem t_above_any (c : UInt8) (w : World) : Calls Tryz.prog 128 #[.int .u8 (c.toNat : Int)] w fun e w' => e = .returned (.bool (decide (32 ≤ c.toNat))) ∧ w = w' := by
  go_enter Tryz.func128, Tryz.ntmps128
  go_wp2
  all_goals
    go_ret
    refine ⟨ret_bool ?_, rfl⟩
    rw [Bool.eq_iff_iff]
    simp
    try omega
theorem t_printed_any (c : UInt8) (w : World) : Calls Tryz.prog 116 #[.int .u8 (c.toNat : Int)] w fun e w' => e = .returned (.bool (ansC c)) ∧ w = w' := by
  go_enter Tryz.func116, Tryz.ntmps116
  go_wp2_with (go_at_call 128; refine (t_above_any _ _).mono ?_; rintro e w' ⟨rfl, rfl⟩)
  all_goals
    go_ret
    refine ⟨ret_bool ?_, rfl⟩
    unfold ansC
    rw [Bool.eq_iff_iff]
    simp_all
    try omega
def isDig (b : UInt8) : Bool := decide (48 ≤ b.toNat ∧ b.toNat ≤ 57)
def isLet (b : UInt8) : Bool := decide ((65 ≤ b.toNat ∧ b.toNat ≤ 90) ∨ (97 ≤ b.toNat ∧ b.toNat ≤ 122))
theorem t_digit_any (c : UInt8) (w : World) : Calls Tryz.prog 126 #[.int .u8 (c.toNat : Int)] w fun e w' => e = .returned (.bool (isDig c)) ∧ w = w' := by
  go_enter Tryz.func126, Tryz.ntmps126
  go_wp2
  all_goals
    go_ret
    refine ⟨ret_bool ?_, rfl⟩
    unfold isDig
    rw [Bool.eq_iff_iff]
    simp
    omega
theorem t_letter_any (c : UInt8) (w : World) : Calls Tryz.prog 127 #[.int .u8 (c.toNat : Int)] w fun e w' => e = .returned (.bool (isLet c)) ∧ w = w' := by
  go_enter Tryz.func127, Tryz.ntmps127
  go_wp2
  all_goals
    go_ret
    refine ⟨ret_bool ?_, rfl⟩
    unfold isLet
    rw [Bool.eq_iff_iff]
    simp
    omega
theorem t_alnum_any (c : UInt8) (w : World) : Calls Tryz.prog 115 #[.int .u8 (c.toNat : Int)] w fun e w' => e = .returned (.bool (alnC c)) ∧ w = w' := by
  go_enter Tryz.func115, Tryz.ntmps115
  go_wp2_with (first
    | (go_at_call 126; refine (t_digit_any _ _).mono ?_; rintro e w' ⟨rfl, rfl⟩)
    | (go_at_call 127; refine (t_letter_any _ _).mono ?_; rintro e w' ⟨rfl, rfl⟩))
  all_goals
    go_ret
    refine ⟨ret_bool ?_, rfl⟩
    rw [Bool.eq_iff_iff]
    simp_all [alnC, isDig, isLet]
    try omega
theorem t_within_any (n low top : Int) (w : World) : Calls Tryz.prog 113 #[.int .i64 n, .int .i64 low, .int .i64 top] w fun e w' => e = .returned (.bool (decide (low ≤ n) && decide (n ≤ top))) ∧ w = w' := by
  go_enter Tryz.func113, Tryz.ntmps113
  go_wp2
  all_goals
    go_ret
    refine ⟨ret_bool ?_, rfl⟩
    rw [Bool.eq_iff_iff]
    simp
    try omega

theorem t_every_any (f : FuncId) (t : UInt8 → Bool) (ht : Tests f t) (s : ByteArray) (w : World) (hs : s.size ≤ maxLen) :
    Calls Tryz.prog 114 #[.string s, .func (.func f) #[] #[]] w fun e w' => e = .returned (.bool (allB s.data.toList t)) ∧ w = w' := by
  unfold maxLen at hs
  go_enter Tryz.func114, Tryz.ntmps114
  go_wp2
  go_loop [8] (fun i => ∃ k : Nat, k ≤ s.size ∧ i = .int .i64 (k : Int) ∧ (s.data.toList.take k).all t = true) (fun i => s.size - (intOf i).toNat)
  case atStart => exact ⟨0, Nat.zero_le _, rfl, by simp⟩
  case round =>
    obtain ⟨k, hk, rfl, hall⟩ := hrel
    have HA := Lib.hid hall
    clear hall
    have h63 : (k : Int) + 1 ≤ 9223372036854775807 ∨ k = s.size := by omega
    by_cases hlt : k < s.size
    · have hts := take_snoc s k hlt
      have HT := Lib.hid hts
      clear hts
      have htc : ∀ w : World, Calls Tryz.prog f #[.int .u8 (s[k].toNat : Int)] w fun e w' => e = .returned (.bool (t s[k])) ∧ w = w' := fun w => ht.tells s[k] w
      have hen := ht.enters
      have HC := Lib.hid htc
      clear htc
      cases hb : t s[k] with
      | true =>
        have HB := Lib.hid hb
        clear hb
        go_wp2_with (refine (HC.out _).mono ?_; rw [HB.out]; rintro e w' ⟨rfl, rfl⟩)
        go_round
        case rel => exact ⟨k + 1, by omega, by go_num, by rw [HT.out, List.all_append, HA.out]; simp [HB.out]⟩
        case measure => simp [intOf]; omega
      | false =>
        have HB := Lib.hid hb
        clear hb
        go_wp2_with (refine (HC.out _).mono ?_; rw [HB.out]; rintro e w' ⟨rfl, rfl⟩)
        go_ret
        refine ⟨ret_bool ?_, rfl⟩
        symm
        unfold allB
        rw [← Bool.not_eq_true, List.all_eq_true]
        intro hx
        have := hx s[k] (by rw [at_data s k hlt]; exact List.getElem_mem _)
        rw [HB.out] at this
        cases this
    · obtain rfl : k = s.size := by omega
      go_wp2
      go_ret
      refine ⟨ret_bool ?_, rfl⟩
      have := HA.out
      rw [List.take_of_length_le (by simp)] at this
      exact this.symm


theorem tests_above : Tests 128 (fun c => decide (32 ≤ c.toNat)) := ⟨fun _ _ => by kernel_rfl, fun c w => t_above_any c w⟩
theorem tests_printed : Tests 116 ansC := ⟨fun _ _ => by kernel_rfl, fun c w => t_printed_any c w⟩
theorem tests_alnum : Tests 115 alnC := ⟨fun _ _ => by kernel_rfl, fun c w => t_alnum_any c w⟩

theorem text_ans_any (s : ByteArray) (top : Int) (w : World) (hs : s.size ≤ 140737488355328) :
    Calls Tryz.prog 105 #[.string s, .int .i64 top] w fun e w' => e = .returned (.bool (ansB s.data.toList top)) ∧ Fr No w w' := by
  have e : ansB s.data.toList top = ((decide (1 ≤ (s.size : Int)) && decide ((s.size : Int) ≤ top)) && allB s.data.toList ansC) := by
    unfold ansB allB
    rw [show s.data.toList.length = s.size by simp, Bool.and_comm]
  have hm : s.size ≤ maxLen := by unfold maxLen; omega
  have h63 : (s.size : Int) ≤ 9223372036854775807 := by omega
  rw [e]
  generalize hq : allB s.data.toList ansC = q
  have HQ := Lib.hid hq; have HM := Lib.hid hm
  clear hq e hs hm
  go_enter Tryz.func105, Tryz.ntmps105
  go_wp2_with (first
    | (go_at_call 113; refine (t_within_any _ _ _ _).mono ?_; rintro e w' ⟨rfl, rfl⟩)
    | (go_at_call 114; refine (t_every_any _ _ tests_printed s _ HM.out).mono ?_; rw [HQ.out]; rintro e w' ⟨rfl, rfl⟩))
  all_goals
    go_ret
    refine ⟨ret_bool ?_, Fr.refl _ _⟩
    first
      | (simp_all; done)
      | (rw [show (q : Bool) = q from rfl]; simp_all; intros; omega)
theorem text_aln_any (s : ByteArray) (low top : Int) (w : World) (hs : s.size ≤ 140737488355328) :
    Calls Tryz.prog 104 #[.string s, .int .i64 low, .int .i64 top] w fun e w' => e = .returned (.bool (alnB s.data.toList low top)) ∧ Fr No w w' := by
  have e : alnB s.data.toList low top = ((decide (low ≤ (s.size : Int)) && decide ((s.size : Int) ≤ top)) && allB s.data.toList alnC) := by
    unfold alnB allB
    rw [show s.data.toList.length = s.size by simp, Bool.and_comm]
  have hm : s.size ≤ maxLen := by unfold maxLen; omega
  have h63 : (s.size : Int) ≤ 9223372036854775807 := by omega
  rw [e]
  generalize hq : allB s.data.toList alnC = q
  have HQ := Lib.hid hq; have HM := Lib.hid hm
  clear hq e hs hm
  go_enter Tryz.func104, Tryz.ntmps104
  go_wp2_with (first
    | (go_at_call 113; refine (t_within_any _ _ _ _).mono ?_; rintro e w' ⟨rfl, rfl⟩)
    | (go_at_call 114; refine (t_every_any _ _ tests_alnum s _ HM.out).mono ?_; rw [HQ.out]; rintro e w' ⟨rfl, rfl⟩))
  all_goals
    go_ret
    refine ⟨ret_bool ?_, Fr.refl _ _⟩
    first
      | (simp_all; done)
      | (rw [show (q : Bool) = q from rfl]; simp_all; intros; omega)
end Go.Proofs.YtpkalnkeafggjaaGreatDoor
