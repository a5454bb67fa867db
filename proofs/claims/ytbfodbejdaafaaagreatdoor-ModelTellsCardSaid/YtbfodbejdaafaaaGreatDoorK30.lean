/- The texts RefDig, RefTime, joined. -/
import Derived.Test.YtbfodbejdaafaaaGreatDoorK06
import Derived.Test.YtbfodbejdaafaaaGreatDoorK05
/- The statements' own digits, halves of bytes and signs: what they answer. -/
namespace Go.Proofs.YtbfodbejdaafaaaGreatDoor
open Go.RowKit
set_option maxHeartbeats 400000
set_option linter.unusedVariables false

theorem ref_right (s : ByteArray) (low top : Int) (w : World) (hs : s.size ≤ maxLen) :
    Calls Tryz.prog 45 #[.string s, .int .i64 low, .int .i64 top] w fun e w' => e = .returned (.bool (rightB s.data.toList low top)) ∧ w = w' := by
  have hl : s.data.toList.length = s.size := by simp
  unfold maxLen at hs
  go_enter Tryz.func45, Tryz.ntmps45
  go_wp2
  go_loop [7] (fun i => ∃ k : Nat, k ≤ s.size ∧ i = .int .i64 (k : Int) ∧ (s.data.toList.take k).all isD = true) (fun i => s.size - (intOf i).toNat)
  case atStart => exact ⟨0, Nat.zero_le _, rfl, by simp⟩
  case round =>
    obtain ⟨k, hk, rfl, hall⟩ := hrel
    have HA := Lib.hid hall
    have HL := Lib.hid hl
    clear hall hl
    by_cases hlt : k < s.size
    · have HT := Lib.hid (take_snoc s k hlt)
      have hno : isD s[k] = false → rightB s.data.toList low top = false := fun hb => by
        unfold rightB
        rw [show s.data.toList.all isD = false from ?_, Bool.and_false, Bool.and_false]
        rw [← Bool.not_eq_true, List.all_eq_true]
        intro hx
        have := hx s[k] (by rw [at_data s k hlt]; exact List.getElem_mem _)
        rw [hb] at this
        cases this
      have HN := Lib.hid hno
      clear hno
      have hcs : s[k].toNat < 48 ∨ (48 ≤ s[k].toNat ∧ s[k].toNat ≤ 57) ∨ 57 < s[k].toNat := by omega
      rcases hcs with h1 | ⟨h1, h2⟩ | h1
      · go_wp2
        go_ret
        exact ⟨ret_bool (HN.out (isD_false (.inl h1))).symm, rfl⟩
      · have hb : decide ((s[k].toNat : Int) < 48) = false := decide_eq_false (by omega)
        have hb2 : decide (57 < (s[k].toNat : Int)) = false := decide_eq_false (by omega)
        go_wp2
        go_round
        case rel => exact ⟨k + 1, by omega, by go_num, by rw [HT.out, List.all_append, HA.out]; simp [isD_mk h1 h2]⟩
        case measure => simp [intOf]; omega
      · have hb : decide ((s[k].toNat : Int) < 48) = false := decide_eq_false (by omega)
        go_wp2
        go_ret
        exact ⟨ret_bool (HN.out (isD_false (.inr h1))).symm, rfl⟩
    · obtain rfl : k = s.size := by omega
      have hd : s.data.toList.all isD = true := by
        have := HA.out
        rwa [List.take_of_length_le (by simp)] at this
      have hr : rightB s.data.toList low top = (decide (low ≤ (s.size : Int)) && decide ((s.size : Int) ≤ top)) := by
        unfold rightB
        rw [hd, HL.out, Bool.and_true]
      have HR := Lib.hid hr
      clear hd hr
      by_cases h1 : low ≤ (s.size : Int)
      all_goals
        go_wp2
        go_ret
        refine ⟨ret_bool ?_, rfl⟩
        rw [HR.out]
        first
          | (simp [h1]; done)
          | (simp; omega)

theorem ref_number (s : ByteArray) (w : World) (hs : s.size ≤ maxLen) :
    Calls Tryz.prog 72 #[.string s] w fun e w' => e = .returned (.tuple #[.int .u64 (numR s.data.toList : Int), .int .i64 (numE s.data.toList)]) ∧ w = w' := by
  cases hr : rightB s.data.toList 1 18 with
  | false =>
    have e1 : numR s.data.toList = 0 := by simp [numR, hr]
    have e2 : numE s.data.toList = 5 := by simp [numE, hr]
    have E1 := Lib.hid e1
    have E2 := Lib.hid e2
    have HR := Lib.hid hr
    clear e1 e2 hr
    go_enter Tryz.func72, Tryz.ntmps72
    go_wp2_with (go_at_call 45; refine (ref_right _ _ _ _ hs).mono ?_; rw [HR.out]; rintro e w' ⟨rfl, rfl⟩)
    go_ret2
    exact ⟨by rw [E1.out, E2.out]; rfl, rfl⟩
  | true =>
    have e1 : numR s.data.toList = numV s.data.toList := by simp [numR, hr]
    have e2 : numE s.data.toList = 0 := by simp [numE, hr]
    obtain ⟨h1, h2, h3⟩ := rightB_len hr
    have hsz : s.size ≤ 18 := by simp at h2; omega
    have E1 := Lib.hid e1
    have E2 := Lib.hid e2
    have HR := Lib.hid hr
    have HD := Lib.hid h3
    clear e1 e2 hr h1 h2 h3
    go_enter Tryz.func72, Tryz.ntmps72
    go_wp2_with (go_at_call 45; refine (ref_right _ _ _ _ hs).mono ?_; rw [HR.out]; rintro e w' ⟨rfl, rfl⟩)
    go_loop [4, 5] (fun v i => ∃ k : Nat, k ≤ s.size ∧ i = .int .i64 (k : Int) ∧ v = .int .u64 (numV (s.data.toList.take k) : Int)) (fun _ i => s.size - (intOf i).toNat)
    case atStart => exact ⟨0, Nat.zero_le _, rfl, rfl⟩
    case round =>
      obtain ⟨k, hk, rfl, rfl⟩ := hrel
      by_cases hlt : k < s.size
      · have hts := take_snoc s k hlt
        have hn := numV_snoc (s.data.toList.take k) s[k]
        rw [← hts] at hn
        have hb := numV_le (dig_take HD.out k)
        have hb2 := pow_le_18 (k := k) (by omega)
        have hl : (s.data.toList.take k).length = k := by simp; omega
        rw [hl] at hb
        have hb3 : numV (s.data.toList.take k) ≤ 100000000000000000 := by omega
        have hdk : isD s[k] = true := by
          have := List.all_eq_true.1 HD.out s[k] (by rw [at_data s k hlt]; exact List.getElem_mem _)
          exact this
        have hh := half_digit hdk
        have hd2 := isD_true.1 hdk
        rw [hh] at hn
        have HN := Lib.hid hn
        clear hn hts hb hb2 hl hh hdk
        obtain ⟨g1, g2⟩ := hd2
        go_wp2
        go_round
        case rel => exact ⟨k + 1, by omega, by go_num, by rw [HN.out]; congr 1; omega⟩
        case measure => simp [intOf]; omega
      · obtain rfl : k = s.size := by omega
        go_wp2
        go_ret2
        exact ⟨by rw [E1.out, E2.out, List.take_of_length_le (by simp)]; rfl, rfl⟩

theorem wide_step (v k : Nat) : ({ data := #[48] } : ByteArray) ++ bstr (wide v k) = bstr (wide v (k + 1)) := by
  apply ByteArray.ext
  rw [ByteArray.data_append]
  simp [bstr, wide, List.replicate_succ]

theorem ref_digits (v : Nat) (z : Int) (w : World) (hv : v < 18446744073709551616) :
    Calls Tryz.prog 90 #[.int .u64 (v : Int), .int .i64 z] w fun e w' => e = .returned (.tuple #[.string (bstr (textR v z)), .int .i64 (textE v z)]) ∧ Fr No w w' := by
  have hfm := fun w => digits_any v w hv
  have hl := decDigits_len v hv
  have HV := Lib.hid hv
  clear hv
  rcases text_cases v z with ⟨h, e1, e2⟩ | ⟨h, e1, e2⟩ | ⟨h1, h2, h3, e1, e2⟩ | ⟨m, rfl, h1, h2, e1, e2⟩
  · rw [e1, e2]
    clear e1 e2 hfm
    go_enter Tryz.func90, Tryz.ntmps90
    go_wp2
    go_ret2
    exact ⟨rfl, Fr.refl _ _⟩
  · rw [e1, e2]
    clear e1 e2 hfm
    go_enter Tryz.func90, Tryz.ntmps90
    go_wp2
    go_ret2
    exact ⟨rfl, Fr.refl _ _⟩
  · rw [e1, e2]
    have hsz : (bstr (Lib.decDigits v)).size = (Lib.decDigits v).length := bstr_size _
    generalize bstr (Lib.decDigits v) = D at hfm hsz
    rw [← hsz] at h3 hl
    have HF := Lib.hid hfm
    clear e1 e2 hfm hsz
    go_enter Tryz.func90, Tryz.ntmps90
    go_wp2_with (go_at_call 91; refine (HF.out _).mono ?_; rintro e w1 ⟨rfl, hf⟩)
    go_ret2
    exact ⟨rfl, hf⟩
  · rw [e1, e2]
    have hw0 : bstr (Lib.decDigits v) = bstr (wide v 0) := by simp [wide]
    rw [hw0] at hfm
    have hwz : ∀ k, (bstr (wide v k)).size = k + (Lib.decDigits v).length := fun k => by rw [bstr_size, wide_length]
    have hws := wide_step v
    generalize hZ : (fun k => bstr (wide v k)) = Z at *
    have hz1 : ∀ k, bstr (wide v k) = Z k := fun k => by rw [← hZ]
    simp only [hz1] at hfm hwz hws ⊢
    generalize (Lib.decDigits v).length = L at *
    have HF := Lib.hid hfm
    have HZ := Lib.hid hwz
    have HS := Lib.hid hws
    have h0z := hwz 0
    have h0 : (Z 0).size ≤ 20 := by omega
    have h0i : ((Z 0).size : Int) = (L : Int) := by omega
    have hm20 : m ≤ 20 := by omega
    clear e1 e2 hfm hwz hws hw0 hZ hz1
    go_enter Tryz.func90, Tryz.ntmps90
    go_wp2_with (go_at_call 91; refine (HF.out _).mono ?_; rintro e w1 ⟨rfl, hf⟩)
    go_loop [6] (fun x => ∃ k : Nat, k ≤ m ∧ x = .string (Z k)) (fun x => m + L - (match x with | .string s => s.size | _ => 0))
    case atStart => exact ⟨0, Nat.zero_le _, rfl⟩
    case round =>
      obtain ⟨k, hk, rfl⟩ := hrel
      have hkz : ((Z k).size : Int) = (k : Int) + (L : Int) := by have := HZ.out k; omega
      have hkz2 := HZ.out k
      have hkz3 := HZ.out (k + 1)
      have HK := Lib.hid hkz2
      have HK3 := Lib.hid hkz3
      clear hkz2 hkz3
      rcases Nat.lt_or_ge k m with hlt | hge
      · have hs1 := HS.out k
        have HS1 := Lib.hid hs1
        clear hs1
        go_wp2
        go_round
        case rel => exact ⟨k + 1, by omega, by rw [HS1.out]⟩
        case measure =>
          show m + L - (({ data := #[48] } : ByteArray) ++ Z k).size < m + L - (Z k).size
          rw [HS1.out, HK3.out, HK.out]
          omega
      · obtain rfl : k = m := by omega
        go_wp2
        go_ret2
        exact ⟨rfl, hf⟩

/-- what the statements' own sign stands for -/
def sgn (c : UInt8) : UInt8 := if isH c then half c else 16
theorem ref_sign (c : UInt8) (w : World) : Calls Tryz.prog 74 #[.int .u8 (c.toNat : Int)] w fun e w' => e = .returned (.int .u8 ((sgn c).toNat : Int)) ∧ w = w' := by
  have h0 := c.toNat_lt
  have hcs : c.toNat < 48 ∨ (48 ≤ c.toNat ∧ c.toNat ≤ 57) ∨ (57 < c.toNat ∧ c.toNat < 65) ∨ (65 ≤ c.toNat ∧ c.toNat ≤ 70) ∨ 70 < c.toNat := by omega
  rcases hcs with h1 | ⟨h1, h2⟩ | ⟨h1, h2⟩ | ⟨h1, h2⟩ | h1
  all_goals
    first
    | (have hD : isD c = true := isD_mk h1 h2
       have hv : ((sgn c).toNat : Int) = (c.toNat : Int) - 48 := by unfold sgn isH; rw [hD, Bool.true_or, if_pos rfl, half_digit hD]; omega
       have HV := Lib.hid hv
       clear hv hD)
    | (have hD : isD c = false := isD_false (by omega)
       have hv : ((sgn c).toNat : Int) = (c.toNat : Int) - 65 + 10 := by
         unfold sgn isH half
         rw [hD, Bool.false_or, decide_eq_true (show 65 ≤ c.toNat by omega), decide_eq_true (show c.toNat ≤ 70 by omega), Bool.true_and, if_pos rfl, if_neg Bool.false_ne_true]
         simp only [UInt8.toNat_add, UInt8.toNat_sub]
         simp
         omega
       have hb57 : decide ((c.toNat : Int) ≤ 57) = false := decide_eq_false (by omega)
       have hb70 : decide ((c.toNat : Int) ≤ 70) = true := decide_eq_true (by omega)
       have HV := Lib.hid hv
       clear hv hD)
    | (have hv : ((sgn c).toNat : Int) = 16 := by
         unfold sgn isH
         rw [isD_false (by omega), Bool.false_or, if_neg (by simp; omega)]
         rfl
       have hb57 : decide ((c.toNat : Int) ≤ 57) = false ∨ decide ((c.toNat : Int) ≤ 57) = true := by simp; omega
       have HV := Lib.hid hv
       clear hv)
    go_enter Tryz.func74, Tryz.ntmps74
    go_wp2
    all_goals
      go_ret
      refine ⟨ret_u8 ?_, rfl⟩
      rw [HV.out]
end Go.Proofs.YtbfodbejdaafaaaGreatDoor
/- The statements' own times: contracts of their calls. -/
namespace Go.Proofs.YtbfodbejdaafaaaGreatDoor
open Go.RowKit
set_option maxHeartbeats 1000000
set_option linter.unusedVariables false

theorem leap_ref (y : Nat) : leapB y = (decide (y % 4 = 0) && (decide (y % 100 ≠ 0) || decide (y % 400 = 0))) := by
  unfold leapB
  split <;> rw [Bool.eq_iff_iff] <;> simp <;> omega
theorem r_days (y m : Nat) (w : World) : Calls Tryz.prog 110 #[.int .i64 (y : Int), .int .i64 (m : Int)] w fun e w' => e = .returned (.int .i64 (daysN y m : Int)) ∧ w = w' := by
  cases hl : leapB y with
  | true =>
    have hf : daysN y m = if m = 4 ∨ m = 6 ∨ m = 9 ∨ m = 11 then 30 else if m = 2 then 29 else 31 := by unfold daysN; rw [hl]; rfl
    rw [leap_ref] at hl
    simp only [Bool.and_eq_true, Bool.or_eq_true, decide_eq_true_eq] at hl
    have HF := Lib.hid hf; have HL := Lib.hid hl
    clear hf hl
    go_enter Tryz.func110, Tryz.ntmps110
    go_wp2
    all_goals
      go_ret
      refine ⟨?_, rfl⟩
      rw [HF.out]
      have hl := HL.out
      repeat' split
      all_goals (first | rfl | (exfalso; simp_all; done) | (exfalso; simp at *; omega))
  | false =>
    have hf : daysN y m = if m = 4 ∨ m = 6 ∨ m = 9 ∨ m = 11 then 30 else if m = 2 then 28 else 31 := by unfold daysN; rw [hl]; rfl
    rw [leap_ref] at hl
    simp only [Bool.and_eq_false_iff, Bool.or_eq_false_iff, decide_eq_false_iff_not] at hl
    have HF := Lib.hid hf; have HL := Lib.hid hl
    clear hf hl
    go_enter Tryz.func110, Tryz.ntmps110
    go_wp2
    all_goals
      go_ret
      refine ⟨?_, rfl⟩
      rw [HF.out]
      have hl := HL.out
      repeat' split
      all_goals (first | rfl | (exfalso; simp_all; done) | (exfalso; simp at *; omega))
theorem r_part (s : ByteArray) (i j : Nat) (hd : s.data.toList.all isD = true) (h1 : i < j) (h2 : j ≤ s.size) (h3 : j - i ≤ 4) (w : World) :
    Calls Tryz.prog 109 #[.string s, .int .i64 (i : Int), .int .i64 (j : Int)] w fun e w' => e = .returned (.int .i64 (prt s.data.toList i j : Int)) ∧ w = w' := by
  have hsl := s_size s
  obtain ⟨X, hX⟩ : ∃ X, s.extract i j = X := ⟨_, rfl⟩
  have hx := ext_cutN s i j
  rw [hX] at hx
  have hln := cutN_len s.data.toList i j (by omega)
  have hxs : X.size ≤ maxLen := by have := s_size X; rw [hx] at this; unfold maxLen; omega
  have hc := fun u => ref_number X u hxs
  obtain ⟨n1, n2⟩ := num_digits (cutN_all hd i j) (by omega) (by omega)
  rw [hx, n1, n2] at hc
  have hlt := prt_lt hd i j (by omega) h3
  have e0 : numV (cutN s.data.toList i j) = prt s.data.toList i j := rfl
  rw [e0] at hc
  generalize prt s.data.toList i j = V at hc hlt ⊢
  have hg1 : (i : Int) ≤ (j : Int) := by omega
  have hg2 : (j : Int) ≤ (s.size : Int) := by omega
  have HC := Lib.hid hc
  clear hc n1 n2 hd hx hln hxs hsl e0 h3
  go_enter Tryz.func109, Tryz.ntmps109
  go_wp2_with (go_at_call 72; refine (HC.out _).mono ?_; rintro e w' ⟨rfl, rfl⟩)
  go_ret
  exact ⟨rfl, rfl⟩

set_option maxHeartbeats 4000000 in
theorem r_time (s : ByteArray) (w : World) (hs : s.size ≤ maxLen) :
    Calls Tryz.prog 89 #[.string s] w fun e w' => e = .returned (.bool (timeB s.data.toList)) ∧ Dr w w' := by
  have hr := fun u => ref_right s 14 14 u hs
  unfold timeB
  cases hb : rightB s.data.toList 14 14 with
  | false =>
    rw [hb] at hr
    have HR := Lib.hid hr
    clear hr hb
    go_enter Tryz.func89, Tryz.ntmps89
    go_wp2_with (go_at_call 45; refine (HR.out _).mono ?_; rintro e w' ⟨rfl, rfl⟩)
    go_ret
    exact ⟨rfl, Dr.refl _⟩
  | true =>
    rw [hb] at hr
    obtain ⟨b1, b2, b3⟩ := rightB_len hb
    have hl := s_size s
    have hsz : s.size = 14 := by omega
    have p0 := fun u => r_part s 0 4 b3 (by omega) (by omega) (by omega) u
    have p1 := fun u => r_part s 4 6 b3 (by omega) (by omega) (by omega) u
    have p2 := fun u => r_part s 6 8 b3 (by omega) (by omega) (by omega) u
    have p3 := fun u => r_part s 8 10 b3 (by omega) (by omega) (by omega) u
    have p4 := fun u => r_part s 10 12 b3 (by omega) (by omega) (by omega) u
    have p5 := fun u => r_part s 12 14 b3 (by omega) (by omega) (by omega) u
    simp only [Int.cast_ofNat_Int] at p0 p1 p2 p3 p4 p5
    generalize prt s.data.toList 0 4 = Y at p0 ⊢
    generalize prt s.data.toList 4 6 = M at p1 ⊢
    generalize prt s.data.toList 6 8 = D at p2 ⊢
    generalize prt s.data.toList 8 10 = H at p3 ⊢
    generalize prt s.data.toList 10 12 = N at p4 ⊢
    generalize prt s.data.toList 12 14 = C at p5 ⊢
    have hdn := fun u => r_days Y M u
    unfold timeP datedB
    generalize daysN Y M = DN at hdn ⊢
    have P0 := Lib.hid p0; have P1 := Lib.hid p1; have P2 := Lib.hid p2; have P3 := Lib.hid p3; have P4 := Lib.hid p4; have P5 := Lib.hid p5; have HR := Lib.hid hr; have HDN := Lib.hid hdn
    clear p0 p1 p2 p3 p4 p5 hr hb b1 b2 b3 hl hsz hs hdn
    go_enter Tryz.func89, Tryz.ntmps89
    go_wp2_with (first
      | (go_at_call 45; refine (HR.out _).mono ?_; rintro e w' ⟨rfl, rfl⟩)
      | (go_at_call 110; refine (HDN.out _).mono ?_; rintro e w' ⟨rfl, rfl⟩)
      | (go_at_call 109; (with_reducible refine (P0.out _).mono ?_); rintro e w' ⟨rfl, rfl⟩)
      | (go_at_call 109; (with_reducible refine (P1.out _).mono ?_); rintro e w' ⟨rfl, rfl⟩)
      | (go_at_call 109; (with_reducible refine (P2.out _).mono ?_); rintro e w' ⟨rfl, rfl⟩)
      | (go_at_call 109; (with_reducible refine (P3.out _).mono ?_); rintro e w' ⟨rfl, rfl⟩)
      | (go_at_call 109; (with_reducible refine (P4.out _).mono ?_); rintro e w' ⟨rfl, rfl⟩)
      | (go_at_call 109; (with_reducible refine (P5.out _).mono ?_); rintro e w' ⟨rfl, rfl⟩))
    all_goals
      go_ret
      refine ⟨ret_bool ?_, Dr.refl _⟩
      rw [Bool.eq_iff_iff]
      simp
      try omega
end Go.Proofs.YtbfodbejdaafaaaGreatDoor
