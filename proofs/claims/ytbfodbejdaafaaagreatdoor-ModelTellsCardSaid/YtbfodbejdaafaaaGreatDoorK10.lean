/- The texts RefTxt2, RefTxt3, joined. -/
import Derived.Test.YtbfodbejdaafaaaGreatDoorK09
import Derived.Test.YtbfodbejdaafaaaGreatDoorK02
import Derived.Test.YtbfodbejdaafaaaGreatDoorK03
/- The statements' own answers about texts: how many characters, and of which kinds. -/
namespace Go.Proofs.YtbfodbejdaafaaaGreatDoor
open Go.RowKit
set_option maxHeartbeats 1000000
set_option linter.unusedVariables false

/-- how many characters, or -1 -/
def cntZ (l : List UInt8) : Int := match cnt l with
  | none => -1
  | some n => n
theorem cntZ_utf8 (l : List UInt8) : decide (0 ≤ cntZ l) = utf8B l := by
  unfold cntZ utf8B
  cases cnt l <;> simp
theorem cntZ_runes (l : List UInt8) : max 0 (cntZ l) = (runesN l : Int) := by
  unfold cntZ runesN
  cases cnt l with
  | none => rfl
  | some n => simp
theorem cntZ_bound (l : List UInt8) : -1 ≤ cntZ l ∧ cntZ l ≤ l.length := by
  unfold cntZ
  cases h : cnt l with
  | none => simp
  | some n => have := cnt_le _ l (Nat.le_refl _) n h; simp; omega

set_option maxRecDepth 100000 in
theorem ref_count_any (s : ByteArray) (w : World) (hs : s.size ≤ 140737488355328) :
    Calls Tryz.prog 52 #[.string s] w fun e w' => e = .returned (.int .i64 (cntZ s.data.toList)) ∧ w = w' := by
  have hl : s.data.toList.length = s.size := by simp
  have HL := Lib.hid hl
  clear hl
  go_enter Tryz.func52, Tryz.ntmps52
  go_wp2
  go_loop [3, 4] (fun nv iv => ∃ n i : Nat, n ≤ i ∧ i ≤ s.size ∧ nv = .int .i64 (n : Int) ∧ iv = .int .i64 (i : Int) ∧ cnt s.data.toList = (cnt (s.data.toList.drop i)).map (n + ·)) (fun _ iv => s.size - (intOf iv).toNat)
  case atStart => exact ⟨0, 0, Nat.le_refl _, Nat.zero_le _, rfl, rfl, by cases h : cnt s.data.toList <;> simp [h]⟩
  case round =>
    obtain ⟨n, i, hni, hi, rfl, rfl, hc⟩ := hrel
    rcases Nat.lt_or_ge i s.size with hlt | hge
    · have hne : s.data.toList.drop i ≠ [] := by
        intro e
        have := congrArg List.length e
        rw [List.length_drop, HL.out, List.length_nil] at this
        omega
      have hst := cnt_step hne
      by_cases hz : sizeB (s.data.toList.drop i) = 0
      · rw [if_pos hz] at hst
        have hr : cntZ s.data.toList = -1 := by unfold cntZ; rw [hc, hst]; rfl
        have HR := Lib.hid hr; have HZ := Lib.hid hz
        clear hc hst hne hz hr
        go_wp2_with (go_at_call 75; refine (ref_chr_any s i _ hs hlt).mono ?_; rw [HZ.out]; rintro e w' ⟨⟨c, rfl⟩, rfl⟩)
        go_ret
        exact ⟨by rw [HR.out]; rfl, rfl⟩
      · rw [if_neg hz] at hst
        obtain ⟨p1, p2, p3⟩ := sizeB_pos hz
        rw [List.length_drop, HL.out] at p1
        have hc2 : cnt s.data.toList = (cnt (s.data.toList.drop (i + sizeB (s.data.toList.drop i)))).map (n + 1 + ·) := by
          rw [hc, hst, List.drop_drop]
          cases cnt (s.data.toList.drop (i + sizeB (s.data.toList.drop i))) with
          | none => rfl
          | some y => simp; omega
        obtain ⟨z, hzz⟩ : ∃ z, z = sizeB (s.data.toList.drop i) := ⟨_, rfl⟩
        rw [← hzz] at hz p1 p2 hc2
        have HZZ := Lib.hid hzz; have HC2 := Lib.hid hc2
        have hz1 : 1 ≤ z := by omega
        have hzI : ((z : Int) == 0) = false := by rw [beq_eq_false_iff_ne]; omega
        clear hc hst hne hzz hc2 hz
        go_wp2_with (go_at_call 75; refine (ref_chr_any s i _ hs hlt).mono ?_; rw [← HZZ.out]; rintro e w' ⟨⟨c, rfl⟩, rfl⟩)
        go_round
        case rel => exact ⟨n + 1, i + z, by omega, by omega, by go_num, by go_num, HC2.out⟩
        case measure => simp [intOf]; omega
    · obtain rfl : i = s.size := by omega
      have hr : cntZ s.data.toList = n := by
        unfold cntZ
        rw [hc, List.drop_of_length_le (by rw [HL.out]; exact Nat.le_refl _), cnt_nil]
        rfl
      have HR := Lib.hid hr
      clear hc hr
      go_wp2
      go_ret
      exact ⟨by rw [HR.out]; rfl, rfl⟩

theorem ref_utf8_any (s : ByteArray) (w : World) (hs : s.size ≤ 140737488355328) :
    Calls Tryz.prog 29 #[.string s] w fun e w' => e = .returned (.bool (utf8B s.data.toList)) ∧ w = w' := by
  have hu := cntZ_utf8 s.data.toList
  have HU := Lib.hid hu
  clear hu
  go_enter Tryz.func29, Tryz.ntmps29
  go_wp2_with (go_at_call 52; refine (ref_count_any s _ hs).mono ?_; rintro e w' ⟨rfl, rfl⟩)
  go_ret
  exact ⟨ret_bool HU.out, rfl⟩

theorem plain_eq {l : List UInt8} {low top : Int} (h : lowest l = true) : plainB l low top = (decide (0 ≤ cntZ l) && (decide (low ≤ cntZ l) && (decide (cntZ l ≤ top) && (decide (l = []) || (decide (l.getD 0 0 ≠ 32) && decide (l.getD (l.length - 1) 0 ≠ 32)))))) := by
  unfold plainB
  rw [h, Bool.true_and, ← cntZ_utf8 l]
  by_cases hz : 0 ≤ cntZ l
  · have e := cntZ_runes l
    rw [← e, show max 0 (cntZ l) = cntZ l from by omega]
  · rw [decide_eq_false hz, Bool.false_and, Bool.false_and]
theorem ne32 (x : UInt8) : decide (x ≠ 32) = ((x.toNat : Int) != 32) := by
  rw [Bool.eq_iff_iff, decide_eq_true_iff, bne_iff_ne]
  constructor
  · intro h e
    apply h
    apply UInt8.toNat_inj.1
    show x.toNat = 32
    omega
  · rintro h rfl
    exact h rfl
theorem lowest_take (l : List UInt8) (k : Nat) (h : k < l.length) : lowest (l.take (k + 1)) = (lowest (l.take k) && decide (32 ≤ l[k].toNat)) := by
  unfold lowest
  rw [List.take_succ_eq_append_getElem h, List.all_append]
  simp

set_option maxRecDepth 100000 in
theorem ref_plain_any (s : ByteArray) (low top : Int) (w : World) (hs : s.size ≤ 140737488355328) :
    Calls Tryz.prog 46 #[.string s, .int .i64 low, .int .i64 top] w fun e w' => e = .returned (.bool (plainB s.data.toList low top)) ∧ w = w' := by
  have hl : s.data.toList.length = s.size := by simp
  obtain ⟨b1, b2⟩ := cntZ_bound s.data.toList
  rw [hl] at b2
  have hu := cntZ_utf8 s.data.toList
  have hrn := cntZ_runes s.data.toList
  generalize hz : cntZ s.data.toList = z at *
  have HL := Lib.hid hl; have HZ := Lib.hid hz; have HU := Lib.hid hu; have HRN := Lib.hid hrn
  clear hl hz hu hrn
  go_enter Tryz.func46, Tryz.ntmps46
  go_wp2_with (go_at_call 52; refine (ref_count_any s _ hs).mono ?_; rw [HZ.out]; rintro e w' ⟨rfl, rfl⟩)
  go_loop [8] (fun iv => ∃ i : Nat, i ≤ s.size ∧ iv = .int .i64 (i : Int) ∧ lowest (s.data.toList.take i) = true) (fun iv => s.size - (intOf iv).toNat)
  case atStart => exact ⟨0, Nat.zero_le _, rfl, rfl⟩
  case round =>
    obtain ⟨i, hi, rfl, hlo⟩ := hrel
    rcases Nat.lt_or_ge i s.size with hlt | hge
    · have hlk : i < s.data.toList.length := by rw [HL.out]; exact hlt
      have hst := lowest_take s.data.toList i hlk
      rw [hlo, Bool.true_and] at hst
      obtain ⟨x, hx⟩ : ∃ x, s[i] = x := ⟨_, rfl⟩
      rw [show s.data.toList[i] = s[i] from rfl, hx] at hst
      by_cases h32 : 32 ≤ x.toNat
      · rw [decide_eq_true h32] at hst
        have h32I : ¬ (x.toNat : Int) < 32 := by omega
        have HST := Lib.hid hst
        clear hst hlo h32
        go_wp2
        go_round
        case rel => exact ⟨i + 1, by omega, by go_num, HST.out⟩
        case measure => simp [intOf]; omega
      · rw [decide_eq_false h32] at hst
        have h32I : (x.toNat : Int) < 32 := by omega
        have hno : plainB s.data.toList low top = false := by
          have : lowest s.data.toList = false := by
            rw [Bool.eq_false_iff]
            intro h
            have h2 : lowest (s.data.toList.take (i + 1)) = true := by
              unfold lowest at h ⊢
              rw [List.all_eq_true] at h ⊢
              exact fun y hy => h y (List.mem_of_mem_take hy)
            rw [hst] at h2
            cases h2
          unfold plainB
          rw [this]
          rfl
        have HNO := Lib.hid hno
        clear hst hlo h32 hno
        go_wp2
        go_ret
        exact ⟨ret_bool HNO.out.symm, rfl⟩
    · obtain rfl : i = s.size := by omega
      rw [List.take_of_length_le (by rw [HL.out]; exact Nat.le_refl _)] at hlo
      have hpe := plain_eq (low := low) (top := top) hlo
      rw [HZ.out] at hpe
      have HPE := Lib.hid hpe
      clear hlo hpe
      by_cases hz0 : 0 ≤ z
      · by_cases hz1 : low ≤ z
        · by_cases hz2 : z ≤ top
          · have hdz : plainB s.data.toList low top = (decide (s.data.toList = []) || (decide (s.data.toList.getD 0 0 ≠ 32) && decide (s.data.toList.getD (s.data.toList.length - 1) 0 ≠ 32))) := by
              rw [HPE.out, decide_eq_true hz0, decide_eq_true hz1, decide_eq_true hz2, Bool.true_and, Bool.true_and, Bool.true_and]
            rcases Nat.eq_zero_or_pos s.size with hsz | hsz
            · have he : s.data.toList = [] := List.eq_nil_of_length_eq_zero (by rw [HL.out]; exact hsz)
              have he2 : s.toList = [] := by rw [ByteArray.toList_eq]; exact he
              have hr : plainB s.data.toList low top = true := by rw [hdz, decide_eq_true he]; rfl
              have HR := Lib.hid hr
              clear hdz hr he
              go_wp2
              go_ret
              exact ⟨ret_bool (by rw [HR.out]), rfl⟩
            · have he : ¬ s.data.toList = [] := by
                intro e
                have := congrArg List.length e
                rw [HL.out, List.length_nil] at this
                omega
              have he2 : ¬ s.toList = [] := by rw [ByteArray.toList_eq]; exact he
              have hl1 : s.size - 1 < s.size := by omega
              obtain ⟨x, hx⟩ : ∃ x, s[0] = x := ⟨_, rfl⟩
              obtain ⟨y, hy⟩ : ∃ y, s[s.size - 1] = y := ⟨_, rfl⟩
              have g0 : s.data.toList.getD 0 0 = x := by
                rw [List.getD, List.getElem?_eq_getElem (by rw [HL.out]; exact hsz), Option.getD_some, ← hx]
                rfl
              have g1 : s.data.toList.getD (s.data.toList.length - 1) 0 = y := by
                rw [HL.out, List.getD, List.getElem?_eq_getElem (by rw [HL.out]; exact hl1), Option.getD_some, ← hy]
                rfl
              rw [g0, g1, decide_eq_false he, Bool.false_or, ne32, ne32] at hdz
              have hszI : (0 : Int) < (s.size : Int) := by omega
              have hie : s.toList.isEmpty = false := by rw [List.isEmpty_eq_false_iff]; exact he2
              have HIE := Lib.hid hie
              clear hie
              have htn : ((s.size : Int) - 1).toNat = s.size - 1 := by omega
              have HR := Lib.hid hdz
              clear hdz g0 g1 he
              cases hb1 : ((x.toNat : Int) != 32) with
              | false =>
                go_wp2
                go_ret
                exact ⟨ret_bool (by rw [HR.out, hb1, HIE.out]; rfl), rfl⟩
              | true =>
                go_wp2
                go_ret
                exact ⟨ret_bool (by rw [HR.out, hb1, HIE.out]; rfl), rfl⟩
          · have hr : plainB s.data.toList low top = false := by rw [HPE.out, decide_eq_false hz2, Bool.false_and, Bool.and_false, Bool.and_false]
            have HR := Lib.hid hr
            clear hr
            go_wp2
            go_ret
            exact ⟨ret_bool (by rw [HR.out]), rfl⟩
        · have hr : plainB s.data.toList low top = false := by rw [HPE.out, decide_eq_false hz1, Bool.false_and, Bool.and_false]
          have HR := Lib.hid hr
          clear hr
          go_wp2
          go_ret
          exact ⟨ret_bool (by rw [HR.out]), rfl⟩
      · have hr : plainB s.data.toList low top = false := by rw [HPE.out, decide_eq_false hz0, Bool.false_and]
        have HR := Lib.hid hr
        clear hr
        go_wp2
        go_ret
        exact ⟨ret_bool (by rw [HR.out]), rfl⟩
end Go.Proofs.YtbfodbejdaafaaaGreatDoor
/- The statements' own answers about texts: signs of one byte, and letters and digits. -/
namespace Go.Proofs.YtbfodbejdaafaaaGreatDoor
open Go.RowKit
set_option maxHeartbeats 1000000
set_option linter.unusedVariables false

theorem rt_take (l : List UInt8) (p : UInt8 → Bool) (k : Nat) (h : k < l.length) : (l.take (k + 1)).all p = ((l.take k).all p && p l[k]) := by
  rw [List.take_succ_eq_append_getElem h, List.all_append]
  simp
theorem all_drop (l : List UInt8) (p : UInt8 → Bool) (k : Nat) (h : (l.take k).all p = false) : l.all p = false := by
  rw [Bool.eq_false_iff] at h ⊢
  intro h2
  apply h
  rw [List.all_eq_true] at h2 ⊢
  exact fun y hy => h2 y (List.mem_of_mem_take hy)

set_option maxRecDepth 100000 in
theorem ref_aln_any (s : ByteArray) (low top : Int) (w : World) (hs : s.size ≤ 140737488355328) :
    Calls Tryz.prog 50 #[.string s, .int .i64 low, .int .i64 top] w fun e w' => e = .returned (.bool (alnB s.data.toList low top)) ∧ w = w' := by
  have hl : s.data.toList.length = s.size := by simp
  have HL := Lib.hid hl
  clear hl
  go_enter Tryz.func50, Tryz.ntmps50
  go_wp2
  go_loop [7] (fun iv => ∃ i : Nat, i ≤ s.size ∧ iv = .int .i64 (i : Int) ∧ (s.data.toList.take i).all alnC = true) (fun iv => s.size - (intOf iv).toNat)
  case atStart => exact ⟨0, Nat.zero_le _, rfl, rfl⟩
  case round =>
    obtain ⟨i, hi, rfl, hlo⟩ := hrel
    rcases Nat.lt_or_ge i s.size with hlt | hge
    · have hlk : i < s.data.toList.length := by rw [HL.out]; exact hlt
      have hst := rt_take s.data.toList alnC i hlk
      rw [hlo, Bool.true_and] at hst
      have hdn := all_drop s.data.toList alnC (i + 1)
      obtain ⟨x, hx⟩ : ∃ x, s[i] = x := ⟨_, rfl⟩
      rw [show s.data.toList[i] = s[i] from rfl, hx] at hst
      have hcs : (x.toNat < 48 ∧ 1 = 1) ∨ (48 ≤ x.toNat ∧ x.toNat ≤ 57) ∨ (57 < x.toNat ∧ x.toNat < 65) ∨ (65 ≤ x.toNat ∧ x.toNat ≤ 90) ∨ (90 < x.toNat ∧ x.toNat < 97) ∨ (97 ≤ x.toNat ∧ x.toNat ≤ 122) ∨ (122 < x.toNat ∧ 1 = 1) := by omega
      rcases hcs with ⟨h1, h2⟩ | ⟨h1, h2⟩ | ⟨h1, h2⟩ | ⟨h1, h2⟩ | ⟨h1, h2⟩ | ⟨h1, h2⟩ | ⟨h1, h2⟩
      · have hp : alnC x = false := by unfold alnC; simp; omega
        have hI : (x.toNat : Int) < 48 := by omega
        rw [hp] at hst
        have hno : alnB s.data.toList low top = false := by
          have : s.data.toList.all alnC = false := hdn hst
          unfold alnB
          rw [this]
          rfl
        have HNO := Lib.hid hno
        clear hst hlo hp h1 h2 hdn hno
        go_wp2
        go_ret
        exact ⟨ret_bool HNO.out.symm, rfl⟩
      · have hp : alnC x = true := by unfold alnC; simp; omega
        have hI : 48 ≤ (x.toNat : Int) := by omega
        have hI2 : (x.toNat : Int) ≤ 57 := by omega
        rw [hp] at hst
        have HST := Lib.hid hst
        clear hst hlo hp h1 h2 hdn
        go_wp2
        go_round
        case rel => exact ⟨i + 1, by omega, by go_num, HST.out⟩
        case measure => simp [intOf]; omega
      · have hp : alnC x = false := by unfold alnC; simp; omega
        have hI : 57 < (x.toNat : Int) := by omega
        have hb57 : decide ((x.toNat : Int) ≤ 57) = false := decide_eq_false (by omega)
        have hI2 : (x.toNat : Int) < 65 := by omega
        rw [hp] at hst
        have hno : alnB s.data.toList low top = false := by
          have : s.data.toList.all alnC = false := hdn hst
          unfold alnB
          rw [this]
          rfl
        have HNO := Lib.hid hno
        clear hst hlo hp h1 h2 hdn hno
        go_wp2
        go_ret
        exact ⟨ret_bool HNO.out.symm, rfl⟩
      · have hp : alnC x = true := by unfold alnC; simp; omega
        have hI : 65 ≤ (x.toNat : Int) := by omega
        have hI2 : (x.toNat : Int) ≤ 90 := by omega
        rw [hp] at hst
        have HST := Lib.hid hst
        clear hst hlo hp h1 h2 hdn
        go_wp2
        go_round
        case rel => exact ⟨i + 1, by omega, by go_num, HST.out⟩
        case measure => simp [intOf]; omega
      · have hp : alnC x = false := by unfold alnC; simp; omega
        have hI : 90 < (x.toNat : Int) := by omega
        have hb57 : decide ((x.toNat : Int) ≤ 57) = false := decide_eq_false (by omega)
        have hb90 : decide ((x.toNat : Int) ≤ 90) = false := decide_eq_false (by omega)
        have hI2 : (x.toNat : Int) < 97 := by omega
        rw [hp] at hst
        have hno : alnB s.data.toList low top = false := by
          have : s.data.toList.all alnC = false := hdn hst
          unfold alnB
          rw [this]
          rfl
        have HNO := Lib.hid hno
        clear hst hlo hp h1 h2 hdn hno
        go_wp2
        go_ret
        exact ⟨ret_bool HNO.out.symm, rfl⟩
      · have hp : alnC x = true := by unfold alnC; simp; omega
        have hI : 97 ≤ (x.toNat : Int) := by omega
        have hI2 : (x.toNat : Int) ≤ 122 := by omega
        rw [hp] at hst
        have HST := Lib.hid hst
        clear hst hlo hp h1 h2 hdn
        go_wp2
        go_round
        case rel => exact ⟨i + 1, by omega, by go_num, HST.out⟩
        case measure => simp [intOf]; omega
      · have hp : alnC x = false := by unfold alnC; simp; omega
        have hI : 122 < (x.toNat : Int) := by omega
        have hb57 : decide ((x.toNat : Int) ≤ 57) = false := decide_eq_false (by omega)
        have hb90 : decide ((x.toNat : Int) ≤ 90) = false := decide_eq_false (by omega)
        have hb122 : decide ((x.toNat : Int) ≤ 122) = false := decide_eq_false (by omega)
        rw [hp] at hst
        have hno : alnB s.data.toList low top = false := by
          have : s.data.toList.all alnC = false := hdn hst
          unfold alnB
          rw [this]
          rfl
        have HNO := Lib.hid hno
        clear hst hlo hp h1 h2 hdn hno
        go_wp2
        go_ret
        exact ⟨ret_bool HNO.out.symm, rfl⟩
    · obtain rfl : i = s.size := by omega
      rw [List.take_of_length_le (by rw [HL.out]; exact Nat.le_refl _)] at hlo
      have hpe : alnB s.data.toList low top = (decide (low ≤ (s.size : Int)) && decide ((s.size : Int) ≤ top)) := by
        unfold alnB
        have hlo' : s.data.toList.all alnC = true := hlo
        rw [hlo', HL.out]
        rfl
      have HPE := Lib.hid hpe
      clear hlo hpe
      go_wp2
      all_goals
        go_ret
        refine ⟨ret_bool ?_, rfl⟩
        rw [HPE.out]
        first | rfl | (simp; omega) | (rw [Bool.eq_iff_iff]; simp; omega)
end Go.Proofs.YtbfodbejdaafaaaGreatDoor
