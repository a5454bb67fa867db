/- The texts RefTxt3, Dig3, joined. -/
import Derived.Test.YtpkalnkeafggjaaGreatDoorK05
import Derived.Test.YtpkalnkeafggjaaGreatDoorK10
import Derived.Test.YtpkalnkeafggjaaGreatDoorK20
import Derived.Deep.RegionLaw
/- The statements' own answers about texts: signs of one byte, and letters and digits. -/
namespace Go.Proofs.YtpkalnkeafggjaaGreatDoor
open Go.RowKit
set_option maxHeartbeats 1000000
set_option linter.unusedVariables false
set_option maxRecDepth 20000

theorem rt_take (l : List UInt8) (p : UInt8 → Bool) (k : Nat) (h : k < l.length) : (l.take (k + 1)).all p = ((l.take k).all p && p l[k]) := by
  rw [List.take_succ_eq_append_getElem h, List.all_append]
  simp
theorem all_drop (l : List UInt8) (p : UInt8 → Bool) (k : Nat) (h : (l.take k).all p = false) : l.all p = false := by
  rw [Bool.eq_false_iff] at h ⊢
  intro h2
  apply h
  rw [List.all_eq_true] at h2 ⊢
  exact fun y hy => h2 y (List.mem_of_mem_take hy)

set_option maxRecDepth 100000 in
theorem ref_ans_any (s : ByteArray) (top : Int) (w : World) (hs : s.size ≤ 140737488355328) :
    Calls Tryz.prog 70 #[.string s, .int .i64 top] w fun e w' => e = .returned (.bool (ansB s.data.toList top)) ∧ w = w' := by
  have hl : s.data.toList.length = s.size := by simp
  have HL := Lib.hid hl
  clear hl
  go_enter Tryz.func70, Tryz.ntmps70
  go_wp2
  go_loop [5] (fun iv => ∃ i : Nat, i ≤ s.size ∧ iv = .int .i64 (i : Int) ∧ (s.data.toList.take i).all ansC = true) (fun iv => s.size - (intOf iv).toNat)
  case atStart => exact ⟨0, Nat.zero_le _, rfl, rfl⟩
  case round =>
    obtain ⟨i, hi, rfl, hlo⟩ := hrel
    rcases Nat.lt_or_ge i s.size with hlt | hge
    · have hlk : i < s.data.toList.length := by rw [HL.out]; exact hlt
      have hst := rt_take s.data.toList ansC i hlk
      rw [hlo, Bool.true_and] at hst
      have hdn := all_drop s.data.toList ansC (i + 1)
      obtain ⟨x, hx⟩ : ∃ x, s[i] = x := ⟨_, rfl⟩
      rw [show s.data.toList[i] = s[i] from rfl, hx] at hst
      have hcs : (x.toNat < 32 ∧ 1 = 1) ∨ (32 ≤ x.toNat ∧ x.toNat ≤ 126) ∨ (126 < x.toNat ∧ 1 = 1) := by omega
      rcases hcs with ⟨h1, h2⟩ | ⟨h1, h2⟩ | ⟨h1, h2⟩
      · have hp : ansC x = false := by unfold ansC; simp; omega
        have hI : (x.toNat : Int) < 32 := by omega
        rw [hp] at hst
        have hno : ansB s.data.toList top = false := by
          have : s.data.toList.all ansC = false := hdn hst
          unfold ansB
          rw [this]
          rfl
        have HNO := Lib.hid hno
        clear hst hlo hp h1 h2 hdn hno
        go_wp2
        go_ret
        exact ⟨ret_bool HNO.out.symm, rfl⟩
      · have hp : ansC x = true := by unfold ansC; simp; omega
        have hI : ¬ (x.toNat : Int) < 32 := by omega
        have hI2 : ¬ 126 < (x.toNat : Int) := by omega
        rw [hp] at hst
        have HST := Lib.hid hst
        clear hst hlo hp h1 h2 hdn
        go_wp2
        go_round
        case rel => exact ⟨i + 1, by omega, by go_num, HST.out⟩
        case measure => simp [intOf]; omega
      · have hp : ansC x = false := by unfold ansC; simp; omega
        have hI : ¬ (x.toNat : Int) < 32 := by omega
        have hI2 : 126 < (x.toNat : Int) := by omega
        rw [hp] at hst
        have hno : ansB s.data.toList top = false := by
          have : s.data.toList.all ansC = false := hdn hst
          unfold ansB
          rw [this]
          rfl
        have HNO := Lib.hid hno
        clear hst hlo hp h1 h2 hdn hno
        go_wp2
        go_ret
        exact ⟨ret_bool HNO.out.symm, rfl⟩
    · obtain rfl : i = s.size := by omega
      rw [List.take_of_length_le (by rw [HL.out]; exact Nat.le_refl _)] at hlo
      have hpe : ansB s.data.toList top = (decide (1 ≤ (s.size : Int)) && decide ((s.size : Int) ≤ top)) := by
        unfold ansB
        have hlo' : s.data.toList.all ansC = true := hlo
        rw [hlo', HL.out]
        rfl
      have HPE := Lib.hid hpe
      clear hlo hpe
      go_wp2
      all_goals
        go_ret
        refine ⟨ret_bool ?_, rfl⟩
        rw [HPE.out]
        first | rfl | (simp; omega) | (rw [Bool.eq_iff_iff]; simp; omega)

set_option maxRecDepth 100000 in
theorem ref_aln_any (s : ByteArray) (low top : Int) (w : World) (hs : s.size ≤ 140737488355328) :
    Calls Tryz.prog 69 #[.string s, .int .i64 low, .int .i64 top] w fun e w' => e = .returned (.bool (alnB s.data.toList low top)) ∧ w = w' := by
  have hl : s.data.toList.length = s.size := by simp
  have HL := Lib.hid hl
  clear hl
  go_enter Tryz.func69, Tryz.ntmps69
  go_wp2
  go_loop [7] (fun iv => ∃ i : Nat, i ≤ s.size ∧ iv = .int .i64 (i : Int) ∧ (s.data.toList.take i).all alnC = true) (fun iv => s.size - (intOf iv).toNat)
  case atStart => exact ⟨0, Nat.zero_le _, rfl, rfl⟩
  case round =>
    obtain ⟨i, hi, rfl, hlo⟩ := hrel
    rcases Nat.lt_or_ge i s.size with hlt | hge
    · have hlk : i < s.data.toList.length := by rw [HL.out]; exact hlt
      have hst := rt_take s.data.toList alnC i hlk
      rw [hlo, Bool.true_and] at hst
      have hdn := all_drop s.data.toList alnC (i + 1)
      obtain ⟨x, hx⟩ : ∃ x, s[i] = x := ⟨_, rfl⟩
      rw [show s.data.toList[i] = s[i] from rfl, hx] at hst
      have hcs : (x.toNat < 48 ∧ 1 = 1) ∨ (48 ≤ x.toNat ∧ x.toNat ≤ 57) ∨ (57 < x.toNat ∧ x.toNat < 65) ∨ (65 ≤ x.toNat ∧ x.toNat ≤ 90) ∨ (90 < x.toNat ∧ x.toNat < 97) ∨ (97 ≤ x.toNat ∧ x.toNat ≤ 122) ∨ (122 < x.toNat ∧ 1 = 1) := by omega
      rcases hcs with ⟨h1, h2⟩ | ⟨h1, h2⟩ | ⟨h1, h2⟩ | ⟨h1, h2⟩ | ⟨h1, h2⟩ | ⟨h1, h2⟩ | ⟨h1, h2⟩
      · have hp : alnC x = false := by unfold alnC; simp; omega
        have hI : (x.toNat : Int) < 48 := by omega
        rw [hp] at hst
        have hno : alnB s.data.toList low top = false := by
          have : s.data.toList.all alnC = false := hdn hst
          unfold alnB
          rw [this]
          rfl
        have HNO := Lib.hid hno
        clear hst hlo hp h1 h2 hdn hno
        go_wp2
        go_ret
        exact ⟨ret_bool HNO.out.symm, rfl⟩
      · have hp : alnC x = true := by unfold alnC; simp; omega
        have hI : 48 ≤ (x.toNat : Int) := by omega
        have hI2 : (x.toNat : Int) ≤ 57 := by omega
        rw [hp] at hst
        have HST := Lib.hid hst
        clear hst hlo hp h1 h2 hdn
        go_wp2
        go_round
        case rel => exact ⟨i + 1, by omega, by go_num, HST.out⟩
        case measure => simp [intOf]; omega
      · have hp : alnC x = false := by unfold alnC; simp; omega
        have hI : 57 < (x.toNat : Int) := by omega
        have hb57 : decide ((x.toNat : Int) ≤ 57) = false := decide_eq_false (by omega)
        have hI2 : (x.toNat : Int) < 65 := by omega
        rw [hp] at hst
        have hno : alnB s.data.toList low top = false := by
          have : s.data.toList.all alnC = false := hdn hst
          unfold alnB
          rw [this]
          rfl
        have HNO := Lib.hid hno
        clear hst hlo hp h1 h2 hdn hno
        go_wp2
        go_ret
        exact ⟨ret_bool HNO.out.symm, rfl⟩
      · have hp : alnC x = true := by unfold alnC; simp; omega
        have hI : 65 ≤ (x.toNat : Int) := by omega
        have hI2 : (x.toNat : Int) ≤ 90 := by omega
        rw [hp] at hst
        have HST := Lib.hid hst
        clear hst hlo hp h1 h2 hdn
        go_wp2
        go_round
        case rel => exact ⟨i + 1, by omega, by go_num, HST.out⟩
        case measure => simp [intOf]; omega
      · have hp : alnC x = false := by unfold alnC; simp; omega
        have hI : 90 < (x.toNat : Int) := by omega
        have hb57 : decide ((x.toNat : Int) ≤ 57) = false := decide_eq_false (by omega)
        have hb90 : decide ((x.toNat : Int) ≤ 90) = false := decide_eq_false (by omega)
        have hI2 : (x.toNat : Int) < 97 := by omega
        rw [hp] at hst
        have hno : alnB s.data.toList low top = false := by
          have : s.data.toList.all alnC = false := hdn hst
          unfold alnB
          rw [this]
          rfl
        have HNO := Lib.hid hno
        clear hst hlo hp h1 h2 hdn hno
        go_wp2
        go_ret
        exact ⟨ret_bool HNO.out.symm, rfl⟩
      · have hp : alnC x = true := by unfold alnC; simp; omega
        have hI : 97 ≤ (x.toNat : Int) := by omega
        have hI2 : (x.toNat : Int) ≤ 122 := by omega
        rw [hp] at hst
        have HST := Lib.hid hst
        clear hst hlo hp h1 h2 hdn
        go_wp2
        go_round
        case rel => exact ⟨i + 1, by omega, by go_num, HST.out⟩
        case measure => simp [intOf]; omega
      · have hp : alnC x = false := by unfold alnC; simp; omega
        have hI : 122 < (x.toNat : Int) := by omega
        have hb57 : decide ((x.toNat : Int) ≤ 57) = false := decide_eq_false (by omega)
        have hb90 : decide ((x.toNat : Int) ≤ 90) = false := decide_eq_false (by omega)
        have hb122 : decide ((x.toNat : Int) ≤ 122) = false := decide_eq_false (by omega)
        rw [hp] at hst
        have hno : alnB s.data.toList low top = false := by
          have : s.data.toList.all alnC = false := hdn hst
          unfold alnB
          rw [this]
          rfl
        have HNO := Lib.hid hno
        clear hst hlo hp h1 h2 hdn hno
        go_wp2
        go_ret
        exact ⟨ret_bool HNO.out.symm, rfl⟩
    · obtain rfl : i = s.size := by omega
      rw [List.take_of_length_le (by rw [HL.out]; exact Nat.le_refl _)] at hlo
      have hpe : alnB s.data.toList low top = (decide (low ≤ (s.size : Int)) && decide ((s.size : Int) ≤ top)) := by
        unfold alnB
        have hlo' : s.data.toList.all alnC = true := hlo
        rw [hlo', HL.out]
        rfl
      have HPE := Lib.hid hpe
      clear hlo hpe
      go_wp2
      all_goals
        go_ret
        refine ⟨ret_bool ?_, rfl⟩
        rw [HPE.out]
        first | rfl | (simp; omega) | (rw [Bool.eq_iff_iff]; simp; omega)
end Go.Proofs.YtpkalnkeafggjaaGreatDoor
/- What package digits tells of bytes: two signs each, and so many digits: contracts of its calls. -/
namespace Go.Proofs.YtpkalnkeafggjaaGreatDoor
open Go.RowKit
set_option maxHeartbeats 400000
set_option linter.unusedVariables false
set_option maxRecDepth 20000

abbrev signs16 : ByteArray := { data := #[48, 49, 50, 51, 52, 53, 54, 55, 56, 57, 65, 66, 67, 68, 69, 70] }
theorem sign_nat (i : Nat) (h : i < signs16.size) : signs16[i] = sg (UInt8.ofNat i) := by
  have h16 : i < 16 := h
  obtain rfl | rfl | rfl | rfl | rfl | rfl | rfl | rfl | rfl | rfl | rfl | rfl | rfl | rfl | rfl | rfl : i = 0 ∨ i = 1 ∨ i = 2 ∨ i = 3 ∨ i = 4 ∨ i = 5 ∨ i = 6 ∨ i = 7 ∨ i = 8 ∨ i = 9 ∨ i = 10 ∨ i = 11 ∨ i = 12 ∨ i = 13 ∨ i = 14 ∨ i = 15 := by omega
  all_goals rfl
theorem sign_at {i : Int} {x : UInt8} (hx : i = (x.toNat : Int)) (h : i.toNat < signs16.size) : signs16[i.toNat] = sg x := by
  subst hx
  rw [sign_nat]
  simp
theorem Rd.two {w : World} {i j x y : UInt8} (hi : i = x) (hj : j = y) (t : TypeId) : Rd ((w.alloc (.cells #[.int .u8 (i.toNat : Int), .int .u8 (j.toNat : Int)] t)).drew) (some ⟨w.heap.size, 0, none⟩) 2 2 (u8s [x, y]) := by
  subst hi hj
  exact (Rd.lit w (u8s [i, j]) t 2 rfl (by simp [maxLen])).dr (Dr.refl _).drew
theorem hi_lt (x : UInt8) : (x >>> 4).toNat < 16 := by
  have := byte_all (fun x => decide ((x >>> 4).toNat < 16)) (by decide +kernel) x
  simpa using this
theorem lo_lt (x : UInt8) : (x &&& 15).toNat < 16 := by
  have := byte_all (fun x => decide ((x &&& 15).toNat < 16)) (by decide +kernel) x
  simpa using this

theorem hexL_snoc (l : List UInt8) (k : Nat) (h : k < l.length) : hexL (l.take (k + 1)) = hexL (l.take k) ++ [sg (l[k] >>> 4), sg (l[k] &&& 15)] := by
  rw [List.take_succ_eq_append_getElem h, hexL_append]
  rfl

/-- what UnBcd answers -/
def unbcdE (b : List UInt8) (n : Int) : Int :=
  if n < 0 ∨ (n ≠ 2 * (b.length : Int) ∧ n ≠ 2 * (b.length : Int) - 1) then 1
  else if allB (hexL b) isD = false ∨ (n < 2 * (b.length : Int) ∧ (hexL b)[0]? ≠ some 48) then 5 else 0
def unbcdR (b : List UInt8) (n : Int) : List UInt8 := if unbcdE b n = 0 then (hexL b).drop (2 * (b.length : Int) - n).toNat else []
theorem bstr_data (l : List UInt8) : (bstr l).data.toList = l := by simp [bstr]
theorem bstr_of (s : ByteArray) : bstr s.data.toList = s := by
  cases s
  rfl
theorem bstr_cut (s : ByteArray) (k : Nat) : s.extract k s.size = bstr (s.data.toList.drop k) := by
  apply ByteArray.ext
  rw [ByteArray.data_extract]
  show s.data.extract k s.data.size = (s.data.toList.drop k).toArray
  apply Array.ext'
  simp
  rw [List.take_of_length_le (by simp)]
theorem head_bytes (s : ByteArray) (h : 0 < s.size) : s.data.toList[0]? = some s[0] := List.getElem?_eq_getElem (by simpa using h)

end Go.Proofs.YtpkalnkeafggjaaGreatDoor
