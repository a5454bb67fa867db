/- The texts RefDig, joined. -/
import Derived.Test.YthlgnmgjfgbffaaGreatDoorL44
import Derived.Test.YthlgnmgjfgbffaaGreatDoorL30
import Derived.Test.YthlgnmgjfgbffaaGreatDoorL31
/- The statements' own digits, halves of bytes and signs: what they answer. -/
namespace Go.Proofs.YthlgnmgjfgbffaaGreatDoor
open Go.RowKit
set_option maxHeartbeats 400000
set_option linter.unusedVariables false
set_option maxRecDepth 20000

theorem ref_right (s : ByteArray) (low top : Int) (w : World) (hs : s.size ≤ maxLen) :
    Calls Tryz.prog 11 #[.string s, .int .i64 low, .int .i64 top] w fun e w' => e = .returned (.bool (rightB s.data.toList low top)) ∧ w = w' := by
  have hl : s.data.toList.length = s.size := by simp
  unfold maxLen at hs
  go_enter Tryz.func11, Tryz.ntmps11
  go_wp2
  go_loop [7] (fun i => ∃ k : Nat, k ≤ s.size ∧ i = .int .i64 (k : Int) ∧ (s.data.toList.take k).all isD = true) (fun i => s.size - (intOf i).toNat)
  case atStart => exact ⟨0, Nat.zero_le _, rfl, by simp⟩
  case round =>
    obtain ⟨k, hk, rfl, hall⟩ := hrel
    have HA := Lib.hid hall
    have HL := Lib.hid hl
    clear hall hl
    by_cases hlt : k < s.size
    · have HT := Lib.hid (take_snoc s k hlt)
      have hno : isD s[k] = false → rightB s.data.toList low top = false := fun hb => by
        unfold rightB
        rw [show s.data.toList.all isD = false from ?_, Bool.and_false, Bool.and_false]
        rw [← Bool.not_eq_true, List.all_eq_true]
        intro hx
        have := hx s[k] (by rw [at_data s k hlt]; exact List.getElem_mem _)
        rw [hb] at this
        cases this
      have HN := Lib.hid hno
      clear hno
      have hcs : s[k].toNat < 48 ∨ (48 ≤ s[k].toNat ∧ s[k].toNat ≤ 57) ∨ 57 < s[k].toNat := by omega
      rcases hcs with h1 | ⟨h1, h2⟩ | h1
      · go_wp2
        go_ret
        exact ⟨ret_bool (HN.out (isD_false (.inl h1))).symm, rfl⟩
      · have hb : decide ((s[k].toNat : Int) < 48) = false := decide_eq_false (by omega)
        have hb2 : decide (57 < (s[k].toNat : Int)) = false := decide_eq_false (by omega)
        go_wp2
        go_round
        case rel => exact ⟨k + 1, by omega, by go_num, by rw [HT.out, List.all_append, HA.out]; simp [isD_mk h1 h2]⟩
        case measure => simp [intOf]; omega
      · have hb : decide ((s[k].toNat : Int) < 48) = false := decide_eq_false (by omega)
        go_wp2
        go_ret
        exact ⟨ret_bool (HN.out (isD_false (.inr h1))).symm, rfl⟩
    · obtain rfl : k = s.size := by omega
      have hd : s.data.toList.all isD = true := by
        have := HA.out
        rwa [List.take_of_length_le (by simp)] at this
      have hr : rightB s.data.toList low top = (decide (low ≤ (s.size : Int)) && decide ((s.size : Int) ≤ top)) := by
        unfold rightB
        rw [hd, HL.out, Bool.and_true]
      have HR := Lib.hid hr
      clear hd hr
      by_cases h1 : low ≤ (s.size : Int)
      all_goals
        go_wp2
        go_ret
        refine ⟨ret_bool ?_, rfl⟩
        rw [HR.out]
        first
          | (simp [h1]; done)
          | (simp; omega)

theorem wide_step (v k : Nat) : ({ data := #[48] } : ByteArray) ++ bstr (wide v k) = bstr (wide v (k + 1)) := by
  apply ByteArray.ext
  rw [ByteArray.data_append]
  simp [bstr, wide, List.replicate_succ]

theorem ref_digits (v : Nat) (z : Int) (w : World) (hv : v < 18446744073709551616) :
    Calls Tryz.prog 8 #[.int .u64 (v : Int), .int .i64 z] w fun e w' => e = .returned (.tuple #[.string (bstr (textR v z)), .int .i64 (textE v z)]) ∧ Fr No w w' := by
  have hfm := fun w => digits_any v w hv
  have hl := decDigits_len v hv
  have HV := Lib.hid hv
  clear hv
  rcases text_cases v z with ⟨h, e1, e2⟩ | ⟨h, e1, e2⟩ | ⟨h1, h2, h3, e1, e2⟩ | ⟨m, rfl, h1, h2, e1, e2⟩
  · rw [e1, e2]
    clear e1 e2 hfm
    go_enter Tryz.func8, Tryz.ntmps8
    go_wp2
    go_ret2
    exact ⟨rfl, Fr.refl _ _⟩
  · rw [e1, e2]
    clear e1 e2 hfm
    go_enter Tryz.func8, Tryz.ntmps8
    go_wp2
    go_ret2
    exact ⟨rfl, Fr.refl _ _⟩
  · rw [e1, e2]
    have hsz : (bstr (Lib.decDigits v)).size = (Lib.decDigits v).length := bstr_size _
    generalize bstr (Lib.decDigits v) = D at hfm hsz
    rw [← hsz] at h3 hl
    have HF := Lib.hid hfm
    clear e1 e2 hfm hsz
    go_enter Tryz.func8, Tryz.ntmps8
    go_wp2_with (go_at_call 33; refine (HF.out _).mono ?_; rintro e w1 ⟨rfl, hf⟩)
    go_ret2
    exact ⟨rfl, hf⟩
  · rw [e1, e2]
    have hw0 : bstr (Lib.decDigits v) = bstr (wide v 0) := by simp [wide]
    rw [hw0] at hfm
    have hwz : ∀ k, (bstr (wide v k)).size = k + (Lib.decDigits v).length := fun k => by rw [bstr_size, wide_length]
    have hws := wide_step v
    generalize hZ : (fun k => bstr (wide v k)) = Z at *
    have hz1 : ∀ k, bstr (wide v k) = Z k := fun k => by rw [← hZ]
    simp only [hz1] at hfm hwz hws ⊢
    generalize (Lib.decDigits v).length = L at *
    have HF := Lib.hid hfm
    have HZ := Lib.hid hwz
    have HS := Lib.hid hws
    have h0z := hwz 0
    have h0 : (Z 0).size ≤ 20 := by omega
    have h0i : ((Z 0).size : Int) = (L : Int) := by omega
    have hm20 : m ≤ 20 := by omega
    clear e1 e2 hfm hwz hws hw0 hZ hz1
    go_enter Tryz.func8, Tryz.ntmps8
    go_wp2_with (go_at_call 33; refine (HF.out _).mono ?_; rintro e w1 ⟨rfl, hf⟩)
    go_loop [6] (fun x => ∃ k : Nat, k ≤ m ∧ x = .string (Z k)) (fun x => m + L - (match x with | .string s => s.size | _ => 0))
    case atStart => exact ⟨0, Nat.zero_le _, rfl⟩
    case round =>
      obtain ⟨k, hk, rfl⟩ := hrel
      have hkz : ((Z k).size : Int) = (k : Int) + (L : Int) := by have := HZ.out k; omega
      have hkz2 := HZ.out k
      have hkz3 := HZ.out (k + 1)
      have HK := Lib.hid hkz2
      have HK3 := Lib.hid hkz3
      clear hkz2 hkz3
      rcases Nat.lt_or_ge k m with hlt | hge
      · have hs1 := HS.out k
        have HS1 := Lib.hid hs1
        clear hs1
        go_wp2
        go_round
        case rel => exact ⟨k + 1, by omega, by rw [HS1.out]⟩
        case measure =>
          show m + L - (({ data := #[48] } : ByteArray) ++ Z k).size < m + L - (Z k).size
          rw [HS1.out, HK3.out, HK.out]
          omega
      · obtain rfl : k = m := by omega
        go_wp2
        go_ret2
        exact ⟨rfl, hf⟩

/-- what the statements' own sign stands for -/
def sgn (c : UInt8) : UInt8 := if isH c then half c else 16
end Go.Proofs.YthlgnmgjfgbffaaGreatDoor
