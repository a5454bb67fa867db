/- The statements' own kinds: words, answers. -/
import Derived.Test.YtdenaejinlkfgaaDoorRefKin
namespace Go.Proofs.YtdenaejinlkfgaaDoor
open Go.RowKit
set_option maxHeartbeats 400000
set_option linter.unusedVariables false

theorem r_Code (k : Int) (hk0 : -9223372036854775808 ≤ k) (hk1 : k ≤ 9223372036854775807) (w : World) :
    Calls Tryd.prog 10 #[.int .i64 k] w fun e w' => e = .returned (.string (cdB k)) ∧ Fr No w w' := by
  have hr := r_row k hk0 hk1 w
  unfold cdB
  unfold rowA at hr
  generalize rowOf k = r at hr ⊢
  have hfd : ∀ w : World, (Instr.field 43 (.agg #[.string r.code, .string r.mti, .string r.must, .string r.may]) 0).run Tryd.prog w = .ok (.string r.code) w := fun _ => by kernel_rfl
  have HR := Lib.hid hr
  clear hr
  go_enter Tryd.func10, Tryd.ntmps10
  go_wp2_with (go_at_call 30; refine HR.out.mono ?_; rintro e w1 ⟨rfl, hf1⟩)
  go_ret
  exact ⟨rfl, hf1⟩
theorem r_Mti (k : Int) (hk0 : -9223372036854775808 ≤ k) (hk1 : k ≤ 9223372036854775807) (w : World) :
    Calls Tryd.prog 12 #[.int .i64 k] w fun e w' => e = .returned (.string (mtB k)) ∧ Fr No w w' := by
  have hr := r_row k hk0 hk1 w
  unfold mtB
  unfold rowA at hr
  generalize rowOf k = r at hr ⊢
  have hfd : ∀ w : World, (Instr.field 43 (.agg #[.string r.code, .string r.mti, .string r.must, .string r.may]) 1).run Tryd.prog w = .ok (.string r.mti) w := fun _ => by kernel_rfl
  have HR := Lib.hid hr
  clear hr
  go_enter Tryd.func12, Tryd.ntmps12
  go_wp2_with (go_at_call 30; refine HR.out.mono ?_; rintro e w1 ⟨rfl, hf1⟩)
  go_ret
  exact ⟨rfl, hf1⟩
theorem r_OfCode (S : ByteArray) (w : World) :
    Calls Tryd.prog 14 #[.string S] w fun e w' => e = .returned (.int .i64 (ofCode S)) ∧ Fr No w w' := by
  generalize hres : ofCode S = res
  have HRES := Lib.hid hres
  clear hres
  go_enter Tryd.func14, Tryd.ntmps14
  go_wp2_with (go_at_call 26; refine (r_Rows _).mono ?_; rintro e w1 ⟨ad, rfl, hA, hf1⟩)
  have HA := Lib.hid hA; have HF := Lib.hid hf1
  clear hA hf1
  go_loop [4] (fun v => ∃ k : Nat, 1 ≤ k ∧ k ≤ 12 ∧ v = .int .i64 (k : Int) ∧ ∀ j, 1 ≤ j → j < k → ((kRow j).code.data.toList == S.data.toList) = false) (fun v => 12 - (intOf v).toNat)
  case atStart => exact ⟨1, by omega, by omega, rfl, fun j h1 h2 => by omega⟩
  case round =>
    obtain ⟨k, hk1, hk, rfl, hall⟩ := hrel
    have HALL := Lib.hid hall
    clear hall
    rcases Nat.lt_or_ge k 12 with hkn | hge
    · obtain ⟨c0, c1, c2, c3⟩ := row_cells HA.out hkn
      obtain ⟨P, hP⟩ : ∃ P, ad.add (k * 4) = P := ⟨_, rfl⟩
      rw [hP] at c0 c1 c2 c3
      cases hq : ((kRow k).code.data.toList == S.data.toList) with
      | true =>
        have hqb : ((kRow k).code.toList == S.toList) = true := by rw [s_beq]; exact hq
        have hw : res = (k : Int) := by rw [← HRES.out]; exact kind_at _ hk1 hkn HALL.out hq
        have HW := Lib.hid hw
        clear hw hq
        generalize (kRow k).code = X at *
        go_wp2
        go_ret
        exact ⟨by rw [HW.out]; rfl, HF.out⟩
      | false =>
        have hqb : ((kRow k).code.toList == S.toList) = false := by rw [s_beq]; exact hq
        have HQ := Lib.hid hq
        clear hq
        go_wp2
        go_round
        case rel => exact ⟨k + 1, by omega, by omega, by go_num, fun j h1 hj => by
          by_cases hjk : j = k
          · subst hjk; exact HQ.out
          · exact HALL.out j h1 (by omega)⟩
        case measure => simp [intOf]; omega
    · obtain rfl : k = 12 := by omega
      have hw : res = 0 := by rw [← HRES.out]; exact kind_none _ HALL.out
      have HW := Lib.hid hw
      clear hw
      go_wp2
      go_ret
      exact ⟨by rw [HW.out]; rfl, HF.out⟩
theorem r_OfMti (S : ByteArray) (w : World) :
    Calls Tryd.prog 16 #[.string S] w fun e w' => e = .returned (.int .i64 (ofMti S)) ∧ Fr No w w' := by
  generalize hres : ofMti S = res
  have HRES := Lib.hid hres
  clear hres
  go_enter Tryd.func16, Tryd.ntmps16
  go_wp2_with (go_at_call 26; refine (r_Rows _).mono ?_; rintro e w1 ⟨ad, rfl, hA, hf1⟩)
  have HA := Lib.hid hA; have HF := Lib.hid hf1
  clear hA hf1
  go_loop [4] (fun v => ∃ k : Nat, 1 ≤ k ∧ k ≤ 12 ∧ v = .int .i64 (k : Int) ∧ ∀ j, 1 ≤ j → j < k → ((kRow j).mti.data.toList == S.data.toList) = false) (fun v => 12 - (intOf v).toNat)
  case atStart => exact ⟨1, by omega, by omega, rfl, fun j h1 h2 => by omega⟩
  case round =>
    obtain ⟨k, hk1, hk, rfl, hall⟩ := hrel
    have HALL := Lib.hid hall
    clear hall
    rcases Nat.lt_or_ge k 12 with hkn | hge
    · obtain ⟨c0, c1, c2, c3⟩ := row_cells HA.out hkn
      obtain ⟨P, hP⟩ : ∃ P, ad.add (k * 4) = P := ⟨_, rfl⟩
      rw [hP] at c0 c1 c2 c3
      cases hq : ((kRow k).mti.data.toList == S.data.toList) with
      | true =>
        have hqb : ((kRow k).mti.toList == S.toList) = true := by rw [s_beq]; exact hq
        have hw : res = (k : Int) := by rw [← HRES.out]; exact kind_at _ hk1 hkn HALL.out hq
        have HW := Lib.hid hw
        clear hw hq
        generalize (kRow k).mti = X at *
        go_wp2
        go_ret
        exact ⟨by rw [HW.out]; rfl, HF.out⟩
      | false =>
        have hqb : ((kRow k).mti.toList == S.toList) = false := by rw [s_beq]; exact hq
        have HQ := Lib.hid hq
        clear hq
        go_wp2
        go_round
        case rel => exact ⟨k + 1, by omega, by omega, by go_num, fun j h1 hj => by
          by_cases hjk : j = k
          · subst hjk; exact HQ.out
          · exact HALL.out j h1 (by omega)⟩
        case measure => simp [intOf]; omega
    · obtain rfl : k = 12 := by omega
      have hw : res = 0 := by rw [← HRES.out]; exact kind_none _ HALL.out
      have HW := Lib.hid hw
      clear hw
      go_wp2
      go_ret
      exact ⟨by rw [HW.out]; rfl, HF.out⟩
theorem r_Answer (k : Int) (hk0 : -9223372036854775808 ≤ k) (hk1 : k ≤ 9223372036854775807) (w : World) :
    Calls Tryd.prog 18 #[.int .i64 k] w fun e w' => e = .returned (.int .i64 (ansI k)) ∧ w = w' := by
  by_cases h : 1 ≤ k ∧ k ≤ 9
  · obtain ⟨h1, h2⟩ := h
    obtain ⟨m, hm⟩ : ∃ m, k.tmod 2 = m := ⟨_, rfl⟩
    by_cases h3 : m = 1
    · have he : ansI k = k + 1 := by unfold ansI; rw [if_pos ⟨h1, h2, by rw [hm]; exact h3⟩]
      have HE := Lib.hid he
      clear he
      go_enter Tryd.func18, Tryd.ntmps18
      go_wp2
      go_ret
      exact ⟨by rw [HE.out]; rfl, rfl⟩
    · have he : ansI k = 0 := by unfold ansI; rw [if_neg (fun h => h3 (by rw [← hm]; exact h.2.2))]
      have HE := Lib.hid he
      clear he
      go_enter Tryd.func18, Tryd.ntmps18
      go_wp2
      go_ret
      exact ⟨by rw [HE.out]; rfl, rfl⟩
  · have he : ansI k = 0 := by unfold ansI; rw [if_neg (fun x => h ⟨x.1, x.2.1⟩)]
    have h4 : k < 1 ∨ 1 ≤ k ∧ 9 < k := by omega
    have HE := Lib.hid he
    clear he h
    go_enter Tryd.func18, Tryd.ntmps18
    rcases h4 with h4 | ⟨h4, h5⟩
    all_goals
      go_wp2
      go_ret
      exact ⟨by rw [HE.out]; rfl, rfl⟩
theorem r_Money (k : Int) (w : World) :
    Calls Tryd.prog 20 #[.int .i64 k] w fun e w' => e = .returned (.bool (monB k)) ∧ w = w' := by
  go_enter Tryd.func20, Tryd.ntmps20
  go_wp2
  all_goals
    go_ret
    refine ⟨ret_bool ?_, rfl⟩
    unfold monB
    rw [Bool.eq_iff_iff]
    simp
    try omega
end Go.Proofs.YtdenaejinlkfgaaDoor
