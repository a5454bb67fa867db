/- What package kinds does: contracts of its calls. -/
import Derived.Test.YtdenaejinlkfgaaDoorKinFirst
import Derived.Test.YtdenaejinlkfgaaDoorKinBits
namespace Go.Proofs.YtdenaejinlkfgaaDoor
open Go.RowKit
set_option maxHeartbeats 400000
set_option linter.unusedVariables false

theorem k_num_of (K : Int) (k : Nat) (w : World) (hk : k < 11) : Calls Tryd.prog 29 #[.int .i64 K, (dRow k).val] w fun e w' => e = .returned (.bool (pNum K k)) ∧ Fr No w w' := by
  have hp : pNum K k = ((dRow k).kind == K) := rfl
  obtain ⟨⟨rk, rc, rm, ru, ra⟩, hr⟩ : ∃ r, dRow k = r := ⟨_, rfl⟩
  rw [hr] at hp ⊢
  rw [hp]
  unfold DRow.val
  have hfa := Lib.hid ((Fr.refl No w).alloc (.cells #[.int .i64 rk, .string rc, .string rm, .int .u16 (ru : Int), .int .u16 (ra : Int)] 52))
  clear hp hr
  go_enter Tryd.func29, Tryd.ntmps29
  go_wp2
  go_ret
  exact ⟨rfl, hfa.out⟩
theorem k_num_tests (K : Int) : RowTests 29 (.int .i64 K) (pNum K) := ⟨fun _ _ => by kernel_rfl, fun k w hk => k_num_of K k w hk⟩
theorem k_code_of (S : ByteArray) (k : Nat) (w : World) (hk : k < 11) : Calls Tryd.prog 31 #[.string S, (dRow k).val] w fun e w' => e = .returned (.bool (pCode S k)) ∧ Fr No w w' := by
  have hp : pCode S k = ((dRow k).code.toList == S.toList) := (s_beq _ _).symm
  obtain ⟨⟨rk, rc, rm, ru, ra⟩, hr⟩ : ∃ r, dRow k = r := ⟨_, rfl⟩
  rw [hr] at hp ⊢
  rw [hp]
  unfold DRow.val
  have hfa := Lib.hid ((Fr.refl No w).alloc (.cells #[.int .i64 rk, .string rc, .string rm, .int .u16 (ru : Int), .int .u16 (ra : Int)] 52))
  clear hp hr
  go_enter Tryd.func31, Tryd.ntmps31
  go_wp2
  go_ret
  exact ⟨rfl, hfa.out⟩
theorem k_code_tests (S : ByteArray) : RowTests 31 (.string S) (pCode S) := ⟨fun _ _ => by kernel_rfl, fun k w hk => k_code_of S k w hk⟩
theorem k_mti_of (S : ByteArray) (k : Nat) (w : World) (hk : k < 11) : Calls Tryd.prog 32 #[.string S, (dRow k).val] w fun e w' => e = .returned (.bool (pMti S k)) ∧ Fr No w w' := by
  have hp : pMti S k = ((dRow k).mti.toList == S.toList) := (s_beq _ _).symm
  obtain ⟨⟨rk, rc, rm, ru, ra⟩, hr⟩ : ∃ r, dRow k = r := ⟨_, rfl⟩
  rw [hr] at hp ⊢
  rw [hp]
  unfold DRow.val
  have hfa := Lib.hid ((Fr.refl No w).alloc (.cells #[.int .i64 rk, .string rc, .string rm, .int .u16 (ru : Int), .int .u16 (ra : Int)] 52))
  clear hp hr
  go_enter Tryd.func32, Tryd.ntmps32
  go_wp2
  go_ret
  exact ⟨rfl, hfa.out⟩
theorem k_mti_tests (S : ByteArray) : RowTests 32 (.string S) (pMti S) := ⟨fun _ _ => by kernel_rfl, fun k w hk => k_mti_of S k w hk⟩
theorem kinds_code_any (k : Int) (hk0 : -9223372036854775808 ≤ k) (hk1 : k ≤ 9223372036854775807) (w : World) (hT : Tabs w := by repeat' first | with_reducible assumption | with_reducible apply Tabs.drew | with_reducible apply Tabs.drewN | with_reducible apply Tabs.alloc | refine Tabs.fr ?_ (by with_reducible assumption)) : Calls Tryd.prog 9 #[.int .i64 k] w fun e w' => e = .returned (.string (cdB k)) ∧ Fr No w w' := by
  have hf := k_first _ _ _ (k_num_tests k) w
  have he := (first_words k).1
  obtain ⟨r, hr⟩ : ∃ r, dFirst (pNum k) = r := ⟨_, rfl⟩
  rw [hr] at hf he
  rw [← he]
  obtain ⟨rk, rc, rm, ru, ra⟩ := r
  unfold DRow.val at hf
  have hfd : ∀ w : World, (Instr.field 52 (.agg #[.int .i64 rk, .string rc, .string rm, .int .u16 (ru : Int), .int .u16 (ra : Int)]) 1).run Tryd.prog w = .ok (.string rc) w := fun _ => by kernel_rfl
  have HF := Lib.hid hf
  clear hf he hr
  go_enter Tryd.func9, Tryd.ntmps9
  go_wp2_with (go_at_call 28; refine HF.out.mono ?_; rintro e w1 ⟨rfl, f1⟩)
  go_ret
  exact ⟨rfl, f1⟩
theorem kinds_mti_any (k : Int) (hk0 : -9223372036854775808 ≤ k) (hk1 : k ≤ 9223372036854775807) (w : World) (hT : Tabs w := by repeat' first | with_reducible assumption | with_reducible apply Tabs.drew | with_reducible apply Tabs.drewN | with_reducible apply Tabs.alloc | refine Tabs.fr ?_ (by with_reducible assumption)) : Calls Tryd.prog 11 #[.int .i64 k] w fun e w' => e = .returned (.string (mtB k)) ∧ Fr No w w' := by
  have hf := k_first _ _ _ (k_num_tests k) w
  have he := (first_words k).2
  obtain ⟨r, hr⟩ : ∃ r, dFirst (pNum k) = r := ⟨_, rfl⟩
  rw [hr] at hf he
  rw [← he]
  obtain ⟨rk, rc, rm, ru, ra⟩ := r
  unfold DRow.val at hf
  have hfd : ∀ w : World, (Instr.field 52 (.agg #[.int .i64 rk, .string rc, .string rm, .int .u16 (ru : Int), .int .u16 (ra : Int)]) 2).run Tryd.prog w = .ok (.string rm) w := fun _ => by kernel_rfl
  have HF := Lib.hid hf
  clear hf he hr
  go_enter Tryd.func11, Tryd.ntmps11
  go_wp2_with (go_at_call 28; refine HF.out.mono ?_; rintro e w1 ⟨rfl, f1⟩)
  go_ret
  exact ⟨rfl, f1⟩
theorem kinds_ofcode_any (S : ByteArray) (w : World) (hT : Tabs w := by repeat' first | with_reducible assumption | with_reducible apply Tabs.drew | with_reducible apply Tabs.drewN | with_reducible apply Tabs.alloc | refine Tabs.fr ?_ (by with_reducible assumption)) : Calls Tryd.prog 13 #[.string S] w fun e w' => e = .returned (.int .i64 (ofCode S)) ∧ Fr No w w' := by
  have hf := k_first _ _ _ (k_code_tests S) w
  have he := first_code S
  obtain ⟨r, hr⟩ : ∃ r, dFirst (pCode S) = r := ⟨_, rfl⟩
  rw [hr] at hf he
  rw [← he]
  obtain ⟨rk, rc, rm, ru, ra⟩ := r
  unfold DRow.val at hf
  have hfd : ∀ w : World, (Instr.field 52 (.agg #[.int .i64 rk, .string rc, .string rm, .int .u16 (ru : Int), .int .u16 (ra : Int)]) 0).run Tryd.prog w = .ok (.int .i64 rk) w := fun _ => by kernel_rfl
  have HF := Lib.hid hf
  clear hf he hr
  go_enter Tryd.func13, Tryd.ntmps13
  go_wp2_with (go_at_call 28; refine HF.out.mono ?_; rintro e w1 ⟨rfl, f1⟩)
  go_ret
  exact ⟨rfl, f1⟩
theorem kinds_ofmti_any (S : ByteArray) (w : World) (hT : Tabs w := by repeat' first | with_reducible assumption | with_reducible apply Tabs.drew | with_reducible apply Tabs.drewN | with_reducible apply Tabs.alloc | refine Tabs.fr ?_ (by with_reducible assumption)) : Calls Tryd.prog 15 #[.string S] w fun e w' => e = .returned (.int .i64 (ofMti S)) ∧ Fr No w w' := by
  have hf := k_first _ _ _ (k_mti_tests S) w
  have he := first_mti S
  obtain ⟨r, hr⟩ : ∃ r, dFirst (pMti S) = r := ⟨_, rfl⟩
  rw [hr] at hf he
  rw [← he]
  obtain ⟨rk, rc, rm, ru, ra⟩ := r
  unfold DRow.val at hf
  have hfd : ∀ w : World, (Instr.field 52 (.agg #[.int .i64 rk, .string rc, .string rm, .int .u16 (ru : Int), .int .u16 (ra : Int)]) 0).run Tryd.prog w = .ok (.int .i64 rk) w := fun _ => by kernel_rfl
  have HF := Lib.hid hf
  clear hf he hr
  go_enter Tryd.func15, Tryd.ntmps15
  go_wp2_with (go_at_call 28; refine HF.out.mono ?_; rintro e w1 ⟨rfl, f1⟩)
  go_ret
  exact ⟨rfl, f1⟩
theorem kinds_answer_any (k : Int) (hk0 : -9223372036854775808 ≤ k) (hk1 : k ≤ 9223372036854775807) (w : World) : Calls Tryd.prog 17 #[.int .i64 k] w fun e w' => e = .returned (.int .i64 (ansI k)) ∧ w = w' := by
  obtain ⟨a, ha⟩ : ∃ a, ansI k = a := ⟨_, rfl⟩
  rw [ha]
  have hor : (k = 1 ∧ a = 2) ∨ (k = 3 ∧ a = 4) ∨ (k = 5 ∧ a = 6) ∨ (k = 7 ∧ a = 8) ∨ (k = 9 ∧ a = 10) ∨ ((k ≠ 1 ∧ k ≠ 3 ∧ k ≠ 5 ∧ k ≠ 7 ∧ k ≠ 9) ∧ a = 0) := by
    by_cases h : 1 ≤ k ∧ k ≤ 9
    · have h9 : k = 1 ∨ k = 2 ∨ k = 3 ∨ k = 4 ∨ k = 5 ∨ k = 6 ∨ k = 7 ∨ k = 8 ∨ k = 9 := by omega
      rcases h9 with rfl | rfl | rfl | rfl | rfl | rfl | rfl | rfl | rfl <;> (have e : ansI _ = a := ha; simp [ansI] at e; omega)
    · unfold ansI at ha
      rw [if_neg (fun x => h ⟨x.1, x.2.1⟩)] at ha
      omega
  clear ha
  go_enter Tryd.func17, Tryd.ntmps17
  rcases hor with ⟨rfl, rfl⟩ | ⟨rfl, rfl⟩ | ⟨rfl, rfl⟩ | ⟨rfl, rfl⟩ | ⟨rfl, rfl⟩ | ⟨⟨h1, h3, h5, h7, h9⟩, rfl⟩
  all_goals
    go_wp2
    go_ret
    exact ⟨rfl, rfl⟩
theorem kinds_money_any (k : Int) (w : World) : Calls Tryd.prog 19 #[.int .i64 k] w fun e w' => e = .returned (.bool (monB k)) ∧ w = w' := by
  go_enter Tryd.func19, Tryd.ntmps19
  go_wp2
  all_goals
    go_ret
    refine ⟨ret_bool ?_, rfl⟩
    unfold monB
    rw [Bool.eq_iff_iff]
    simp
    try omega
end Go.Proofs.YtdenaejinlkfgaaDoor
