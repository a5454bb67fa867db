/- KindsAnswers: what is asked has an answer of its own. -/
import Derived.Test.YtdenaejinlkfgaaDoorKinAwake
namespace Go.Proofs.YtdenaejinlkfgaaDoor
open Go.RowKit
set_option maxHeartbeats 400000
set_option linter.unusedVariables false

attribute [local irreducible] yielded in
set_option maxRecDepth 20000 in
theorem answers_0 {x : Int} (w : World) (hT : Tabs w) (hx2 : -9223372036854775808 ≤ x ∧ x ≤ 9223372036854775807) (ei : (IntKind.u64.wrap x).tmod 14 = 0) :
    Calls Tryd.prog 6 #[.int .i64 x] w fun e w' => e = .returned (.bool true) ∧ Fr No w w' := by
  have h1 := fun u => kinds_answer_any 0 (by decide) (by decide) u
  rw [show ansI 0 = 0 by decide] at h1
  have h2 := fun u => kinds_money_any 0 u
  rw [show monB 0 = false by decide] at h2
  have h3 := fun u (h : Tabs u) => kinds_code_any 0 (by decide) (by decide) u
  rw [show cdB 0 = ⟨#[]⟩ by decide +kernel] at h3
  have h4 := fun u (h : Tabs u) => kinds_ofcode_any ⟨#[]⟩ u
  rw [show ofCode ⟨#[]⟩ = 0 by decide +kernel] at h4
  have wi : wrap64 0 = 0 := by decide +kernel
  have H1 := Lib.hid h1; have H2 := Lib.hid h2; have H3 := Lib.hid h3; have H4 := Lib.hid h4
  clear h1 h2 h3 h4
  go_enter Tryd.func6, Tryd.ntmps6
  go_wp2_with (first
    | (go_at_call 8; refine (kin_awake _ hT).mono ?_; rintro e w0 ⟨rfl, hf0⟩)
    | (go_at_call 17; refine (H1.out _).mono ?_; rintro e w1 ⟨rfl, rfl⟩)
    | (go_at_call 19; refine (H2.out _).mono ?_; rintro e w2 ⟨rfl, rfl⟩)
    | (go_at_call 9; refine (H3.out _ (hT.fr hf0)).mono ?_; rintro e w3 ⟨rfl, hf3⟩)
    | (go_at_call 13; refine (H4.out _ ((hT.fr hf0).fr hf3)).mono ?_; rintro e w4 ⟨rfl, hf4⟩))
  go_ret
  exact ⟨rfl, (hf0.trans hf3).trans hf4⟩
attribute [local irreducible] yielded in
set_option maxRecDepth 20000 in
theorem answers_1 {x : Int} (w : World) (hT : Tabs w) (hx2 : -9223372036854775808 ≤ x ∧ x ≤ 9223372036854775807) (ei : (IntKind.u64.wrap x).tmod 14 = 1) :
    Calls Tryd.prog 6 #[.int .i64 x] w fun e w' => e = .returned (.bool true) ∧ Fr No w w' := by
  have h1 := fun u => kinds_answer_any 1 (by decide) (by decide) u
  rw [show ansI 1 = 2 by decide] at h1
  have h2 := fun u => kinds_money_any 1 u
  rw [show monB 1 = true by decide] at h2
  have h3 := fun u (h : Tabs u) => kinds_code_any 1 (by decide) (by decide) u
  rw [show cdB 1 = ⟨#[65, 85, 84, 81]⟩ by decide +kernel] at h3
  have h4 := fun u (h : Tabs u) => kinds_ofcode_any ⟨#[65, 85, 84, 81]⟩ u
  rw [show ofCode ⟨#[65, 85, 84, 81]⟩ = 1 by decide +kernel] at h4
  have wi : wrap64 1 = 1 := by decide +kernel
  have H1 := Lib.hid h1; have H2 := Lib.hid h2; have H3 := Lib.hid h3; have H4 := Lib.hid h4
  clear h1 h2 h3 h4
  go_enter Tryd.func6, Tryd.ntmps6
  go_wp2_with (first
    | (go_at_call 8; refine (kin_awake _ hT).mono ?_; rintro e w0 ⟨rfl, hf0⟩)
    | (go_at_call 17; refine (H1.out _).mono ?_; rintro e w1 ⟨rfl, rfl⟩)
    | (go_at_call 19; refine (H2.out _).mono ?_; rintro e w2 ⟨rfl, rfl⟩)
    | (go_at_call 9; refine (H3.out _ (hT.fr hf0)).mono ?_; rintro e w3 ⟨rfl, hf3⟩)
    | (go_at_call 13; refine (H4.out _ ((hT.fr hf0).fr hf3)).mono ?_; rintro e w4 ⟨rfl, hf4⟩))
  go_ret
  exact ⟨rfl, (hf0.trans hf3).trans hf4⟩
attribute [local irreducible] yielded in
set_option maxRecDepth 20000 in
theorem answers_2 {x : Int} (w : World) (hT : Tabs w) (hx2 : -9223372036854775808 ≤ x ∧ x ≤ 9223372036854775807) (ei : (IntKind.u64.wrap x).tmod 14 = 2) :
    Calls Tryd.prog 6 #[.int .i64 x] w fun e w' => e = .returned (.bool true) ∧ Fr No w w' := by
  have h1 := fun u => kinds_answer_any 2 (by decide) (by decide) u
  rw [show ansI 2 = 0 by decide] at h1
  have h2 := fun u => kinds_money_any 2 u
  rw [show monB 2 = false by decide] at h2
  have h3 := fun u (h : Tabs u) => kinds_code_any 2 (by decide) (by decide) u
  rw [show cdB 2 = ⟨#[65, 85, 84, 80]⟩ by decide +kernel] at h3
  have h4 := fun u (h : Tabs u) => kinds_ofcode_any ⟨#[65, 85, 84, 80]⟩ u
  rw [show ofCode ⟨#[65, 85, 84, 80]⟩ = 2 by decide +kernel] at h4
  have wi : wrap64 2 = 2 := by decide +kernel
  have H1 := Lib.hid h1; have H2 := Lib.hid h2; have H3 := Lib.hid h3; have H4 := Lib.hid h4
  clear h1 h2 h3 h4
  go_enter Tryd.func6, Tryd.ntmps6
  go_wp2_with (first
    | (go_at_call 8; refine (kin_awake _ hT).mono ?_; rintro e w0 ⟨rfl, hf0⟩)
    | (go_at_call 17; refine (H1.out _).mono ?_; rintro e w1 ⟨rfl, rfl⟩)
    | (go_at_call 19; refine (H2.out _).mono ?_; rintro e w2 ⟨rfl, rfl⟩)
    | (go_at_call 9; refine (H3.out _ (hT.fr hf0)).mono ?_; rintro e w3 ⟨rfl, hf3⟩)
    | (go_at_call 13; refine (H4.out _ ((hT.fr hf0).fr hf3)).mono ?_; rintro e w4 ⟨rfl, hf4⟩))
  go_ret
  exact ⟨rfl, (hf0.trans hf3).trans hf4⟩
attribute [local irreducible] yielded in
set_option maxRecDepth 20000 in
theorem answers_3 {x : Int} (w : World) (hT : Tabs w) (hx2 : -9223372036854775808 ≤ x ∧ x ≤ 9223372036854775807) (ei : (IntKind.u64.wrap x).tmod 14 = 3) :
    Calls Tryd.prog 6 #[.int .i64 x] w fun e w' => e = .returned (.bool true) ∧ Fr No w w' := by
  have h1 := fun u => kinds_answer_any 3 (by decide) (by decide) u
  rw [show ansI 3 = 4 by decide] at h1
  have h2 := fun u => kinds_money_any 3 u
  rw [show monB 3 = true by decide] at h2
  have h3 := fun u (h : Tabs u) => kinds_code_any 3 (by decide) (by decide) u
  rw [show cdB 3 = ⟨#[67, 77, 80, 86]⟩ by decide +kernel] at h3
  have h4 := fun u (h : Tabs u) => kinds_ofcode_any ⟨#[67, 77, 80, 86]⟩ u
  rw [show ofCode ⟨#[67, 77, 80, 86]⟩ = 3 by decide +kernel] at h4
  have wi : wrap64 3 = 3 := by decide +kernel
  have H1 := Lib.hid h1; have H2 := Lib.hid h2; have H3 := Lib.hid h3; have H4 := Lib.hid h4
  clear h1 h2 h3 h4
  go_enter Tryd.func6, Tryd.ntmps6
  go_wp2_with (first
    | (go_at_call 8; refine (kin_awake _ hT).mono ?_; rintro e w0 ⟨rfl, hf0⟩)
    | (go_at_call 17; refine (H1.out _).mono ?_; rintro e w1 ⟨rfl, rfl⟩)
    | (go_at_call 19; refine (H2.out _).mono ?_; rintro e w2 ⟨rfl, rfl⟩)
    | (go_at_call 9; refine (H3.out _ (hT.fr hf0)).mono ?_; rintro e w3 ⟨rfl, hf3⟩)
    | (go_at_call 13; refine (H4.out _ ((hT.fr hf0).fr hf3)).mono ?_; rintro e w4 ⟨rfl, hf4⟩))
  go_ret
  exact ⟨rfl, (hf0.trans hf3).trans hf4⟩
attribute [local irreducible] yielded in
set_option maxRecDepth 20000 in
theorem answers_4 {x : Int} (w : World) (hT : Tabs w) (hx2 : -9223372036854775808 ≤ x ∧ x ≤ 9223372036854775807) (ei : (IntKind.u64.wrap x).tmod 14 = 4) :
    Calls Tryd.prog 6 #[.int .i64 x] w fun e w' => e = .returned (.bool true) ∧ Fr No w w' := by
  have h1 := fun u => kinds_answer_any 4 (by decide) (by decide) u
  rw [show ansI 4 = 0 by decide] at h1
  have h2 := fun u => kinds_money_any 4 u
  rw [show monB 4 = false by decide] at h2
  have h3 := fun u (h : Tabs u) => kinds_code_any 4 (by decide) (by decide) u
  rw [show cdB 4 = ⟨#[67, 77, 80, 75]⟩ by decide +kernel] at h3
  have h4 := fun u (h : Tabs u) => kinds_ofcode_any ⟨#[67, 77, 80, 75]⟩ u
  rw [show ofCode ⟨#[67, 77, 80, 75]⟩ = 4 by decide +kernel] at h4
  have wi : wrap64 4 = 4 := by decide +kernel
  have H1 := Lib.hid h1; have H2 := Lib.hid h2; have H3 := Lib.hid h3; have H4 := Lib.hid h4
  clear h1 h2 h3 h4
  go_enter Tryd.func6, Tryd.ntmps6
  go_wp2_with (first
    | (go_at_call 8; refine (kin_awake _ hT).mono ?_; rintro e w0 ⟨rfl, hf0⟩)
    | (go_at_call 17; refine (H1.out _).mono ?_; rintro e w1 ⟨rfl, rfl⟩)
    | (go_at_call 19; refine (H2.out _).mono ?_; rintro e w2 ⟨rfl, rfl⟩)
    | (go_at_call 9; refine (H3.out _ (hT.fr hf0)).mono ?_; rintro e w3 ⟨rfl, hf3⟩)
    | (go_at_call 13; refine (H4.out _ ((hT.fr hf0).fr hf3)).mono ?_; rintro e w4 ⟨rfl, hf4⟩))
  go_ret
  exact ⟨rfl, (hf0.trans hf3).trans hf4⟩
attribute [local irreducible] yielded in
set_option maxRecDepth 20000 in
theorem answers_5 {x : Int} (w : World) (hT : Tabs w) (hx2 : -9223372036854775808 ≤ x ∧ x ≤ 9223372036854775807) (ei : (IntKind.u64.wrap x).tmod 14 = 5) :
    Calls Tryd.prog 6 #[.int .i64 x] w fun e w' => e = .returned (.bool true) ∧ Fr No w w' := by
  have h1 := fun u => kinds_answer_any 5 (by decide) (by decide) u
  rw [show ansI 5 = 6 by decide] at h1
  have h2 := fun u => kinds_money_any 5 u
  rw [show monB 5 = false by decide] at h2
  have h3 := fun u (h : Tabs u) => kinds_code_any 5 (by decide) (by decide) u
  rw [show cdB 5 = ⟨#[82, 86, 82, 65]⟩ by decide +kernel] at h3
  have h4 := fun u (h : Tabs u) => kinds_ofcode_any ⟨#[82, 86, 82, 65]⟩ u
  rw [show ofCode ⟨#[82, 86, 82, 65]⟩ = 5 by decide +kernel] at h4
  have wi : wrap64 5 = 5 := by decide +kernel
  have H1 := Lib.hid h1; have H2 := Lib.hid h2; have H3 := Lib.hid h3; have H4 := Lib.hid h4
  clear h1 h2 h3 h4
  go_enter Tryd.func6, Tryd.ntmps6
  go_wp2_with (first
    | (go_at_call 8; refine (kin_awake _ hT).mono ?_; rintro e w0 ⟨rfl, hf0⟩)
    | (go_at_call 17; refine (H1.out _).mono ?_; rintro e w1 ⟨rfl, rfl⟩)
    | (go_at_call 19; refine (H2.out _).mono ?_; rintro e w2 ⟨rfl, rfl⟩)
    | (go_at_call 9; refine (H3.out _ (hT.fr hf0)).mono ?_; rintro e w3 ⟨rfl, hf3⟩)
    | (go_at_call 13; refine (H4.out _ ((hT.fr hf0).fr hf3)).mono ?_; rintro e w4 ⟨rfl, hf4⟩))
  go_ret
  exact ⟨rfl, (hf0.trans hf3).trans hf4⟩
attribute [local irreducible] yielded in
set_option maxRecDepth 20000 in
theorem answers_6 {x : Int} (w : World) (hT : Tabs w) (hx2 : -9223372036854775808 ≤ x ∧ x ≤ 9223372036854775807) (ei : (IntKind.u64.wrap x).tmod 14 = 6) :
    Calls Tryd.prog 6 #[.int .i64 x] w fun e w' => e = .returned (.bool true) ∧ Fr No w w' := by
  have h1 := fun u => kinds_answer_any 6 (by decide) (by decide) u
  rw [show ansI 6 = 0 by decide] at h1
  have h2 := fun u => kinds_money_any 6 u
  rw [show monB 6 = false by decide] at h2
  have h3 := fun u (h : Tabs u) => kinds_code_any 6 (by decide) (by decide) u
  rw [show cdB 6 = ⟨#[82, 86, 82, 82]⟩ by decide +kernel] at h3
  have h4 := fun u (h : Tabs u) => kinds_ofcode_any ⟨#[82, 86, 82, 82]⟩ u
  rw [show ofCode ⟨#[82, 86, 82, 82]⟩ = 6 by decide +kernel] at h4
  have wi : wrap64 6 = 6 := by decide +kernel
  have H1 := Lib.hid h1; have H2 := Lib.hid h2; have H3 := Lib.hid h3; have H4 := Lib.hid h4
  clear h1 h2 h3 h4
  go_enter Tryd.func6, Tryd.ntmps6
  go_wp2_with (first
    | (go_at_call 8; refine (kin_awake _ hT).mono ?_; rintro e w0 ⟨rfl, hf0⟩)
    | (go_at_call 17; refine (H1.out _).mono ?_; rintro e w1 ⟨rfl, rfl⟩)
    | (go_at_call 19; refine (H2.out _).mono ?_; rintro e w2 ⟨rfl, rfl⟩)
    | (go_at_call 9; refine (H3.out _ (hT.fr hf0)).mono ?_; rintro e w3 ⟨rfl, hf3⟩)
    | (go_at_call 13; refine (H4.out _ ((hT.fr hf0).fr hf3)).mono ?_; rintro e w4 ⟨rfl, hf4⟩))
  go_ret
  exact ⟨rfl, (hf0.trans hf3).trans hf4⟩
attribute [local irreducible] yielded in
set_option maxRecDepth 20000 in
theorem answers_7 {x : Int} (w : World) (hT : Tabs w) (hx2 : -9223372036854775808 ≤ x ∧ x ≤ 9223372036854775807) (ei : (IntKind.u64.wrap x).tmod 14 = 7) :
    Calls Tryd.prog 6 #[.int .i64 x] w fun e w' => e = .returned (.bool true) ∧ Fr No w w' := by
  have h1 := fun u => kinds_answer_any 7 (by decide) (by decide) u
  rw [show ansI 7 = 8 by decide] at h1
  have h2 := fun u => kinds_money_any 7 u
  rw [show monB 7 = false by decide] at h2
  have h3 := fun u (h : Tabs u) => kinds_code_any 7 (by decide) (by decide) u
  rw [show cdB 7 = ⟨#[82, 67, 76, 81]⟩ by decide +kernel] at h3
  have h4 := fun u (h : Tabs u) => kinds_ofcode_any ⟨#[82, 67, 76, 81]⟩ u
  rw [show ofCode ⟨#[82, 67, 76, 81]⟩ = 7 by decide +kernel] at h4
  have wi : wrap64 7 = 7 := by decide +kernel
  have H1 := Lib.hid h1; have H2 := Lib.hid h2; have H3 := Lib.hid h3; have H4 := Lib.hid h4
  clear h1 h2 h3 h4
  go_enter Tryd.func6, Tryd.ntmps6
  go_wp2_with (first
    | (go_at_call 8; refine (kin_awake _ hT).mono ?_; rintro e w0 ⟨rfl, hf0⟩)
    | (go_at_call 17; refine (H1.out _).mono ?_; rintro e w1 ⟨rfl, rfl⟩)
    | (go_at_call 19; refine (H2.out _).mono ?_; rintro e w2 ⟨rfl, rfl⟩)
    | (go_at_call 9; refine (H3.out _ (hT.fr hf0)).mono ?_; rintro e w3 ⟨rfl, hf3⟩)
    | (go_at_call 13; refine (H4.out _ ((hT.fr hf0).fr hf3)).mono ?_; rintro e w4 ⟨rfl, hf4⟩))
  go_ret
  exact ⟨rfl, (hf0.trans hf3).trans hf4⟩
attribute [local irreducible] yielded in
set_option maxRecDepth 20000 in
theorem answers_8 {x : Int} (w : World) (hT : Tabs w) (hx2 : -9223372036854775808 ≤ x ∧ x ≤ 9223372036854775807) (ei : (IntKind.u64.wrap x).tmod 14 = 8) :
    Calls Tryd.prog 6 #[.int .i64 x] w fun e w' => e = .returned (.bool true) ∧ Fr No w w' := by
  have h1 := fun u => kinds_answer_any 8 (by decide) (by decide) u
  rw [show ansI 8 = 0 by decide] at h1
  have h2 := fun u => kinds_money_any 8 u
  rw [show monB 8 = false by decide] at h2
  have h3 := fun u (h : Tabs u) => kinds_code_any 8 (by decide) (by decide) u
  rw [show cdB 8 = ⟨#[82, 67, 76, 80]⟩ by decide +kernel] at h3
  have h4 := fun u (h : Tabs u) => kinds_ofcode_any ⟨#[82, 67, 76, 80]⟩ u
  rw [show ofCode ⟨#[82, 67, 76, 80]⟩ = 8 by decide +kernel] at h4
  have wi : wrap64 8 = 8 := by decide +kernel
  have H1 := Lib.hid h1; have H2 := Lib.hid h2; have H3 := Lib.hid h3; have H4 := Lib.hid h4
  clear h1 h2 h3 h4
  go_enter Tryd.func6, Tryd.ntmps6
  go_wp2_with (first
    | (go_at_call 8; refine (kin_awake _ hT).mono ?_; rintro e w0 ⟨rfl, hf0⟩)
    | (go_at_call 17; refine (H1.out _).mono ?_; rintro e w1 ⟨rfl, rfl⟩)
    | (go_at_call 19; refine (H2.out _).mono ?_; rintro e w2 ⟨rfl, rfl⟩)
    | (go_at_call 9; refine (H3.out _ (hT.fr hf0)).mono ?_; rintro e w3 ⟨rfl, hf3⟩)
    | (go_at_call 13; refine (H4.out _ ((hT.fr hf0).fr hf3)).mono ?_; rintro e w4 ⟨rfl, hf4⟩))
  go_ret
  exact ⟨rfl, (hf0.trans hf3).trans hf4⟩
attribute [local irreducible] yielded in
set_option maxRecDepth 20000 in
theorem answers_9 {x : Int} (w : World) (hT : Tabs w) (hx2 : -9223372036854775808 ≤ x ∧ x ≤ 9223372036854775807) (ei : (IntKind.u64.wrap x).tmod 14 = 9) :
    Calls Tryd.prog 6 #[.int .i64 x] w fun e w' => e = .returned (.bool true) ∧ Fr No w w' := by
  have h1 := fun u => kinds_answer_any 9 (by decide) (by decide) u
  rw [show ansI 9 = 10 by decide] at h1
  have h2 := fun u => kinds_money_any 9 u
  rw [show monB 9 = false by decide] at h2
  have h3 := fun u (h : Tabs u) => kinds_code_any 9 (by decide) (by decide) u
  rw [show cdB 9 = ⟨#[68, 71, 78, 81]⟩ by decide +kernel] at h3
  have h4 := fun u (h : Tabs u) => kinds_ofcode_any ⟨#[68, 71, 78, 81]⟩ u
  rw [show ofCode ⟨#[68, 71, 78, 81]⟩ = 9 by decide +kernel] at h4
  have wi : wrap64 9 = 9 := by decide +kernel
  have H1 := Lib.hid h1; have H2 := Lib.hid h2; have H3 := Lib.hid h3; have H4 := Lib.hid h4
  clear h1 h2 h3 h4
  go_enter Tryd.func6, Tryd.ntmps6
  go_wp2_with (first
    | (go_at_call 8; refine (kin_awake _ hT).mono ?_; rintro e w0 ⟨rfl, hf0⟩)
    | (go_at_call 17; refine (H1.out _).mono ?_; rintro e w1 ⟨rfl, rfl⟩)
    | (go_at_call 19; refine (H2.out _).mono ?_; rintro e w2 ⟨rfl, rfl⟩)
    | (go_at_call 9; refine (H3.out _ (hT.fr hf0)).mono ?_; rintro e w3 ⟨rfl, hf3⟩)
    | (go_at_call 13; refine (H4.out _ ((hT.fr hf0).fr hf3)).mono ?_; rintro e w4 ⟨rfl, hf4⟩))
  go_ret
  exact ⟨rfl, (hf0.trans hf3).trans hf4⟩
attribute [local irreducible] yielded in
set_option maxRecDepth 20000 in
theorem answers_10 {x : Int} (w : World) (hT : Tabs w) (hx2 : -9223372036854775808 ≤ x ∧ x ≤ 9223372036854775807) (ei : (IntKind.u64.wrap x).tmod 14 = 10) :
    Calls Tryd.prog 6 #[.int .i64 x] w fun e w' => e = .returned (.bool true) ∧ Fr No w w' := by
  have h1 := fun u => kinds_answer_any 10 (by decide) (by decide) u
  rw [show ansI 10 = 0 by decide] at h1
  have h2 := fun u => kinds_money_any 10 u
  rw [show monB 10 = false by decide] at h2
  have h3 := fun u (h : Tabs u) => kinds_code_any 10 (by decide) (by decide) u
  rw [show cdB 10 = ⟨#[68, 71, 78, 80]⟩ by decide +kernel] at h3
  have h4 := fun u (h : Tabs u) => kinds_ofcode_any ⟨#[68, 71, 78, 80]⟩ u
  rw [show ofCode ⟨#[68, 71, 78, 80]⟩ = 10 by decide +kernel] at h4
  have wi : wrap64 10 = 10 := by decide +kernel
  have H1 := Lib.hid h1; have H2 := Lib.hid h2; have H3 := Lib.hid h3; have H4 := Lib.hid h4
  clear h1 h2 h3 h4
  go_enter Tryd.func6, Tryd.ntmps6
  go_wp2_with (first
    | (go_at_call 8; refine (kin_awake _ hT).mono ?_; rintro e w0 ⟨rfl, hf0⟩)
    | (go_at_call 17; refine (H1.out _).mono ?_; rintro e w1 ⟨rfl, rfl⟩)
    | (go_at_call 19; refine (H2.out _).mono ?_; rintro e w2 ⟨rfl, rfl⟩)
    | (go_at_call 9; refine (H3.out _ (hT.fr hf0)).mono ?_; rintro e w3 ⟨rfl, hf3⟩)
    | (go_at_call 13; refine (H4.out _ ((hT.fr hf0).fr hf3)).mono ?_; rintro e w4 ⟨rfl, hf4⟩))
  go_ret
  exact ⟨rfl, (hf0.trans hf3).trans hf4⟩
attribute [local irreducible] yielded in
set_option maxRecDepth 20000 in
theorem answers_11 {x : Int} (w : World) (hT : Tabs w) (hx2 : -9223372036854775808 ≤ x ∧ x ≤ 9223372036854775807) (ei : (IntKind.u64.wrap x).tmod 14 = 11) :
    Calls Tryd.prog 6 #[.int .i64 x] w fun e w' => e = .returned (.bool true) ∧ Fr No w w' := by
  have h1 := fun u => kinds_answer_any 11 (by decide) (by decide) u
  rw [show ansI 11 = 0 by decide] at h1
  have h2 := fun u => kinds_money_any 11 u
  rw [show monB 11 = false by decide] at h2
  have h3 := fun u (h : Tabs u) => kinds_code_any 11 (by decide) (by decide) u
  rw [show cdB 11 = ⟨#[82, 74, 67, 84]⟩ by decide +kernel] at h3
  have h4 := fun u (h : Tabs u) => kinds_ofcode_any ⟨#[82, 74, 67, 84]⟩ u
  rw [show ofCode ⟨#[82, 74, 67, 84]⟩ = 11 by decide +kernel] at h4
  have wi : wrap64 11 = 11 := by decide +kernel
  have H1 := Lib.hid h1; have H2 := Lib.hid h2; have H3 := Lib.hid h3; have H4 := Lib.hid h4
  clear h1 h2 h3 h4
  go_enter Tryd.func6, Tryd.ntmps6
  go_wp2_with (first
    | (go_at_call 8; refine (kin_awake _ hT).mono ?_; rintro e w0 ⟨rfl, hf0⟩)
    | (go_at_call 17; refine (H1.out _).mono ?_; rintro e w1 ⟨rfl, rfl⟩)
    | (go_at_call 19; refine (H2.out _).mono ?_; rintro e w2 ⟨rfl, rfl⟩)
    | (go_at_call 9; refine (H3.out _ (hT.fr hf0)).mono ?_; rintro e w3 ⟨rfl, hf3⟩)
    | (go_at_call 13; refine (H4.out _ ((hT.fr hf0).fr hf3)).mono ?_; rintro e w4 ⟨rfl, hf4⟩))
  go_ret
  exact ⟨rfl, (hf0.trans hf3).trans hf4⟩
attribute [local irreducible] yielded in
set_option maxRecDepth 20000 in
theorem answers_12 {x : Int} (w : World) (hT : Tabs w) (hx2 : -9223372036854775808 ≤ x ∧ x ≤ 9223372036854775807) (ei : (IntKind.u64.wrap x).tmod 14 = 12) :
    Calls Tryd.prog 6 #[.int .i64 x] w fun e w' => e = .returned (.bool true) ∧ Fr No w w' := by
  have h1 := fun u => kinds_answer_any 12 (by decide) (by decide) u
  rw [show ansI 12 = 0 by decide] at h1
  have h2 := fun u => kinds_money_any 12 u
  rw [show monB 12 = false by decide] at h2
  have h3 := fun u (h : Tabs u) => kinds_code_any 12 (by decide) (by decide) u
  rw [show cdB 12 = ⟨#[]⟩ by decide +kernel] at h3
  have h4 := fun u (h : Tabs u) => kinds_ofcode_any ⟨#[]⟩ u
  rw [show ofCode ⟨#[]⟩ = 0 by decide +kernel] at h4
  have wi : wrap64 12 = 12 := by decide +kernel
  have H1 := Lib.hid h1; have H2 := Lib.hid h2; have H3 := Lib.hid h3; have H4 := Lib.hid h4
  clear h1 h2 h3 h4
  go_enter Tryd.func6, Tryd.ntmps6
  go_wp2_with (first
    | (go_at_call 8; refine (kin_awake _ hT).mono ?_; rintro e w0 ⟨rfl, hf0⟩)
    | (go_at_call 17; refine (H1.out _).mono ?_; rintro e w1 ⟨rfl, rfl⟩)
    | (go_at_call 19; refine (H2.out _).mono ?_; rintro e w2 ⟨rfl, rfl⟩)
    | (go_at_call 9; refine (H3.out _ (hT.fr hf0)).mono ?_; rintro e w3 ⟨rfl, hf3⟩)
    | (go_at_call 13; refine (H4.out _ ((hT.fr hf0).fr hf3)).mono ?_; rintro e w4 ⟨rfl, hf4⟩))
  go_ret
  exact ⟨rfl, (hf0.trans hf3).trans hf4⟩
attribute [local irreducible] yielded in
set_option maxRecDepth 20000 in
theorem answers_13 {x : Int} (w : World) (hT : Tabs w) (hx2 : -9223372036854775808 ≤ x ∧ x ≤ 9223372036854775807) (ei : (IntKind.u64.wrap x).tmod 14 = 13) :
    Calls Tryd.prog 6 #[.int .i64 x] w fun e w' => e = .returned (.bool true) ∧ Fr No w w' := by
  have h1 := fun u => kinds_answer_any 13 (by decide) (by decide) u
  rw [show ansI 13 = 0 by decide] at h1
  have h2 := fun u => kinds_money_any 13 u
  rw [show monB 13 = false by decide] at h2
  have h3 := fun u (h : Tabs u) => kinds_code_any 13 (by decide) (by decide) u
  rw [show cdB 13 = ⟨#[]⟩ by decide +kernel] at h3
  have h4 := fun u (h : Tabs u) => kinds_ofcode_any ⟨#[]⟩ u
  rw [show ofCode ⟨#[]⟩ = 0 by decide +kernel] at h4
  have wi : wrap64 13 = 13 := by decide +kernel
  have H1 := Lib.hid h1; have H2 := Lib.hid h2; have H3 := Lib.hid h3; have H4 := Lib.hid h4
  clear h1 h2 h3 h4
  go_enter Tryd.func6, Tryd.ntmps6
  go_wp2_with (first
    | (go_at_call 8; refine (kin_awake _ hT).mono ?_; rintro e w0 ⟨rfl, hf0⟩)
    | (go_at_call 17; refine (H1.out _).mono ?_; rintro e w1 ⟨rfl, rfl⟩)
    | (go_at_call 19; refine (H2.out _).mono ?_; rintro e w2 ⟨rfl, rfl⟩)
    | (go_at_call 9; refine (H3.out _ (hT.fr hf0)).mono ?_; rintro e w3 ⟨rfl, hf3⟩)
    | (go_at_call 13; refine (H4.out _ ((hT.fr hf0).fr hf3)).mono ?_; rintro e w4 ⟨rfl, hf4⟩))
  go_ret
  exact ⟨rfl, (hf0.trans hf3).trans hf4⟩
theorem answers_walk {x : Int} (w : World) (hT : Tabs w) (hx : (Lit.int .i64 x).wf = true) :
    Calls Tryd.prog 6 #[.int .i64 x] w fun e w' => e = .returned (.bool true) ∧ Fr No w w' := by
  have hx2 := wf_i64 hx
  obtain ⟨i, hi, ei⟩ := umod x 14 (by decide) (by decide)
  have ei : (IntKind.u64.wrap x).tmod 14 = (i : Int) := ei
  have h : i = 0 ∨ i = 1 ∨ i = 2 ∨ i = 3 ∨ i = 4 ∨ i = 5 ∨ i = 6 ∨ i = 7 ∨ i = 8 ∨ i = 9 ∨ i = 10 ∨ i = 11 ∨ i = 12 ∨ i = 13 := by omega
  rcases h with rfl | rfl | rfl | rfl | rfl | rfl | rfl | rfl | rfl | rfl | rfl | rfl | rfl | rfl
  · exact answers_0 w hT hx2 ei
  · exact answers_1 w hT hx2 ei
  · exact answers_2 w hT hx2 ei
  · exact answers_3 w hT hx2 ei
  · exact answers_4 w hT hx2 ei
  · exact answers_5 w hT hx2 ei
  · exact answers_6 w hT hx2 ei
  · exact answers_7 w hT hx2 ei
  · exact answers_8 w hT hx2 ei
  · exact answers_9 w hT hx2 ei
  · exact answers_10 w hT hx2 ei
  · exact answers_11 w hT hx2 ei
  · exact answers_12 w hT hx2 ei
  · exact answers_13 w hT hx2 ei
end Go.Proofs.YtdenaejinlkfgaaDoor
