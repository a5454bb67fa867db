/- KindsOwn: each kind has words of its own. -/
import Derived.Test.YtdenaejinlkfgaaDoorKinAwake
namespace Go.Proofs.YtdenaejinlkfgaaDoor
open Go.RowKit
set_option maxHeartbeats 4000000
set_option linter.unusedVariables false

theorem kown_table : kAll (fun i => i == 11 || (ofCode (cdB (1 + (i : Int))) == 1 + (i : Int) && ofMti (mtB (1 + (i : Int))) == 1 + (i : Int) && (cdB (1 + (i : Int))).size == 4 && (mtB (1 + (i : Int))).size == 4 && (ansI (1 + (i : Int)) == 0 || ansI (ansI (1 + (i : Int))) == 0))) = true := by decide +kernel
theorem kown_pairs : kAll (fun i => kAll (fun k => i == 11 || k == 11 || (((cdB (1 + (i : Int))).data.toList == (cdB (1 + (k : Int))).data.toList) == (i == k) && ((mtB (1 + (i : Int))).data.toList == (mtB (1 + (k : Int))).data.toList) == (i == k)))) = true := by decide +kernel
attribute [local irreducible] yielded in
set_option maxRecDepth 20000 in
theorem kown_walk {x y : Int} (w : World) (hT : Tabs w) (hx : (Lit.int .i64 x).wf = true) (hy : (Lit.int .i64 y).wf = true) :
    Calls Tryd.prog 4 #[.int .i64 x, .int .i64 y] w fun e w' => e = .returned (.bool true) ∧ Fr No w w' := by
  obtain ⟨i, hi, ei⟩ := umod x 11 (by decide) (by decide)
  obtain ⟨k, hk, ek⟩ := umod y 11 (by decide) (by decide)
  have ei : (IntKind.u64.wrap x).tmod 11 = (i : Int) := ei
  have ek : (IntKind.u64.wrap y).tmod 11 = (k : Int) := ek
  have wi : wrap64 (i : Int) = (i : Int) := IntWalk.wrap64_in _ ⟨by omega, by omega⟩
  have wk : wrap64 (k : Int) = (k : Int) := IntWalk.wrap64_in _ ⟨by omega, by omega⟩
  have wi2 : wrap64 (1 + (i : Int)) = 1 + (i : Int) := IntWalk.wrap64_in _ ⟨by omega, by omega⟩
  have wk2 : wrap64 (1 + (k : Int)) = 1 + (k : Int) := IntWalk.wrap64_in _ ⟨by omega, by omega⟩
  have hx2 := wf_i64 hx
  have hy2 := wf_i64 hy
  have t1 := kAll_at kown_table (k := i) (by omega)
  have t3 := kAll_at (kAll_at kown_pairs (k := i) (by omega)) (k := k) (by omega)
  rw [show (i == 11) = false by rw [beq_eq_false_iff_ne]; omega, Bool.false_or] at t1 t3
  rw [show (k == 11) = false by rw [beq_eq_false_iff_ne]; omega, Bool.false_or] at t3
  simp only [Bool.and_eq_true, beq_iff_eq] at t1 t3
  obtain ⟨⟨⟨⟨p1, p2⟩, p3⟩, p4⟩, p5⟩ := t1
  obtain ⟨q1, q2⟩ := t3
  obtain ⟨a, ha⟩ : ∃ a : Int, 1 + (i : Int) = a := ⟨_, rfl⟩
  obtain ⟨b, hb⟩ : ∃ b : Int, 1 + (k : Int) = b := ⟨_, rfl⟩
  rw [ha] at p1 p2 p3 p4 p5 q1 q2 wi2
  rw [hb] at q1 q2 wk2
  have a0 : 1 ≤ a ∧ a ≤ 11 := by omega
  have b0 : 1 ≤ b ∧ b ≤ 11 := by omega
  have n0 : ∀ k : Int, 0 ≤ ansI k ∨ ansI k = k + 1 := fun k => by unfold ansI; split <;> omega
  have n1 : -9223372036854775808 ≤ ansI a ∧ ansI a ≤ 9223372036854775807 := by
    unfold ansI; split <;> omega
  have h1 := fun u (h : Tabs u) => kinds_code_any a (by omega) (by omega) u
  have h2 := fun u (h : Tabs u) => kinds_mti_any a (by omega) (by omega) u
  have h3 := fun u => kinds_answer_any a (by omega) (by omega) u
  have h4 := fun u => kinds_answer_any (ansI a) n1.1 n1.2 u
  have h5 := fun u (h : Tabs u) => kinds_ofcode_any (cdB a) u
  rw [p1] at h5
  have h6 := fun u (h : Tabs u) => kinds_ofmti_any (mtB a) u
  rw [p2] at h6
  have h7 := fun u (h : Tabs u) => kinds_code_any b (by omega) (by omega) u
  have h8 := fun u (h : Tabs u) => kinds_mti_any b (by omega) (by omega) u
  have h9 := fun u (h : Tabs u) => kinds_ofcode_any ⟨#[]⟩ u
  rw [show ofCode ⟨#[]⟩ = 0 by decide +kernel] at h9
  have g1 := fun u (h : Tabs u) => kinds_code_any 0 (by decide) (by decide) u
  rw [show cdB 0 = ⟨#[]⟩ by decide +kernel] at g1
  have g2 := fun u (h : Tabs u) => kinds_mti_any 12 (by decide) (by decide) u
  rw [show mtB 12 = ⟨#[]⟩ by decide +kernel] at g2
  obtain ⟨z, hz⟩ : ∃ z, (i == k) = z := ⟨_, rfl⟩
  rw [hz] at q1 q2
  have hab : z = true ↔ a = b := by rw [← hz, beq_iff_eq]; omega
  have f3 : ((cdB a).size : Int) = 4 := by omega
  have f4 : ((mtB a).size : Int) = 4 := by omega
  have f5 : ansI a = 0 ∨ ansI a ≠ 0 ∧ ansI (ansI a) = 0 := by
    by_cases hn : ansI a = 0
    · exact .inl hn
    · right
      refine ⟨hn, ?_⟩
      simp only [Bool.or_eq_true, beq_iff_eq] at p5
      exact p5.resolve_left hn
  generalize cdB a = s at *
  generalize cdB b = s2 at *
  generalize mtB a = r at *
  generalize mtB b = r2 at *
  generalize ansI (ansI a) = n2 at *
  generalize ansI a = n at *
  rw [← s_beq] at q1 q2
  have H1 := Lib.hid h1; have H2 := Lib.hid h2; have H3 := Lib.hid h3; have H4 := Lib.hid h4; have H5 := Lib.hid h5; have H6 := Lib.hid h6; have H7 := Lib.hid h7; have H8 := Lib.hid h8; have H9 := Lib.hid h9; have G1 := Lib.hid g1; have G2 := Lib.hid g2
  clear h1 h2 h3 h4 h5 h6 h7 h8 h9 g1 g2 n0 p1 p2 p3 p4 p5 hz hx hy
  have hF := Fr.refl No w
  cases z with
  | true =>
    obtain rfl : a = b := hab.1 rfl
    rcases f5 with f5 | ⟨f5, f6⟩
    all_goals
      try subst f6
      go_enter Tryd.func4, Tryd.ntmps4
      go_wp2_with (first
      | (go_at_call 9; (with_reducible refine (H1.out _ (hT.fr hF)).mono ?_); rintro e w1 ⟨rfl, hf1⟩; replace hF := hF.trans hf1; clear hf1)
      | (go_at_call 11; (with_reducible refine (H2.out _ (hT.fr hF)).mono ?_); rintro e w1 ⟨rfl, hf1⟩; replace hF := hF.trans hf1; clear hf1)
      | (go_at_call 17; (with_reducible refine (H3.out _).mono ?_); rintro e w1 ⟨rfl, rfl⟩)
      | (go_at_call 8; refine (kin_awake _ (hT.fr hF)).mono ?_; rintro e w1 ⟨rfl, hf1⟩; replace hF := hF.trans hf1; clear hf1)
      | (go_at_call 13; (with_reducible refine (H5.out _ (hT.fr hF)).mono ?_); rintro e w1 ⟨rfl, hf1⟩; replace hF := hF.trans hf1; clear hf1)
      | (go_at_call 15; (with_reducible refine (H6.out _ (hT.fr hF)).mono ?_); rintro e w1 ⟨rfl, hf1⟩; replace hF := hF.trans hf1; clear hf1)
      | (go_at_call 9; (with_reducible refine (H7.out _ (hT.fr hF)).mono ?_); rintro e w1 ⟨rfl, hf1⟩; replace hF := hF.trans hf1; clear hf1)
      | (go_at_call 11; (with_reducible refine (H8.out _ (hT.fr hF)).mono ?_); rintro e w1 ⟨rfl, hf1⟩; replace hF := hF.trans hf1; clear hf1)
      | (go_at_call 17; (with_reducible refine (H4.out _).mono ?_); rintro e w1 ⟨rfl, rfl⟩)
      | (go_at_call 13; (with_reducible refine (H9.out _ (hT.fr hF)).mono ?_); rintro e w1 ⟨rfl, hf1⟩; replace hF := hF.trans hf1; clear hf1)
      | (go_at_call 9; (with_reducible refine (G1.out _ (hT.fr hF)).mono ?_); rintro e w1 ⟨rfl, hf1⟩; replace hF := hF.trans hf1; clear hf1)
      | (go_at_call 11; (with_reducible refine (G2.out _ (hT.fr hF)).mono ?_); rintro e w1 ⟨rfl, hf1⟩; replace hF := hF.trans hf1; clear hf1))
      go_ret
      exact ⟨rfl, hF⟩
  | false =>
    have hne : ¬ a = b := fun e => Bool.noConfusion (hab.2 e)
    have hneb : (a == b) = false := by rw [beq_eq_false_iff_ne]; exact hne
    clear hab
    rcases f5 with f5 | ⟨f5, f6⟩
    all_goals
      try subst f6
      go_enter Tryd.func4, Tryd.ntmps4
      go_wp2_with (first
      | (go_at_call 9; (with_reducible refine (H1.out _ (hT.fr hF)).mono ?_); rintro e w1 ⟨rfl, hf1⟩; replace hF := hF.trans hf1; clear hf1)
      | (go_at_call 11; (with_reducible refine (H2.out _ (hT.fr hF)).mono ?_); rintro e w1 ⟨rfl, hf1⟩; replace hF := hF.trans hf1; clear hf1)
      | (go_at_call 17; (with_reducible refine (H3.out _).mono ?_); rintro e w1 ⟨rfl, rfl⟩)
      | (go_at_call 8; refine (kin_awake _ (hT.fr hF)).mono ?_; rintro e w1 ⟨rfl, hf1⟩; replace hF := hF.trans hf1; clear hf1)
      | (go_at_call 13; (with_reducible refine (H5.out _ (hT.fr hF)).mono ?_); rintro e w1 ⟨rfl, hf1⟩; replace hF := hF.trans hf1; clear hf1)
      | (go_at_call 15; (with_reducible refine (H6.out _ (hT.fr hF)).mono ?_); rintro e w1 ⟨rfl, hf1⟩; replace hF := hF.trans hf1; clear hf1)
      | (go_at_call 9; (with_reducible refine (H7.out _ (hT.fr hF)).mono ?_); rintro e w1 ⟨rfl, hf1⟩; replace hF := hF.trans hf1; clear hf1)
      | (go_at_call 11; (with_reducible refine (H8.out _ (hT.fr hF)).mono ?_); rintro e w1 ⟨rfl, hf1⟩; replace hF := hF.trans hf1; clear hf1)
      | (go_at_call 17; (with_reducible refine (H4.out _).mono ?_); rintro e w1 ⟨rfl, rfl⟩)
      | (go_at_call 13; (with_reducible refine (H9.out _ (hT.fr hF)).mono ?_); rintro e w1 ⟨rfl, hf1⟩; replace hF := hF.trans hf1; clear hf1)
      | (go_at_call 9; (with_reducible refine (G1.out _ (hT.fr hF)).mono ?_); rintro e w1 ⟨rfl, hf1⟩; replace hF := hF.trans hf1; clear hf1)
      | (go_at_call 11; (with_reducible refine (G2.out _ (hT.fr hF)).mono ?_); rintro e w1 ⟨rfl, hf1⟩; replace hF := hF.trans hf1; clear hf1))
      go_ret
      exact ⟨rfl, hF⟩
end Go.Proofs.YtdenaejinlkfgaaDoor
