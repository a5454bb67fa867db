/- Layer 13 is awake; CodesTell. -/
import Derived.Test.YthkjmbkfcnehoaaDoorCodProg
namespace Go.Proofs.YthkjmbkfcnehoaaDoor
open Go.RowKit
set_option maxHeartbeats 400000
set_option linter.unusedVariables false

theorem own_rdS {w : World} {base : Nat} {v : Value} {n : Nat} {l : List ByteArray} (h : w.ownsRow base 9 1 v n (strs l)) : ∃ A c, v = .slice A n c ∧ Rd w A n c (strs l) := by
  obtain ⟨A, c, rfl, hr, _⟩ := Rd.of_own h
  exact ⟨A, c, rfl, hr⟩
theorem cod_awake (w : World) (hT : Tabs w := by repeat' first | with_reducible assumption | with_reducible apply Tabs.drew | with_reducible apply Tabs.drewN | with_reducible apply Tabs.alloc | refine Tabs.fr ?_ (by with_reducible assumption)) : Calls Tryd.prog 10 #[] w fun e w' => e = .returned (.bool true) ∧ Fr No w w' := by
  have h1 := fun u (h : Tabs u) => codes_words_any ⟨#[49, 49, 54]⟩ u
  have e1 : wS ⟨#[49, 49, 54]⟩ = ⟨#[68, 69, 67, 76]⟩ := by decide +kernel
  have e2 : wR ⟨#[49, 49, 54]⟩ = ⟨#[73, 78, 83, 70]⟩ := by decide +kernel
  have e3 : wK ⟨#[49, 49, 54]⟩ = true := by decide +kernel
  rw [e1, e2, e3] at h1
  have h2 := fun u (h : Tabs u) => codes_action_any ⟨#[68, 69, 67, 76]⟩ ⟨#[73, 78, 83, 70]⟩ u
  have e4 : aA ⟨#[68, 69, 67, 76]⟩ ⟨#[73, 78, 83, 70]⟩ = ⟨#[49, 49, 54]⟩ := by decide +kernel
  have e5 : aK ⟨#[68, 69, 67, 76]⟩ ⟨#[73, 78, 83, 70]⟩ = true := by decide +kernel
  rw [e4, e5] at h2
  have h3 := fun u (h : Tabs u) => codes_known_any ⟨#[48, 48, 48]⟩ u
  have e6 : wK ⟨#[48, 48, 48]⟩ = true := by decide +kernel
  rw [e6] at h3
  have h4 := fun u (h : Tabs u) => codes_yes_any ⟨#[48, 48, 48]⟩ u
  have e7 : yB ⟨#[48, 48, 48]⟩ = true := by decide +kernel
  rw [e7] at h4
  have H1 := Lib.hid h1; have H2 := Lib.hid h2; have H3 := Lib.hid h3; have H4 := Lib.hid h4
  clear h1 h2 h3 h4 e1 e2 e3 e4 e5 e6 e7
  go_enter Tryd.func10, Tryd.ntmps10
  go_wp2_with (first
    | (go_at_call 6; refine (H1.out _ (by repeat' first | with_reducible assumption | with_reducible apply Tabs.drew | with_reducible apply Tabs.drewN | with_reducible apply Tabs.alloc | refine Tabs.fr ?_ (by with_reducible assumption))).mono ?_; rintro e w1 ⟨rfl, hf1⟩)
    | (go_at_call 8; refine (H2.out _ (by repeat' first | with_reducible assumption | with_reducible apply Tabs.drew | with_reducible apply Tabs.drewN | with_reducible apply Tabs.alloc | refine Tabs.fr ?_ (by with_reducible assumption))).mono ?_; rintro e w2 ⟨rfl, hf2⟩)
    | (go_at_call 11; refine (H3.out _ (by repeat' first | with_reducible assumption | with_reducible apply Tabs.drew | with_reducible apply Tabs.drewN | with_reducible apply Tabs.alloc | refine Tabs.fr ?_ (by with_reducible assumption))).mono ?_; rintro e w3 ⟨rfl, hf3⟩)
    | (go_at_call 13; refine (H4.out _ (by repeat' first | with_reducible assumption | with_reducible apply Tabs.drew | with_reducible apply Tabs.drewN | with_reducible apply Tabs.alloc | refine Tabs.fr ?_ (by with_reducible assumption))).mono ?_; rintro e w4 ⟨rfl, hf4⟩))
  go_ret
  exact ⟨rfl, ((hf1.trans hf2).trans hf3).trans hf4⟩
theorem tells_walk {S T U : ByteArray} (w : World) (hT : Tabs w) (hS : S.size ≤ maxLen) (hT : T.size ≤ maxLen) (hU : U.size ≤ maxLen) :
    Calls Tryd.prog 3 #[.string S, .string T, .string U] w fun e w' => e = .returned (.bool true) ∧ Fr No w w' := by
  have a1 := fun u (h : Tabs u) => codes_words_any S u
  have a2 := fun u => r_Words S u
  have a3 := fun u (h : Tabs u) => codes_action_any T U u
  have a4 := fun u => r_Action T U u
  have a5 := fun u (h : Tabs u) => codes_known_any S u
  have a6 := fun u => r_Known S u
  have a7 := fun u (h : Tabs u) => codes_yes_any S u
  have a8 := fun u => r_Yes S u
  generalize wS S = x1 at a1 a2
  generalize wR S = x2 at a1 a2
  generalize wK S = x3 at a1 a2 a5 a6
  generalize aA T U = x4 at a3 a4
  generalize aK T U = x5 at a3 a4
  generalize yB S = x6 at a7 a8
  have A1 := Lib.hid a1; have A2 := Lib.hid a2; have A3 := Lib.hid a3; have A4 := Lib.hid a4; have A5 := Lib.hid a5; have A6 := Lib.hid a6; have A7 := Lib.hid a7; have A8 := Lib.hid a8
  clear a1 a2 a3 a4 a5 a6 a7 a8
  go_enter Tryd.func3, Tryd.ntmps3
  go_wp2_with (first
    | (go_at_call 6; refine (A1.out _ (by repeat' first | with_reducible assumption | with_reducible apply Tabs.drew | with_reducible apply Tabs.drewN | with_reducible apply Tabs.alloc | refine Tabs.fr ?_ (by with_reducible assumption))).mono ?_; rintro e w1 ⟨rfl, hf1⟩)
    | (go_at_call 7; refine (A2.out _).mono ?_; rintro e w2 ⟨rfl, hf2⟩)
    | (go_at_call 8; refine (A3.out _ (by repeat' first | with_reducible assumption | with_reducible apply Tabs.drew | with_reducible apply Tabs.drewN | with_reducible apply Tabs.alloc | refine Tabs.fr ?_ (by with_reducible assumption))).mono ?_; rintro e w3 ⟨rfl, hf3⟩)
    | (go_at_call 9; refine (A4.out _).mono ?_; rintro e w4 ⟨rfl, hf4⟩)
    | (go_at_call 10; refine (cod_awake _).mono ?_; rintro e w5 ⟨rfl, hf5⟩)
    | (go_at_call 11; refine (A5.out _ (by repeat' first | with_reducible assumption | with_reducible apply Tabs.drew | with_reducible apply Tabs.drewN | with_reducible apply Tabs.alloc | refine Tabs.fr ?_ (by with_reducible assumption))).mono ?_; rintro e w6 ⟨rfl, hf6⟩)
    | (go_at_call 12; refine (A6.out _).mono ?_; rintro e w7 ⟨rfl, hf7⟩)
    | (go_at_call 13; refine (A7.out _ (by repeat' first | with_reducible assumption | with_reducible apply Tabs.drew | with_reducible apply Tabs.drewN | with_reducible apply Tabs.alloc | refine Tabs.fr ?_ (by with_reducible assumption))).mono ?_; rintro e w8 ⟨rfl, hf8⟩)
    | (go_at_call 14; refine (A8.out _).mono ?_; rintro e w9 ⟨rfl, hf9⟩)
    | (go_at_call 16; refine (codes_all_any _).mono ?_; rintro e w10 ⟨v, rfl, hv, hf10⟩; obtain ⟨A, c, rfl, hA⟩ := own_rdS hv)
    | (go_at_call 17; refine (r_Actions _).mono ?_; rintro e w11 ⟨v', rfl, hv', hf11⟩; obtain ⟨A', c', rfl, hA'⟩ := own_rdS hv'; have hA2 := hA.no hf11)
    | (go_at_call 15; refine (plainS_any _ _ _ _ _ _ _ hA2 hA').mono ?_; rintro e w12 ⟨rfl, hf12⟩))
  all_goals
    go_ret
    exact ⟨rfl, ((((((((((hf1.trans hf2).trans hf3).trans hf4).trans hf5).trans hf6).trans hf7).trans hf8).trans hf9).trans hf10).trans hf11).dr hf12⟩
end Go.Proofs.YthkjmbkfcnehoaaDoor
