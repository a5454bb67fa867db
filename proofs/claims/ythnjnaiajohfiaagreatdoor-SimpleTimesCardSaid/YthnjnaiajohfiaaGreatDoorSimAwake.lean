/- What shows that package simple does something: it answers true; and its answers beside the statements' own. -/
import Derived.Test.YthnjnaiajohfiaaGreatDoorSimChk
namespace Go.Proofs.YthnjnaiajohfiaaGreatDoor
open Go.RowKit
set_option maxHeartbeats 1000000
set_option linter.unusedVariables false

theorem amt_five : amtE 5 = 0 ∧ amtR 5 = [48, 46, 48, 53] := by
  refine ⟨by decide, ?_⟩
  unfold amtR amtL twoL
  rw [Lib.decDigits_one (by decide)]
  decide
theorem time_one : timeTextE [50, 48, 50, 54, 48, 49, 48, 49, 49, 50, 48, 48, 48, 48] = 0 ∧ timeTextR [50, 48, 50, 54, 48, 49, 48, 49, 49, 50, 48, 48, 48, 48] = [50, 48, 50, 54, 45, 48, 49, 45, 48, 49, 84, 49, 50, 58, 48, 48, 58, 48, 48] := by decide
theorem code_one : chkE 3 0 0 [65, 66, 67, 68] = 0 := by decide

set_option maxRecDepth 100000 in
theorem sim_awake (w : World) (hT : Tabs w := by repeat' first | with_reducible assumption | with_reducible apply Tabs.drew | with_reducible apply Tabs.drewN | with_reducible apply Tabs.alloc | refine Tabs.fr ?_ (by with_reducible assumption)) :
    Calls Tryz.prog 7 #[] w fun e w' => e = .returned (.bool true) ∧ Fr No w w' := by
  have h1 := fun u (h : Tabs u) => s_amttext_any 5 u (by decide) h
  have h2 := fun u => s_timetext_any ⟨#[50, 48, 50, 54, 48, 49, 48, 49, 49, 50, 48, 48, 48, 48]⟩ u (by decide)
  have h3 := fun u (h : Tabs u) => s_check_any (nm := ⟨#[]⟩) (mn := 0) (mx := 0) (ty := 3) (low := 0) (top := 0) ⟨#[65, 66, 67, 68]⟩ u (by decide) h
  have e3 : chkE 3 0 0 (⟨#[65, 66, 67, 68]⟩ : ByteArray).data.toList = 0 := code_one
  have e2 : timeTextE (⟨#[50, 48, 50, 54, 48, 49, 48, 49, 49, 50, 48, 48, 48, 48]⟩ : ByteArray).data.toList = 0 := time_one.1
  have e4 : timeTextR (⟨#[50, 48, 50, 54, 48, 49, 48, 49, 49, 50, 48, 48, 48, 48]⟩ : ByteArray).data.toList = [50, 48, 50, 54, 45, 48, 49, 45, 48, 49, 84, 49, 50, 58, 48, 48, 58, 48, 48] := time_one.2
  rw [e3] at h3
  rw [e2, e4] at h2
  rw [amt_five.1, amt_five.2] at h1
  have H1 := Lib.hid h1; have H2 := Lib.hid h2; have H3 := Lib.hid h3
  clear h1 h2 h3 e2 e3 e4
  go_enter Tryz.func7, Tryz.ntmps7
  go_wp2_with (first
    | (go_at_call 14; refine (H1.out _ hT).mono ?_; rintro e w1 ⟨T, rfl, hq, hf1⟩; rw [← s_list] at hq)
    | (go_at_call 8; refine (H2.out _).mono ?_; rintro e w2 ⟨U, rfl, hq2, hd⟩; rw [← s_list] at hq2)
    | (go_at_call 18; refine (H3.out _ ((hT.fr hf1).dr hd)).mono ?_; rintro e w3 ⟨rfl, hf3⟩))
  go_ret
  exact ⟨rfl, (hf1.dr hd).trans hf3⟩
end Go.Proofs.YthnjnaiajohfiaaGreatDoor
