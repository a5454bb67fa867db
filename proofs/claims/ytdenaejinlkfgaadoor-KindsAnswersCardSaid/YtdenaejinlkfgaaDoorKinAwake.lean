/- Layer 11 is awake. -/
import Derived.Test.YtdenaejinlkfgaaDoorKinFits
namespace Go.Proofs.YtdenaejinlkfgaaDoor
open Go.RowKit
set_option maxHeartbeats 400000
set_option linter.unusedVariables false

/-- a message of a kind, no more -/
def kMsg (k : Int) : MsgC := { kind := k, stan := 0, time := .empty, acq := .empty, pan := .empty, cur := .empty, amount := 0, rrn := .empty, mer := .empty, ter := .empty, app := .empty, entry := 0, act := .empty, rea := .empty, ostan := 0, otime := .empty, tA := none, tn := 0, tc := 0, key := .empty, note := .empty, eA := none, en := 0, ec := 0, oA := none, on := 0, oc := 0 }
theorem kin_awake (w : World) (hT : Tabs w := by repeat' first | with_reducible assumption | with_reducible apply Tabs.drew | with_reducible apply Tabs.drewN | with_reducible apply Tabs.alloc | refine Tabs.fr ?_ (by with_reducible assumption)) : Calls Tryd.prog 8 #[] w fun e w' => e = .returned (.bool true) ∧ Fr No w w' := by
  have h1 := fun u (h : Tabs u) => kinds_code_any 1 (by decide) (by decide) u
  have e1 : cdB 1 = ⟨#[65, 85, 84, 81]⟩ := by decide +kernel
  rw [e1] at h1
  have h2 := fun u (h : Tabs u) => kinds_ofmti_any ⟨#[50, 49, 49, 48]⟩ u
  have e2 : ofMti ⟨#[50, 49, 49, 48]⟩ = 2 := by decide +kernel
  rw [e2] at h2
  have h3 := fun u => kinds_answer_any 7 (by decide) (by decide) u
  have e3 : ansI 7 = 8 := by decide +kernel
  rw [e3] at h3
  have h4 := fun u => kinds_money_any 3 u
  have e4 : monB 3 = true := by decide +kernel
  rw [e4] at h4
  have h5 := fun u (h : Tabs u) => kinds_fits_any (kMsg 9) (by decide) (by decide) u
  have e5 : fitsM (kMsg 9) = 0 := by decide +kernel
  rw [e5] at h5
  have H1 := Lib.hid h1; have H2 := Lib.hid h2; have H3 := Lib.hid h3; have H4 := Lib.hid h4; have H5 := Lib.hid h5
  clear h1 h2 h3 h4 h5 e1 e2 e3 e4 e5
  go_enter Tryd.func8, Tryd.ntmps8
  go_wp2_with (first
    | (go_at_call 9; refine (H1.out _ (by repeat' first | with_reducible assumption | with_reducible apply Tabs.drew | with_reducible apply Tabs.drewN | with_reducible apply Tabs.alloc | refine Tabs.fr ?_ (by with_reducible assumption))).mono ?_; rintro e w1 ⟨rfl, hf1⟩)
    | (go_at_call 15; refine (H2.out _ (by repeat' first | with_reducible assumption | with_reducible apply Tabs.drew | with_reducible apply Tabs.drewN | with_reducible apply Tabs.alloc | refine Tabs.fr ?_ (by with_reducible assumption))).mono ?_; rintro e w2 ⟨rfl, hf2⟩)
    | (go_at_call 17; refine (H3.out _).mono ?_; rintro e w3 ⟨rfl, rfl⟩)
    | (go_at_call 19; refine (H4.out _).mono ?_; rintro e w4 ⟨rfl, rfl⟩)
    | (go_at_call 21; refine (H5.out _ (by repeat' first | with_reducible assumption | with_reducible apply Tabs.drew | with_reducible apply Tabs.drewN | with_reducible apply Tabs.alloc | refine Tabs.fr ?_ (by with_reducible assumption))).mono ?_; rintro e w5 ⟨rfl, hf5⟩))
  go_ret
  exact ⟨rfl, (hf1.trans hf2).trans hf5⟩
end Go.Proofs.YtdenaejinlkfgaaDoor
