/- What shows that package digits does something: it answers true. -/
import Derived.Test.YtbaadbegnckbpaaDoorDig3
namespace Go.Proofs.YtbaadbegnckbpaaDoor
open Go.RowKit
set_option maxHeartbeats 400000
set_option linter.unusedVariables false

abbrev s123 : ByteArray := { data := #[49, 50, 51] }
abbrev s5 : ByteArray := { data := #[53] }
theorem awake_any (w : World) : Calls Tryd.prog 6 #[] w fun e w' => e = .returned (.bool true) ∧ Fr No w w' := by
  have r2 : ∀ u : World, Rd (u.alloc (.cells #[.int .u8 1, .int .u8 35] 5)) (some ⟨u.heap.size, 0, none⟩) 2 2 (u8s [1, 35]) := fun u => Rd.lit u (u8s [1, 35]) _ 2 rfl (by simp [maxLen])
  have r1 : ∀ (u : World) (n : Nat), u.heap.size = n → Rd (u.alloc (.cells #[.int .u8 171] 5)) (some ⟨n, 0, none⟩) 1 1 (u8s [171]) := fun u n h => h ▸ Rd.lit u (u8s [171]) _ 1 rfl (by simp [maxLen])
  have R2 := Lib.hid r2
  have R1 := Lib.hid r1
  clear r1 r2
  have e1 : bcdR s123.data.toList = [1, 35] := by decide
  have e2 : bcdE s123.data.toList = 0 := by decide
  have e3 : rightB s5.data.toList 1 1 = true := by decide
  have e4 : bstr (hexL [171]) = ({ data := #[65, 66] } : ByteArray) := by decide
  have E1 := Lib.hid e1
  have E2 := Lib.hid e2
  have E3 := Lib.hid e3
  have E4 := Lib.hid e4
  clear e1 e2 e3 e4
  go_enter Tryd.func6, Tryd.ntmps6
  go_wp2_with (first
    | (go_at_call 11; refine (bcd_any s123 _ (by decide)).mono ?_; rw [E1.out, E2.out]; rintro e w1 ⟨v, rfl, ho, hf⟩; obtain ⟨B, d, rfl, hr0, _⟩ := Rd.of_own ho; have hr : Rd w1 B 2 d (u8s [1, 35]) := hr0; clear hr0 ho)
    | (go_at_call 19; refine (bytes_any _ _ _ _ _ _ _ _ _ (hr.no ((Fr.refl _ _).alloc _)) (R2.out _)).mono ?_; rintro e w2 ⟨rfl, rfl⟩)
    | (go_at_call 17; refine (right_any s5 _ _ _ (by decide)).mono ?_; rw [E3.out]; rintro e w3 ⟨rfl, rfl⟩)
    | (go_at_call 20; refine (hex_all _ _ _ [171] _ (R1.out _ _ (by simp)) (by omega)).mono ?_; rw [E4.out]; rintro e w4 ⟨rfl, hf4⟩))
  go_ret
  exact ⟨rfl, ((hf.alloc _).alloc _).trans hf4⟩
end Go.Proofs.YtbaadbegnckbpaaDoor
