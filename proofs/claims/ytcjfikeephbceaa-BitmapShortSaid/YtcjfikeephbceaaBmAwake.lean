/- What shows that package bitmap does something: it answers true. -/
import Derived.Test.YtcjfikeephbceaaBmParse
namespace Go.Proofs.Ytcjfikeephbceaa
open Go.RowKit
set_option maxHeartbeats 400000
set_option linter.unusedVariables false

/-- one number that was just laid -/
theorem Rd.litI (w : World) (l : List Int) (t : TypeId) (n : Nat) (hn : l.length = n) (hm : n ≤ maxLen) : Rd (w.alloc (.cells (ints l).toArray t)) (some ⟨w.heap.size, 0, none⟩) n n (ints l) :=
  Rd.lit w (ints l) t n (by simpa using hn) hm

theorem awake_any (w : World) : Calls Try.prog 8 #[] w fun e w' => e = .returned (.bool true) ∧ Fr No w w' := by
  have r1 : Rd (w.alloc (.cells #[.int .i64 2] 3)) (some ⟨w.heap.size, 0, none⟩) 1 1 (ints [2]) := Rd.litI w [2] _ 1 rfl (by simp [maxLen])
  have r8 : ∀ u : World, Rd (u.alloc (.cells #[.int .u8 64, .int .u8 0, .int .u8 0, .int .u8 0, .int .u8 0, .int .u8 0, .int .u8 0, .int .u8 0] 5)) (some ⟨u.heap.size, 0, none⟩) 8 8 (u8s [64, 0, 0, 0, 0, 0, 0, 0]) := fun u => Rd.lit u (u8s [64, 0, 0, 0, 0, 0, 0, 0]) _ 8 rfl (by simp [maxLen])
  have R8 := Lib.hid r8
  clear r8
  have e1 : wmE [2] = 0 := by decide
  have e2 : wmR [2] = [64, 0, 0, 0, 0, 0, 0, 0] := by decide
  have E1 := Lib.hid e1; have E2 := Lib.hid e2
  clear e1 e2
  go_enter Try.func8, Try.ntmps8
  go_wp2_with (first
    | (go_at_call 11; refine (write_any _ 1 1 [2] _ r1 (by omega)).mono ?_; rw [E1.out, E2.out]; rintro e w1 ⟨v, rfl, ho, hf⟩; obtain ⟨B, d, rfl, hr, _⟩ := Rd.of_own ho)
    | (go_at_call 15; refine (bytes_any _ _ _ _ _ _ _ _ _ (hr.no ((Fr.refl _ _).alloc _)) (R8.out _)).mono ?_; rintro e w2 ⟨rfl, rfl⟩))
  go_ret
  exact ⟨rfl, (((Fr.refl No w).alloc _).trans hf).alloc _⟩
end Go.Proofs.Ytcjfikeephbceaa
