/- The statements' own tokens: what stands between & and ; . -/
import Derived.Test.YthkbdbgmfolpeaaGreatDoorRefTok5
import Derived.Laws.Cover4
namespace Go.Proofs.YthkbdbgmfolpeaaGreatDoor
open Go.RowKit
set_option maxHeartbeats 1000000
set_option linter.unusedVariables false

theorem run_rune1 (w : World) (z : Int) (t : TypeId) :
    (convert 97 9 (.slice (some ⟨w.heap.size, 0, none⟩) 1 1)).run Tryz.prog (w.alloc (.cells #[.int .i32 z] t)) = .ok (.string (runesBytes [z])) (w.alloc (.cells #[.int .i32 z] t)) := by
  have h := run_convert_runes (P := Tryz.prog) (w.alloc (.cells #[.int .i32 z] t)) 97 9 21 ⟨w.heap.size, 0, none⟩ 1 1 [z] (by simp) Tryz.underlying97 Tryz.underlying21 Tryz.underlying9 (fun j hj => by
    obtain rfl : j = 0 := by simpa using hj
    simp [Addr.add])
  simpa using h
theorem runes1 (z : Int) : (runesBytes [z]).data.toList = encL z := by
  unfold runesBytes encL
  simp
theorem r_utf_any (v : Nat) (w : World) (hv : v ≤ 1114111) :
    Calls Tryz.prog 62 #[.int .i64 (v : Int)] w fun e w' => ∃ R : ByteArray, e = .returned (.string R) ∧ R.data.toList = encL (v : Int) ∧ Fr No w w' := by
  have hr := runes1 (v : Int)
  have hx := fun u => run_rune1 u (v : Int)
  generalize runesBytes [(v : Int)] = R at hr hx
  have HR := Lib.hid hr
  clear hr
  go_enter Tryz.func62, Tryz.ntmps62
  go_wp2
  go_ret
  exact ⟨R, rfl, HR.out, (Fr.refl No w).alloc _⟩
end Go.Proofs.YthkbdbgmfolpeaaGreatDoor
