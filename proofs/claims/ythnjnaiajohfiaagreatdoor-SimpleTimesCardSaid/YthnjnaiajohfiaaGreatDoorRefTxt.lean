/- The statements' own answers about texts: characters, how many, and of which kinds. -/
import Derived.Test.YthnjnaiajohfiaaGreatDoorTxtMath
import Derived.Test.YthnjnaiajohfiaaGreatDoorDig0
import Derived.Test.YthnjnaiajohfiaaGreatDoorBits
namespace Go.Proofs.YthnjnaiajohfiaaGreatDoor
open Go.RowKit
set_option maxHeartbeats 400000
set_option linter.unusedVariables false

theorem ref_char_any (c : Nat) (w : World) : Calls Tryz.prog 104 #[.int .i64 (c : Int)] w fun e w' => e = .returned (.bool (charB c)) ∧ w = w' := by
  go_enter Tryz.func104, Tryz.ntmps104
  go_wp2
  all_goals
    go_ret
    refine ⟨ret_bool ?_, rfl⟩
    unfold charB
    rw [Bool.eq_iff_iff]
    simp
    try omega

theorem at_data (s : ByteArray) (k : Nat) (h : k < s.size) : s[k] = s.data.toList[k]'(by simpa using h) := rfl
theorem drop_at (s : ByteArray) (i : Nat) (h : i < s.size) : s.data.toList.drop i = s[i] :: s.data.toList.drop (i + 1) := by
  rw [List.drop_eq_getElem_cons (by simpa using h)]
  rfl

/-- no character: the size is nought -/
theorem size_none {x : UInt8} {r : List UInt8} (h : lead x.toNat = none) : sizeB (x :: r) = 0 := by rw [sizeB_cons, h]; rfl

end Go.Proofs.YthnjnaiajohfiaaGreatDoor
