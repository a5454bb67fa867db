/- tree.Parse, of a text of any size. -/
import Derived.Test.YthkjmbkfcnehoaaGreatDoorTreeProg
namespace Go.Proofs.YthkjmbkfcnehoaaGreatDoor
open Go.RowKit
set_option maxHeartbeats 400000
set_option linter.unusedVariables false

theorem tok_far {l : List UInt8} (h : 4096 < l.length) : tokE l = 4 ∧ tokL l = [] := by
  have e : tokE l = 4 := by unfold tokE; rw [if_pos h]
  exact ⟨e, by unfold tokL; rw [e, if_neg (by decide)]⟩
theorem tokens_far (S : ByteArray) (w : World) (hs : 4096 < S.size) (hm : S.size ≤ 9223372036854775807) :
    Calls Tryz.prog 20 #[.string S] w fun e w' => e = .returned (.tuple #[.slice none 0 0, .int .i64 4]) ∧ Fr No w w' := by
  have hI : (4096 : Int) < (S.size : Int) := by omega
  have hM : (S.size : Int) ≤ 9223372036854775807 := by omega
  go_enter Tryz.func20, Tryz.ntmps20
  go_wp2
  go_ret2
  exact ⟨rfl, Fr.refl _ _⟩
theorem parse_far (S : ByteArray) (w : World) (hs : 4096 < S.size) (hm : S.size ≤ 9223372036854775807) :
    Calls Tryz.prog 8 #[.string S] w (NodesTo (parseL S.data.toList) (parseE S.data.toList) w) := by
  obtain ⟨h1, h2⟩ := tok_far (l := S.data.toList) (by rw [size_list]; exact hs)
  have hE : parseE S.data.toList = 4 := by unfold parseE; rw [h1, if_neg (by decide)]
  have hL : parseL S.data.toList = [] := by unfold parseL; rw [h1, if_neg (by decide)]
  rw [hE, hL]
  have HT := Lib.hid (tokens_far S w hs hm)
  clear h1 h2 hE hL
  go_enter Tryz.func8, Tryz.ntmps8
  go_wp2_with (go_at_call 20; refine HT.out.mono ?_; rintro e w1 ⟨rfl, hf1⟩)
  go_ret2
  exact ⟨_, rfl, OwnI.nil_ _ _ _ _ _ _, hf1⟩
theorem parse_all (S : ByteArray) (w : World) (hm : S.size ≤ 9223372036854775807) (hT : Tabs w) :
    Calls Tryz.prog 8 #[.string S] w (NodesTo (parseL S.data.toList) (parseE S.data.toList) w) := by
  by_cases h : 4096 < S.size
  · exact parse_far S w h hm
  · exact parse_any S w (by omega) hT
end Go.Proofs.YthkjmbkfcnehoaaGreatDoor
