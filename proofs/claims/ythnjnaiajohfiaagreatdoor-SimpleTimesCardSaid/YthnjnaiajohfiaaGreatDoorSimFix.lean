/- Package simple's texts by a letter: where what is told is known ahead. -/
import Derived.Test.YthnjnaiajohfiaaGreatDoorSimAwake
import Derived.Test.YthnjnaiajohfiaaGreatDoorSimMath3
namespace Go.Proofs.YthnjnaiajohfiaaGreatDoor
open Go.RowKit
set_option linter.unusedVariables false

theorem fix_amttext (v : Nat) (T : ByteArray) (w : World) (hv : v < 18446744073709551616) (hT : T.data.toList = amtR v) (h : Tabs w) :
    Calls Tryz.prog 14 #[.int .u64 (v : Int)] w fun e w' => e = .returned (.tuple #[.string T, .int .i64 (amtE v)]) ∧ Fr No w w' := by
  refine (s_amttext_any v w hv h).mono ?_
  rintro e w' ⟨S, rfl, hS, hf⟩
  rw [s_eq (hS.trans hT.symm)]
  exact ⟨rfl, hf⟩
theorem fix_amtof (s : ByteArray) (l : List UInt8) (E : Int) (V : Nat) (w : World) (hs : s.data.toList = l) (hl : l.length ≤ 65536) (hE : amtOfE l = E) (hV : amtOfR l = V) (h : Tabs w) :
    Calls Tryz.prog 12 #[.string s] w fun e w' => e = .returned (.tuple #[.int .u64 (V : Int), .int .i64 E]) ∧ Fr No w w' := by
  have := s_amtof_any s w (by rw [← s_size, hs]; exact hl) h
  rw [hs, hE, hV] at this
  exact this
theorem fix_timetext (s T : ByteArray) (w : World) (hs : s.size ≤ maxLen) (hT : T.data.toList = timeTextR s.data.toList) :
    Calls Tryz.prog 8 #[.string s] w fun e w' => e = .returned (.tuple #[.string T, .int .i64 (timeTextE s.data.toList)]) ∧ Dr w w' := by
  refine (s_timetext_any s w hs).mono ?_
  rintro e w' ⟨S, rfl, hS, hf⟩
  rw [s_eq (hS.trans hT.symm)]
  exact ⟨rfl, hf⟩
theorem fix_timeof (s T : ByteArray) (w : World) (hs : s.size ≤ maxLen) (hT : T.data.toList = timeOfR s.data.toList) :
    Calls Tryz.prog 10 #[.string s] w fun e w' => e = .returned (.tuple #[.string T, .int .i64 (timeOfE s.data.toList)]) ∧ Dr w w' := by
  refine (s_timeof_any s w hs).mono ?_
  rintro e w' ⟨S, rfl, hS, hf⟩
  rw [s_eq (hS.trans hT.symm)]
  exact ⟨rfl, hf⟩
theorem amtE_no {l : List UInt8} (h : amtB l = false) : amtOfE l = 14 ∧ amtOfR l = 0 := by unfold amtOfE amtOfR; rw [h]; exact ⟨rfl, rfl⟩
theorem amtE_yes {l : List UInt8} (h : amtB l = true) : amtOfE l = 0 ∧ amtOfR l = amtV l := by unfold amtOfE amtOfR; rw [h]; exact ⟨rfl, rfl⟩
end Go.Proofs.YthnjnaiajohfiaaGreatDoor
