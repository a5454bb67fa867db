/- The texts RefKin4, joined. -/
import Derived.Test.YthlgnmgjfgbffaaGreatDoorL18
import Derived.Deep.MidRow
/- The statements' own kinds: Fits. -/
namespace Go.Proofs.YthlgnmgjfgbffaaGreatDoor
open Go.RowKit
set_option maxHeartbeats 1000000
set_option linter.unusedVariables false

theorem range21 {w : World} {g : Nat} {t : TypeId} {m : MsgC} (h : Bk w g t m.cells) : w.rangeAt g 0 m.cells := fun j v hv => by
  rw [Nat.zero_add, h.cell j]; exact hv
theorem msgSize (m : MsgC) : (Tryz.prog.info? 38).map (·.size) = some m.cells.length := by kernel_rfl
theorem small_table : kAll (fun k => Nat.ble (kRow k).must.size 11 && Nat.ble (kRow k).may.size 11) = true := by decide +kernel
theorem row_small (k : Int) : (rowOf k).must.size ≤ 11 ∧ (rowOf k).may.size ≤ 11 := by
  unfold rowOf
  split
  · have h := kAll_at small_table (k := k.toNat) (by omega)
    simp only [Bool.and_eq_true, Nat.ble_eq] at h
    exact h
  · exact ⟨by decide, by decide⟩

end Go.Proofs.YthlgnmgjfgbffaaGreatDoor
