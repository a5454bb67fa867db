/- The texts FldPl, joined. -/
import Derived.Test.YthlgnmgjfgbffaaGreatDoorL11
import Derived.Test.YthlgnmgjfgbffaaGreatDoorL14
import Derived.LoopTactic
/- Package fields: where the texts stand. -/
namespace Go.Proofs.YthlgnmgjfgbffaaGreatDoor
open Go.RowKit
set_option maxHeartbeats 1000000
set_option linter.unusedVariables false
set_option maxRecDepth 20000

theorem f_places (w : World) (g : Nat) : Calls Tryz.prog 85 #[.pointer (some ⟨g, 0, none⟩)] w fun e w' => e = .returned (.slice (some ⟨w.heap.size, 0, none⟩) 16 16) ∧ ∃ u, Dr w u ∧ w' = u.alloc (.cells (plV g).toArray 124) := by
  go_enter Tryz.func85, Tryz.ntmps85
  go_wp2
  refine wp_region_reads 73 (by kernel_rfl) (by kernel_rfl) ?_
  intro w4 hd
  have hz : w4.heap.size = w.heap.size := by rw [hd.heap]
  repeat still_step
  refine wpStill_nil ?_
  go_wp2
  go_ret
  exact ⟨rfl, w4, hd, rfl⟩
end Go.Proofs.YthlgnmgjfgbffaaGreatDoor
