/- The texts Tabs, joined. -/
import Derived.Test.YthlgnmgjfgbffaaGreatDoorL01
import Derived.Shelf.Unicode.DecodeSlow
import Derived.Test.YthlgnmgjfgbffaaGreatDoorL02
import Derived.Deep.MidRow
import Derived.Test.YthlgnmgjfgbffaaGreatDoorL06
import Derived.Lib.ItoaMem
import Derived.Lib.SmallJoins
/- The tables of the library that the program reads (package unicode/utf8's, strconv's powers of ten): what is asked of the world, and that a call which turns no block keeps it. -/
namespace Go.Proofs.YthlgnmgjfgbffaaGreatDoor
open Go.RowKit
set_option linter.unusedVariables false

structure Tabs (w : World) : Prop where
  u8 : Lib.Utf8Tabs 3 4 w
  ten : Lib.TabIs Tryz.prog w "internal/strconv.uint64pow10" .u64 Lib.pow10Tab
  kt : w.rangeAt 0 0 devV
  kb : 0 < w.heap.size
  ct : w.rangeAt 1 0 codV
  cb : 1 < w.heap.size
  et : w.rangeAt 2 0 eleV
  eb : 2 < w.heap.size
theorem Tabs.below {a b : World} (h : Tabs a) (k : Below a.heap.size a b) : Tabs b where
  u8 := Utf8Tabs_below h.u8 k
  kt := fun j v hv => (k.cell h.kb).trans (h.kt j v hv)
  kb := Nat.lt_of_lt_of_le h.kb k.size
  ct := fun j v hv => (k.cell h.cb).trans (h.ct j v hv)
  cb := Nat.lt_of_lt_of_le h.cb k.size
  et := fun j v hv => (k.cell h.eb).trans (h.et j v hv)
  eb := Nat.lt_of_lt_of_le h.eb k.size
  ten := Joins.tab_stays (show Tryz.prog.globalNamed "internal/strconv.uint64pow10" = some 5 by kernel_rfl) h.ten k (Nat.le_refl _)
theorem Tabs.fr {a b : World} (h : Tabs a) (k : Fr No a b) : Tabs b := h.below k.toBelow
theorem Tabs.frNew {S : Nat → Prop} {a b : World} (h : Tabs a) (k : Fr S a b) (hS : ∀ i, S i → a.heap.size ≤ i) : Tabs b := h.below (k.toBelow' hS)
theorem Tabs.drew {a : World} (h : Tabs a) : Tabs a.drew := h.fr (Fr.refl No a).drew
theorem Tabs.drewN {a : World} {n : Nat} (h : Tabs a) : Tabs (a.drewN n) := h.fr ((Fr.refl No a).drewN n)
theorem Tabs.alloc {a : World} {o : Obj} (h : Tabs a) : Tabs (a.alloc o) := h.fr ((Fr.refl No a).alloc o)
theorem Tabs.dr {a b : World} (h : Tabs a) (k : Dr a b) : Tabs b := h.fr ((Fr.refl No a).dr k)
end Go.Proofs.YthlgnmgjfgbffaaGreatDoor
