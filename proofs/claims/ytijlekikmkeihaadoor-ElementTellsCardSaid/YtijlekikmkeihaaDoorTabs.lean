/- The tables of the library that the program reads (package unicode/utf8's, strconv's powers of ten): what is asked of the world, and that a call which turns no block keeps it. -/
import Derived.Test.YtijlekikmkeihaaDoorBase
import Derived.Test.YtijlekikmkeihaaDoorEleDev
import Derived.Deep.MidRow
import Derived.Lib.ItoaMem
import Derived.Lib.SmallJoins
namespace Go.Proofs.YtijlekikmkeihaaDoor
open Go.RowKit
set_option linter.unusedVariables false

structure Tabs (w : World) : Prop where
  ten : Lib.TabIs Tryd.prog w "internal/strconv.uint64pow10" .u64 Lib.pow10Tab
  et : w.rangeAt 0 0 eleV
  eb : 0 < w.heap.size
theorem Tabs.below {a b : World} (h : Tabs a) (k : Below a.heap.size a b) : Tabs b where
  et := fun j v hv => (k.cell h.eb).trans (h.et j v hv)
  eb := Nat.lt_of_lt_of_le h.eb k.size
  ten := Joins.tab_stays (show Tryd.prog.globalNamed "internal/strconv.uint64pow10" = some 1 by kernel_rfl) h.ten k (Nat.le_refl _)
theorem Tabs.fr {a b : World} (h : Tabs a) (k : Fr No a b) : Tabs b := h.below k.toBelow
theorem Tabs.frNew {S : Nat → Prop} {a b : World} (h : Tabs a) (k : Fr S a b) (hS : ∀ i, S i → a.heap.size ≤ i) : Tabs b := h.below (k.toBelow' hS)
theorem Tabs.drew {a : World} (h : Tabs a) : Tabs a.drew := h.fr (Fr.refl No a).drew
theorem Tabs.drewN {a : World} {n : Nat} (h : Tabs a) : Tabs (a.drewN n) := h.fr ((Fr.refl No a).drewN n)
theorem Tabs.alloc {a : World} {o : Obj} (h : Tabs a) : Tabs (a.alloc o) := h.fr ((Fr.refl No a).alloc o)
theorem Tabs.dr {a b : World} (h : Tabs a) (k : Dr a b) : Tabs b := h.fr ((Fr.refl No a).dr k)
end Go.Proofs.YtijlekikmkeihaaDoor
