/- The tables of the library that the program reads (package unicode/utf8's, strconv's powers of ten): what is asked of the world, and that a call which turns no block keeps it. -/
import Derived.Test.YthkjmbkfcnehoaaDoorBase
import Derived.Test.YthkjmbkfcnehoaaDoorCodDev
import Derived.Deep.MidRow
namespace Go.Proofs.YthkjmbkfcnehoaaDoor
open Go.RowKit
set_option linter.unusedVariables false

structure Tabs (w : World) : Prop where
  ct : w.rangeAt 0 0 codV
  cb : 0 < w.heap.size
theorem Tabs.below {a b : World} (h : Tabs a) (k : Below a.heap.size a b) : Tabs b where
  ct := fun j v hv => (k.cell h.cb).trans (h.ct j v hv)
  cb := Nat.lt_of_lt_of_le h.cb k.size
theorem Tabs.fr {a b : World} (h : Tabs a) (k : Fr No a b) : Tabs b := h.below k.toBelow
theorem Tabs.frNew {S : Nat → Prop} {a b : World} (h : Tabs a) (k : Fr S a b) (hS : ∀ i, S i → a.heap.size ≤ i) : Tabs b := h.below (k.toBelow' hS)
theorem Tabs.drew {a : World} (h : Tabs a) : Tabs a.drew := h.fr (Fr.refl No a).drew
theorem Tabs.drewN {a : World} {n : Nat} (h : Tabs a) : Tabs (a.drewN n) := h.fr ((Fr.refl No a).drewN n)
theorem Tabs.alloc {a : World} {o : Obj} (h : Tabs a) : Tabs (a.alloc o) := h.fr ((Fr.refl No a).alloc o)
theorem Tabs.dr {a b : World} (h : Tabs a) (k : Dr a b) : Tabs b := h.fr ((Fr.refl No a).dr k)
end Go.Proofs.YthkjmbkfcnehoaaDoor
