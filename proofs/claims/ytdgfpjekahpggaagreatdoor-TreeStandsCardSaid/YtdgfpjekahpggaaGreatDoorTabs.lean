/- The tables of package unicode/utf8, which the program reads: what is asked of the world, and that a call which turns no block keeps it. -/
import Derived.Test.YtdgfpjekahpggaaGreatDoorBase
import Derived.Shelf.Unicode.DecodeSlow
namespace Go.Proofs.YtdgfpjekahpggaaGreatDoor
open Go.RowKit
set_option linter.unusedVariables false

structure Tabs (w : World) : Prop where
  u8 : Lib.Utf8Tabs 0 1 w
  es : ∃ ev, w.cell? ⟨3, 0, none⟩ = some ev ∧ (ev = .nilIface ∨ ∃ te pe, ev = .iface te pe)
theorem Tabs.below {a b : World} (h : Tabs a) (k : Below a.heap.size a b) : Tabs b := ⟨Utf8Tabs_below h.u8 k, by
  obtain ⟨ev, hc, he⟩ := h.es
  exact ⟨ev, (k.cell (show (⟨3, 0, none⟩ : Addr).block < a.heap.size from World.block_lt_of_cell? _ _ hc)).trans hc, he⟩⟩
theorem Tabs.fr {a b : World} (h : Tabs a) (k : Fr No a b) : Tabs b := h.below k.toBelow
theorem Tabs.frNew {S : Nat → Prop} {a b : World} (h : Tabs a) (k : Fr S a b) (hS : ∀ i, S i → a.heap.size ≤ i) : Tabs b := h.below (k.toBelow' hS)
theorem Tabs.drew {a : World} (h : Tabs a) : Tabs a.drew := h.fr (Fr.refl No a).drew
theorem Tabs.drewN {a : World} {n : Nat} (h : Tabs a) : Tabs (a.drewN n) := h.fr ((Fr.refl No a).drewN n)
theorem Tabs.alloc {a : World} {o : Obj} (h : Tabs a) : Tabs (a.alloc o) := h.fr ((Fr.refl No a).alloc o)
theorem Tabs.dr {a b : World} (h : Tabs a) (k : Dr a b) : Tabs b := h.fr ((Fr.refl No a).dr k)
end Go.Proofs.YtdgfpjekahpggaaGreatDoor
