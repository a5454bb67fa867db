/- A block that bears the run-time's mark behind its end ([]byte("..") of a constant): its cells, a store into it. -/
import Derived.Test.YthnjnaiajohfiaaDoorBase
import Derived.Lib.SlBytesConst
import Derived.Great.BuildSlice
namespace Go.Proofs.YthnjnaiajohfiaaDoor
open Go.RowKit
set_option linter.unusedVariables false

def BkF (w : World) (g : Nat) (t : TypeId) (cs : List Value) (k : Nat) : Prop := w.heap[g]? = some (.cells cs.toArray t (k, k + 1))
section
variable {S : Nat → Prop} {w w' : World} {g k : Nat} {t : TypeId} {cs : List Value}
theorem BkF.cell (h : BkF w g t cs k) (i : Nat) : w.cell? ⟨g, i, none⟩ = cs[i]? := by
  unfold BkF at h
  simp [World.cell?, h]
theorem BkF.frozen (h : BkF w g t cs k) (i : Nat) (hi : i < k) : w.frozen? ⟨g, i, none⟩ = false := by
  unfold BkF at h
  simp [World.frozen?, h]
  omega
theorem BkF.new (w : World) (t : TypeId) (cs : Array Value) (k : Nat) : BkF (w.alloc (.cells cs t (k, k + 1))) w.heap.size t cs.toList k := heap_alloc_new w _
theorem BkF.fr (h : BkF w g t cs k) (hf : Fr S w w') (hS : ¬ S g) : BkF w' g t cs k := hf.heap h hS
theorem BkF.no (h : BkF w g t cs k) (hf : Fr No w w') : BkF w' g t cs k := h.fr hf (fun x => x)
theorem BkF.set_ (h : BkF w g t cs k) (i : Nat) (u : Value) : BkF (w.setCell ⟨g, i, none⟩ u) g t (cs.set i u) k := by
  unfold BkF at h ⊢
  simp [World.setCell, Array.getElem?_modify, h]
theorem BkF.rd (h : BkF w g t cs k) {n cap : Nat} (hn : n ≤ cap) (hm : cap ≤ maxLen) (hl : n ≤ cs.length) : Rd w (some ⟨g, 0, none⟩) n cap (cs.take n) := by
  refine ⟨by rw [List.length_take]; omega, hn, hm, (fun e => nomatch e), ?_⟩
  intro ad e j u hu
  injection e with e
  subst e
  have : (⟨g, 0, none⟩ : Addr).add j = ⟨g, j, none⟩ := by unfold Addr.add; split <;> simp_all
  rw [this, h.cell]
  rw [List.getElem?_take] at hu
  split at hu
  · exact hu
  · cases hu
end
end Go.Proofs.YthnjnaiajohfiaaDoor
