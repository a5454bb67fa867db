/- Blocks that are far, and apart: no program. -/
import Derived.Test.YtpoaifibomiiaaaBase
namespace Go.Proofs.Ytpoaifibomiiaaa
set_option linter.unusedVariables false

theorem Rd.far {w0 : World} {A : Option Addr} {n c : Nat} {xs : List Value} {K : Nat → Prop} (h : Rd w0 A n c xs) (hK : ∀ i, K i → w0.heap.size ≤ i) : ∀ ad, A = some ad → 0 < n → ¬ K ad.block :=
  fun ad e h0 x => by
    have h1 := h.lt h0 ad e
    have h2 := hK _ x
    omega

theorem Rd.pre {w : World} {A : Option Addr} {n c k : Nat} {xs : List Value} (h : Rd w A n c xs) (hk : k ≤ n) : Rd w A k c (xs.take k) :=
  ⟨by rw [List.length_take, h.len]; omega, by have := h.cap; omega, h.max, h.nil, fun ad e j u hu => h.cells ad e j u (by
    rw [List.getElem?_take] at hu
    split at hu
    · exact hu
    · cases hu)⟩
theorem far_step {K K' : Nat → Prop} {B u : Nat} (h : ∀ i, K i → B ≤ i) (hk : ∀ i, K' i → K i ∨ u ≤ i) (hB : B ≤ u) : ∀ i, K' i → B ≤ i := fun i hi => by
  rcases hk i hi with x | x
  · exact h i x
  · omega
theorem apart_step {K K' M : Nat → Prop} {u : Nat} (h : ∀ i, M i → ¬ K i) (hk : ∀ i, K' i → K i ∨ u ≤ i) (hM : ∀ i, M i → i < u) : ∀ i, M i → ¬ K' i := fun i hi x => by
  rcases hk i x with x | x
  · exact h i hi x
  · have := hM i hi; omega
end Go.Proofs.Ytpoaifibomiiaaa
