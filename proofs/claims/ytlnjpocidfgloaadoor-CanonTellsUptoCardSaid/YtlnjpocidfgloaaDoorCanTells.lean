/- Nodes that are not too much fit; CanonTells, for all such. -/
import Derived.Test.YtlnjpocidfgloaaDoorCanAwake
import Derived.Test.YtlnjpocidfgloaaDoorNodOpen
namespace Go.Proofs.YtlnjpocidfgloaaDoor
open Go.RowKit
set_option maxHeartbeats 400000
set_option linter.unusedVariables false

theorem le_sum {α : Type} (f : α → Nat) : ∀ {l : List α} {x : α}, x ∈ l → f x ≤ (l.map f).sum
  | y :: l, x, h => by
    simp only [List.map_cons, List.sum_cons]
    rcases List.mem_cons.1 h with rfl | h
    · omega
    · have := le_sum f h; omega
theorem len_sum {α : Type} (f : α → Nat) (h1 : ∀ x, 1 ≤ f x) : ∀ l : List α, l.length ≤ (l.map f).sum
  | [] => by simp
  | x :: l => by
    have := len_sum f h1 l
    have := h1 x
    simp only [List.map_cons, List.sum_cons, List.length_cons]
    omega
theorem attrW_wt : ∀ a : List (List UInt8 × List UInt8), (attrW a).length ≤ 10 * (a.map wtA).sum
  | [] => by simp [attrW]
  | x :: a => by
    have ih := attrW_wt a
    have h := (escL_len x.2).2
    simp only [attrW, List.length_cons, List.length_append, List.map_cons, List.sum_cons, wtA] at ih ⊢
    omega
theorem wr_wt : ∀ (F : Fo) (p : Int) (b : Nat), F.wr.length ≤ 10 * ((F.flat p b).map wtN).sum
  | .nil, _, _ => by simp [Fo.wr]
  | .cons n t a k r, p, b => by
    have i1 := wr_wt k (b : Int) (b + 1)
    have i2 := wr_wt r p (b + 1 + k.size)
    have h1 := attrW_wt a
    have h2 := (escL_len t).2
    rw [Fo.wr_one, Fo.flat_cons, List.length_append, List.map_cons, List.sum_cons, List.map_append, List.sum_append]
    have h3 : (wr1 n t a k).length ≤ 10 * wtN ⟨p, n, t, a⟩ + k.wr.length := by
      unfold wr1 wtN
      split
      · simp only [List.length_cons, List.length_append, List.length_nil]; omega
      · simp only [List.length_cons, List.length_append, List.length_nil]; omega
    omega
theorem fits_of {ls : List Nod} (h : (ls.map wtN).sum ≤ 1048576) : Fits ls where
  each := by
    intro x hx
    have hw := Nat.le_trans (le_sum wtN hx) h
    unfold wtN at hw
    refine ⟨by omega, by omega, ?_, fun a ha => ?_⟩
    · have := len_sum wtA (fun x => by unfold wtA; omega) x.attrs; omega
    · have := le_sum wtA ha
      have h2 : wtA a = a.1.length + a.2.length + 1 := rfl
      exact ⟨by omega, by omega⟩
  file := by
    intro F hF
    have := wr_wt F (-1) 0
    rw [← hF] at this
    omega
theorem tells_card {ls : List Nod} {A : Option Addr} {n c : Nat} (w : World) (hT : Tabs w) (hR : RdI 4 NodI w (fun i => i < w.heap.size) A n c ls) (hb : (ls.map wtN).sum ≤ 1048576) :
    Calls Tryd.prog 3 #[.slice A n c] w fun e w' => e = .returned (.bool true) ∧ Fr No w w' :=
  tells_can ls A n c w hR (fun _ => fits_of hb) hT
end Go.Proofs.YtlnjpocidfgloaaDoor
