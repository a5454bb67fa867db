/- A list of tags that comes in (their data of any length). -/
import Derived.Test.YtijlekikmkeihaaDoorMsgItems
import Derived.Deep.Grids
namespace Go.Proofs.YtijlekikmkeihaaDoor
open Go.RowKit Go.WideShapes Go.ChangeShapes
set_option maxHeartbeats 400000
set_option linter.unusedVariables false

theorem tg_add (a : Addr) (i j : Nat) : (a.add i).add j = a.add (i + j) := add_add a i j
section
variable {H : Type} {enc : TypeId × Value → H} {P : Program} {W : World} {sp : Nat → Bool}
theorem tg_ints {t e : TypeId} {k : IntKind} {fuel : Nat} {cs : List Value} {x : DataW H × List MemPlace}
    (ht : P.underlying t = some (.slice e)) (he : P.underlying e = some (.int k)) (hc : P.cellsOf e = 1) (hf : DataW.trod enc P W 0 (fun _ => true) true fuel t cs = some x) :
    ∃ (A : Option Addr) (n c : Nat) (zs : List Int), cs = [.slice A n c] ∧ Rd W A n c (zs.map (Value.int k)) ∧ ∀ z ∈ zs, (Lit.int k z).wf = true := by
  rcases open_ints ht he hc hf with ⟨hcs, _⟩ | ⟨a, len', cap', zs, hcs, _, hl, hm, hz, _, hcell, hw⟩
  · exact ⟨none, 0, 0, [], hcs, Rd.nil_ W, by simp⟩
  · simp only [if_true] at hz
    refine ⟨some a, len', cap', zs.take len', hcs, ⟨by simp; omega, hl, hm, (fun e => nomatch e), ?_⟩, fun z hz' => hw z (List.mem_of_mem_take hz')⟩
    intro ad e j u hu
    injection e with e
    subst e
    rw [List.getElem?_map, Option.map_eq_some_iff] at hu
    obtain ⟨z, hz1, rfl⟩ := hu
    rw [List.getElem?_take] at hz1
    split at hz1
    · have hj := (List.getElem?_eq_some_iff.1 hz1).1
      rw [hcell j hj, List.getD, hz1]
      rfl
    · cases hz1
theorem tg_u8s {t e : TypeId} {fuel : Nat} {cs : List Value} {x : DataW H × List MemPlace}
    (ht : P.underlying t = some (.slice e)) (he : P.underlying e = some (.int .u8)) (hc : P.cellsOf e = 1) (hf : DataW.trod enc P W 0 (fun _ => true) true fuel t cs = some x) :
    ∃ (A : Option Addr) (n c : Nat) (l : List UInt8), cs = [.slice A n c] ∧ Rd W A n c (u8s l) := by
  obtain ⟨A, n, c, zs, e1, hr, hw⟩ := tg_ints ht he hc hf
  obtain ⟨l, hl⟩ := u8s_of hw
  exact ⟨A, n, c, l, e1, hl ▸ hr⟩
/-- a slice of things that came in: each reads as a thing -/
theorem open_things {α : Type} {I : World → (Nat → Prop) → List Value → α → Prop} {s : Nat} {N : Nat → Prop} {t e : TypeId} {fuel : Nat} {cs : List Value} {x : DataW H × List MemPlace}
    (ht : P.underlying t = some (.slice e)) (hc : P.cellsOf e = s) (hs : 0 < s) (hN : ∀ i, i < W.heap.size → N i)
    (hel : ∀ (m : Nat) (zs : List Value) (y : DataW H × List MemPlace), DataW.trod enc P W 0 sp true m e zs = some y → ∃ a, I W N zs a)
    (h : DataW.trod enc P W 0 sp true fuel t cs = some x) :
    ∃ (A : Option Addr) (n c : Nat) (ls : List α), cs = [.slice A n c] ∧ RdI s I W N A n c ls := by
  rcases DataW.trod_slice ht h with ⟨rfl, rfl⟩ | ⟨a, len, cap, elems, rest, m, _, rfl, rfl, _, hl, hm, hle, hat, _, _⟩
  · exact ⟨none, 0, 0, [], rfl, RdI.nil_ s I W N⟩
  · rw [hc] at hat
    have key : ∀ k, k ≤ len → ∃ (xs : List Value) (ls : List α), xs.length = k * s ∧ ItemsF I W N xs ls ∧ (∀ j u, xs[j]? = some u → W.cell? (a.add j) = some u) := by
      intro k
      induction k with
      | zero => exact fun _ => ⟨[], [], by simp, rfl, by simp⟩
      | succ k ih =>
        intro hk
        obtain ⟨xs, ls, h1, h2, h3⟩ := ih (by omega)
        have hk2 := hat k (by omega)
        rw [List.getElem?_eq_getElem (by omega), Option.bind_eq_some_iff] at hk2
        obtain ⟨zs, hz1, hz2⟩ := hk2
        obtain ⟨_, hzl, hza⟩ := World.cells?_some hz1
        obtain ⟨b, hb1⟩ := hel m zs _ hz2
        refine ⟨xs ++ zs, ls ++ [b], by rw [List.length_append, h1, hzl, Nat.add_mul]; omega, ItemsF.app h2 (ItemsF.single hb1), ?_⟩
        intro j u hu
        rw [List.getElem?_append] at hu
        split at hu
        · exact h3 j u hu
        · rename_i hj
          rw [h1] at hu hj
          have hjl := (List.getElem?_eq_some_iff.1 hu).1
          have := hza (j - k * s) (by omega)
          rw [tg_add, show k * s + (j - k * s) = j from by omega] at this
          rw [this, hu]
    obtain ⟨xs, ls, h1, h2, h3⟩ := key len (Nat.le_refl _)
    refine ⟨some a, len, cap, ls, rfl, ⟨xs, ⟨h1, hl, hm, (fun e => nomatch e), fun ad e j u hu => by injection e with e; subst e; exact h3 j u hu⟩, h2⟩, fun ad e h0 => ?_⟩
    injection e with e
    subst e
    refine hN _ ?_
    have h5 : 0 < xs.length := by rw [h1]; exact Nat.mul_pos h0 hs
    have := World.block_lt_of_cell? _ _ (h3 0 _ (List.getElem?_eq_getElem h5))
    rwa [blk_add] at this
end
section
variable {H : Type} {enc : TypeId × Value → H} {W : World}
theorem tg_cint : Tryd.prog.cellsOf 3 = 1 := by kernel_rfl
theorem tg_cbs : Tryd.prog.cellsOf 22 = 1 := by kernel_rfl
theorem tg_cu8 : Tryd.prog.cellsOf 5 = 1 := by kernel_rfl
end
end Go.Proofs.YtijlekikmkeihaaDoor
