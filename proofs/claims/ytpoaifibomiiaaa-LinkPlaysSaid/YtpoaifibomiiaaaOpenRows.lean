/- Rows of rows of bytes that come in. -/
import Derived.Test.YtpoaifibomiiaaaRows2
namespace Go.Proofs.Ytpoaifibomiiaaa
open Go.RowKit Go.WideShapes Go.ChangeShapes
set_option linter.unusedVariables false

theorem ints_of_trod {H : Type} {enc : TypeId × Value → H} {P : Program} {W : World} {t e : TypeId} {k : IntKind} {fuel : Nat} {cs : List Value} {x : DataW H × List MemPlace}
    (ht : P.underlying t = some (.slice e)) (he : P.underlying e = some (.int k)) (hc : P.cellsOf e = 1) (hf : DataW.trod enc P W 0 (fun _ => true) true fuel t cs = some x) :
    ∃ (A : Option Addr) (n c : Nat) (zs : List Int), cs = [.slice A n c] ∧ Rd W A n c (zs.map (Value.int k)) ∧ ∀ z ∈ zs, (Lit.int k z).wf = true := by
  rcases open_ints ht he hc hf with ⟨hcs, _⟩ | ⟨a, len', cap', zs, hcs, _, hl, hm, hz, _, hcell, hw⟩
  · exact ⟨none, 0, 0, [], hcs, Rd.nil_ W, by simp⟩
  · simp only [if_true] at hz
    refine ⟨some a, len', cap', zs.take len', hcs, ⟨by simp; omega, hl, hm, (fun e => nomatch e), ?_⟩, fun z hz' => hw z (List.mem_of_mem_take hz')⟩
    intro ad e j u hu
    injection e with e
    subst e
    rw [List.getElem?_map, Option.map_eq_some_iff] at hu
    obtain ⟨z, hz1, rfl⟩ := hu
    rw [List.getElem?_take] at hz1
    split at hz1
    · have hj := (List.getElem?_eq_some_iff.1 hz1).1
      rw [hcell j hj, List.getD, hz1]
      rfl
    · cases hz1
theorem u8s_of_trod {H : Type} {enc : TypeId × Value → H} {P : Program} {W : World} {t e : TypeId} {fuel : Nat} {cs : List Value} {x : DataW H × List MemPlace}
    (ht : P.underlying t = some (.slice e)) (he : P.underlying e = some (.int .u8)) (hc : P.cellsOf e = 1) (hf : DataW.trod enc P W 0 (fun _ => true) true fuel t cs = some x) :
    ∃ (A : Option Addr) (n c : Nat) (l : List UInt8), cs = [.slice A n c] ∧ Rd W A n c (u8s l) := by
  obtain ⟨A, n, c, zs, e1, hr, hw⟩ := ints_of_trod ht he hc hf
  obtain ⟨l, hl⟩ := u8s_of hw
  exact ⟨A, n, c, l, e1, hl ▸ hr⟩
theorem els_of {W : World} {N : Nat → Prop} : ∀ (vs : List Value), (∀ v ∈ vs, ∃ l, SlN W N v l) → ∃ ls, Els W N vs ls
  | [], _ => ⟨[], trivial⟩
  | v :: vs, h => by
    obtain ⟨l, hl⟩ := h v (by simp)
    obtain ⟨ls, hls⟩ := els_of vs (fun u hu => h u (by simp [hu]))
    exact ⟨l :: ls, hl, hls⟩
/-- a list of rows of bytes that came in -/
theorem open_rows {H : Type} {enc : TypeId × Value → H} {P : Program} {W : World} {b0 : Nat} {t e q : TypeId} {v : Value} {d : DataW H} {p : List MemPlace}
    (ht : P.underlying t = some (.slice e)) (he : P.underlying e = some (.slice q)) (hq : P.underlying q = some (.int .u8)) (hc : P.cellsOf e = 1) (hc2 : P.cellsOf q = 1)
    (hval : Value.okWide P W .any b0 t v) (h : DataW.Trod enc P W 0 (fun _ => true) true t v d p) : ∃ A n c ls, v = .slice A n c ∧ RdL W (fun _ => True) A n c ls := by
  obtain ⟨a0, len, cap, rfl⟩ := okWide_slice ht hval
  obtain ⟨fuel, hf⟩ := h
  rcases DataW.trod_slice ht hf with ⟨hcs, _⟩ | ⟨a, len', cap', elems, rest, m, _, hcs, _, _, hl, hm, hle, hel, _, _⟩
  · simp [Value.cells] at hcs
    obtain ⟨rfl, rfl, rfl⟩ := hcs
    exact ⟨none, 0, 0, [], rfl, RdL.nil_ _ _⟩
  · simp [Value.cells] at hcs
    obtain ⟨rfl, rfl, rfl⟩ := hcs
    have key : ∀ j, j < len → ∃ u l, W.cell? (a.add j) = some u ∧ SlN W (fun _ => True) u l := by
      intro j hj
      have h2 := hel j hj
      rw [hc, List.getElem?_eq_getElem (by omega), Option.bind_eq_some_iff] at h2
      obtain ⟨cs, hcs, htr⟩ := h2
      obtain ⟨_, hcl, hat⟩ := World.cells?_some hcs
      obtain ⟨B, n2, c2, l, rfl, hr⟩ := u8s_of_trod he hq hc2 htr
      have q0 := hat 0 (by omega)
      rw [add_add] at q0
      exact ⟨.slice B n2 c2, l, by simpa using q0, B, n2, c2, rfl, hr, fun _ _ => trivial⟩
    obtain ⟨ls, hls⟩ := els_of (W := W) (N := fun _ => True) ((List.range len).map fun j => (W.cell? (a.add j)).getD undef) (fun v hv => by
      obtain ⟨j, hj, rfl⟩ := List.mem_map.1 hv
      obtain ⟨u, l, h1, h2⟩ := key j (List.mem_range.1 hj)
      rw [h1]
      exact ⟨l, h2⟩)
    refine ⟨some a, len, cap, ls, rfl, ⟨⟨_, ⟨by simp, hl, hm, (fun e => nomatch e), fun ad e j u hu => ?_⟩, hls⟩, fun _ _ => trivial⟩⟩
    injection e with e
    subst e
    rw [List.getElem?_map, Option.map_eq_some_iff] at hu
    obtain ⟨i, hi, rfl⟩ := hu
    have hij := (List.getElem?_eq_some_iff.1 hi)
    obtain ⟨h1, h2⟩ := hij
    simp at h1 h2
    subst h2
    obtain ⟨u, l, h3, _⟩ := key j h1
    rw [h3]
    rfl
end Go.Proofs.Ytpoaifibomiiaaa
