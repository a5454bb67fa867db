/- Nodes that come in, and how much they are. -/
import Derived.Test.YthkjmbkfcnehoaaGreatDoorIts
import Derived.Deep.Grids
namespace Go.Proofs.YthkjmbkfcnehoaaGreatDoor
open Go.RowKit Go.WideShapes Go.ChangeShapes
set_option maxHeartbeats 400000
set_option linter.unusedVariables false

theorem bulk_app {H : Type} : ∀ (l r : List (DataW H)), Rows.uptoBulkAll (l ++ r) = Rows.uptoBulkAll l + Rows.uptoBulkAll r
  | [], r => by simp [Rows.uptoBulkAll]
  | x :: l, r => by simp only [List.cons_append, Rows.uptoBulkAll, bulk_app l r]; omega
theorem add_add0 (a : Addr) (i j : Nat) : (a.add i).add j = a.add (i + j) := add_add a i j
section
variable {H : Type} {enc : TypeId × Value → H} {P : Program} {W : World} {sp : Nat → Bool}
/-- a slice of things that came in: each reads as a thing, and all together are no more than the slice's bulk -/
theorem open_items {α : Type} {I : World → (Nat → Prop) → List Value → α → Prop} {s : Nat} {N : Nat → Prop} (wt : α → Nat) {t e : TypeId} {fuel : Nat} {cs : List Value} {x : DataW H × List MemPlace}
    (ht : P.underlying t = some (.slice e)) (hc : P.cellsOf e = s) (hs : 0 < s) (hN : ∀ i, i < W.heap.size → N i)
    (hel : ∀ (m : Nat) (zs : List Value) (y : DataW H × List MemPlace), DataW.trod enc P W 0 sp true m e zs = some y → ∃ a, I W N zs a ∧ wt a ≤ Rows.uptoBulk y.1)
    (h : DataW.trod enc P W 0 sp true fuel t cs = some x) :
    ∃ (A : Option Addr) (n c : Nat) (ls : List α), cs = [.slice A n c] ∧ RdI s I W N A n c ls ∧ (ls.map wt).sum ≤ Rows.uptoBulk x.1 := by
  rcases DataW.trod_slice ht h with ⟨rfl, rfl⟩ | ⟨a, len, cap, elems, rest, m, _, rfl, rfl, _, hl, hm, hle, hat, _, _⟩
  · exact ⟨none, 0, 0, [], rfl, RdI.nil_ s I W N, by simp⟩
  · rw [hc] at hat
    have key : ∀ k, k ≤ len → ∃ (xs : List Value) (ls : List α), xs.length = k * s ∧ ItemsF I W N xs ls ∧ (∀ j u, xs[j]? = some u → W.cell? (a.add j) = some u) ∧ (ls.map wt).sum ≤ Rows.uptoBulkAll ((elems.take k).map (·.1)) := by
      intro k
      induction k with
      | zero => exact fun _ => ⟨[], [], by simp, rfl, by simp, by simp⟩
      | succ k ih =>
        intro hk
        obtain ⟨xs, ls, h1, h2, h3, h4⟩ := ih (by omega)
        have hk2 := hat k (by omega)
        rw [List.getElem?_eq_getElem (by omega), Option.bind_eq_some_iff] at hk2
        obtain ⟨zs, hz1, hz2⟩ := hk2
        obtain ⟨_, hzl, hza⟩ := World.cells?_some hz1
        obtain ⟨b, hb1, hb2⟩ := hel m zs _ hz2
        refine ⟨xs ++ zs, ls ++ [b], by rw [List.length_append, h1, hzl, Nat.add_mul]; omega, ItemsF.app h2 (ItemsF.single hb1), ?_, ?_⟩
        · intro j u hu
          rw [List.getElem?_append] at hu
          split at hu
          · exact h3 j u hu
          · rename_i hj
            rw [h1] at hu hj
            have hjl := (List.getElem?_eq_some_iff.1 hu).1
            have := hza (j - k * s) (by omega)
            rw [add_add0, show k * s + (j - k * s) = j from by omega] at this
            rw [this, hu]
        · rw [List.take_succ_eq_append_getElem (by omega), List.map_append (l₁ := elems.take k), bulk_app, List.map_append, List.sum_append]
          simp only [List.map_cons, List.map_nil, List.sum_cons, List.sum_nil, Rows.uptoBulkAll]
          omega
    obtain ⟨xs, ls, h1, h2, h3, h4⟩ := key len (Nat.le_refl _)
    refine ⟨some a, len, cap, ls, rfl, ⟨⟨xs, ⟨h1, hl, hm, (fun e => nomatch e), fun ad e j u hu => by injection e with e; subst e; exact h3 j u hu⟩, h2⟩, fun ad e h0 => ?_⟩, ?_⟩
    · injection e with e
      subst e
      refine hN _ ?_
      have h5 : 0 < xs.length := by rw [h1]; exact Nat.mul_pos h0 hs
      have := World.block_lt_of_cell? _ _ (h3 0 _ (List.getElem?_eq_getElem h5))
      rwa [blk_add] at this
    · rw [← hle, List.take_length] at h4
      show _ ≤ Rows.uptoBulk (.slice (elems.map (·.1)) (rest.map (·.1)))
      simp only [Rows.uptoBulk]
      omega
end
theorem trod_four {H : Type} {enc : TypeId × Value → H} {P : Program} {W : World} {base : Nat} {sp : Nat → Bool} {held : Bool} {t : TypeId} {f0 f1 f2 f3 : Field} {fuel : Nat} {cs : List Value} {x : DataW H × List MemPlace} (ht : P.underlying t = some (.struct #[f0, f1, f2, f3])) (h : DataW.trod enc P W base sp held fuel t cs = some x) :
    ∃ y0 y1 y2 y3 n, x = (.agg [y0.1, y1.1, y2.1, y3.1], y0.2 ++ (y1.2 ++ (y2.2 ++ y3.2))) ∧ cs.length = P.cellsOf t ∧ DataW.trod enc P W base sp held n f0.type ((cs.drop f0.offset).take (P.cellsOf f0.type)) = some y0 ∧
      DataW.trod enc P W base sp held n f1.type ((cs.drop f1.offset).take (P.cellsOf f1.type)) = some y1 ∧ DataW.trod enc P W base sp held n f2.type ((cs.drop f2.offset).take (P.cellsOf f2.type)) = some y2 ∧ DataW.trod enc P W base sp held n f3.type ((cs.drop f3.offset).take (P.cellsOf f3.type)) = some y3 := by
  obtain ⟨xs, n, _, rfl, hl, hlen, hf⟩ := DataW.trod_struct ht h
  match xs, hlen with
  | [y0, y1, y2, y3], _ => exact ⟨y0, y1, y2, y3, n, by simp, hl, by simpa using hf 0 f0 rfl, by simpa using hf 1 f1 rfl, by simpa using hf 2 f2 rfl, by simpa using hf 3 f3 rfl⟩
theorem cs_str : Tryz.prog.cellsOf 9 = 1 := by kernel_rfl
theorem cs_int : Tryz.prog.cellsOf 3 = 1 := by kernel_rfl
theorem cs_ats : Tryz.prog.cellsOf 30 = 1 := by kernel_rfl
/-- how much an attribute, a node is -/
def wtA (x : List UInt8 × List UInt8) : Nat := x.1.length + x.2.length + 1
def wtN (n : Nod) : Nat := n.name.length + n.text.length + (n.attrs.map wtA).sum + 1
section
variable {H : Type} {enc : TypeId × Value → H} {W : World} {sp : Nat → Bool} {N : Nat → Prop}
set_option maxRecDepth 20000 in
theorem attr_of {m : Nat} {zs : List Value} {y : DataW H × List MemPlace} (h : DataW.trod enc Tryz.prog W 0 sp true m 59 zs = some y) : ∃ a, AttrI W N zs a ∧ wtA a ≤ Rows.uptoBulk y.1 := by
  obtain ⟨x0, x1, n, rfl, hl, f0, f1⟩ := trod_struct2 Tryz.underlying59 h
  rw [show Tryz.prog.cellsOf 59 = 2 from by kernel_rfl] at hl
  match zs, hl with
  | [z0, z1], _ =>
    obtain ⟨s0, e0, e0', _⟩ := DataW.trod_string Tryz.underlying9 f0
    obtain ⟨s1, e1, e1', _⟩ := DataW.trod_string Tryz.underlying9 f1
    simp only [cs_str, List.drop_zero, List.drop_succ_cons, List.take_succ_cons, List.take_zero, List.cons.injEq, and_true] at e0 e1
    subst e0 e1 e0' e1'
    refine ⟨(s0.data.toList, s1.data.toList), ⟨s0, s1, rfl, rfl, rfl⟩, ?_⟩
    simp only [wtA, Rows.uptoBulk, Rows.uptoBulkAll]
    omega
set_option maxRecDepth 20000 in
theorem nod_of (hN : ∀ i, i < W.heap.size → N i) {m : Nat} {zs : List Value} {y : DataW H × List MemPlace} (h : DataW.trod enc Tryz.prog W 0 sp true m 32 zs = some y) : ∃ a, NodI W N zs a ∧ wtN a ≤ Rows.uptoBulk y.1 := by
  obtain ⟨x0, x1, x2, x3, n, rfl, hl, f0, f1, f2, f3⟩ := trod_four Tryz.underlying32 h
  rw [show Tryz.prog.cellsOf 32 = 4 from by kernel_rfl] at hl
  match zs, hl with
  | [z0, z1, z2, z3], _ =>
    obtain ⟨p, e0, e0', _⟩ := DataW.trod_int Tryz.underlying3 f0
    obtain ⟨s1, e1, e1', _⟩ := DataW.trod_string Tryz.underlying9 f1
    obtain ⟨s2, e2, e2', _⟩ := DataW.trod_string Tryz.underlying9 f2
    obtain ⟨A, n3, c3, ats, e3, hr, hw⟩ := open_items (I := AttrI) (s := 2) (N := N) wtA Tryz.underlying30 (by kernel_rfl) (by omega) hN (fun _ _ _ => attr_of) f3
    simp only [cs_str, cs_int, cs_ats, List.drop_zero, List.drop_succ_cons, List.take_succ_cons, List.take_zero, List.cons.injEq, and_true] at e0 e1 e2 e3
    subst e0 e1 e2 e3 e0' e1' e2'
    refine ⟨⟨p, s1.data.toList, s2.data.toList, ats⟩, ⟨s1, s2, A, n3, c3, rfl, rfl, rfl, hr⟩, ?_⟩
    simp only [wtN, Rows.uptoBulk, Rows.uptoBulkAll] at hw ⊢
    omega
set_option maxRecDepth 20000 in
/-- a list of nodes that came in -/
theorem open_nods {v : Value} {d : DataW H} {p : List MemPlace} {b0 : Nat} (hval : Value.okWide Tryz.prog W .any b0 23 v) (h : DataW.Trod enc Tryz.prog W 0 sp true 23 v d p) :
    ∃ A n c ls, v = .slice A n c ∧ RdI 4 NodI W (fun i => i < W.heap.size) A n c ls ∧ (ls.map wtN).sum ≤ Rows.uptoBulk d := by
  obtain ⟨a0, len, cap, rfl⟩ := okWide_slice Tryz.underlying23 hval
  obtain ⟨fuel, hf⟩ := h
  obtain ⟨A, n, c, ls, e, hr, hw⟩ := open_items (I := NodI) (s := 4) (N := fun i => i < W.heap.size) wtN Tryz.underlying23 (by kernel_rfl) (by omega) (fun _ hi => hi) (fun _ _ _ => nod_of (fun _ hi => hi)) hf
  simp [Value.cells] at e
  obtain ⟨rfl, rfl, rfl⟩ := e
  exact ⟨_, _, _, ls, rfl, hr, hw⟩
end
end Go.Proofs.YthkjmbkfcnehoaaGreatDoor
