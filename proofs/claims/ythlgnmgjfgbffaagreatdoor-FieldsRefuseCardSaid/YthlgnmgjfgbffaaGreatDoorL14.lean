/- The texts Whole, joined. -/
import Derived.Test.YthlgnmgjfgbffaaGreatDoorL01
import Derived.Deep.MidRow
/- A struct, or an array, as a whole: loads and stores of all cells of a block. No program. -/
namespace Go.Proofs.YthlgnmgjfgbffaaGreatDoor
open Go.RowKit
set_option linter.unusedVariables false

theorem Bk.range {w : World} {g : Nat} {t : TypeId} {cs : List Value} (h : Bk w g t cs) : w.rangeAt g 0 cs := fun j v hv => by
  rw [Nat.zero_add, h.cell j]; exact hv
theorem Bk.there {w : World} {g : Nat} {t : TypeId} {cs : List Value} (h : Bk w g t cs) : w.there g 0 cs.length := fun j hj =>
  ⟨by rw [Nat.zero_add, h.cell j, List.getElem?_eq_getElem hj]; rfl, by rw [Nat.zero_add]; exact h.frozen j⟩
def setL : List Value → Nat → List Value → List Value
  | cs, _, [] => cs
  | cs, o, v :: r => setL (cs.set o v) (o + 1) r
theorem setL_len : ∀ (vs cs : List Value) (o : Nat), (setL cs o vs).length = cs.length
  | [], _, _ => rfl
  | v :: r, cs, o => by rw [setL, setL_len r]; simp
theorem setL_get : ∀ (vs cs : List Value) (o j : Nat), o + vs.length ≤ cs.length → (setL cs o vs)[j]? = if o ≤ j ∧ j < o + vs.length then vs[j - o]? else cs[j]?
  | [], cs, o, j, h => by rw [setL, if_neg (by simp)]
  | v :: r, cs, o, j, h => by
    simp only [List.length_cons] at h ⊢
    rw [setL, setL_get r (cs.set o v) (o + 1) j (by simp; omega)]
    by_cases h1 : j = o
    · subst h1
      rw [if_neg (by omega), if_pos (by omega), List.getElem?_set_self (by omega)]
      simp
    · by_cases h2 : o ≤ j ∧ j < o + (r.length + 1)
      · rw [if_pos (by omega), if_pos h2, show j - o = (j - (o + 1)) + 1 by omega, List.getElem?_cons_succ]
      · rw [if_neg (by omega), if_neg h2, List.getElem?_set_ne (by omega)]
theorem setL_all {vs cs : List Value} (h : vs.length = cs.length) : setL cs 0 vs = vs := by
  apply List.ext_getElem?
  intro j
  rw [setL_get vs cs 0 j (by omega)]
  split
  · rw [Nat.sub_zero]
  · rw [List.getElem?_eq_none (by omega), List.getElem?_eq_none (by omega)]
theorem Bk.setCells : ∀ (vs : List Value) {w : World} {g : Nat} {t : TypeId} {cs : List Value} (o : Nat), Bk w g t cs → Bk (w.setCells g o vs) g t (setL cs o vs)
  | [], _, _, _, _, _, h => h
  | v :: r, _, _, _, _, o, h => Bk.setCells r (o + 1) (h.set_ o v)
theorem Fr.setCells {S : Nat → Prop} {g : Nat} : ∀ (vs : List Value) {a b : World} (o : Nat), Fr S a b → (S g ∨ a.heap.size ≤ g) → Fr S a (b.setCells g o vs)
  | [], _, _, _, h, _ => h
  | v :: r, _, _, o, h, hg => Fr.setCells r (o + 1) (h.setCell hg v) hg
theorem setCells_size (g : Nat) : ∀ (vs : List Value) (o : Nat) (w : World), (w.setCells g o vs).heap.size = w.heap.size
  | [], _, _ => rfl
  | v :: r, o, w => by rw [World.setCells, setCells_size g r]; simp
theorem results_bk {P : Program} {fn : Func} {tmps : Array Value} {w : World} {i g : Nat} {ty t : TypeId} {cs : List Value} {d : TypeDesc} (hres : fn.results = #[.cell i ty]) (ht : tmps.getD i undef = .pointer (some ⟨g, 0, none⟩)) (hb : Bk w g t cs)
    (hu : P.underlying ty = some d) (hd : d.isRow = true) (hi : (P.info? ty).map (·.size) = some cs.length) : (results fn tmps).run P w = .ok (.agg cs.toArray) w := by
  have h := run_loadVar_mid w g 0 ty cs d hb.range hu hd hi
  unfold results
  rw [hres]
  simp only [List.mapM_toArray, List.mapM_cons, List.mapM_nil, ht, asAddr, Sem.run_bind, Sem.run_map, Sem.run_pure, Result.andThen_ok, h]
  rfl
section
variable {P : Program} {ops : Array Oper} {rest : List Oper} {o : Oper} {a : Act} {w : World} {Q : Exit → Act → World → Prop}
/-- a whole block is read -/
theorem wpList_load_bk (hgd : Region.wanted o (yielded ops a.tmps) = true) (ty : TypeId) (x : Operand) (ho : o.op = .load ty x) (g : Nat) (hx : a.eval x = .pointer (some ⟨g, 0, none⟩)) {t : TypeId} (cs : List Value) (d : TypeDesc) (hc : Bk w g t cs)
    (hu : P.underlying ty = some d) (hd : d.isRow = true) (hi : (P.info? ty).map (·.size) = some cs.length)
    (h : wpList P ops Q rest (a.put o.dst (.agg cs.toArray)) w) : wpList P ops Q (o :: rest) a w :=
  wpList_go hgd fun _ hK => wp_load_mid ty x ho g 0 hx cs d hc.range hu hd hi (hK _ _ h)
/-- a whole block is written -/
theorem wpList_store_bk (hgd : Region.wanted o (yielded ops a.tmps) = true) (ty : TypeId) (x y : Operand) (ho : o.op = .store ty x y) (g : Nat) (hx : a.eval x = .pointer (some ⟨g, 0, none⟩)) {t : TypeId} (cs vs : List Value) (hy : a.eval y = .agg vs.toArray) (hc : Bk w g t cs)
    (hl : vs.length = cs.length) (hi : (P.info? ty).map (·.size) = some vs.length) (h1 : vs.toArray.all (·.oneCell') = true)
    (h : ∀ w', Bk w' g t vs → Fr (Just g) w w' → w'.heap.size = w.heap.size → wpList P ops Q rest (a.put o.dst undef) w') : wpList P ops Q (o :: rest) a w :=
  wpList_go hgd fun _ hK => wp_store_mid ty x y ho g 0 vs.toArray hx hy (by rw [List.size_toArray, hl]; exact hc.there) (by rw [hi]; simp) h1
    (hK _ _ (h _ (by have := Bk.setCells vs 0 hc; rwa [setL_all hl] at this) (Fr.setCells vs 0 (Fr.refl _ w) (.inl (Just.at g))) (setCells_size g _ 0 w)))
end
end Go.Proofs.YthlgnmgjfgbffaaGreatDoor
