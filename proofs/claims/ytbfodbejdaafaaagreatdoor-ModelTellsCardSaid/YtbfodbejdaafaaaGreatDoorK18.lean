/- The texts Whole, ModMath2, joined. -/
import Derived.Test.YtbfodbejdaafaaaGreatDoorK01
import Derived.Deep.MidRow
import Derived.Test.YtbfodbejdaafaaaGreatDoorK16
import Derived.Test.YtbfodbejdaafaaaGreatDoorK17
/- A struct, or an array, as a whole: loads and stores of all cells of a block. No program. -/
namespace Go.Proofs.YtbfodbejdaafaaaGreatDoor
open Go.RowKit
set_option linter.unusedVariables false

theorem Bk.range {w : World} {g : Nat} {t : TypeId} {cs : List Value} (h : Bk w g t cs) : w.rangeAt g 0 cs := fun j v hv => by
  rw [Nat.zero_add, h.cell j]; exact hv
theorem Bk.there {w : World} {g : Nat} {t : TypeId} {cs : List Value} (h : Bk w g t cs) : w.there g 0 cs.length := fun j hj =>
  ⟨by rw [Nat.zero_add, h.cell j, List.getElem?_eq_getElem hj]; rfl, by rw [Nat.zero_add]; exact h.frozen j⟩
def setL : List Value → Nat → List Value → List Value
  | cs, _, [] => cs
  | cs, o, v :: r => setL (cs.set o v) (o + 1) r
theorem setL_len : ∀ (vs cs : List Value) (o : Nat), (setL cs o vs).length = cs.length
  | [], _, _ => rfl
  | v :: r, cs, o => by rw [setL, setL_len r]; simp
theorem setL_get : ∀ (vs cs : List Value) (o j : Nat), o + vs.length ≤ cs.length → (setL cs o vs)[j]? = if o ≤ j ∧ j < o + vs.length then vs[j - o]? else cs[j]?
  | [], cs, o, j, h => by rw [setL, if_neg (by simp)]
  | v :: r, cs, o, j, h => by
    simp only [List.length_cons] at h ⊢
    rw [setL, setL_get r (cs.set o v) (o + 1) j (by simp; omega)]
    by_cases h1 : j = o
    · subst h1
      rw [if_neg (by omega), if_pos (by omega), List.getElem?_set_self (by omega)]
      simp
    · by_cases h2 : o ≤ j ∧ j < o + (r.length + 1)
      · rw [if_pos (by omega), if_pos h2, show j - o = (j - (o + 1)) + 1 by omega, List.getElem?_cons_succ]
      · rw [if_neg (by omega), if_neg h2, List.getElem?_set_ne (by omega)]
theorem setL_all {vs cs : List Value} (h : vs.length = cs.length) : setL cs 0 vs = vs := by
  apply List.ext_getElem?
  intro j
  rw [setL_get vs cs 0 j (by omega)]
  split
  · rw [Nat.sub_zero]
  · rw [List.getElem?_eq_none (by omega), List.getElem?_eq_none (by omega)]
theorem Bk.setCells : ∀ (vs : List Value) {w : World} {g : Nat} {t : TypeId} {cs : List Value} (o : Nat), Bk w g t cs → Bk (w.setCells g o vs) g t (setL cs o vs)
  | [], _, _, _, _, _, h => h
  | v :: r, _, _, _, _, o, h => Bk.setCells r (o + 1) (h.set_ o v)
theorem Fr.setCells {S : Nat → Prop} {g : Nat} : ∀ (vs : List Value) {a b : World} (o : Nat), Fr S a b → (S g ∨ a.heap.size ≤ g) → Fr S a (b.setCells g o vs)
  | [], _, _, _, h, _ => h
  | v :: r, _, _, o, h, hg => Fr.setCells r (o + 1) (h.setCell hg v) hg
theorem setCells_size (g : Nat) : ∀ (vs : List Value) (o : Nat) (w : World), (w.setCells g o vs).heap.size = w.heap.size
  | [], _, _ => rfl
  | v :: r, o, w => by rw [World.setCells, setCells_size g r]; simp
theorem results_bk {P : Program} {fn : Func} {tmps : Array Value} {w : World} {i g : Nat} {ty t : TypeId} {cs : List Value} {d : TypeDesc} (hres : fn.results = #[.cell i ty]) (ht : tmps.getD i undef = .pointer (some ⟨g, 0, none⟩)) (hb : Bk w g t cs)
    (hu : P.underlying ty = some d) (hd : d.isRow = true) (hi : (P.info? ty).map (·.size) = some cs.length) : (results fn tmps).run P w = .ok (.agg cs.toArray) w := by
  have h := run_loadVar_mid w g 0 ty cs d hb.range hu hd hi
  unfold results
  rw [hres]
  simp only [List.mapM_toArray, List.mapM_cons, List.mapM_nil, ht, asAddr, Sem.run_bind, Sem.run_map, Sem.run_pure, Result.andThen_ok, h]
  rfl
section
variable {P : Program} {ops : Array Oper} {rest : List Oper} {o : Oper} {a : Act} {w : World} {Q : Exit → Act → World → Prop}
/-- a whole block is read -/
theorem wpList_load_bk (hgd : Region.wanted o (yielded ops a.tmps) = true) (ty : TypeId) (x : Operand) (ho : o.op = .load ty x) (g : Nat) (hx : a.eval x = .pointer (some ⟨g, 0, none⟩)) {t : TypeId} (cs : List Value) (d : TypeDesc) (hc : Bk w g t cs)
    (hu : P.underlying ty = some d) (hd : d.isRow = true) (hi : (P.info? ty).map (·.size) = some cs.length)
    (h : wpList P ops Q rest (a.put o.dst (.agg cs.toArray)) w) : wpList P ops Q (o :: rest) a w :=
  wpList_go hgd fun _ hK => wp_load_mid ty x ho g 0 hx cs d hc.range hu hd hi (hK _ _ h)
/-- a whole block is written -/
theorem wpList_store_bk (hgd : Region.wanted o (yielded ops a.tmps) = true) (ty : TypeId) (x y : Operand) (ho : o.op = .store ty x y) (g : Nat) (hx : a.eval x = .pointer (some ⟨g, 0, none⟩)) {t : TypeId} (cs vs : List Value) (hy : a.eval y = .agg vs.toArray) (hc : Bk w g t cs)
    (hl : vs.length = cs.length) (hi : (P.info? ty).map (·.size) = some vs.length) (h1 : vs.toArray.all (·.oneCell') = true)
    (h : ∀ w', Bk w' g t vs → Fr (Just g) w w' → w'.heap.size = w.heap.size → wpList P ops Q rest (a.put o.dst undef) w') : wpList P ops Q (o :: rest) a w :=
  wpList_go hgd fun _ hK => wp_store_mid ty x y ho g 0 vs.toArray hx hy (by rw [List.size_toArray, hl]; exact hc.there) (by rw [hi]; simp) h1
    (hK _ _ (h _ (by have := Bk.setCells vs 0 hc; rwa [setL_all hl] at this) (Fr.setCells vs 0 (Fr.refl _ w) (.inl (Just.at g))) (setCells_size g _ 0 w)))
end
end Go.Proofs.YtbfodbejdaafaaaGreatDoor
/- Children of a model as they lie in rows; how places are filled into a model: plain functions, no program. -/
namespace Go.Proofs.YtbfodbejdaafaaaGreatDoor
open Go.RowKit
set_option linter.unusedVariables false

def ChdI (w : World) (N : Nat → Prop) (cs : List Value) (a : Chd) : Prop := cs = a.cells
theorem chd_ok : ItemOk 6 ChdI where
  len := by rintro w N cs a rfl; rfl
  one := by
    rintro w N cs a rfl u hu
    simp only [Chd.cells, List.mem_cons, List.not_mem_nil, or_false] at hu
    rcases hu with rfl | rfl | rfl | rfl | rfl | rfl <;> rfl
  fr := by rintro w w' N S cs a h _ _; exact h
  mono := by rintro w N M cs a h _; exact h
theorem chd_items (w : World) (N : Nat → Prop) : ∀ (a : List Chd), ItemsF ChdI w N (cellsL a) a
  | [] => rfl
  | c :: r => ⟨c.cells, cellsL r, rfl, rfl, chd_items w N r⟩
theorem items_chd {w : World} {N : Nat → Prop} : ∀ {a : List Chd} {xs : List Value}, ItemsF ChdI w N xs a → xs = cellsL a
  | [], _, h => h
  | c :: r, _, ⟨cs, rest, e, h1, h2⟩ => by
    rw [e, show cs = c.cells from h1, items_chd h2]
    rfl
theorem cells_len : ∀ a : List Chd, (cellsL a).length = a.length * 6
  | [] => rfl
  | c :: r => by
    show (c.cells ++ cellsL r).length = _
    rw [List.length_append, cells_len r, List.length_cons, Nat.add_mul]
    show 6 + _ = _
    omega
theorem cells_at : ∀ (a : List Chd) (p j : Nat) (hp : p < a.length), j < 6 → (cellsL a)[p * 6 + j]? = a[p].cells[j]?
  | [], p, _, hp, _ => by simp at hp
  | c :: r, 0, j, hp, hj => by
    show (c.cells ++ cellsL r)[0 * 6 + j]? = _
    rw [Nat.zero_mul, Nat.zero_add, List.getElem?_append_left (by show j < 6; exact hj)]
    rfl
  | c :: r, p + 1, j, hp, hj => by
    show (c.cells ++ cellsL r)[(p + 1) * 6 + j]? = _
    rw [List.getElem?_append_right (by show 6 ≤ _; omega), show (p + 1) * 6 + j - c.cells.length = p * 6 + j by show (p + 1) * 6 + j - 6 = _; omega, cells_at r p j (by simpa using hp) hj]
    rfl
theorem cells_set (a : List Chd) (p : Nat) (c : Chd) (hp : p < a.length) : setL (cellsL a) (p * 6) c.cells = cellsL (a.set p c) := by
  have hc : c.cells.length = 6 := rfl
  have hl := cells_len a
  have h1 : p * 6 + c.cells.length ≤ (cellsL a).length := by rw [hl, hc]; omega
  apply List.ext_getElem?
  intro j
  rw [setL_get _ _ _ _ h1, hc]
  rcases Nat.lt_or_ge j (a.length * 6) with hj | hj
  · obtain ⟨q, i, rfl, hi⟩ : ∃ q i, j = q * 6 + i ∧ i < 6 := ⟨j / 6, j % 6, by omega, by omega⟩
    have hq : q < a.length := by omega
    rw [cells_at (a.set p c) q i (by simpa using hq) hi]
    by_cases h : q = p
    · subst h
      rw [if_pos (by omega), List.getElem_set_self, show q * 6 + i - q * 6 = i by omega]
    · rw [if_neg (by omega), List.getElem_set_ne (fun e => h e.symm), cells_at a q i hq hi]
  · rw [if_neg (by omega), List.getElem?_eq_none (by omega), List.getElem?_eq_none (by rw [cells_len, List.length_set]; omega)]

/-! ### filling -/
def runN (nm : List UInt8) (ns : List (List UInt8)) : Nat := (ns.takeWhile (· == nm)).length
theorem fill_cons (c : Chd) (cs : List Chd) (ns : List (List UInt8)) : fillB (c :: cs) ns = (decide (c.mn ≤ (runN c.name ns : Int)) && (decide ((runN c.name ns : Int) ≤ c.mx) && fillB cs (ns.drop (runN c.name ns)))) := rfl
theorem run_stop {nm : List UInt8} : ∀ {m : Nat} {ns : List (List UInt8)}, (∀ j, j < m → ns[j]? = some nm) → ns[m]? ≠ some nm → runN nm ns = m
  | 0, [], _, _ => rfl
  | 0, n :: r, _, h => by
    have hn : (n == nm) = false := by rw [beq_eq_false_iff_ne]; intro e; exact h (by simp [e])
    unfold runN
    rw [List.takeWhile_cons, hn]
    rfl
  | m + 1, [], h, _ => by have := h 0 (by omega); simp at this
  | m + 1, n :: r, h, h1 => by
    have hn : (n == nm) = true := by have := h 0 (by omega); simpa using this
    have ih := run_stop (nm := nm) (m := m) (ns := r) (fun j hj => by have := h (j + 1) (by omega); simpa using this) (by simpa using h1)
    unfold runN at ih ⊢
    rw [List.takeWhile_cons, hn]
    simp only [if_true, List.length_cons, ih]
theorem run_at {nm : List UInt8} {ns : List (List UInt8)} {a m : Nat} (h : ∀ j, j < m → ns[a + j]? = some nm) (h1 : ns[a + m]? ≠ some nm) : runN nm (ns.drop a) = m :=
  run_stop (fun j hj => by rw [List.getElem?_drop]; exact h j hj) (by rw [List.getElem?_drop]; exact h1)
theorem fill_no {cs : List Chd} {ns : List (List UInt8)} {q a m : Nat} (h : fillB cs ns = fillB (cs.drop q) (ns.drop a)) (hq : q < cs.length) (hm : runN cs[q].name (ns.drop a) = m) (hb : ¬ (cs[q].mn ≤ (m : Int) ∧ (m : Int) ≤ cs[q].mx)) : fillB cs ns = false := by
  rw [h, List.drop_eq_getElem_cons hq, fill_cons, hm]
  rw [Bool.and_eq_false_iff, Bool.and_eq_false_iff, decide_eq_false_iff_not, decide_eq_false_iff_not]
  by_cases h1 : cs[q].mn ≤ (m : Int)
  · exact .inr (.inl fun h2 => hb ⟨h1, h2⟩)
  · exact .inl h1
theorem fill_next {cs : List Chd} {ns : List (List UInt8)} {q a m : Nat} (h : fillB cs ns = fillB (cs.drop q) (ns.drop a)) (hq : q < cs.length) (hm : runN cs[q].name (ns.drop a) = m) (h1 : cs[q].mn ≤ (m : Int)) (h2 : (m : Int) ≤ cs[q].mx) : fillB cs ns = fillB (cs.drop (q + 1)) (ns.drop (a + m)) := by
  rw [h, List.drop_eq_getElem_cons hq, fill_cons, hm, decide_eq_true h1, decide_eq_true h2, Bool.true_and, Bool.true_and, List.drop_drop]
theorem fill_end {cs : List Chd} {ns : List (List UInt8)} {q a : Nat} (h : fillB cs ns = fillB (cs.drop q) (ns.drop a)) (hq : cs.length ≤ q) : fillB cs ns = decide (ns.length ≤ a) := by
  rw [h, List.drop_eq_nil_of_le hq]
  show (ns.drop a).isEmpty = _
  rw [Bool.eq_iff_iff, List.isEmpty_iff_length_eq_zero, List.length_drop, decide_eq_true_iff]
  omega

/-! ### what is known of right nodes -/
theorem right_len {ns : List Nod} (h : rightN ns = true) : 0 < ns.length ∧ ns.length ≤ 500 := by
  unfold rightN at h
  simp only [Bool.and_eq_true, decide_eq_true_eq] at h
  exact ⟨h.1, h.2.1⟩
theorem right_par {ns : List Nod} (h : rightN ns = true) {i : Nat} (hi : i < ns.length) (h0 : 0 < i) : 0 ≤ ns[i].parent ∧ ns[i].parent < (i : Int) := by
  rw [← ref_rightN] at h
  unfold refB at h
  simp only [Bool.and_eq_true] at h
  have h1 := (oks_at ns.length (Nat.le_refl _)).1 h.2.2.2.1 i hi hi
  unfold okB parOk at h1
  simp only [Bool.and_eq_true, Bool.or_eq_true, decide_eq_true_eq] at h1
  rcases h1.1 with h2 | h2
  · omega
  · exact ⟨h2.1, h2.2.1⟩
theorem kid_in {ns : List Nod} {i k : Nat} (hi : i < ns.length) : k ∈ kidsL ns (i : Int) ↔ ∃ hk : k < ns.length, ns[k].parent = (i : Int) := by
  unfold kidsL
  rw [if_pos (by omega), kidsF_in]
  constructor
  · rintro ⟨h1, h2⟩
    rw [List.getElem?_eq_getElem h1, Option.map_some] at h2
    injection h2 with h2
    exact ⟨h1, h2⟩
  · rintro ⟨h1, h2⟩
    exact ⟨h1, by rw [List.getElem?_eq_getElem h1, Option.map_some, h2]⟩
/-- a node that is as it must be, and has others in it, has a model, which they fill -/
theorem nodE_up {ns : List Nod} {p k : Nat} (hp : p < ns.length) (hk : k < ns.length) (h : nodE ns p = 0) (hpar : ns[k].parent = (p : Int)) : ∃ cs, modelL ns[p].name = some cs ∧ fillB cs (namesK ns p) = true ∧ blankB ns[p].text = true := by
  have hin := (kid_in hp).2 ⟨hk, hpar⟩
  unfold nodE at h
  rw [List.getElem?_eq_getElem hp] at h
  simp only at h
  split at h
  · cases h
  · cases hm : modelL ns[p].name with
    | none =>
      rw [hm] at h
      simp only at h
      split at h
      · cases h
      · rename_i hk2
        have hk3 : kidsL ns (p : Int) = [] := by simpa using hk2
        rw [hk3] at hin
        cases hin
    | some cs =>
      rw [hm] at h
      simp only at h
      split at h
      · rename_i hb
        rw [Bool.and_eq_true] at hb
        exact ⟨cs, rfl, hb.2, hb.1⟩
      · cases h
theorem name_at {ns : List Nod} {i : Nat} (hi : i < ns.length) : nameAt ns (i : Int) = ns[i].name := by
  unfold nameAt
  rw [Int.toNat_natCast, List.getElem?_eq_getElem hi]
  rfl
/-- what each place's parent has it as, for the parents ahead of i -/
def AsOk (ns : List Nod) (a : List Chd) (i : Nat) : Prop := ∀ (k p : Nat) (hk : k < ns.length) (hp : p < ns.length), p < i → ns[k].parent = (p : Int) → a[k]? = some (childL ((modelL ns[p].name).getD []) ns[k].name)
theorem nodE_model {ns : List Nod} {i : Nat} {cs : List Chd} (hi : i < ns.length) (ha : ¬ (0 < i ∧ ns[i].attrs ≠ [])) (hm : modelL ns[i].name = some cs) : nodE ns i = if blankB ns[i].text && fillB cs (namesK ns i) then 0 else 13 := by
  unfold nodE
  rw [List.getElem?_eq_getElem hi]
  simp only [hm]
  rw [if_neg ha]
theorem nodE_leaf {ns : List Nod} {i p : Nat} (hi : i < ns.length) (hp : p < ns.length) (ha : ¬ (0 < i ∧ ns[i].attrs ≠ [])) (hm : modelL ns[i].name = none) (hpar : ns[i].parent = (p : Int)) : nodE ns i = if kidsL ns (i : Int) ≠ [] then 13 else chkE (childL ((modelL ns[p].name).getD []) ns[i].name).ty (childL ((modelL ns[p].name).getD []) ns[i].name).low (childL ((modelL ns[p].name).getD []) ns[i].name).top ns[i].text := by
  unfold nodE
  rw [List.getElem?_eq_getElem hi]
  simp only [hm]
  rw [if_neg ha, hpar, name_at hp]
theorem nodE_attrs {ns : List Nod} {i : Nat} (hi : i < ns.length) (h0 : 0 < i) (ha : ns[i].attrs ≠ []) : nodE ns i = 13 := by
  unfold nodE
  rw [List.getElem?_eq_getElem hi]
  simp only
  rw [if_pos ⟨h0, ha⟩]
theorem as_zero (ns : List Nod) (a : List Chd) : AsOk ns a 0 := fun _ _ _ _ h _ => absurd h (Nat.not_lt_zero _)
theorem as_fill {ns : List Nod} {a a' : List Chd} {i : Nat} {cs : List Chd} (hi : i < ns.length) (h : AsOk ns a i) (hm : modelL ns[i].name = some cs) (h1 : ∀ k ∈ kidsL ns (i : Int), a'[k]? = some (childL cs (nameAt ns (k : Int)))) (h2 : ∀ k, k ∉ kidsL ns (i : Int) → a'[k]? = a[k]?) : AsOk ns a' (i + 1) := by
  intro k p hk hp hlt hpar
  by_cases hpi : p = i
  · subst hpi
    rw [h1 k ((kid_in hi).2 ⟨hk, hpar⟩), hm, name_at hk]
    rfl
  · rw [h2 k (fun hin => by obtain ⟨_, e⟩ := (kid_in hi).1 hin; rw [hpar] at e; exact hpi (by omega))]
    exact h k p hk hp (by omega) hpar
theorem as_leaf {ns : List Nod} {a : List Chd} {i : Nat} (hi : i < ns.length) (h : AsOk ns a i) (hk0 : kidsL ns (i : Int) = []) : AsOk ns a (i + 1) := by
  intro k p hk hp hlt hpar
  by_cases hpi : p = i
  · subst hpi
    have := (kid_in hi).2 ⟨hk, hpar⟩
    rw [hk0] at this
    cases this
  · exact h k p hk hp (by omega) hpar
end Go.Proofs.YtbfodbejdaafaaaGreatDoor
