/- The texts EleLaid, joined. -/
import Derived.Test.YthlgnmgjfgbffaaGreatDoorL06
import Derived.Test.YthlgnmgjfgbffaaGreatDoorL50
/- What a row lists of package element's table, as cells. -/
namespace Go.Proofs.YthlgnmgjfgbffaaGreatDoor
open Go.RowKit
set_option linter.unusedVariables false

def FRow.lits (r : FRow) : List Lit := [.int .i64 r.no, .int .i64 r.kind, .int .i64 (r.dig : Int), .int .i64 (r.top : Int), .bool r.spare]
def eleData : DataW Unit := .agg (elT.map fun r => .agg (r.lits.map DataW.lit))
/-- a number, a text, or a truth -/
def litV2 : Lit → Value
  | .int k n => .int k n
  | .string s => .string ⟨s.toArray⟩
  | .bool b => .bool b
  | _ => .nilIface
def plainT2 (P : Program) (t : TypeId) : Prop := (∃ k, P.underlying t = some (.int k)) ∨ P.underlying t = some .string ∨ P.underlying t = some .bool
section
variable {H : Type} {enc : TypeId × Value → H} {P : Program} {w : World} {base : Nat} {sp : Nat → Bool} {held : Bool}
theorem plain_trod2 {fuel : Nat} {t : TypeId} {cs : List Value} {l : Lit} {p : List MemPlace} (ht : plainT2 P t) (h : DataW.trod enc P w base sp held fuel t cs = some (.lit l, p)) : cs = [litV2 l] := by
  rcases ht with ⟨k, ht⟩ | ht | ht
  · obtain ⟨n, rfl, hx, _⟩ := DataW.trod_int ht h
    injection hx with h1 h2
    injection h1 with h1
    subst h1
    rfl
  · obtain ⟨s, rfl, hx, _⟩ := DataW.trod_string ht h
    injection hx with h1 h2
    injection h1 with h1
    subst h1
    rfl
  · obtain ⟨b, rfl, hx⟩ := DataW.trod_bool ht h
    injection hx with h1 h2
    injection h1 with h1
    subst h1
    rfl
/-- a struct of plain fields of one cell each -/
theorem plain_struct2 {fuel : Nat} {t : TypeId} {fs : Array Field} {cs : List Value} {ls : List Lit} {p : List MemPlace} (ht : P.underlying t = some (.struct fs))
    (hf : ∀ (i : Nat) (f : Field), fs[i]? = some f → plainT2 P f.type ∧ f.offset = i ∧ P.cellsOf f.type = 1) (hct : P.cellsOf t = fs.size)
    (h : DataW.trod enc P w base sp held fuel t cs = some (.agg (ls.map DataW.lit), p)) : cs = ls.map litV2 := by
  obtain ⟨xs, n, rfl, hx, hl, hxl, hall⟩ := DataW.trod_struct ht h
  have hxs : xs.map (·.1) = ls.map (DataW.lit : Lit → DataW H) := by
    have := congrArg Prod.fst hx
    simpa using this.symm
  have hzl : ls.length = fs.size := by
    have := congrArg List.length hxs
    simp at this
    omega
  apply List.ext_getElem?
  intro i
  by_cases hi : i < fs.size
  · obtain ⟨hu, ho, hc⟩ := hf i fs[i] (by simp [hi])
    have h1 := hall i fs[i] (by simp [hi])
    obtain ⟨b, hb⟩ : ∃ b, xs[i]? = some b := ⟨xs[i]'(by omega), List.getElem?_eq_getElem (by omega)⟩
    have h3 : (xs.map (·.1))[i]? = some b.1 := by simp [hb]
    rw [hxs, List.getElem?_map, List.getElem?_eq_getElem (by omega), Option.map_some, Option.some.injEq] at h3
    rw [hb, ho, hc] at h1
    have h4 := plain_trod2 (l := ls[i]) (p := b.2) hu (by rw [h1, h3])
    have h2 : cs[i]? = some (litV2 ls[i]) := by
      have := congrArg (·[0]?) h4
      simpa [List.getElem?_take, List.getElem?_drop] using this
    rw [h2, List.getElem?_map, List.getElem?_eq_getElem (by omega)]
    rfl
  · rw [List.getElem?_eq_none (by omega), List.getElem?_eq_none (by simp; omega)]
end
theorem flits_cells (r : FRow) : r.lits.map litV2 = r.cells := by simp [FRow.lits, FRow.cells, litV2]
theorem eleV_at (j : Nat) (hj : j < 120) : eleV[j]? = ((elRow (j / 5)).cells)[j % 5]? := by
  have h : ∀ n : Fin 120, eleV[n.val]? = ((elRow (n.val / 5)).cells)[n.val % 5]? := by
    intro n
    match n with
    | ⟨n, hn⟩ =>
      have h2 : n / 5 < 24 := by omega
      have e1 : n = n / 5 * 5 + n % 5 := by omega
      have h3 : n % 5 < 5 := by omega
      obtain ⟨a, ha⟩ : ∃ a, n / 5 = a := ⟨_, rfl⟩
      obtain ⟨b, hb⟩ : ∃ b, n % 5 = b := ⟨_, rfl⟩
      simp only [ha, hb] at *
      subst e1
      have h' : b = 0 ∨ b = 1 ∨ b = 2 ∨ b = 3 ∨ b = 4 := by omega
      have h : a = 0 ∨ a = 1 ∨ a = 2 ∨ a = 3 ∨ a = 4 ∨ a = 5 ∨ a = 6 ∨ a = 7 ∨ a = 8 ∨ a = 9 ∨ a = 10 ∨ a = 11 ∨ a = 12 ∨ a = 13 ∨ a = 14 ∨ a = 15 ∨ a = 16 ∨ a = 17 ∨ a = 18 ∨ a = 19 ∨ a = 20 ∨ a = 21 ∨ a = 22 ∨ a = 23 := by omega
      rcases h with rfl | rfl | rfl | rfl | rfl | rfl | rfl | rfl | rfl | rfl | rfl | rfl | rfl | rfl | rfl | rfl | rfl | rfl | rfl | rfl | rfl | rfl | rfl | rfl <;> rcases h' with rfl | rfl | rfl | rfl | rfl <;> rfl
  exact h ⟨j, hj⟩
theorem elT_at (i : Nat) (hi : i < 24) : elT[i]? = some (elRow i) := by
  unfold elRow
  rw [List.getD_eq_getElem?_getD, List.getElem?_eq_getElem (by exact hi)]
  rfl
theorem ele_reads {W : World} (h : Lib.VarReads Tryz.prog W "comptoir/element.table" eleData) : W.rangeAt 2 0 eleV ∧ 2 < W.heap.size := by
  obtain ⟨g, t, cs, fuel, p, hg, hty, hvar, hd⟩ := h
  obtain rfl := Option.some.inj ((show Tryz.prog.globalNamed "comptoir/element.table" = some 2 by kernel_rfl).symm.trans hg)
  obtain rfl := Option.some.inj ((show (Tryz.prog.globals[2]?).map (·.type) = some 224 by kernel_rfl).symm.trans hty)
  have hr : W.rangeAt 2 0 eleV := by
    intro j v hv
    have hj : j < 120 := (List.getElem?_eq_some_iff.1 hv).1
    obtain ⟨fuel', d, q, hdi, he⟩ := Lib.array_elem Tryz.underlying224 hd (j / 5) (by omega)
    rw [List.getElem?_map, elT_at (j / 5) (by omega), Option.map_some, Option.some.injEq] at hdi
    subst hdi
    have hc5 : Tryz.prog.cellsOf 177 = 5 := by kernel_rfl
    rw [hc5] at he
    have hcs := plain_struct2 Tryz.underlying177 (fun i f hf => by
      match i, hf with
      | 0, hf => simp at hf; subst hf; exact ⟨.inl ⟨.i64, by kernel_rfl⟩, rfl, by kernel_rfl⟩
      | 1, hf => simp at hf; subst hf; exact ⟨.inl ⟨.i64, by kernel_rfl⟩, rfl, by kernel_rfl⟩
      | 2, hf => simp at hf; subst hf; exact ⟨.inl ⟨.i64, by kernel_rfl⟩, rfl, by kernel_rfl⟩
      | 3, hf => simp at hf; subst hf; exact ⟨.inl ⟨.i64, by kernel_rfl⟩, rfl, by kernel_rfl⟩
      | 4, hf => simp at hf; subst hf; exact ⟨.inr (.inr (by kernel_rfl)), rfl, by kernel_rfl⟩
      | i + 5, hf => simp at hf) (by rw [hc5]; rfl) he
    rw [flits_cells] at hcs
    have h1 := congrArg (·[j % 5]?) hcs
    simp only [List.getElem?_take, List.getElem?_drop] at h1
    rw [if_pos (by omega), show j / 5 * 5 + j % 5 = j by omega, ← eleV_at j hj, hv] at h1
    rw [Nat.zero_add, World.var?_cell hg hvar j, ← Array.getElem?_toList]
    exact h1
  exact ⟨hr, World.block_lt_of_cell? _ _ (hr 0 _ (show eleV[0]? = some _ from rfl))⟩
end Go.Proofs.YthlgnmgjfgbffaaGreatDoor
