/- The texts Laid0, KinLaid, CodLaid, joined. -/
import Derived.Test.YthlgnmgjfgbffaaGreatDoorL01
import Derived.Lib.LaidU8
import Derived.Deep.MidRow
import Derived.Test.YthlgnmgjfgbffaaGreatDoorL02
/- What a row lists of plain structs, as cells. No program. -/
namespace Go.Proofs.YthlgnmgjfgbffaaGreatDoor
open Go.RowKit
set_option linter.unusedVariables false

/-- what a plain datum lies as -/
def litV : Lit → Value
  | .int k n => .int k n
  | .string s => .string ⟨s.toArray⟩
  | _ => .nilIface
def plainT (P : Program) (t : TypeId) : Prop := (∃ k, P.underlying t = some (.int k)) ∨ P.underlying t = some .string
section
variable {H : Type} {enc : TypeId × Value → H} {P : Program} {w : World} {base : Nat} {sp : Nat → Bool} {held : Bool}
theorem plain_trod {fuel : Nat} {t : TypeId} {cs : List Value} {l : Lit} {p : List MemPlace} (ht : plainT P t) (h : DataW.trod enc P w base sp held fuel t cs = some (.lit l, p)) : cs = [litV l] := by
  rcases ht with ⟨k, ht⟩ | ht
  · obtain ⟨n, rfl, hx, _⟩ := DataW.trod_int ht h
    injection hx with h1 h2
    injection h1 with h1
    subst h1
    rfl
  · obtain ⟨s, rfl, hx, _⟩ := DataW.trod_string ht h
    injection hx with h1 h2
    injection h1 with h1
    subst h1
    rfl
/-- a struct of plain fields of one cell each -/
theorem plain_struct {fuel : Nat} {t : TypeId} {fs : Array Field} {cs : List Value} {ls : List Lit} {p : List MemPlace} (ht : P.underlying t = some (.struct fs))
    (hf : ∀ (i : Nat) (f : Field), fs[i]? = some f → plainT P f.type ∧ f.offset = i ∧ P.cellsOf f.type = 1) (hct : P.cellsOf t = fs.size)
    (h : DataW.trod enc P w base sp held fuel t cs = some (.agg (ls.map DataW.lit), p)) : cs = ls.map litV := by
  obtain ⟨xs, n, rfl, hx, hl, hxl, hall⟩ := DataW.trod_struct ht h
  have hxs : xs.map (·.1) = ls.map (DataW.lit : Lit → DataW H) := by
    have := congrArg Prod.fst hx
    simpa using this.symm
  have hzl : ls.length = fs.size := by
    have := congrArg List.length hxs
    simp at this
    omega
  apply List.ext_getElem?
  intro i
  by_cases hi : i < fs.size
  · obtain ⟨hu, ho, hc⟩ := hf i fs[i] (by simp [hi])
    have h1 := hall i fs[i] (by simp [hi])
    obtain ⟨b, hb⟩ : ∃ b, xs[i]? = some b := ⟨xs[i]'(by omega), List.getElem?_eq_getElem (by omega)⟩
    have h3 : (xs.map (·.1))[i]? = some b.1 := by simp [hb]
    rw [hxs, List.getElem?_map, List.getElem?_eq_getElem (by omega), Option.map_some, Option.some.injEq] at h3
    rw [hb, ho, hc] at h1
    have h4 := plain_trod (l := ls[i]) (p := b.2) hu (by rw [h1, h3])
    have h2 : cs[i]? = some (litV ls[i]) := by
      have := congrArg (·[0]?) h4
      simpa [List.getElem?_take, List.getElem?_drop] using this
    rw [h2, List.getElem?_map, List.getElem?_eq_getElem (by omega)]
    rfl
  · rw [List.getElem?_eq_none (by omega), List.getElem?_eq_none (by simp; omega)]
end
end Go.Proofs.YthlgnmgjfgbffaaGreatDoor
/- What a row lists of package kinds' table, as cells. -/
namespace Go.Proofs.YthlgnmgjfgbffaaGreatDoor
open Go.RowKit
set_option linter.unusedVariables false

def DRow.lits (r : DRow) : List Lit := [.int .i64 r.kind, .string r.code.data.toList, .string r.mti.data.toList, .int .u16 (r.must : Int), .int .u16 (r.may : Int)]
def devData : DataW Unit := .agg (devT.map fun r => .agg (r.lits.map DataW.lit))
theorem lits_cells (r : DRow) : r.lits.map litV = r.cells := by simp [DRow.lits, DRow.cells, litV]
theorem devV_at (j : Nat) (hj : j < 55) : devV[j]? = ((dRow (j / 5)).cells)[j % 5]? := by
  have h : ∀ n : Fin 55, devV[n.val]? = ((dRow (n.val / 5)).cells)[n.val % 5]? := by
    intro n
    match n with
    | ⟨n, hn⟩ =>
      have h2 : n / 5 < 11 := by omega
      have e1 : n = n / 5 * 5 + n % 5 := by omega
      have h3 : n % 5 < 5 := by omega
      obtain ⟨a, ha⟩ : ∃ a, n / 5 = a := ⟨_, rfl⟩
      obtain ⟨b, hb⟩ : ∃ b, n % 5 = b := ⟨_, rfl⟩
      simp only [ha, hb] at *
      subst e1
      have h : a = 0 ∨ a = 1 ∨ a = 2 ∨ a = 3 ∨ a = 4 ∨ a = 5 ∨ a = 6 ∨ a = 7 ∨ a = 8 ∨ a = 9 ∨ a = 10 := by omega
      have h' : b = 0 ∨ b = 1 ∨ b = 2 ∨ b = 3 ∨ b = 4 := by omega
      rcases h with rfl | rfl | rfl | rfl | rfl | rfl | rfl | rfl | rfl | rfl | rfl <;> rcases h' with rfl | rfl | rfl | rfl | rfl <;> rfl
  exact h ⟨j, hj⟩
theorem devT_at (i : Nat) (hi : i < 11) : devT[i]? = some (dRow i) := by
  unfold dRow
  rw [List.getD_eq_getElem?_getD, List.getElem?_eq_getElem (by exact hi)]
  rfl
theorem kin_reads {W : World} (h : Lib.VarReads Tryz.prog W "comptoir/kinds.table" devData) : W.rangeAt 0 0 devV ∧ 0 < W.heap.size := by
  obtain ⟨g, t, cs, fuel, p, hg, hty, hvar, hd⟩ := h
  obtain rfl := Option.some.inj ((show Tryz.prog.globalNamed "comptoir/kinds.table" = some 0 by kernel_rfl).symm.trans hg)
  obtain rfl := Option.some.inj ((show (Tryz.prog.globals[0]?).map (·.type) = some 180 by kernel_rfl).symm.trans hty)
  have hr : W.rangeAt 0 0 devV := by
    intro j v hv
    have hj : j < 55 := (List.getElem?_eq_some_iff.1 hv).1
    obtain ⟨fuel', d, q, hdi, he⟩ := Lib.array_elem Tryz.underlying180 hd (j / 5) (by omega)
    rw [List.getElem?_map, devT_at (j / 5) (by omega), Option.map_some, Option.some.injEq] at hdi
    subst hdi
    have hc5 : Tryz.prog.cellsOf 128 = 5 := by kernel_rfl
    rw [hc5] at he
    have hcs := plain_struct Tryz.underlying128 (fun i f hf => by
      match i, hf with
      | 0, hf => simp at hf; subst hf; exact ⟨.inl ⟨.i64, by kernel_rfl⟩, rfl, by kernel_rfl⟩
      | 1, hf => simp at hf; subst hf; exact ⟨.inr (by kernel_rfl), rfl, by kernel_rfl⟩
      | 2, hf => simp at hf; subst hf; exact ⟨.inr (by kernel_rfl), rfl, by kernel_rfl⟩
      | 3, hf => simp at hf; subst hf; exact ⟨.inl ⟨.u16, by kernel_rfl⟩, rfl, by kernel_rfl⟩
      | 4, hf => simp at hf; subst hf; exact ⟨.inl ⟨.u16, by kernel_rfl⟩, rfl, by kernel_rfl⟩
      | i + 5, hf => simp at hf) (by rw [hc5]; rfl) he
    rw [lits_cells] at hcs
    have h1 := congrArg (·[j % 5]?) hcs
    simp only [List.getElem?_take, List.getElem?_drop] at h1
    rw [if_pos (by omega), show j / 5 * 5 + j % 5 = j by omega, ← devV_at j hj, hv] at h1
    rw [Nat.zero_add, World.var?_cell hg hvar j, ← Array.getElem?_toList]
    exact h1
  exact ⟨hr, World.block_lt_of_cell? _ _ (hr 0 _ (show devV[0]? = some _ from rfl))⟩
end Go.Proofs.YthlgnmgjfgbffaaGreatDoor
/- What a row lists of package codes' table, as cells. -/
namespace Go.Proofs.YthlgnmgjfgbffaaGreatDoor
open Go.RowKit
set_option linter.unusedVariables false

def ERow.lits (r : ERow) : List Lit := [.string r.action.data.toList, .string r.status.data.toList, .string r.reason.data.toList]
def codData : DataW Unit := .agg (codE.map fun r => .agg (r.lits.map DataW.lit))
theorem elits_cells (r : ERow) : r.lits.map litV = r.cells := by simp [ERow.lits, ERow.cells, litV]
theorem codV_at (j : Nat) (hj : j < 66) : codV[j]? = ((eRow (j / 3)).cells)[j % 3]? := by
  have h : ∀ n : Fin 66, codV[n.val]? = ((eRow (n.val / 3)).cells)[n.val % 3]? := by
    intro n
    match n with
    | ⟨n, hn⟩ =>
      have h2 : n / 3 < 22 := by omega
      have e1 : n = n / 3 * 3 + n % 3 := by omega
      have h3 : n % 3 < 3 := by omega
      obtain ⟨a, ha⟩ : ∃ a, n / 3 = a := ⟨_, rfl⟩
      obtain ⟨b, hb⟩ : ∃ b, n % 3 = b := ⟨_, rfl⟩
      simp only [ha, hb] at *
      subst e1
      have h : a = 0 ∨ a = 1 ∨ a = 2 ∨ a = 3 ∨ a = 4 ∨ a = 5 ∨ a = 6 ∨ a = 7 ∨ a = 8 ∨ a = 9 ∨ a = 10 ∨ a = 11 ∨ a = 12 ∨ a = 13 ∨ a = 14 ∨ a = 15 ∨ a = 16 ∨ a = 17 ∨ a = 18 ∨ a = 19 ∨ a = 20 ∨ a = 21 := by omega
      have h' : b = 0 ∨ b = 1 ∨ b = 2 := by omega
      rcases h with rfl | rfl | rfl | rfl | rfl | rfl | rfl | rfl | rfl | rfl | rfl | rfl | rfl | rfl | rfl | rfl | rfl | rfl | rfl | rfl | rfl | rfl <;> rcases h' with rfl | rfl | rfl <;> rfl
  exact h ⟨j, hj⟩
theorem codE_at (i : Nat) (hi : i < 22) : codE[i]? = some (eRow i) := by
  unfold eRow
  rw [List.getD_eq_getElem?_getD, List.getElem?_eq_getElem (by exact hi)]
  rfl
theorem cod_reads {W : World} (h : Lib.VarReads Tryz.prog W "comptoir/codes.table" codData) : W.rangeAt 1 0 codV ∧ 1 < W.heap.size := by
  obtain ⟨g, t, cs, fuel, p, hg, hty, hvar, hd⟩ := h
  obtain rfl := Option.some.inj ((show Tryz.prog.globalNamed "comptoir/codes.table" = some 1 by kernel_rfl).symm.trans hg)
  obtain rfl := Option.some.inj ((show (Tryz.prog.globals[1]?).map (·.type) = some 195 by kernel_rfl).symm.trans hty)
  have hr : W.rangeAt 1 0 codV := by
    intro j v hv
    have hj : j < 66 := (List.getElem?_eq_some_iff.1 hv).1
    obtain ⟨fuel', d, q, hdi, he⟩ := Lib.array_elem Tryz.underlying195 hd (j / 3) (by omega)
    rw [List.getElem?_map, codE_at (j / 3) (by omega), Option.map_some, Option.some.injEq] at hdi
    subst hdi
    have hc5 : Tryz.prog.cellsOf 141 = 3 := by kernel_rfl
    rw [hc5] at he
    have hcs := plain_struct Tryz.underlying141 (fun i f hf => by
      match i, hf with
      | 0, hf => simp at hf; subst hf; exact ⟨.inr (by kernel_rfl), rfl, by kernel_rfl⟩
      | 1, hf => simp at hf; subst hf; exact ⟨.inr (by kernel_rfl), rfl, by kernel_rfl⟩
      | 2, hf => simp at hf; subst hf; exact ⟨.inr (by kernel_rfl), rfl, by kernel_rfl⟩
      | i + 3, hf => simp at hf) (by rw [hc5]; rfl) he
    rw [elits_cells] at hcs
    have h1 := congrArg (·[j % 3]?) hcs
    simp only [List.getElem?_take, List.getElem?_drop] at h1
    rw [if_pos (by omega), show j / 3 * 3 + j % 3 = j by omega, ← codV_at j hj, hv] at h1
    rw [Nat.zero_add, World.var?_cell hg hvar j, ← Array.getElem?_toList]
    exact h1
  exact ⟨hr, World.block_lt_of_cell? _ _ (hr 0 _ (show codV[0]? = some _ from rfl))⟩
end Go.Proofs.YthlgnmgjfgbffaaGreatDoor
