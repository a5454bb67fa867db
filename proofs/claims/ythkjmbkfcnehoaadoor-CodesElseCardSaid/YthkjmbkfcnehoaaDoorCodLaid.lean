/- What a row lists of package codes' table, as cells. -/
import Derived.Test.YthkjmbkfcnehoaaDoorCodDev
import Derived.Test.YthkjmbkfcnehoaaDoorLaid0
namespace Go.Proofs.YthkjmbkfcnehoaaDoor
open Go.RowKit
set_option linter.unusedVariables false

def ERow.lits (r : ERow) : List Lit := [.string r.action.data.toList, .string r.status.data.toList, .string r.reason.data.toList]
def codData : DataW Unit := .agg (codE.map fun r => .agg (r.lits.map DataW.lit))
theorem elits_cells (r : ERow) : r.lits.map litV = r.cells := by simp [ERow.lits, ERow.cells, litV]
theorem codV_at (j : Nat) (hj : j < 66) : codV[j]? = ((eRow (j / 3)).cells)[j % 3]? := by
  have h : ∀ n : Fin 66, codV[n.val]? = ((eRow (n.val / 3)).cells)[n.val % 3]? := by
    intro n
    match n with
    | ⟨n, hn⟩ =>
      have h2 : n / 3 < 22 := by omega
      have e1 : n = n / 3 * 3 + n % 3 := by omega
      have h3 : n % 3 < 3 := by omega
      obtain ⟨a, ha⟩ : ∃ a, n / 3 = a := ⟨_, rfl⟩
      obtain ⟨b, hb⟩ : ∃ b, n % 3 = b := ⟨_, rfl⟩
      simp only [ha, hb] at *
      subst e1
      have h : a = 0 ∨ a = 1 ∨ a = 2 ∨ a = 3 ∨ a = 4 ∨ a = 5 ∨ a = 6 ∨ a = 7 ∨ a = 8 ∨ a = 9 ∨ a = 10 ∨ a = 11 ∨ a = 12 ∨ a = 13 ∨ a = 14 ∨ a = 15 ∨ a = 16 ∨ a = 17 ∨ a = 18 ∨ a = 19 ∨ a = 20 ∨ a = 21 := by omega
      have h' : b = 0 ∨ b = 1 ∨ b = 2 := by omega
      rcases h with rfl | rfl | rfl | rfl | rfl | rfl | rfl | rfl | rfl | rfl | rfl | rfl | rfl | rfl | rfl | rfl | rfl | rfl | rfl | rfl | rfl | rfl <;> rcases h' with rfl | rfl | rfl <;> rfl
  exact h ⟨j, hj⟩
theorem codE_at (i : Nat) (hi : i < 22) : codE[i]? = some (eRow i) := by
  unfold eRow
  rw [List.getD_eq_getElem?_getD, List.getElem?_eq_getElem (by exact hi)]
  rfl
theorem cod_reads {W : World} (h : Lib.VarReads Tryd.prog W "comptoir/codes.table" codData) : W.rangeAt 0 0 codV ∧ 0 < W.heap.size := by
  obtain ⟨g, t, cs, fuel, p, hg, hty, hvar, hd⟩ := h
  obtain rfl := Option.some.inj ((show Tryd.prog.globalNamed "comptoir/codes.table" = some 0 by kernel_rfl).symm.trans hg)
  obtain rfl := Option.some.inj ((show (Tryd.prog.globals[0]?).map (·.type) = some 46 by kernel_rfl).symm.trans hty)
  have hr : W.rangeAt 0 0 codV := by
    intro j v hv
    have hj : j < 66 := (List.getElem?_eq_some_iff.1 hv).1
    obtain ⟨fuel', d, q, hdi, he⟩ := Lib.array_elem Tryd.underlying46 hd (j / 3) (by omega)
    rw [List.getElem?_map, codE_at (j / 3) (by omega), Option.map_some, Option.some.injEq] at hdi
    subst hdi
    have hc5 : Tryd.prog.cellsOf 37 = 3 := by kernel_rfl
    rw [hc5] at he
    have hcs := plain_struct Tryd.underlying37 (fun i f hf => by
      match i, hf with
      | 0, hf => simp at hf; subst hf; exact ⟨.inr (by kernel_rfl), rfl, by kernel_rfl⟩
      | 1, hf => simp at hf; subst hf; exact ⟨.inr (by kernel_rfl), rfl, by kernel_rfl⟩
      | 2, hf => simp at hf; subst hf; exact ⟨.inr (by kernel_rfl), rfl, by kernel_rfl⟩
      | i + 3, hf => simp at hf) (by rw [hc5]; rfl) he
    rw [elits_cells] at hcs
    have h1 := congrArg (·[j % 3]?) hcs
    simp only [List.getElem?_take, List.getElem?_drop] at h1
    rw [if_pos (by omega), show j / 3 * 3 + j % 3 = j by omega, ← codV_at j hj, hv] at h1
    rw [Nat.zero_add, World.var?_cell hg hvar j, ← Array.getElem?_toList]
    exact h1
  exact ⟨hr, World.block_lt_of_cell? _ _ (hr 0 _ (show codV[0]? = some _ from rfl))⟩
end Go.Proofs.YthkjmbkfcnehoaaDoor
