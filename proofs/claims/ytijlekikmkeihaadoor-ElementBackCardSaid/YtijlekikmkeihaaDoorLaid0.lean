/- What a row lists of plain structs, as cells. No program. -/
import Derived.Test.YtijlekikmkeihaaDoorBase
import Derived.Lib.LaidU8
import Derived.Deep.MidRow
namespace Go.Proofs.YtijlekikmkeihaaDoor
open Go.RowKit
set_option linter.unusedVariables false

/-- what a plain datum lies as -/
def litV : Lit → Value
  | .int k n => .int k n
  | .string s => .string ⟨s.toArray⟩
  | _ => .nilIface
def plainT (P : Program) (t : TypeId) : Prop := (∃ k, P.underlying t = some (.int k)) ∨ P.underlying t = some .string
section
variable {H : Type} {enc : TypeId × Value → H} {P : Program} {w : World} {base : Nat} {sp : Nat → Bool} {held : Bool}
theorem plain_trod {fuel : Nat} {t : TypeId} {cs : List Value} {l : Lit} {p : List MemPlace} (ht : plainT P t) (h : DataW.trod enc P w base sp held fuel t cs = some (.lit l, p)) : cs = [litV l] := by
  rcases ht with ⟨k, ht⟩ | ht
  · obtain ⟨n, rfl, hx, _⟩ := DataW.trod_int ht h
    injection hx with h1 h2
    injection h1 with h1
    subst h1
    rfl
  · obtain ⟨s, rfl, hx, _⟩ := DataW.trod_string ht h
    injection hx with h1 h2
    injection h1 with h1
    subst h1
    rfl
/-- a struct of plain fields of one cell each -/
theorem plain_struct {fuel : Nat} {t : TypeId} {fs : Array Field} {cs : List Value} {ls : List Lit} {p : List MemPlace} (ht : P.underlying t = some (.struct fs))
    (hf : ∀ (i : Nat) (f : Field), fs[i]? = some f → plainT P f.type ∧ f.offset = i ∧ P.cellsOf f.type = 1) (hct : P.cellsOf t = fs.size)
    (h : DataW.trod enc P w base sp held fuel t cs = some (.agg (ls.map DataW.lit), p)) : cs = ls.map litV := by
  obtain ⟨xs, n, rfl, hx, hl, hxl, hall⟩ := DataW.trod_struct ht h
  have hxs : xs.map (·.1) = ls.map (DataW.lit : Lit → DataW H) := by
    have := congrArg Prod.fst hx
    simpa using this.symm
  have hzl : ls.length = fs.size := by
    have := congrArg List.length hxs
    simp at this
    omega
  apply List.ext_getElem?
  intro i
  by_cases hi : i < fs.size
  · obtain ⟨hu, ho, hc⟩ := hf i fs[i] (by simp [hi])
    have h1 := hall i fs[i] (by simp [hi])
    obtain ⟨b, hb⟩ : ∃ b, xs[i]? = some b := ⟨xs[i]'(by omega), List.getElem?_eq_getElem (by omega)⟩
    have h3 : (xs.map (·.1))[i]? = some b.1 := by simp [hb]
    rw [hxs, List.getElem?_map, List.getElem?_eq_getElem (by omega), Option.map_some, Option.some.injEq] at h3
    rw [hb, ho, hc] at h1
    have h4 := plain_trod (l := ls[i]) (p := b.2) hu (by rw [h1, h3])
    have h2 : cs[i]? = some (litV ls[i]) := by
      have := congrArg (·[0]?) h4
      simpa [List.getElem?_take, List.getElem?_drop] using this
    rw [h2, List.getElem?_map, List.getElem?_eq_getElem (by omega)]
    rfl
  · rw [List.getElem?_eq_none (by omega), List.getElem?_eq_none (by simp; omega)]
end
end Go.Proofs.YtijlekikmkeihaaDoor
