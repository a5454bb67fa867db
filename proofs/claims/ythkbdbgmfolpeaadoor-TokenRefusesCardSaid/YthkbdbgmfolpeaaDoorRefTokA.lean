/- The statements' own tokens: an element's beginning. -/
import Derived.Test.YthkbdbgmfolpeaaDoorRefTok9
namespace Go.Proofs.YthkbdbgmfolpeaaDoor
open Go.RowKit
set_option maxHeartbeats 1000000
set_option linter.unusedVariables false

theorem attrQ_less {n x rest : List UInt8} {y : List UInt8 × List UInt8} (h : attrQ n x = some (y, rest)) : rest.length < x.length := by
  unfold attrQ at h
  split at h
  · cases h
  rename_i l1 h1
  have e1 := (isP_len h1).2
  have e2 := drop_while_le isBl l1
  split at h
  · cases h
  rename_i m r h2
  rw [h2] at e2
  simp only [List.length_cons, List.length_nil] at e1 e2
  split at h
  · cases h
  have e3 := drop_while_le (inVal m) r
  split at h
  · cases h
  rename_i c q h3
  rw [h3] at e3
  simp only [List.length_cons] at e3
  split at h
  · cases h
  cases hv : valV (r.takeWhile (inVal m)) with
  | none => rw [hv] at h; cases h
  | some v =>
    rw [hv] at h
    simp only [Option.map_some, Option.some.injEq, Prod.mk.injEq] at h
    rw [← h.2]
    omega
theorem attrP_less {used : List (List UInt8 × List UInt8)} {l rest : List UInt8} {y : List UInt8 × List UInt8} (h : attrP used l = some (y, rest)) : rest.length < l.length := by
  cases hn : nameOk (l.takeWhile isWi) with
  | false => rw [attrP_bad hn] at h; cases h
  | true =>
    have h2 : attrQ (l.takeWhile isWi) ((l.dropWhile isWi).dropWhile isBl) = some (y, rest) := by
      unfold attrP at h
      simp only [hn, Bool.not_true, Bool.false_or] at h
      split at h
      · cases h
      · exact h
    have e1 := attrQ_less h2
    have e2 := drop_while_le isBl (l.dropWhile isWi)
    have e3 := drop_while_le isWi l
    omega
def openV (name : List UInt8) (attrs : List (List UInt8 × List UInt8)) (l : List UInt8) : Option (Tok × List UInt8) := openF (l.length + 1) name attrs l
theorem openF_enough : ∀ (f k : Nat) (name : List UInt8) (attrs : List (List UInt8 × List UInt8)) (l : List UInt8), l.length < f → l.length < k → openF f name attrs l = openF k name attrs l := by
  intro f
  induction f with
  | zero => intro k name attrs l h; omega
  | succ f ih =>
    intro k name attrs l h1 h2
    cases k with
    | zero => omega
    | succ k =>
      unfold openF
      split
      · rfl
      split
      · rfl
      split
      · rfl
      cases ha : attrP attrs (l.dropWhile isBl) with
      | none => rfl
      | some x =>
        obtain ⟨y, r⟩ := x
        have e1 := attrP_less ha
        have e2 := drop_while_le isBl l
        exact ih k name _ r (by omega) (by omega)
theorem openV_eq (name : List UInt8) (attrs : List (List UInt8 × List UInt8)) (l : List UInt8) : openV name attrs l =
    match isP [47, 62] (l.dropWhile isBl) with
    | some r => some (⟨1, name, [], attrs, true⟩, r)
    | none => match isP [62] (l.dropWhile isBl) with
      | some r => some (⟨1, name, [], attrs, false⟩, r)
      | none => if (l.takeWhile isBl).length = 0 then none else
        match attrP attrs (l.dropWhile isBl) with
        | none => none
        | some (a, r) => openV name (attrs ++ [a]) r := by
  unfold openV
  rw [openF]
  cases isP [47, 62] (l.dropWhile isBl) with
  | some r => rfl
  | none =>
    cases isP [62] (l.dropWhile isBl) with
    | some r => rfl
    | none =>
      by_cases h0 : (l.takeWhile isBl).length = 0
      · simp only [h0, if_true]
      · simp only [h0, if_false]
        cases ha : attrP attrs (l.dropWhile isBl) with
        | none => rfl
        | some x =>
          obtain ⟨y, r⟩ := x
          have e1 := attrP_less ha
          have e2 := drop_while_le isBl l
          exact openF_enough _ _ _ _ _ (by omega) (by omega)

/-- five cells, written one behind the other -/
def put5 (w : World) (g : Nat) (a b c d e : Value) : World := ((((w.setCell ⟨g, 0, none⟩ a).setCell ⟨g, 1, none⟩ b).setCell ⟨g, 2, none⟩ c).setCell ⟨g, 3, none⟩ d).setCell ⟨g, 4, none⟩ e
theorem put5_cells {w : World} {g : Nat} {t : TypeId} {a' b' c' d' e' : Value} (h : Bk w g t [a', b', c', d', e']) (a b c d e : Value) :
    (w.setCell ⟨g, 0, none⟩ a).cell? ⟨g, 0, none⟩ = some a ∧ ((w.setCell ⟨g, 0, none⟩ a).setCell ⟨g, 1, none⟩ b).cell? ⟨g, 1, none⟩ = some b ∧ (((w.setCell ⟨g, 0, none⟩ a).setCell ⟨g, 1, none⟩ b).setCell ⟨g, 2, none⟩ c).cell? ⟨g, 2, none⟩ = some c ∧
    ((((w.setCell ⟨g, 0, none⟩ a).setCell ⟨g, 1, none⟩ b).setCell ⟨g, 2, none⟩ c).setCell ⟨g, 3, none⟩ d).cell? ⟨g, 3, none⟩ = some d ∧ (((((w.setCell ⟨g, 0, none⟩ a).setCell ⟨g, 1, none⟩ b).setCell ⟨g, 2, none⟩ c).setCell ⟨g, 3, none⟩ d).setCell ⟨g, 4, none⟩ e).cell? ⟨g, 4, none⟩ = some e :=
  ⟨(h.set_ 0 a).cell 0, ((h.set_ 0 a).set_ 1 b).cell 1, (((h.set_ 0 a).set_ 1 b).set_ 2 c).cell 2, ((((h.set_ 0 a).set_ 1 b).set_ 2 c).set_ 3 d).cell 3, (((((h.set_ 0 a).set_ 1 b).set_ 2 c).set_ 3 d).set_ 4 e).cell 4⟩
theorem cells5 {w : World} {g : Nat} {t : TypeId} {a b c d e : Value} (h : Bk w g t [a, b, c, d, e]) :
    w.cell? ⟨g, 0, none⟩ = some a ∧ w.cell? ⟨g, 1, none⟩ = some b ∧ w.cell? ⟨g, 2, none⟩ = some c ∧ w.cell? ⟨g, 3, none⟩ = some d ∧ w.cell? ⟨g, 4, none⟩ = some e ∧
    w.frozen? ⟨g, 0, none⟩ = false ∧ w.frozen? ⟨g, 1, none⟩ = false ∧ w.frozen? ⟨g, 2, none⟩ = false ∧ w.frozen? ⟨g, 3, none⟩ = false ∧ w.frozen? ⟨g, 4, none⟩ = false :=
  ⟨h.cell 0, h.cell 1, h.cell 2, h.cell 3, h.cell 4, h.frozen 0, h.frozen 1, h.frozen 2, h.frozen 3, h.frozen 4⟩
theorem put5_fr {S : Nat → Prop} {w0 w : World} {g : Nat} (h : Fr S w0 w) (hg : S g ∨ w0.heap.size ≤ g) (a b c d e : Value) : Fr S w0 (put5 w g a b c d e) :=
  ((((h.setCell hg a).setCell hg b).setCell hg c).setCell hg d).setCell hg e

end Go.Proofs.YthkbdbgmfolpeaaDoor
