/- The statements' own tokens: all of a text. -/
import Derived.Test.YthkbdbgmfolpeaaDoorRefTokB
import Derived.Test.YthkbdbgmfolpeaaDoorRefTxt2
namespace Go.Proofs.YthkbdbgmfolpeaaDoor
open Go.RowKit
set_option maxHeartbeats 1000000
set_option linter.unusedVariables false

theorem openF_less : ∀ (f : Nat) (name : List UInt8) (attrs : List (List UInt8 × List UInt8)) (l : List UInt8) (t : Tok) (rest : List UInt8), openF f name attrs l = some (t, rest) → rest.length < l.length
  | 0, _, _, _, _, _, h => by cases h
  | f + 1, name, attrs, l, t, rest, h => by
    have e2 := drop_while_le isBl l
    unfold openF at h
    split at h
    · rename_i r h1
      have := (isP_len h1).2
      simp only [Option.some.injEq, Prod.mk.injEq, List.length_cons, List.length_nil] at h this
      rw [← h.2]
      omega
    split at h
    · rename_i r h1
      have := (isP_len h1).2
      simp only [Option.some.injEq, Prod.mk.injEq, List.length_cons, List.length_nil] at h this
      rw [← h.2]
      omega
    split at h
    · cases h
    split at h
    · cases h
    rename_i x r h1
    have e1 := attrP_less h1
    have e3 := openF_less f name _ r t rest h
    omega
theorem tokP_less {c : UInt8} {r rest : List UInt8} {t : Tok} (h : tokP (c :: r) = some (t, rest)) : rest.length < (c :: r).length := by
  cases h0 : isP [60, 47] (c :: r) with
  | some l1 =>
    rw [tokP_close h0] at h
    have e1 := (isP_len h0).2
    have e2 := drop_while_le isWi l1
    have e3 := drop_while_le isBl (l1.dropWhile isWi)
    unfold closeQ at h
    split at h
    · cases h
    cases h2 : isP [62] ((l1.dropWhile isWi).dropWhile isBl) with
    | none => rw [h2] at h; cases h
    | some q =>
      have e4 := (isP_len h2).2
      rw [h2] at h
      simp only [Option.map_some, Option.some.injEq, Prod.mk.injEq] at h
      simp only [List.length_cons, List.length_nil] at e1 e4 ⊢
      rw [← h.2]
      omega
  | none =>
    cases h1 : isP [60] (c :: r) with
    | some l1 =>
      rw [tokP_open h0 h1] at h
      have e1 := (isP_len h1).2
      have e2 := drop_while_le isWi l1
      split at h
      · have e3 := openF_less _ _ _ _ _ _ h
        simp only [List.length_cons, List.length_nil] at e1 ⊢
        omega
      · cases h
    | none =>
      rw [tokP_text h0 h1] at h
      have hc : notLt c = true := by
        unfold notLt
        rw [decide_eq_true_iff]
        intro e
        have : c = 60 := UInt8.toNat_inj.1 e
        subst this
        unfold isP at h1
        simp at h1
      have e1 := drop_while_le notLt r
      cases hv : valV ((c :: r).takeWhile notLt) with
      | none => rw [hv] at h; cases h
      | some v =>
        rw [hv] at h
        simp only [Option.map_some, Option.some.injEq, Prod.mk.injEq] at h
        rw [← h.2, List.dropWhile_cons, if_pos hc]
        simp only [List.length_cons]
        omega
theorem toksF_enough : ∀ (f k : Nat) (l : List UInt8), l.length ≤ f → l.length ≤ k → toksF f l = toksF k l := by
  intro f
  induction f with
  | zero =>
    intro k l h1 h2
    have : l = [] := List.eq_nil_of_length_eq_zero (by omega)
    subst this
    cases k <;> rfl
  | succ f ih =>
    intro k l h1 h2
    cases l with
    | nil => cases k <;> rfl
    | cons c r =>
      cases k with
      | zero => simp at h2
      | succ k =>
        unfold toksF
        cases ht : tokP (c :: r) with
        | none => rfl
        | some x =>
          obtain ⟨t, rest⟩ := x
          have e1 := tokP_less ht
          simp only [List.length_cons] at e1 h1 h2
          show (toksF f rest).map _ = (toksF k rest).map _
          rw [ih k rest (by omega) (by omega)]
theorem toksV_cons (c : UInt8) (r : List UInt8) : toksV (c :: r) = match tokP (c :: r) with
    | none => none
    | some (t, rest) => (toksV rest).map (t :: ·) := by
  unfold toksV
  rw [List.length_cons, toksF]
  cases ht : tokP (c :: r) with
  | none => rfl
  | some x =>
    obtain ⟨t, rest⟩ := x
    have e1 := tokP_less ht
    simp only [List.length_cons] at e1
    show (toksF _ rest).map _ = (toksF _ rest).map _
    rw [toksF_enough _ _ rest (by omega) (Nat.le_refl _)]
theorem toksV_nil : toksV [] = some [] := rfl

end Go.Proofs.YthkbdbgmfolpeaaDoor
