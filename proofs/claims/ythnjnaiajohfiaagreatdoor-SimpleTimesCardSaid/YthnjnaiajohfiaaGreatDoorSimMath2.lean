/- Amounts: three ways to be none, or one; numbers fit: no program. -/
import Derived.Test.YthnjnaiajohfiaaGreatDoorSimMath
namespace Go.Proofs.YthnjnaiajohfiaaGreatDoor
set_option linter.unusedVariables false

/-- three ways -/
theorem amt_cases {l ab : List UInt8} (h1 : amtB l = true → numE ab = 0 ∧ numR ab = amtV l ∧ amtR (amtV l) = l ∧ amtE (amtV l) = 0)
    (h2 : numE ab = 0 → amtE (numR ab) = 0 → amtR (numR ab) = l → amtB l = true) :
    (numE ab = 5 ∧ amtB l = false) ∨ (numE ab = 0 ∧ amtE (numR ab) = 4 ∧ amtB l = false) ∨ (numE ab = 0 ∧ amtE (numR ab) = 0 ∧ (amtR (numR ab) == l) = amtB l ∧ (amtB l = true → numR ab = amtV l)) := by
  have e1 : numE ab = 0 ∨ numE ab = 5 := by unfold numE; split <;> simp
  have e2 : amtE (numR ab) = 0 ∨ amtE (numR ab) = 4 := by unfold amtE; split <;> simp
  cases hb : amtB l with
  | true =>
    obtain ⟨a1, a2, a3, a4⟩ := h1 hb
    refine .inr (.inr ⟨a1, by rw [a2]; exact a4, by rw [a2, a3]; simp, fun _ => a2⟩)
  | false =>
    rcases e1 with e1 | e1
    · rcases e2 with e2 | e2
      · refine .inr (.inr ⟨e1, e2, ?_, fun h => by cases h⟩)
        rw [beq_eq_false_iff_ne]
        intro h
        have := h2 e1 e2 h
        rw [hb] at this
        cases this
      · exact .inr (.inl ⟨e1, e2, rfl⟩)
    · exact .inl ⟨e1, rfl⟩
theorem numR_lt (l : List UInt8) : numR l < 18446744073709551616 := by
  unfold numR
  split
  · rename_i h
    obtain ⟨h1, h2, h3⟩ := rightB_len h
    have h4 := numV_le h3
    have h5 : 10 ^ l.length ≤ 10 ^ 18 := Nat.pow_le_pow_right (by decide) (by omega)
    have h6 : (10 : Nat) ^ 18 = 1000000000000000000 := by decide
    omega
  · omega
end Go.Proofs.YthnjnaiajohfiaaGreatDoor
