/- The statements' own tags of bytes. -/
import Derived.Test.YtbfodbejdaafaaaRefTlv1
import Derived.Test.YtbfodbejdaafaaaPlayTagS
import Derived.Deep.CutRange
namespace Go.Proofs.Ytbfodbejdaafaaa
open Go.RowKit
set_option maxHeartbeats 2000000
set_option linter.unusedVariables false

/-- tags that were made anew -/
def TagsTo (L : List TagL) (E : Int) (w : World) (e : Ending) (w' : World) : Prop := ∃ v, e = .returned (.tuple #[v, .int .i64 E]) ∧
  OwnI 2 TagI w' w.heap.size 33 (fun i => w.heap.size ≤ i ∧ i < w'.heap.size) v L.length L ∧ Fr No w w'
theorem tags_err {w w' : World} {E : Int} (hf : Fr No w w') : TagsTo [] E w (.returned (.tuple #[.slice none 0 0, .int .i64 E])) w' := ⟨_, rfl, OwnI.nil_ _ _ _ _ _ _, hf⟩
theorem parF_at (b : List UInt8) (p : List TagL) (k : Nat) (hk : k < b.length) : parF b.length p (b.drop k) = if 20 ≤ p.length then (4, []) else match tagP (b.drop k) with
    | none => (3, [])
    | some (t, q) => if tgN t = 0 ∨ p.any (fun x => x.1 == t) = true then (18, []) else
      if (lenP q).1 ≠ 0 then ((lenP q).1, []) else
      if (lenP q).2.2.length < (lenP q).2.1 then (3, []) else parF b.length (p ++ [(t, (lenP q).2.2.take (lenP q).2.1)]) ((lenP q).2.2.drop (lenP q).2.1) := by
  obtain ⟨f, hf⟩ : ∃ f, b.length = f + 1 := ⟨b.length - 1, by omega⟩
  rw [drop_two b k hk, hf, parF_cons]
  by_cases h20 : 20 ≤ p.length
  · rw [if_pos h20, if_pos h20]
  rw [if_neg h20, if_neg h20]
  cases ht : tagP (b[k] :: b.drop (k + 1)) with
  | none => rfl
  | some x =>
    obtain ⟨t, q⟩ := x
    have h1 := tagP_less ht
    have h2 := lenP_less q
    simp only [List.length_cons, List.length_drop] at h1
    have key : parF f (p ++ [(t, (lenP q).2.2.take (lenP q).2.1)]) ((lenP q).2.2.drop (lenP q).2.1) = parF (f + 1) (p ++ [(t, (lenP q).2.2.take (lenP q).2.1)]) ((lenP q).2.2.drop (lenP q).2.1) := by
      refine parF_fuel _ _ _ _ ?_ ?_
      · rw [List.length_drop]; omega
      · rw [List.length_drop]; omega
    simp only [key]
/-- the tag at a place: cut, of one byte, of two -/
theorem tagP_at (b : List UInt8) (k : Nat) (hk : k < b.length) : (b[k].toNat % 32 = 31 ∧ b[k].toNat ≠ 255 ∧ b.length ≤ k + 1 ∧ tagP (b.drop k) = none) ∨
    (¬ (b[k].toNat % 32 = 31 ∧ b[k].toNat ≠ 255) ∧ tagP (b.drop k) = some ((b[k].toNat : Int), b.drop (k + 1))) ∨
    (∃ h : k + 1 < b.length, b[k].toNat % 32 = 31 ∧ b[k].toNat ≠ 255 ∧ tagP (b.drop k) = some (((b[k].toNat * 256 + b[k + 1].toNat : Nat) : Int), b.drop (k + 2))) := by
  rw [drop_two b k hk, tagP_cons]
  by_cases h : b[k].toNat % 32 = 31 ∧ b[k].toNat ≠ 255
  · simp only [if_pos h]
    rcases Nat.lt_or_ge (k + 1) b.length with h1 | h1
    · right; right
      refine ⟨h1, h.1, h.2, ?_⟩
      rw [drop_two b (k + 1) h1]
    · left
      refine ⟨h.1, h.2, h1, ?_⟩
      rw [List.drop_eq_nil_of_le h1]
  · right; left
    simp only [if_neg h]
    exact ⟨h, trivial⟩
theorem or_i64 (x y : Nat) (hx : x < 256) (hy : y < 256) : bits .or .i64 ((x : Int) * 256) (y : Int) = ((x * 256 + y : Nat) : Int) := by
  have e40 : (2 : Int) ^ 40 = 1099511627776 := by decide
  have n40 : (2 : Nat) ^ 40 = 1099511627776 := by decide
  have hk : ∀ n : Int, 0 ≤ n → n < 2 ^ 40 → IntKind.i64.wrap n = n := by
    intro n a b
    rw [IntKind.wrap_i64]
    omega
  have h := (bits_nat .i64 40 (by decide) hk (x * 256) y (by omega) (by omega)).2
  rw [show ((x : Int) * 256) = ((x * 256 : Nat) : Int) by omega, h]
  congr 1
  have := Nat.two_pow_add_eq_or_of_lt (i := 8) (b := y) (by omega) x
  rw [show x * 256 = 2 ^ 8 * x from by omega, this]
end Go.Proofs.Ytbfodbejdaafaaa
