/- What strings.Trim leaves nothing of: plain functions on lists of bytes, no program. -/
import Derived.Lib.SlTrimSet
import Derived.Lib.Bytealg
namespace Go.Proofs.YtlnjpocidfgloaaDoor
set_option linter.unusedVariables false

theorem drop_while_nil (q : UInt8 → Bool) : ∀ l : List UInt8, l.dropWhile q = [] ↔ l.all q = true
  | [] => by simp
  | c :: r => by
    rw [List.dropWhile_cons, List.all_cons]
    cases h : q c with
    | true => simpa using drop_while_nil q r
    | false => simp
theorem trim_nil (l cs : List UInt8) : (Lib.trimS l cs = []) ↔ l.all (fun c => cs.contains c) = true := by
  obtain ⟨q, hq⟩ : ∃ q : UInt8 → Bool, (fun c : UInt8 => cs.contains c) = q := ⟨_, rfl⟩
  unfold Lib.trimS Lib.trimLeftS Lib.trimRightS
  rw [hq, drop_while_nil]
  have hrev : l.all q = l.reverse.all q := by rw [List.all_reverse]
  constructor
  · intro h
    rw [List.all_reverse] at h
    rw [hrev, ← drop_while_nil]
    cases hd : l.reverse.dropWhile q with
    | nil => rfl
    | cons c r =>
      rw [hd, List.all_cons] at h
      have h2 := List.head?_dropWhile_not q l.reverse
      rw [hd] at h2
      simp only [List.head?_cons] at h2
      simp [h2] at h
  · intro h
    rw [hrev, ← drop_while_nil] at h
    rw [h]
    rfl
theorem index_in (c : UInt8) : ∀ l : List UInt8, (0 ≤ Lib.indexByte l c) ↔ l.contains c = true
  | [] => by simp [Lib.indexByte]
  | b :: l => by
    have ih := index_in c l
    have hg := Lib.indexByte_ge l c
    unfold Lib.indexByte
    rw [List.contains_cons]
    by_cases hb : b = c
    · subst hb; simp
    · have h1 : (b == c) = false := by simpa using hb
      have h2 : (c == b) = false := by simpa using fun e : c = b => hb e.symm
      rw [h1, h2, Bool.false_or, ← ih]
      simp only [Bool.false_eq_true, if_false]
      split
      · rename_i h
        have : Lib.indexByte l c = -1 := by simpa using h
        rw [this]
      · rename_i h
        have : ¬ Lib.indexByte l c = -1 := by simpa using h
        omega
end Go.Proofs.YtlnjpocidfgloaaDoor
