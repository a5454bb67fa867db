/- The statements' own tokens: one attribute. -/
import Derived.Test.YthkbdbgmfolpeaaDoorRefTok8
import Derived.Test.YthkbdbgmfolpeaaDoorTokItems
import Derived.Lib.QuietBelow
namespace Go.Proofs.YthkbdbgmfolpeaaDoor
open Go.RowKit
set_option maxHeartbeats 1000000
set_option linter.unusedVariables false

theorem drop_while_at (p : UInt8 → Bool) (L : List UInt8) (a : Nat) : L.drop (a + ((L.drop a).takeWhile p).length) = (L.drop a).dropWhile p := by
  rw [← List.drop_drop]
  have h := List.takeWhile_append_dropWhile (p := p) (l := L.drop a)
  have h2 := congrArg (List.drop ((L.drop a).takeWhile p).length) h
  rw [List.drop_left] at h2
  exact h2.symm
/-- a value's bytes: up to its mark, or < -/
def inVal (mark c : UInt8) : Bool := decide (c ≠ mark ∧ c.toNat ≠ 60)
/-- an attribute behind its name -/
def attrQ (n x : List UInt8) : Option ((List UInt8 × List UInt8) × List UInt8) :=
  match isP [61] x with
  | none => none
  | some l1 => match l1.dropWhile isBl with
    | [] => none
    | mark :: r => if mark.toNat ≠ 34 ∧ mark.toNat ≠ 39 then none else
      match r.dropWhile (inVal mark) with
      | [] => none
      | c :: rest => if c ≠ mark then none else (valV (r.takeWhile (inVal mark))).map fun v => ((n, v), rest)
theorem attrP_bad {used : List (List UInt8 × List UInt8)} {l : List UInt8} (h : nameOk (l.takeWhile isWi) = false) : attrP used l = none := by
  unfold attrP
  simp only [h, Bool.not_false, Bool.true_or, if_true]
theorem attrP_dup {used : List (List UInt8 × List UInt8)} {l : List UInt8} (j : Nat) (hj : j < used.length) (h : used[j].1 = nameR l) : attrP used l = none := by
  cases hn : nameOk (l.takeWhile isWi) with
  | false => exact attrP_bad hn
  | true =>
    unfold nameR at h
    rw [hn] at h
    simp only [if_true] at h
    have : used.any (fun a => a.1 == l.takeWhile isWi) = true := by
      rw [List.any_eq_true]
      exact ⟨used[j], List.getElem_mem _, by rw [h]; exact beq_self_eq_true _⟩
    unfold attrP
    simp only [hn, this, Bool.not_true, Bool.or_true, if_true]
theorem attrP_new {used : List (List UInt8 × List UInt8)} {l : List UInt8} (hn : nameOk (l.takeWhile isWi) = true) (h : ∀ j (hj : j < used.length), used[j].1 ≠ nameR l) : attrP used l = attrQ (nameR l) ((l.dropWhile isWi).dropWhile isBl) := by
  have hr : nameR l = l.takeWhile isWi := by unfold nameR; rw [hn]; rfl
  rw [hr] at h ⊢
  have : used.any (fun a => a.1 == l.takeWhile isWi) = false := by
    rw [List.any_eq_false]
    intro x hx
    obtain ⟨j, hj, rfl⟩ := List.getElem_of_mem hx
    rw [beq_iff_eq]
    exact h j hj
  unfold attrP
  simp only [hn, this, Bool.not_true, Bool.or_false, Bool.false_eq_true, if_false]
  rfl
theorem nameR_nil {l : List UInt8} : nameR l = [] ↔ nameOk (l.takeWhile isWi) = false := by
  unfold nameR
  cases hn : nameOk (l.takeWhile isWi) with
  | false => simp
  | true =>
    simp only [if_true]
    constructor
    · intro e
      rw [e] at hn
      cases hn
    · intro e; cases e
theorem attrQ_eq {n x : List UInt8} (h : isP [61] x = none) : attrQ n x = none := by
  unfold attrQ
  rw [h]
theorem attrQ_end {n x l1 : List UInt8} (h : isP [61] x = some l1) (h2 : l1.dropWhile isBl = []) : attrQ n x = none := by
  unfold attrQ
  rw [h]
  simp only [h2]
theorem attrQ_mark {n x l1 r : List UInt8} {m : UInt8} (h : isP [61] x = some l1) (h2 : l1.dropWhile isBl = m :: r) (h3 : m.toNat ≠ 34 ∧ m.toNat ≠ 39) : attrQ n x = none := by
  unfold attrQ
  rw [h]
  simp only [h2]
  rw [if_pos h3]
theorem attrQ_good {n x l1 r : List UInt8} {m : UInt8} (h : isP [61] x = some l1) (h2 : l1.dropWhile isBl = m :: r) (h3 : m.toNat = 34 ∨ m.toNat = 39) : attrQ n x = match r.dropWhile (inVal m) with
      | [] => none
      | c :: rest => if c ≠ m then none else (valV (r.takeWhile (inVal m))).map fun v => ((n, v), rest) := by
  unfold attrQ
  rw [h]
  simp only [h2]
  rw [if_neg (by omega)]
theorem bstr_self (R : ByteArray) : bstr R.data.toList = R := rfl
end Go.Proofs.YthkbdbgmfolpeaaDoor
