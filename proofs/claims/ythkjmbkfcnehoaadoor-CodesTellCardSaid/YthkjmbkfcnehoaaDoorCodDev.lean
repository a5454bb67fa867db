/- Package codes' table, as it is laid. No program. -/
import Derived.Test.YthkjmbkfcnehoaaDoorBase
namespace Go.Proofs.YthkjmbkfcnehoaaDoor
set_option linter.unusedVariables false

/-- a row of the table: action, status, reason -/
structure ERow where
  action : ByteArray
  status : ByteArray
  reason : ByteArray
def ERow.cells (r : ERow) : List Value := [.string r.action, .string r.status, .string r.reason]
def ERow.val (r : ERow) : Value := .agg #[.string r.action, .string r.status, .string r.reason]
def codE : List ERow := [⟨⟨#[48, 48, 48]⟩, ⟨#[65, 80, 80, 82]⟩, ⟨#[78, 79, 82, 77]⟩⟩, ⟨⟨#[48, 48, 49]⟩, ⟨#[65, 80, 80, 82]⟩, ⟨#[73, 68, 69, 78]⟩⟩, ⟨⟨#[48, 48, 50]⟩, ⟨#[80, 65, 82, 84]⟩, ⟨#[78, 79, 82, 77]⟩⟩, ⟨⟨#[49, 48, 48]⟩, ⟨#[68, 69, 67, 76]⟩, ⟨#[78, 79, 82, 77]⟩⟩, ⟨⟨#[49, 48, 49]⟩, ⟨#[68, 69, 67, 76]⟩, ⟨#[69, 88, 80, 68]⟩⟩, ⟨⟨#[49, 48, 50]⟩, ⟨#[68, 69, 67, 76]⟩, ⟨#[70, 82, 65, 85]⟩⟩, ⟨⟨#[49, 48, 52]⟩, ⟨#[68, 69, 67, 76]⟩, ⟨#[82, 69, 83, 84]⟩⟩, ⟨⟨#[49, 48, 57]⟩, ⟨#[68, 69, 67, 76]⟩, ⟨#[77, 82, 67, 72]⟩⟩, ⟨⟨#[49, 49, 48]⟩, ⟨#[68, 69, 67, 76]⟩, ⟨#[65, 77, 78, 84]⟩⟩, ⟨⟨#[49, 49, 54]⟩, ⟨#[68, 69, 67, 76]⟩, ⟨#[73, 78, 83, 70]⟩⟩, ⟨⟨#[49, 49, 55]⟩, ⟨#[68, 69, 67, 76]⟩, ⟨#[80, 73, 78, 86]⟩⟩, ⟨⟨#[49, 49, 56]⟩, ⟨#[68, 69, 67, 76]⟩, ⟨#[78, 79, 67, 68]⟩⟩, ⟨⟨#[49, 50, 49]⟩, ⟨#[68, 69, 67, 76]⟩, ⟨#[76, 73, 77, 84]⟩⟩, ⟨⟨#[50, 48, 48]⟩, ⟨#[80, 73, 67, 75]⟩, ⟨#[78, 79, 82, 77]⟩⟩, ⟨⟨#[52, 48, 48]⟩, ⟨#[82, 86, 83, 76]⟩, ⟨#[78, 79, 82, 77]⟩⟩, ⟨⟨#[53, 48, 48]⟩, ⟨#[82, 69, 67, 78]⟩, ⟨#[78, 79, 82, 77]⟩⟩, ⟨⟨#[56, 48, 48]⟩, ⟨#[78, 69, 84, 87]⟩, ⟨#[78, 79, 82, 77]⟩⟩, ⟨⟨#[57, 48, 52]⟩, ⟨#[84, 69, 67, 72]⟩, ⟨#[70, 79, 82, 77]⟩⟩, ⟨⟨#[57, 48, 55]⟩, ⟨#[84, 69, 67, 72]⟩, ⟨#[73, 83, 83, 82]⟩⟩, ⟨⟨#[57, 48, 57]⟩, ⟨#[84, 69, 67, 72]⟩, ⟨#[66, 85, 83, 89]⟩⟩, ⟨⟨#[57, 49, 49]⟩, ⟨#[84, 69, 67, 72]⟩, ⟨#[84, 73, 77, 79]⟩⟩, ⟨⟨#[57, 49, 50]⟩, ⟨#[84, 69, 67, 72]⟩, ⟨#[68, 79, 87, 78]⟩⟩]
def eNone : ERow := ⟨⟨#[]⟩, ⟨#[]⟩, ⟨#[]⟩⟩
def eRow (k : Nat) : ERow := codE.getD k eNone
def codV : List Value := codE.flatMap ERow.cells
/-- the first row from k on, of n, of which that is so, and whether there is one -/
def eFirstF (p : Nat → Bool) : Nat → Nat → ERow × Bool
  | _, 0 => (eNone, false)
  | k, n + 1 => if p k then (eRow k, true) else eFirstF p (k + 1) n
def eFirst (p : Nat → Bool) : ERow × Bool := eFirstF p 0 22
theorem eFirstF_at (p : Nat → Bool) : ∀ (n k j : Nat), j < n → (∀ i, i < j → p (k + i) = false) → p (k + j) = true → eFirstF p k n = (eRow (k + j), true)
  | 0, _, _, h, _, _ => by omega
  | n + 1, k, 0, _, _, h => by rw [eFirstF, if_pos (by simpa using h)]; rfl
  | n + 1, k, j + 1, hj, h0, h => by
    have h1 := h0 0 (by omega)
    rw [Nat.add_zero] at h1
    rw [eFirstF, h1, if_neg (by decide), eFirstF_at p n (k + 1) j (by omega) (fun i hi => by have := h0 (i + 1) (by omega); rw [show k + 1 + i = k + (i + 1) by omega]; exact this) (by rw [show k + 1 + j = k + (j + 1) by omega]; exact h)]
    rw [show k + 1 + j = k + (j + 1) by omega]
theorem eFirstF_none (p : Nat → Bool) : ∀ (n k : Nat), (∀ i, i < n → p (k + i) = false) → eFirstF p k n = (eNone, false)
  | 0, _, _ => rfl
  | n + 1, k, h => by
    have h1 := h 0 (by omega)
    rw [Nat.add_zero] at h1
    rw [eFirstF, h1, if_neg (by decide)]
    exact eFirstF_none p n (k + 1) (fun i hi => by have := h (i + 1) (by omega); rw [show k + 1 + i = k + (i + 1) by omega]; exact this)
theorem eFirst_at {p : Nat → Bool} {k : Nat} (hk : k < 22) (h0 : ∀ j, j < k → p j = false) (h : p k = true) : eFirst p = (eRow k, true) := by
  have := eFirstF_at p 22 0 k hk (fun i hi => by rw [Nat.zero_add]; exact h0 i hi) (by rw [Nat.zero_add]; exact h)
  rwa [Nat.zero_add] at this
theorem eFirst_none {p : Nat → Bool} (h0 : ∀ j, j < 22 → p j = false) : eFirst p = (eNone, false) := eFirstF_none p 22 0 (fun i hi => by rw [Nat.zero_add]; exact h0 i hi)
end Go.Proofs.YthkjmbkfcnehoaaDoor
