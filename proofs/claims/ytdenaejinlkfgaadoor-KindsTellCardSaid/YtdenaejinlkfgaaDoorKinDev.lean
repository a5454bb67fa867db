/- Package kinds' table, as it is laid. No program. -/
import Derived.Test.YtdenaejinlkfgaaDoorBase
namespace Go.Proofs.YtdenaejinlkfgaaDoor
set_option linter.unusedVariables false

/-- a row of the table: kind, code, number, what it must have, what it may have -/
structure DRow where
  kind : Int
  code : ByteArray
  mti : ByteArray
  must : Nat
  may : Nat
def DRow.cells (r : DRow) : List Value := [.int .i64 r.kind, .string r.code, .string r.mti, .int .u16 (r.must : Int), .int .u16 (r.may : Int)]
def DRow.val (r : DRow) : Value := .agg #[.int .i64 r.kind, .string r.code, .string r.mti, .int .u16 (r.must : Int), .int .u16 (r.may : Int)]
def devT : List DRow := [⟨1, ⟨#[65, 85, 84, 81]⟩, ⟨#[50, 49, 48, 48]⟩, 27, 1092⟩, ⟨2, ⟨#[65, 85, 84, 80]⟩, ⟨#[50, 49, 49, 48]⟩, 128, 1063⟩, ⟨3, ⟨#[67, 77, 80, 86]⟩, ⟨#[50, 50, 50, 48]⟩, 27, 740⟩, ⟨4, ⟨#[67, 77, 80, 75]⟩, ⟨#[50, 50, 51, 48]⟩, 128, 4⟩, ⟨5, ⟨#[82, 86, 82, 65]⟩, ⟨#[50, 52, 50, 48]⟩, 771, 28⟩, ⟨6, ⟨#[82, 86, 82, 82]⟩, ⟨#[50, 52, 51, 48]⟩, 128, 4⟩, ⟨7, ⟨#[82, 67, 76, 81]⟩, ⟨#[50, 53, 50, 48]⟩, 2, 0⟩, ⟨8, ⟨#[82, 67, 76, 80]⟩, ⟨#[50, 53, 51, 48]⟩, 128, 2⟩, ⟨9, ⟨#[68, 71, 78, 81]⟩, ⟨#[50, 56, 48, 48]⟩, 0, 0⟩, ⟨10, ⟨#[68, 71, 78, 80]⟩, ⟨#[50, 56, 49, 48]⟩, 128, 0⟩, ⟨11, ⟨#[82, 74, 67, 84]⟩, ⟨#[50, 54, 52, 52]⟩, 256, 0⟩]
def dNone : DRow := ⟨0, ⟨#[]⟩, ⟨#[]⟩, 0, 0⟩
def dRow (k : Nat) : DRow := devT.getD k dNone
def devV : List Value := devT.flatMap DRow.cells
/-- the first row from k on, of n, of which that is so -/
def dFirstF (p : Nat → Bool) : Nat → Nat → DRow
  | _, 0 => dNone
  | k, n + 1 => if p k then dRow k else dFirstF p (k + 1) n
def dFirst (p : Nat → Bool) : DRow := dFirstF p 0 11
theorem dFirstF_at (p : Nat → Bool) : ∀ (n k j : Nat), j < n → (∀ i, i < j → p (k + i) = false) → p (k + j) = true → dFirstF p k n = dRow (k + j)
  | 0, _, _, h, _, _ => by omega
  | n + 1, k, 0, _, _, h => by rw [dFirstF, if_pos (by simpa using h)]; rfl
  | n + 1, k, j + 1, hj, h0, h => by
    have h1 := h0 0 (by omega)
    rw [Nat.add_zero] at h1
    rw [dFirstF, h1, if_neg (by decide), dFirstF_at p n (k + 1) j (by omega) (fun i hi => by have := h0 (i + 1) (by omega); rw [show k + 1 + i = k + (i + 1) by omega]; exact this) (by rw [show k + 1 + j = k + (j + 1) by omega]; exact h)]
    congr 1
    omega
theorem dFirstF_none (p : Nat → Bool) : ∀ (n k : Nat), (∀ i, i < n → p (k + i) = false) → dFirstF p k n = dNone
  | 0, _, _ => rfl
  | n + 1, k, h => by
    have h1 := h 0 (by omega)
    rw [Nat.add_zero] at h1
    rw [dFirstF, h1, if_neg (by decide)]
    exact dFirstF_none p n (k + 1) (fun i hi => by have := h (i + 1) (by omega); rw [show k + 1 + i = k + (i + 1) by omega]; exact this)
theorem dFirst_at {p : Nat → Bool} {k : Nat} (hk : k < 11) (h0 : ∀ j, j < k → p j = false) (h : p k = true) : dFirst p = dRow k := by
  have := dFirstF_at p 11 0 k hk (fun i hi => by rw [Nat.zero_add]; exact h0 i hi) (by rw [Nat.zero_add]; exact h)
  rwa [Nat.zero_add] at this
theorem dFirst_none {p : Nat → Bool} (h0 : ∀ j, j < 11 → p j = false) : dFirst p = dNone := dFirstF_none p 11 0 (fun i hi => by rw [Nat.zero_add]; exact h0 i hi)
end Go.Proofs.YtdenaejinlkfgaaDoor
