/- Kinds of messages: the table, and plain functions on it, no program. -/
import Derived.Test.YtdfehdjpbmkaoaaDoorStr
namespace Go.Proofs.YtdfehdjpbmkaoaaDoor
set_option linter.unusedVariables false

/-- code, number, what it must have, what it may have -/
structure KRow where
  code : ByteArray
  mti : ByteArray
  must : ByteArray
  may : ByteArray
def kinT : List KRow := [⟨{ data := #[] }, { data := #[] }, { data := #[] }, { data := #[] }⟩, ⟨{ data := #[65, 85, 84, 81] }, { data := #[50, 49, 48, 48] }, { data := #[80, 67, 84, 77] }, { data := #[82, 69, 71] }⟩, ⟨{ data := #[65, 85, 84, 80] }, { data := #[50, 49, 49, 48] }, { data := #[68] }, { data := #[80, 67, 82, 65, 71] }⟩, ⟨{ data := #[67, 77, 80, 86] }, { data := #[50, 50, 50, 48] }, { data := #[80, 67, 84, 77] }, { data := #[82, 69, 65, 79, 68] }⟩, ⟨{ data := #[67, 77, 80, 75] }, { data := #[50, 50, 51, 48] }, { data := #[68] }, { data := #[82] }⟩, ⟨{ data := #[82, 86, 82, 65] }, { data := #[50, 52, 50, 48] }, { data := #[80, 67, 79, 78] }, { data := #[82, 84, 77] }⟩, ⟨{ data := #[82, 86, 82, 82] }, { data := #[50, 52, 51, 48] }, { data := #[68] }, { data := #[82] }⟩, ⟨{ data := #[82, 67, 76, 81] }, { data := #[50, 53, 50, 48] }, { data := #[67] }, { data := #[] }⟩, ⟨{ data := #[82, 67, 76, 80] }, { data := #[50, 53, 51, 48] }, { data := #[68] }, { data := #[67] }⟩, ⟨{ data := #[68, 71, 78, 81] }, { data := #[50, 56, 48, 48] }, { data := #[] }, { data := #[] }⟩, ⟨{ data := #[68, 71, 78, 80] }, { data := #[50, 56, 49, 48] }, { data := #[68] }, { data := #[] }⟩, ⟨{ data := #[82, 74, 67, 84] }, { data := #[50, 54, 52, 52] }, { data := #[78] }, { data := #[] }⟩]
theorem kinT_len : kinT.length = 12 := rfl
def kNone : KRow := ⟨⟨#[]⟩, ⟨#[]⟩, ⟨#[]⟩, ⟨#[]⟩⟩
def kRow (k : Nat) : KRow := kinT.getD k kNone
def kAll (p : Nat → Bool) : Bool := (List.range 12).all p
theorem kAll_at {p : Nat → Bool} (h : kAll p = true) {k : Nat} (hk : k < 12) : p k = true := List.all_eq_true.1 h k (List.mem_range.2 hk)
/-- the row of a kind; an empty one -/
def rowOf (k : Int) : KRow := if 1 ≤ k ∧ k < 12 then kRow k.toNat else kNone
def cdB (k : Int) : ByteArray := (rowOf k).code
def mtB (k : Int) : ByteArray := (rowOf k).mti
/-- the first kind of which that is so -/
def kindF (p : KRow → Bool) : Nat → Nat → Int
  | _, 0 => 0
  | k, n + 1 => if p (kRow k) then (k : Int) else kindF p (k + 1) n
def kindOf (p : KRow → Bool) : Int := kindF p 1 11
def ofCode (S : ByteArray) : Int := kindOf (fun r => r.code.data.toList == S.data.toList)
def ofMti (S : ByteArray) : Int := kindOf (fun r => r.mti.data.toList == S.data.toList)
theorem kindF_at (p : KRow → Bool) : ∀ (n k j : Nat), j < n → (∀ i, i < j → p (kRow (k + i)) = false) → p (kRow (k + j)) = true → kindF p k n = ((k + j : Nat) : Int)
  | 0, _, _, h, _, _ => by omega
  | n + 1, k, 0, _, _, h => by rw [kindF, if_pos (by simpa using h)]; simp
  | n + 1, k, j + 1, hj, h0, h => by
    have h1 := h0 0 (by omega)
    rw [Nat.add_zero] at h1
    rw [kindF, h1, if_neg (by decide), kindF_at p n (k + 1) j (by omega) (fun i hi => by have := h0 (i + 1) (by omega); rw [show k + 1 + i = k + (i + 1) by omega]; exact this) (by rw [show k + 1 + j = k + (j + 1) by omega]; exact h)]
    omega
theorem kindF_none (p : KRow → Bool) : ∀ (n k : Nat), (∀ i, i < n → p (kRow (k + i)) = false) → kindF p k n = 0
  | 0, _, _ => rfl
  | n + 1, k, h => by
    have h1 := h 0 (by omega)
    rw [Nat.add_zero] at h1
    rw [kindF, h1, if_neg (by decide)]
    exact kindF_none p n (k + 1) (fun i hi => by have := h (i + 1) (by omega); rw [show k + 1 + i = k + (i + 1) by omega]; exact this)
theorem kind_at (p : KRow → Bool) {k : Nat} (h1 : 1 ≤ k) (hk : k < 12) (h0 : ∀ j, 1 ≤ j → j < k → p (kRow j) = false) (h : p (kRow k) = true) : kindOf p = (k : Int) := by
  have := kindF_at p 11 1 (k - 1) (by omega) (fun i hi => h0 (1 + i) (by omega) (by omega)) (by rw [show 1 + (k - 1) = k by omega]; exact h)
  rw [show 1 + (k - 1) = k by omega] at this
  exact this
theorem kind_none (p : KRow → Bool) (h0 : ∀ j, 1 ≤ j → j < 12 → p (kRow j) = false) : kindOf p = 0 := kindF_none p 11 1 (fun i hi => h0 (1 + i) (by omega) (by omega))
def ansI (k : Int) : Int := if 1 ≤ k ∧ k ≤ 9 ∧ k.tmod 2 = 1 then k + 1 else 0
def monB (k : Int) : Bool := decide (k = 1 ∨ k = 3)

/-! ### whether a message has what it must, and may -/
def lettersL : List UInt8 := [80, 67, 82, 77, 84, 65, 69, 68, 78, 79, 71]
/-- the letters of what is there -/
def hasF (th : List Bool) : Nat → List UInt8
  | 0 => []
  | k + 1 => hasF th k ++ (if (th[k]?).getD false then [(lettersL[k]?).getD 0] else [])
def hasL (th : List Bool) : List UInt8 := hasF th 11
def inL (l : List UInt8) (c : UInt8) : Bool := l.any (fun x => x == c)
/-- bad: an amount without a currency, a number of another exchange without its time -/
def fitsR (r : KRow) (h : List UInt8) (bad : Bool) : Int :=
  if r.code.data.toList = [] then 15 else if !r.must.data.toList.all (fun c => inL h c) then 19 else if !h.all (fun c => inL (r.must.data.toList ++ r.may.data.toList) c) then 19 else if bad then 19 else 0
theorem hasF_len (th : List Bool) : ∀ k, (hasF th k).length ≤ k
  | 0 => Nat.le_refl _
  | k + 1 => by
    have := hasF_len th k
    unfold hasF
    rw [List.length_append]
    split <;> simp <;> omega
end Go.Proofs.YtdfehdjpbmkaoaaDoor
