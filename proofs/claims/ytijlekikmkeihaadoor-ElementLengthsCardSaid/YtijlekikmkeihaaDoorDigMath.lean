/- Digits of texts, halves of bytes, and signs, as plain functions on lists of bytes, and what follows of them: no program. -/
import Derived.Test.YtijlekikmkeihaaDoorBase
import Derived.Lib.ItoaNum
namespace Go.Proofs.YtijlekikmkeihaaDoor
set_option linter.unusedVariables false

/-- a digit -/
def isD (c : UInt8) : Bool := decide (48 ≤ c.toNat) && decide (c.toNat ≤ 57)
/-- a sign of sixteen -/
def isH (c : UInt8) : Bool := isD c || (decide (65 ≤ c.toNat) && decide (c.toNat ≤ 70))
/-- what a sign stands for -/
def half (c : UInt8) : UInt8 := if isD c then c - 48 else c - 65 + 10
/-- the sign of a half -/
def sg (x : UInt8) : UInt8 := if x.toNat ≤ 9 then 48 + x else 55 + x
/-- from low to top bytes, each a digit -/
def rightB (l : List UInt8) (low top : Int) : Bool := decide (low ≤ (l.length : Int)) && (decide ((l.length : Int) ≤ top) && l.all isD)
/-- the number that digits tell -/
def numV (l : List UInt8) : Nat := l.foldl (fun v c => 10 * v + (half c).toNat) 0
/-- a byte of two signs -/
def pr (a b : UInt8) : UInt8 := half a <<< 4 ||| half b
/-- a byte of every two signs -/
def pairL : List UInt8 → List UInt8
  | a :: b :: r => pr a b :: pairL r
  | _ => []
/-- a nought ahead, if their number is odd -/
def evenL (l : List UInt8) : List UInt8 := if l.length % 2 = 1 then 48 :: l else l
/-- two signs a byte -/
def hexL : List UInt8 → List UInt8
  | [] => []
  | x :: r => sg (x >>> 4) :: sg (x &&& 15) :: hexL r

theorem isD_true {c : UInt8} : isD c = true ↔ 48 ≤ c.toNat ∧ c.toNat ≤ 57 := by simp [isD]
theorem isD_mk {c : UInt8} (h1 : 48 ≤ c.toNat) (h2 : c.toNat ≤ 57) : isD c = true := isD_true.2 ⟨h1, h2⟩
theorem isD_false {c : UInt8} (h : c.toNat < 48 ∨ 57 < c.toNat) : isD c = false := by
  rw [Bool.eq_false_iff]
  intro e
  have := isD_true.1 e
  omega
theorem half_digit {c : UInt8} (h : isD c = true) : (half c).toNat = c.toNat - 48 := by
  have h1 := isD_true.1 h
  have h3 : (48 : UInt8) ≤ c := by rw [UInt8.le_iff_toNat_le]; exact h1.1
  unfold half
  rw [if_pos h, UInt8.toNat_sub_of_le _ _ h3]
  rfl

theorem pairL_length : ∀ l : List UInt8, (pairL l).length = l.length / 2
  | [] => rfl
  | [_] => by simp [pairL]
  | a :: b :: r => by
    simp only [pairL, List.length_cons, pairL_length r]
    omega
/-- one byte more -/
theorem pairL_snoc : ∀ (k : Nat) (l : List UInt8) (a b : UInt8), l[2 * k]? = some a → l[2 * k + 1]? = some b → pairL (l.take (2 * (k + 1))) = pairL (l.take (2 * k)) ++ [pr a b]
  | 0, x :: y :: r, a, b, h1, h2 => by
    simp only [Nat.mul_zero, List.getElem?_cons_zero, Nat.zero_add, List.getElem?_cons_succ, Option.some.injEq] at h1 h2
    subst h1 h2
    simp [pairL]
  | k + 1, x :: y :: r, a, b, h1, h2 => by
    rw [show 2 * (k + 1) = 2 * k + 1 + 1 from by omega] at h1 h2
    simp only [List.getElem?_cons_succ] at h1 h2
    have ih := pairL_snoc k r a b h1 h2
    rw [show 2 * (k + 1 + 1) = 2 * (k + 1) + 1 + 1 from by omega, show 2 * (k + 1) = 2 * k + 1 + 1 from by omega]
    rw [show 2 * (k + 1) = 2 * k + 1 + 1 from by omega] at ih
    simp only [List.take_succ_cons, pairL, List.cons_append, List.cons.injEq, true_and] at ih ⊢
    exact ih
  | k, [], a, b, h1, h2 => by simp at h1
  | k, [x], a, b, h1, h2 => by simp at h2
theorem hexL_length : ∀ l : List UInt8, (hexL l).length = 2 * l.length
  | [] => rfl
  | x :: r => by simp only [hexL, List.length_cons, hexL_length r]; omega
theorem hexL_append : ∀ l m : List UInt8, hexL (l ++ m) = hexL l ++ hexL m
  | [], m => rfl
  | x :: r, m => by simp [hexL, hexL_append r m]
theorem evenL_even (l : List UInt8) : (evenL l).length % 2 = 0 := by
  unfold evenL
  split
  · simp; omega
  · omega
theorem evenL_length (l : List UInt8) : (evenL l).length = 2 * ((l.length + 1) / 2) := by
  unfold evenL
  split
  · simp; omega
  · omega

/-! ### there and back -/
theorem byte_all (p : UInt8 → Bool) (h : ∀ i : Fin 256, p (UInt8.ofNat i.val) = true) (c : UInt8) : p c = true := by
  have := h ⟨c.toNat, c.toNat_lt⟩
  simpa using this
theorem pr_sg (x : UInt8) : pr (sg (x >>> 4)) (sg (x &&& 15)) = x := by
  have := byte_all (fun x => pr (sg (x >>> 4)) (sg (x &&& 15)) == x) (by decide +kernel) x
  simpa using this
theorem isH_sg (x : UInt8) : isH (sg (x >>> 4)) = true ∧ isH (sg (x &&& 15)) = true := by
  have := byte_all (fun x => isH (sg (x >>> 4)) && isH (sg (x &&& 15))) (by decide +kernel) x
  simpa using this
theorem pairL_hexL : ∀ l : List UInt8, pairL (hexL l) = l
  | [] => rfl
  | x :: r => by simp [hexL, pairL, pr_sg, pairL_hexL r]
theorem hexL_isH : ∀ l : List UInt8, (hexL l).all isH = true
  | [] => rfl
  | x :: r => by simp only [hexL, List.all_cons, isH_sg x, hexL_isH r, Bool.and_self]
theorem sg_pr_fin : ∀ i j : Fin 10, sg (pr (UInt8.ofNat (48 + i.val)) (UInt8.ofNat (48 + j.val)) >>> 4) = UInt8.ofNat (48 + i.val) ∧ sg (pr (UInt8.ofNat (48 + i.val)) (UInt8.ofNat (48 + j.val)) &&& 15) = UInt8.ofNat (48 + j.val) := by decide +kernel
theorem isD_form {c : UInt8} (h : isD c = true) : ∃ i : Fin 10, c = UInt8.ofNat (48 + i.val) := by
  have h1 := isD_true.1 h
  refine ⟨⟨c.toNat - 48, by omega⟩, ?_⟩
  apply UInt8.toNat_inj.1
  rw [UInt8.toNat_ofNat']
  simp only
  omega
theorem sg_pr {a b : UInt8} (ha : isD a = true) (hb : isD b = true) : sg (pr a b >>> 4) = a ∧ sg (pr a b &&& 15) = b := by
  obtain ⟨i, rfl⟩ := isD_form ha
  obtain ⟨j, rfl⟩ := isD_form hb
  exact sg_pr_fin i j
theorem hexL_pairL : ∀ l : List UInt8, l.length % 2 = 0 → l.all isD = true → hexL (pairL l) = l
  | [], _, _ => rfl
  | [_], h, _ => by simp at h
  | a :: b :: r, h, hd => by
    simp only [List.all_cons, Bool.and_eq_true] at hd
    simp only [pairL, hexL, sg_pr hd.1 hd.2.1, hexL_pairL r (by simp at h; omega) hd.2.2]
theorem evenL_all {l : List UInt8} (h : l.all isD = true) : (evenL l).all isD = true := by
  unfold evenL
  split
  · rw [List.all_cons, h]
    decide
  · exact h
end Go.Proofs.YtijlekikmkeihaaDoor
