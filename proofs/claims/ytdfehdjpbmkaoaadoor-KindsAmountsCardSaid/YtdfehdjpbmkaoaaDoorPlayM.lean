/- Messages that plain ones come near to: plain functions. No program. -/
import Derived.Test.YtdfehdjpbmkaoaaDoorStr
import Derived.Test.YtdfehdjpbmkaoaaDoorDigMath
import Derived.Test.YtdfehdjpbmkaoaaDoorTxtMath
import Derived.Test.YtdfehdjpbmkaoaaDoorSimMath
namespace Go.Proofs.YtdfehdjpbmkaoaaDoor
set_option linter.unusedVariables false

theorem pl_nil_ie (l : List UInt8) : (l == []) = l.isEmpty := by cases l <;> rfl
/-- what stands the test, so many at most -/
def pickF (p : List UInt8 → UInt8 → Bool) (top : Nat) : List UInt8 → List UInt8 → List UInt8
  | acc, [] => acc
  | acc, x :: r => if acc.length < top then pickF p top (if p acc x then acc ++ [x] else acc) r else acc
theorem pickF_full {p : List UInt8 → UInt8 → Bool} {top : Nat} {acc : List UInt8} (l : List UInt8) (h : top ≤ acc.length) : pickF p top acc l = acc := by
  cases l with
  | nil => rfl
  | cons x r => rw [pickF, if_neg (by omega)]
theorem pickF_step {p : List UInt8 → UInt8 → Bool} {top : Nat} {acc : List UInt8} {x : UInt8} {r : List UInt8} (h : acc.length < top) : pickF p top acc (x :: r) = pickF p top (if p acc x then acc ++ [x] else acc) r := by
  rw [pickF, if_pos h]
theorem pickF_len {p : List UInt8 → UInt8 → Bool} {top : Nat} : ∀ (l acc : List UInt8), acc.length ≤ top → (pickF p top acc l).length ≤ top
  | [], acc, h => h
  | x :: r, acc, h => by
    rw [pickF]
    split
    · refine pickF_len r _ ?_
      split
      · simp; omega
      · exact h
    · exact h
theorem pickF_all {p : List UInt8 → UInt8 → Bool} {q : UInt8 → Bool} {top : Nat} (hq : ∀ a x, p a x = true → q x = true) : ∀ (l acc : List UInt8), acc.all q = true → (pickF p top acc l).all q = true
  | [], acc, h => h
  | x :: r, acc, h => by
    rw [pickF]
    split
    · refine pickF_all hq r _ ?_
      split
      · rename_i hp
        rw [List.all_append, h]
        simp [hq _ _ hp]
      · exact h
    · exact h
/-- filled up -/
def fillF (c : UInt8) (low : Nat) (l : List UInt8) : List UInt8 := l ++ List.replicate (low - l.length) c
theorem fillF_len (c : UInt8) (low : Nat) (l : List UInt8) : (fillF c low l).length = max low l.length := by
  unfold fillF
  rw [List.length_append, List.length_replicate]
  omega
theorem fillF_all {q : UInt8 → Bool} {c : UInt8} {low : Nat} {l : List UInt8} (hc : q c = true) (h : l.all q = true) : (fillF c low l).all q = true := by
  unfold fillF
  rw [List.all_append, h, Bool.true_and, List.all_eq_true]
  intro x hx
  rw [List.eq_of_mem_replicate hx]
  exact hc
def digL (s : List UInt8) (low top : Nat) : List UInt8 := fillF 55 low (pickF (fun _ x => isD x) top [] s)
def alnL (s : List UInt8) (n : Nat) : List UInt8 := fillF 90 n (pickF (fun _ x => alnC x) n [] s)
/-- a sign of a text; a blank not at its head -/
def txtP (acc : List UInt8) (x : UInt8) : Bool := (decide (32 < x.toNat) && decide (x.toNat < 127)) || (decide (x.toNat = 32) && !(acc == []))
/-- without blanks at the end -/
def trimL (l : List UInt8) : List UInt8 := (l.reverse.dropWhile (fun x => x == 32)).reverse
theorem trimL_nil : trimL [] = [] := rfl
theorem trimL_blank (l : List UInt8) : trimL (l ++ [32]) = trimL l := by
  unfold trimL
  rw [List.reverse_append]
  rfl
theorem trimL_else (l : List UInt8) (x : UInt8) (h : x ≠ 32) : trimL (l ++ [x]) = l ++ [x] := by
  unfold trimL
  have hx : (x == 32) = false := by rw [beq_eq_false_iff_ne]; exact h
  rw [List.reverse_append]
  simp [hx]
def txtL0 (s : List UInt8) (top : Nat) : List UInt8 := trimL (pickF txtP top [] s)
def txtL (s : List UInt8) (top : Nat) (side : Int) : List UInt8 :=
  if side = 0 ∧ plainB s 1 top = true then s else if txtL0 s top = [] then [120] else txtL0 s top
theorem txtL_ne (s : List UInt8) (top : Nat) (side : Int) : txtL s top side ≠ [] := by
  unfold txtL
  split
  · rename_i h
    intro e
    subst e
    have := h.2
    simp [plainB] at this
    have h0 : runesN [] = 0 := rfl
    omega
  · split
    · simp
    · assumption
def nowL : List UInt8 := [50, 48, 50, 54, 48, 49, 48, 49, 49, 50, 48, 48, 48, 48]
def nowTL (s : List UInt8) : List UInt8 := if timeB s then s else nowL
/-- int(uint(v) % uint(n)) -/
def modN (v : Int) (n : Nat) : Nat := ((IntKind.u64.wrap v).tmod (n : Int)).toNat
theorem modN_lt (v : Int) (n : Nat) (h : 0 < n) (h64 : n < 18446744073709551616) : modN v n < n ∧ (IntKind.u64.wrap v).tmod (n : Int) = (modN v n : Int) := by
  obtain ⟨m, hm, he⟩ := umod v n h h64
  unfold modN
  rw [he]
  exact ⟨by omega, by omega⟩
end Go.Proofs.YtdfehdjpbmkaoaaDoor
