/- Numbers in a row that stand a test: plain functions, no program. -/
import Derived.Test.YtcjfikeephbceaaBmMath3
import Derived.Test.YtcjfikeephbceaaHelpBool
namespace Go.Proofs.Ytcjfikeephbceaa
set_option linter.unusedVariables false

/-- the numbers from low on, k of them, that stand a test -/
def pickK (p : Nat → Bool) (low k : Nat) : List Int := ((List.range k).map fun i => ((low + i : Nat) : Int)).filter fun n => p n.toNat
theorem pickK_yes (p : Nat → Bool) (low k : Nat) (h : p (low + k) = true) : pickK p low (k + 1) = pickK p low k ++ [((low + k : Nat) : Int)] := by
  unfold pickK
  rw [List.range_succ, List.map_append, List.filter_append, List.map_cons, List.map_nil, List.filter_cons, Int.toNat_natCast, h]
  simp
theorem pickK_no (p : Nat → Bool) (low k : Nat) (h : p (low + k) = false) : pickK p low (k + 1) = pickK p low k := by
  unfold pickK
  rw [List.range_succ, List.map_append, List.filter_append, List.map_cons, List.map_nil, List.filter_cons, Int.toNat_natCast, h]
  simp
theorem pickK_len (p : Nat → Bool) (low k : Nat) : (pickK p low k).length ≤ k := by
  unfold pickK
  exact Nat.le_trans (List.length_filter_le _ _) (by simp)
theorem pickK_mem (p : Nat → Bool) (low k : Nat) (x : Int) : x ∈ pickK p low k ↔ ∃ n : Nat, x = (n : Int) ∧ low ≤ n ∧ n < low + k ∧ p n = true := by
  unfold pickK
  rw [List.mem_filter, List.mem_map]
  constructor
  · rintro ⟨⟨i, hi, rfl⟩, h⟩
    rw [List.mem_range] at hi
    exact ⟨low + i, rfl, by omega, by omega, by rwa [Int.toNat_natCast] at h⟩
  · rintro ⟨n, rfl, h1, h2, h3⟩
    exact ⟨⟨n - low, by rw [List.mem_range]; omega, by omega⟩, by rwa [Int.toNat_natCast]⟩
theorem pickK_pair (p : Nat → Bool) (low k : Nat) : (pickK p low k).Pairwise (· < ·) := by
  unfold pickK
  apply List.Pairwise.filter
  rw [List.pairwise_map]
  exact List.Pairwise.imp (fun h => by omega) List.pairwise_lt_range
/-- they may be in a map -/
theorem pickK_rises (p : Nat → Bool) (low k : Nat) (h1 : 2 ≤ low) (h2 : low + k ≤ 129) (h65 : low + k ≤ 65 ∨ 66 ≤ low ∨ p 65 = false) : risesB (pickK p low k) = true := by
  refine (risesB_iff _).2 ⟨pickK_pair p low k, fun x hx => ?_⟩
  obtain ⟨n, rfl, a1, a2, a3⟩ := (pickK_mem p low k x).1 hx
  rw [mayB_iff]
  refine ⟨by omega, by omega, ?_⟩
  intro e
  have e' : n = 65 := by omega
  subst e'
  rcases h65 with h | h | h
  · omega
  · omega
  · rw [h] at a3
    cases a3
theorem getD_lt {l : List Bool} {i : Nat} (h : i < l.length) : l.getD i false = l[i] := by
  rw [List.getD, List.getElem?_eq_getElem h]
  rfl
end Go.Proofs.Ytcjfikeephbceaa
