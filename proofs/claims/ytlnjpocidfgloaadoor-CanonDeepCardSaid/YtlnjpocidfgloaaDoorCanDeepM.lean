/- CanonDeep's rows: plain functions, no program. -/
import Derived.Test.YtlnjpocidfgloaaDoorCanRight
namespace Go.Proofs.YtlnjpocidfgloaaDoor
set_option linter.unusedVariables false
set_option maxRecDepth 100000

deriving instance DecidableEq for Nod
def repC (k : Nat) (p : List UInt8) : List UInt8 := (List.replicate k p).flatten
def opC (k : Nat) : List UInt8 := repC k [60, 97, 62]
def clC (k : Nat) : List UInt8 := repC k [60, 47, 97, 62]
theorem repC_succ' (k : Nat) (p : List UInt8) : repC (k + 1) p = repC k p ++ p := by unfold repC; rw [List.replicate_succ', List.flatten_append]; simp
theorem repC_len (k : Nat) (p : List UInt8) : (repC k p).length = k * p.length := by
  induction k with
  | zero => simp [repC]
  | succ k ih => rw [repC_succ', List.length_append, ih, Nat.succ_mul]
theorem opC_len (k : Nat) : (opC k).length = k * 3 := repC_len k _
theorem clC_len (k : Nat) : (clC k).length = k * 4 := repC_len k _
/-- one in the other -/
def chF : Nat → Fo
  | 0 => .nil
  | k + 1 => .cons [97] [] [] (chF k) .nil
def chN (k : Nat) : Nod := ⟨(k : Int) - 1, [97], [], []⟩
def chL (k : Nat) : List Nod := (List.range k).map chN
theorem chL_succ (k : Nat) : chL (k + 1) = chL k ++ [chN k] := by unfold chL; rw [List.range_succ, List.map_append]; rfl
theorem chL_len (k : Nat) : (chL k).length = k := by unfold chL; simp
theorem ch_flat {k : Nat} (h : k < 37) : chL k = (chF k).flat (-1) 0 := by
  have : (List.range 37).all (fun k => decide (chL k = (chF k).flat (-1) 0)) = true := by kernel_rfl
  exact of_decide_eq_true (List.all_eq_true.1 this k (List.mem_range.2 h))
theorem ch_right {k : Nat} (h : k < 37) (h0 : 0 < k) : rightB (chL k) = decide (k ≤ 32) := by
  have : (List.range 37).all (fun k => decide (0 < k → rightB (chL k) = decide (k ≤ 32))) = true := by kernel_rfl
  exact of_decide_eq_true (List.all_eq_true.1 this k (List.mem_range.2 h)) h0
theorem ch_wr {k : Nat} (h : k < 37) : (chF (k + 1)).wr = opC k ++ [60, 97, 47, 62] ++ clC k := by
  have : (List.range 37).all (fun k => decide ((chF (k + 1)).wr = opC k ++ [60, 97, 47, 62] ++ clC k)) = true := by kernel_rfl
  exact of_decide_eq_true (List.all_eq_true.1 this k (List.mem_range.2 h))
/-- many in one -/
def flL (k : Nat) : List Nod := ⟨-1, [97], [], []⟩ :: List.replicate (k - 1) ⟨0, [98], [], []⟩
theorem flL_succ {k : Nat} (h : 1 ≤ k) : flL (k + 1) = flL k ++ [⟨0, [98], [], []⟩] := by
  obtain ⟨j, rfl⟩ : ∃ j, k = j + 1 := ⟨k - 1, by omega⟩
  unfold flL
  rw [show j + 1 + 1 - 1 = j + 1 from rfl, List.replicate_succ', show j + 1 - 1 = j from rfl]
  rfl
theorem fl_right : rightB (flL 500) = true := by kernel_rfl
theorem fl_wrong : rightB (flL 501) = false := by kernel_rfl
theorem ch_bare (k : Nat) : ∀ x ∈ chL k, x.attrs = [] ∧ x.name.length ≤ 1 ∧ x.text = [] := by
  intro x hx
  obtain ⟨i, _, rfl⟩ := List.mem_map.1 hx
  exact ⟨rfl, Nat.le_refl _, rfl⟩
theorem fl_bare (k : Nat) : ∀ x ∈ flL k, x.attrs = [] ∧ x.name.length ≤ 1 ∧ x.text = [] := by
  intro x hx
  rcases List.mem_cons.1 hx with rfl | hx
  · exact ⟨rfl, Nat.le_refl _, rfl⟩
  · obtain rfl := (List.mem_replicate.1 hx).2
    exact ⟨rfl, Nat.le_refl _, rfl⟩
end Go.Proofs.YtlnjpocidfgloaaDoor
