/- Elements of one byte, by their length ahead: what they read as. -/
import Derived.Test.YtijlekikmkeihaaDoorEleFill
namespace Go.Proofs.YtijlekikmkeihaaDoor
open Go.RowKit
set_option maxHeartbeats 4000000
set_option linter.unusedVariables false

def r60 : FRow := ⟨60, 3, 3, 100, true⟩
theorem f60 : elFind 60 = some r60 := by decide +kernel
theorem g60 : elGet 60 = r60 := by decide +kernel
theorem chk60 (n : Nat) (h1 : 1 ≤ n) (h2 : n ≤ 100) : chkEl 60 (List.replicate n 122) = 0 := by
  unfold chkEl
  rw [f60]
  show chkR r60 (List.replicate n 122) = 0
  unfold chkR
  have hf : fitB r60 n = true := by
    rw [fitB_iff]
    show (if (3 : Nat) = 0 then 100 else 1) ≤ n ∧ n ≤ 100
    rw [if_neg (by decide)]
    omega
  rw [List.length_replicate, hf, typ_rep r60.kind 122 n (by omega)]
  rfl
theorem wrt60 (n : Nat) (h1 : 1 ≤ n) (h2 : n ≤ 100) : wrtEl 60 (List.replicate n 122) = textR n 3 ++ List.replicate n 122 := by
  unfold wrtEl
  rw [if_pos (chk60 n h1 h2), g60, List.length_replicate]
  rfl
theorem take3 (a b c : UInt8) (x : List UInt8) : ([a, b, c] ++ x).take 3 = [a, b, c] := rfl
theorem rd60 (a b c : UInt8) (x : List UInt8) (E : Int) (h : (numE [a, b, c] = E ∧ E ≠ 0) ∨ (numE [a, b, c] = 0 ∧ E = 17 ∧ (numR [a, b, c] < 1 ∨ 100 < numR [a, b, c]))) : rdEl 60 ([a, b, c] ++ x) = (E, [], 0) := by
  unfold rdEl
  rw [f60]
  show rdR r60 ([a, b, c] ++ x) = (E, [], 0)
  rw [rd_num (r := r60) (by decide), if_neg (by show ¬ ([a, b, c] ++ x).length < 3; rw [List.length_append]; simp)]
  show (if numE (([a, b, c] ++ x).take 3) ≠ 0 then _ else if numR (([a, b, c] ++ x).take 3) < 1 ∨ 100 < numR (([a, b, c] ++ x).take 3) then _ else _) = (E, [], 0)
  rw [take3]
  rcases h with ⟨h1, h2⟩ | ⟨h1, rfl, h3⟩
  · rw [if_pos (by rw [h1]; exact h2), show ([a, b, c] ++ x).take r60.dig = [a, b, c] from rfl, h1]
  · rw [if_neg (by rw [h1]; decide), if_pos h3]
theorem rd60_000 (x : List UInt8) : rdEl 60 ([48, 48, 48] ++ x) = (17, [], 0) := rd60 _ _ _ x 17 (.inr (by decide +kernel))
theorem rd60_0x1 (x : List UInt8) : rdEl 60 ([48, 120, 49] ++ x) = (5, [], 0) := rd60 _ _ _ x 5 (.inl (by decide +kernel))
theorem rd60_101 (x : List UInt8) : rdEl 60 ([49, 48, 49] ++ x) = (17, [], 0) := rd60 _ _ _ x 17 (.inr (by decide +kernel))
theorem lit_ownM (w : World) (l : List UInt8) (n : Nat) (hl : l.length = n) (hn : n ≤ 1000) : OwnM (w.alloc (.cells (u8s l).toArray 5 (n, n + 1))) w.heap.size (.slice (some ⟨w.heap.size, 0, none⟩) n n) l := by
  subst hl
  have e1 : (u8s l).toArray.size = l.length := by simp
  have e2 : (u8s l).toArray.toList.take l.length = u8s l := by
    show List.take l.length (u8s l) = u8s l
    exact List.take_of_length_le (Nat.le_of_eq (u8s_length l))
  exact ⟨u8s_length l, .inr ⟨w.heap.size, l.length, _, _, rfl, Nat.le_refl _, heap_alloc_new w _, .inr (Nat.le_of_eq e1), Nat.le_refl _, by simp only [maxLen]; omega, e1, e2⟩⟩
end Go.Proofs.YtijlekikmkeihaaDoor
