/- What shows that package cursor does something: it answers true. -/
import Derived.Test.YtcbcgciebppjaaaCurRef
namespace Go.Proofs.Ytcbcgciebppjaaa
open Go.RowKit
set_option maxHeartbeats 400000
set_option linter.unusedVariables false

theorem Rd.lit (w : World) (cs : List Value) (t : TypeId) (n : Nat) (hn : cs.length = n) (hm : n ≤ maxLen) : Rd (w.alloc (.cells cs.toArray t)) (some ⟨w.heap.size, 0, none⟩) n n cs := by
  have := (Bk.new w t cs.toArray).rd (n := n) (cap := n) (Nat.le_refl _) hm (by simp; omega)
  simpa [← hn] using this

theorem awake_any (w : World) : Calls Try.prog 7 #[] w fun e w' => e = .returned (.bool true) ∧ Fr No w w' := by
  have r3 : Rd (w.alloc (.cells #[.int .u8 1, .int .u8 2, .int .u8 3] 5)) (some ⟨w.heap.size, 0, none⟩) 3 3 (u8s [1, 2, 3]) := Rd.lit w (u8s [1, 2, 3]) _ 3 rfl (by simp [maxLen])
  have r2 := fun u : World => (Rd.lit u (u8s [1, 2]) 5 2 rfl (by simp [maxLen]) : Rd (u.alloc (.cells #[.int .u8 1, .int .u8 2] 5)) (some ⟨u.heap.size, 0, none⟩) 2 2 (u8s [1, 2]))
  have R2 := Lib.hid r2
  clear r2
  have hbe : (beN [1, 2] : Int) = 258 := rfl
  have hlow : ([] ++ low 258 (held8 2)) = [1, 2] := by decide
  have HL := Lib.hid hlow
  clear hlow
  go_enter Try.func7, Try.ntmps7
  go_wp2_with (first
    | (go_at_call 9; refine (new_any _ 3 3 _ _ r3 (by omega)).mono ?_; rintro e w1 ⟨g, rfl, hg, hc1, hf1⟩)
    | (go_at_call 12; refine (number_ok g 2 [1, 2, 3] 0 _ hc1 (by omega) (by omega) (by simp)).mono ?_; rintro e w2 ⟨rfl, hc2, hf2⟩)
    | (go_at_call 16; refine (left_any g [1, 2, 3] 2 _ hc2).mono ?_; rintro e w3 ⟨rfl, hd3⟩)
    | (go_at_call 17; refine (at_any g [1, 2, 3] 2 _ (hc2.dr hd3)).mono ?_; rintro e w4 ⟨rfl, hd4⟩)
    | (go_at_call 19; refine (put_any none 0 0 [] 258 2 _ (Rd.nil_ _) (by omega) (by omega)).mono ?_; rintro e w5 ⟨r, rfl, ho5, hf5⟩; rw [HL.out] at ho5; obtain ⟨A, c, rfl, hr5, _⟩ := Rd.of_own ho5)
    | (go_at_call 15; refine (bytes_any _ _ _ _ _ _ _ _ _ (hr5.no ((Fr.refl _ _).alloc _)) (R2.out w5)).mono ?_; rintro e w6 ⟨rfl, rfl⟩))
  go_ret
  refine ⟨rfl, ?_⟩
  have h1 : Fr No w w1 := ((Fr.refl No w).alloc _).trans hf1
  have h2 : Fr No w w2 := h1.trans_new hf2 (fun i hi => .inr (by rw [show i = g from hi]; simp at hg; omega))
  exact ((((h2.dr hd3).dr hd4).trans hf5).alloc _)
end Go.Proofs.Ytcbcgciebppjaaa
