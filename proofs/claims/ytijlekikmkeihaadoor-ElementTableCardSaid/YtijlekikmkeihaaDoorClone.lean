/- bytes.Clone: its contract, for every list of bytes within a slice's length. -/
import Derived.Test.YtijlekikmkeihaaDoorHelp0
namespace Go.Proofs.YtijlekikmkeihaaDoor
open Go.RowKit
set_option maxHeartbeats 400000
set_option linter.unusedVariables false

/-- bytes.Clone -/
theorem clone_any (A : Option Addr) (n c : Nat) (l : List UInt8) (w : World) (ha : Rd w A n c (u8s l)) (hn : n ≤ 140737488355328) :
    Calls Tryd.prog 31 #[.slice A n c] w fun e w' => ∃ v, e = .returned v ∧ w'.ownsRow w.heap.size 5 1 v n (u8s l) ∧ Fr No w w' := by
  cases A with
  | none =>
    obtain ⟨rfl, rfl, rfl⟩ := ha.none_
    have hnil : ∀ w : World, (binOp .eql 22 (.slice none 0 0) (.slice none 0 0)).run Tryd.prog w = .ok (.bool true) w := fun w => Lib.run_eql_slice_nil w _ _ none 0 0 0 0 Tryd.underlying22
    go_enter Tryd.func31, Tryd.ntmps31
    go_wp2
    go_ret
    exact ⟨_, rfl, World.ownsRow_nil _ _ _ _, Fr.refl _ _⟩
  | some ad =>
    have hnil : ∀ w : World, (binOp .eql 22 (.slice (some ad) n c) (.slice none 0 0)).run Tryd.prog w = .ok (.bool false) w := fun w => Lib.run_eql_slice_nil w _ _ (some ad) n c 0 0 Tryd.underlying22
    go_enter Tryd.func31, Tryd.ntmps31
    go_wp2_with (at_builtin; refine ap8 _ rfl (.tmp 5) (.tmp 6) rfl w.heap.size (.slice (some ⟨w.heap.size, 0, none⟩) 0 0) 0 [] rfl (World.ownsRow_made w #[] 0 (Nat.le_refl _) (by simp [maxLen]) rfl) (some ad) n c l rfl (ha.no ((Fr.refl _ _).alloc _)) (by omega) (by simp) ?_; intro v w1 h1 h2 h3)
    go_ret
    exact ⟨v, rfl, by simpa using h1, ((Fr.refl No w).alloc _).grown h2 (by simp [Value.ownBlock])⟩
end Go.Proofs.YtijlekikmkeihaaDoor
