/- The statements' own laying of a number behind bytes: what it answers. -/
import Derived.Test.YtbfodbejdaafaaaBeMath
namespace Go.Proofs.Ytbfodbejdaafaaa
open Go.RowKit
set_option maxHeartbeats 400000
set_option linter.unusedVariables false

set_option maxHeartbeats 800000 in
theorem ref_put_any (A : Option Addr) (n c : Nat) (l : List UInt8) (v : Nat) (z : Int) (w : World) (ha : Rd w A n c (u8s l)) (hn : n ≤ 65536) (hv : v < 18446744073709551616) :
    Calls Try.prog 32 #[.slice A n c, .int .u64 (v : Int), .int .i64 z] w fun e w' => ∃ r, e = .returned r ∧ w'.ownsRow w.heap.size 5 1 r (n + held8 z) (u8s (l ++ low v (held8 z))) ∧ Fr No w w' := by
  have hl : l.length = n := by simpa using ha.len
  have hc := held8_cases z
  generalize held8 z = m at *
  rcases hc with ⟨h, h2⟩ | ⟨h, h', rfl⟩ | ⟨h, h2, h3⟩
  all_goals
    go_enter Try.func32, Try.ntmps32
    go_wp2_with (at_builtin; refine ap8 _ rfl (.const (.slice none 0 0)) (.tmp 9) rfl w.heap.size (.slice none 0 0) 0 [] rfl (World.ownsRow_nil _ _ _ _) A n c l rfl ha (by omega) (Nat.le_refl _) ?_; intro r1 w1 ho1 hg1 hr1)
  all_goals
    go_loopw [7, 8] (fun r i wr => ∃ k : Nat, k ≤ m ∧ i = .int .i64 ((m : Int) - 1 - (k : Int)) ∧ wr.ownsRow w.heap.size 5 1 r (n + k) (u8s (l ++ (low v m).take k)) ∧ Fr No w wr) (fun _ i _ => (intOf i + 1).toNat)
    case atStart => exact ⟨0, by omega, by congr 1; omega, by simpa using ho1, (Fr.refl No w).grown hg1 (by simp [Value.ownBlock])⟩
    case round =>
      obtain ⟨k, hk, rfl, ho, hf⟩ := hrel
      rcases Nat.lt_or_ge k m with hlt | hge
      · first
        | (exfalso; omega)
        | (go_wp2_with (at_builtin; go_must (refine ap8_one wr rfl (.tmp 19) (.tmp 26) rfl w.heap.size u7 (n + k) (l ++ (low v m).take k) rfl ho _ (lowB v m k) (lowB_int v m k) _ rfl (by omega) hf.size ?_); intro r2 w2 ho2 hg2 hr2)
           go_roundw
           case rel => exact ⟨k + 1, by omega, by congr 1; omega, by rw [low_snoc v m k l hlt] at ho2; exact ho2, (hf.alloc _).grown hg2 (fun g e => .inr (ho.lt g e).1)⟩
           case measure => simp [intOf]; omega)
      · obtain rfl : k = m := by omega
        go_wp2
        go_ret
        exact ⟨u7, rfl, by rw [List.take_of_length_le (by simp)] at ho; exact ho, hf⟩
end Go.Proofs.Ytbfodbejdaafaaa
