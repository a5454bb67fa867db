/- bytes.Equal: its contract, for every two lists of bytes. -/
import Derived.Test.YtdilgcdmmofamaaHelp0
namespace Go.Proofs.Ytdilgcdmmofamaa
open Go.RowKit
set_option maxHeartbeats 400000
set_option linter.unusedVariables false

/-- a row of one's own, seen from an earlier world -/
theorem own_base {w : World} {b b' : Nat} {e : TypeId} {size : Nat} {v : Value} {n : Nat} {xs : List Value} (ho : w.ownsRow b e size v n xs) (h : b' ≤ b) : w.ownsRow b' e size v n xs := by
  refine ⟨ho.1, ?_⟩
  rcases ho.2 with hn | ⟨g, cap, cur, e1, hb, rest⟩
  · exact .inl hn
  · exact .inr ⟨g, cap, cur, e1, Nat.le_trans h hb, rest⟩

theorem equal_any (A B : Option Addr) (n c m d : Nat) (l k : List UInt8) (w : World) (ha : Rd w A n c (u8s l)) (hb : Rd w B m d (u8s k)) :
    Calls Try.prog 16 #[.slice A n c, .slice B m d] w fun e w' => e = .returned (.bool (l == k)) ∧ w = w' := by
  have h1 := run_string (P := Try.prog) ha 22 5 Try.underlying22 Try.underlying5 9 Try.underlying9
  have h2 := run_string (P := Try.prog) hb 22 5 Try.underlying22 Try.underlying5 9 Try.underlying9
  go_enter Try.func16, Try.ntmps16
  go_wp2
  go_ret
  exact ⟨rfl, rfl⟩
end Go.Proofs.Ytdilgcdmmofamaa
