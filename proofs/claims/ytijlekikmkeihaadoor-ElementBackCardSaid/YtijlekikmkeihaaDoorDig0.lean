/- Small words on what a call hands back: no program. -/
import Derived.Test.YtijlekikmkeihaaDoorBase
import Derived.Laws.BitsLemmas
import Derived.IntWalk
namespace Go.Proofs.YtijlekikmkeihaaDoor
theorem ret_bool {a b : Bool} (h : a = b) : Ending.returned (.bool a) = .returned (.bool b) := by rw [h]
theorem ret_u8 {a : Int} {b : UInt8} (h : a = (b.toNat : Int)) : Ending.returned (.int .u8 a) = .returned (.int .u8 (b.toNat : Int)) := by rw [h]
/-- a row of one's own, said of an elder world -/
theorem own_low {w : World} {base base' : Nat} {e : TypeId} {size : Nat} {v : Value} {n : Nat} {xs : List Value} (h : w.ownsRow base e size v n xs) (hb : base' ≤ base) : w.ownsRow base' e size v n xs := by
  refine ⟨h.1, ?_⟩
  rcases h.2 with h2 | ⟨g, cap, cur, e1, hg, r⟩
  · exact .inl h2
  · exact .inr ⟨g, cap, cur, e1, Nat.le_trans hb hg, r⟩
end Go.Proofs.YtijlekikmkeihaaDoor
