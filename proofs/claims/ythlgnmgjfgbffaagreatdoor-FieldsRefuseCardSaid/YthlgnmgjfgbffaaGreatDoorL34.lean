/- The texts RefTlv2, joined. -/
import Derived.Test.YthlgnmgjfgbffaaGreatDoorL18
import Derived.Test.YthlgnmgjfgbffaaGreatDoorL03
import Derived.Deep.RegionLaw
/- The statements' own tags as bytes. -/
namespace Go.Proofs.YthlgnmgjfgbffaaGreatDoor
open Go.RowKit
set_option maxHeartbeats 2000000
set_option linter.unusedVariables false

theorem rt_own_low {w : World} {b base : Nat} {v : Value} {n : Nat} {l : List UInt8} (h : w.ownsRow base 5 1 v n (u8s l)) (hb : b ≤ base) : w.ownsRow b 5 1 v n (u8s l) := by
  refine ⟨h.1, ?_⟩
  rcases h.2 with hn | ⟨g, cap, cur, e1, hg, r⟩
  · exact .inl hn
  · exact .inr ⟨g, cap, cur, e1, Nat.le_trans hb hg, r⟩
theorem wrT_app : ∀ a b : List TagL, wrT (a ++ b) = wrT a ++ wrT b
  | [], b => rfl
  | x :: a, b => by
    show wr1T x ++ wrT (a ++ b) = (wr1T x ++ wrT a) ++ wrT b
    rw [wrT_app a b, List.append_assoc]
theorem low_tag (t : Int) (v : Nat) (hv : t = (v : Int)) (h : tgN t ≠ 0) : low v (held8 (tgN t : Int)) = tagB t := by
  have hle := (tgN_le t).1
  subst hv
  unfold tagB
  rw [Int.toNat_natCast]
  rcases (show tgN (v : Int) = 1 ∨ tgN (v : Int) = 2 by omega) with h1 | h1
  · rw [h1]
    show (List.range 1).map (lowB v 1) = _
    simp [lowB, List.range_succ]
  · rw [h1]
    show (List.range 2).map (lowB v 2) = _
    simp [lowB, List.range_succ]
theorem wrF_step (p : List TagL) (a : TagL) (l : List TagL) : wrF p (a :: l) = if tgN a.1 = 0 ∨ p.any (fun x => x.1 == a.1) = true then 18 else if 255 < a.2.length then 17 else wrF (p ++ [a]) l := rfl
def WroteT (ls : List TagL) (w : World) (e : Ending) (w' : World) : Prop := ∃ v : Value, e = .returned (.tuple #[v, .int .i64 (wrE ls)]) ∧ w'.ownsRow w.heap.size 5 1 v (wrL ls).length (u8s (wrL ls)) ∧ Fr No w w'
theorem wrote_err {ls : List TagL} {w w' : World} {z : Int} (h : wrE ls = z) (hz : z ≠ 0) (hf : Fr No w w') : WroteT ls w (.returned (.tuple #[.slice none 0 0, .int .i64 z])) w' := by
  have hL : wrL ls = [] := by unfold wrL; rw [if_neg (by rw [h]; exact hz)]
  refine ⟨_, by rw [h], ?_, hf⟩
  rw [hL]
  exact World.ownsRow_nil _ _ _ _
end Go.Proofs.YthlgnmgjfgbffaaGreatDoor
