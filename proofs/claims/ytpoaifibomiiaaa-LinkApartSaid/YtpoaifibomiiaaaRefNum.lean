/- The statements' own reading of a number out of bytes: what it answers. -/
import Derived.Test.YtpoaifibomiiaaaBeMath
namespace Go.Proofs.Ytpoaifibomiiaaa
open Go.RowKit
set_option maxHeartbeats 400000
set_option linter.unusedVariables false

/-- comptoirref01.Num: a number of so many bytes that are there -/
theorem num_any (A : Option Addr) (n c at_ m : Nat) (l : List UInt8) (w : World) (ha : Rd w A n c (u8s l)) (hm : m ≤ 8) (hn : at_ + m ≤ n) (hn2 : n ≤ 9223372036854775807) :
    Calls Try.prog 22 #[.slice A n c, .int .i64 (at_ : Int), .int .i64 (m : Int)] w fun e w' => e = .returned (.int .u64 (beN ((l.drop at_).take m) : Int)) ∧ Dr w w' := by
  have hl : l.length = n := by simpa using ha.len
  go_enter Try.func22, Try.ntmps22
  go_wp2
  go_loopw [7, 8] (fun v i wr => ∃ k : Nat, k ≤ m ∧ i = .int .i64 (k : Int) ∧ v = .int .u64 (beN ((l.drop at_).take k) : Int) ∧ Dr w wr) (fun _ i _ => m - (intOf i).toNat)
  case atStart => exact ⟨0, by omega, rfl, rfl, Dr.refl _⟩
  case round =>
    obtain ⟨k, hk, rfl, rfl, hdr⟩ := hrel
    rcases Nat.lt_or_ge k m with hlt | hge
    · obtain ⟨ad, u, rfl, hu, hc⟩ := (ha.dr hdr).at_ (k := at_ + k) (by omega)
      rw [u8s_get l (at_ + k) (by omega)] at hu
      injection hu with hu
      subst hu
      have hk2 : k < (l.drop at_).length := by rw [List.length_drop]; omega
      have hx : l[at_ + k].toNat < 256 := (l[at_ + k]).toNat_lt
      have HS := Lib.hid (beN_step (l.drop at_) k hk2)
      have HO := Lib.hid (or_step (beN ((l.drop at_).take k)) l[at_ + k].toNat (beN_take_lt _ k (by omega)) (l[at_ + k]).toNat_lt)
      have HG := Lib.hid (show (l.drop at_)[k] = l[at_ + k] by rw [List.getElem_drop])
      go_wp2
      go_roundw
      case rel => exact ⟨k + 1, by omega, by go_num, by rw [HS.out, HG.out, ← HO.out], hdr⟩
      case measure => simp [intOf]; omega
    · obtain rfl : k = m := by omega
      go_wp2
      go_ret
      exact ⟨rfl, hdr⟩
end Go.Proofs.Ytpoaifibomiiaaa
