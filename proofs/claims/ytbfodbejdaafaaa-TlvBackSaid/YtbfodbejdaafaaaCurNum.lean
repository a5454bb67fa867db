/- Bytes as a number: what package cursor and the statements' own answers make of them. -/
import Derived.Test.YtbfodbejdaafaaaCursor
import Derived.Test.YtbfodbejdaafaaaRefNum
namespace Go.Proofs.Ytbfodbejdaafaaa
open Go.RowKit
set_option maxHeartbeats 400000
set_option linter.unusedVariables false

theorem number_any (A : Option Addr) (n c : Nat) (l : List UInt8) (w : World) (ha : Rd w A n c (u8s l)) (hn : n ≤ 8) :
    Calls Try.prog 46 #[.slice A n c] w fun e w' => e = .returned (.int .u64 (beN l : Int)) ∧ Dr w w' := by
  have hl : l.length = n := by simpa using ha.len
  go_enter Try.func46, Try.ntmps46
  go_wp2
  go_loopw [3, 8] (fun v i wr => ∃ k : Nat, k ≤ n ∧ i = .int .i64 (k : Int) ∧ v = .int .u64 (beN (l.take k) : Int) ∧ Dr w wr) (fun _ i _ => n - (intOf i).toNat)
  case atStart => exact ⟨0, by omega, rfl, rfl, Dr.refl _⟩
  case round =>
    obtain ⟨k, hk, rfl, rfl, hdr⟩ := hrel
    rcases Nat.lt_or_ge k n with hlt | hge
    · obtain ⟨ad, u, rfl, hu, hc⟩ := (ha.dr hdr).at_ hlt
      rw [u8s_get l k (by omega)] at hu
      injection hu with hu
      subst hu
      have hx : l[k].toNat < 256 := l[k].toNat_lt
      have HS := Lib.hid (beN_step l k (by omega))
      have HO := Lib.hid (or_step (beN (l.take k)) l[k].toNat (beN_take_lt l k (by omega)) l[k].toNat_lt)
      go_wp2
      go_roundw
      case rel => exact ⟨k + 1, by omega, by go_num, by rw [HS.out, ← HO.out], hdr⟩
      case measure => simp [intOf]; omega
    · obtain rfl : k = n := by omega
      go_wp2
      go_ret
      exact ⟨by rw [← hl, List.take_length]; rfl, hdr⟩

theorem number_ok {B : Nat} (g : Nat) (m : Nat) (b : List UInt8) (k : Nat) (w : World) (h : Cur w B g b k) (h1 : 1 ≤ m) (h8 : m ≤ 8) (hs : k + m ≤ b.length) :
    Calls Try.prog 35 #[.pointer (some ⟨g, 0, none⟩), .int .i64 (m : Int)] w fun e w' => e = .returned (.tuple #[.int .u64 (beN ((b.drop k).take m) : Int), .int .i64 0]) ∧
      Cur w' B g b (k + m) ∧ Fr (Just g) w w' := by
  go_enter Try.func35, Try.ntmps35
  go_wp2_with (first | (go_at_call 45; refine (narrow_ok _ _ _ _ _ h h1 h8 hs).mono ?_; rintro e w1 ⟨V, d, rfl, hr, hc, hf⟩) | (go_at_call 46; refine (number_any _ _ _ _ _ hr (by omega)).mono ?_; rintro e w2 ⟨rfl, hd⟩) | go_in)
  go_ret2
  exact ⟨rfl, hc.dr hd, hf.dr hd⟩
end Go.Proofs.Ytbfodbejdaafaaa
