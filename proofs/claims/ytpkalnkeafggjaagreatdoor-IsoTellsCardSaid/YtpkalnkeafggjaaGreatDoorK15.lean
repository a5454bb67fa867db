/- The texts CurNum, RefPut, Put, CurPut, joined. -/
import Derived.Test.YtpkalnkeafggjaaGreatDoorK14
import Derived.Test.YtpkalnkeafggjaaGreatDoorK10
/- Bytes as a number: what package cursor and the statements' own answers make of them. -/
namespace Go.Proofs.YtpkalnkeafggjaaGreatDoor
open Go.RowKit
set_option maxHeartbeats 400000
set_option linter.unusedVariables false
set_option maxRecDepth 20000

theorem cur_number_any (A : Option Addr) (n c : Nat) (l : List UInt8) (w : World) (ha : Rd w A n c (u8s l)) (hn : n ≤ 8) :
    Calls Tryz.prog 90 #[.slice A n c] w fun e w' => e = .returned (.int .u64 (beN l : Int)) ∧ Dr w w' := by
  have hl : l.length = n := by simpa using ha.len
  go_enter Tryz.func90, Tryz.ntmps90
  go_wp2
  go_loopw [3, 8] (fun v i wr => ∃ k : Nat, k ≤ n ∧ i = .int .i64 (k : Int) ∧ v = .int .u64 (beN (l.take k) : Int) ∧ Dr w wr) (fun _ i _ => n - (intOf i).toNat)
  case atStart => exact ⟨0, by omega, rfl, rfl, Dr.refl _⟩
  case round =>
    obtain ⟨k, hk, rfl, rfl, hdr⟩ := hrel
    rcases Nat.lt_or_ge k n with hlt | hge
    · obtain ⟨ad, u, rfl, hu, hc⟩ := (ha.dr hdr).at_ hlt
      rw [u8s_get l k (by omega)] at hu
      injection hu with hu
      subst hu
      have hx : l[k].toNat < 256 := l[k].toNat_lt
      have HS := Lib.hid (beN_step l k (by omega))
      have HO := Lib.hid (or_step (beN (l.take k)) l[k].toNat (beN_take_lt l k (by omega)) l[k].toNat_lt)
      go_wp2
      go_roundw
      case rel => exact ⟨k + 1, by omega, by go_num, by rw [HS.out, ← HO.out], hdr⟩
      case measure => simp [intOf]; omega
    · obtain rfl : k = n := by omega
      go_wp2
      go_ret
      exact ⟨by rw [← hl, List.take_length]; rfl, hdr⟩

theorem number_ok {B : Nat} (g : Nat) (m : Nat) (b : List UInt8) (k : Nat) (w : World) (h : Cur w B g b k) (h1 : 1 ≤ m) (h8 : m ≤ 8) (hs : k + m ≤ b.length) :
    Calls Tryz.prog 76 #[.pointer (some ⟨g, 0, none⟩), .int .i64 (m : Int)] w fun e w' => e = .returned (.tuple #[.int .u64 (beN ((b.drop k).take m) : Int), .int .i64 0]) ∧
      Cur w' B g b (k + m) ∧ Fr (Just g) w w' := by
  go_enter Tryz.func76, Tryz.ntmps76
  go_wp2_with (first | (go_at_call 89; refine (narrow_ok _ _ _ _ _ h h1 h8 hs).mono ?_; rintro e w1 ⟨V, d, rfl, hr, hc, hf⟩) | (go_at_call 90; refine (cur_number_any _ _ _ _ _ hr (by omega)).mono ?_; rintro e w2 ⟨rfl, hd⟩) | go_in)
  go_ret2
  exact ⟨rfl, hc.dr hd, hf.dr hd⟩
end Go.Proofs.YtpkalnkeafggjaaGreatDoor
/- The statements' own laying of a number behind bytes: what it answers. -/
namespace Go.Proofs.YtpkalnkeafggjaaGreatDoor
open Go.RowKit
set_option maxHeartbeats 400000
set_option linter.unusedVariables false
set_option maxRecDepth 20000

end Go.Proofs.YtpkalnkeafggjaaGreatDoor
/- A number put behind bytes: what package cursor makes of it. -/
namespace Go.Proofs.YtpkalnkeafggjaaGreatDoor
open Go.RowKit
set_option maxHeartbeats 400000
set_option linter.unusedVariables false
set_option maxRecDepth 20000

set_option maxHeartbeats 1600000 in
theorem put_any (A : Option Addr) (n c : Nat) (l : List UInt8) (v : Nat) (z : Int) (w : World) (ha : Rd w A n c (u8s l)) (hn : n ≤ 65536) (hv : v < 18446744073709551616) :
    Calls Tryz.prog 73 #[.slice A n c, .int .u64 (v : Int), .int .i64 z] w fun e w' => ∃ r, e = .returned r ∧ w'.ownsRow w.heap.size 5 1 r (n + held8 z) (u8s (l ++ low v (held8 z))) ∧ Fr No w w' := by
  have hl : l.length = n := by simpa using ha.len
  have hc := held8_cases z
  generalize held8 z = m at *
  have hm8 : m ≤ 8 := by omega
  rcases hc with ⟨h, h'⟩ | ⟨h, h', rfl⟩ | ⟨h, h', h3⟩
  all_goals
    go_enter Tryz.func73, Tryz.ntmps73
    go_wp2_with (first | (at_make; go_must (refine mk8 w rfl (.tmp 13) (.tmp 17) rfl .i64 .i64 _ _ n (n + m) rfl rfl rfl (by omega) (by omega) (by omega) ?_); intro w1 hb1 hf1 hs1) | ((with_reducible refine cp8 w1 rfl (.tmp 19) (.tmp 20) rfl w.heap.size n (n + m) (List.replicate (n + m) 0) rfl hb1 A c l rfl (ha.no hf1) (by simp) ?_); intro w2 hb2 hf2 hs2))
  all_goals
    have hf3 : Fr No w w2 := hf1.trans_new hf2 (fun i hi => .inr (by rw [show i = w.heap.size from hi]; exact Nat.le_refl _))
    have ho3 : w2.ownsRow w.heap.size 5 1 (.slice (some ⟨w.heap.size, 0, none⟩) n (n + m)) n (u8s l) := by
      have := hb2.own (base := w.heap.size) (n := n) (cap := n + m) (Nat.le_refl _) (by omega) (by simp only [maxLen]; omega) (by simp; omega)
      rwa [u8s_append, List.take_left' (by simpa using hl)] at this
    clear hb1 hf1 hs1 hb2 hf2 hs2
    go_loopw [7, 23] (fun r i wr => ∃ k : Nat, k ≤ m ∧ i = .int .i64 (k : Int) ∧ wr.ownsRow w.heap.size 5 1 r (n + k) (u8s (l ++ (low v m).take k)) ∧ Fr No w wr) (fun _ i _ => 8 - (intOf i).toNat)
    case atStart => exact ⟨0, by omega, rfl, by simpa using ho3, hf3⟩
    case round =>
      obtain ⟨k, hk, rfl, ho, hf⟩ := hrel
      rcases Nat.lt_or_ge k m with hlt | hge
      · first
        | (exfalso; omega)
        | (go_wp2_with (at_builtin; go_must (refine ap8_one wr rfl (.tmp 26) (.tmp 35) rfl w.heap.size u7 (n + k) _ rfl ho _ (lowB v m k) (by first | exact lowB_int v m k | (rw [show m = 8 from by omega]; exact lowB_int8 v k)) _ rfl (by omega) hf.size ?_); intro r2 w2 ho2 hg2 hr2)
           go_roundw
           case rel => exact ⟨k + 1, by omega, by go_num, by rw [low_snoc v _ k l hlt] at ho2; exact ho2, (hf.alloc _).grown hg2 (fun g e => .inr (ho.lt g e).1)⟩
           case measure => simp [intOf]; omega)
      · obtain rfl : k = _ := Nat.le_antisymm hk hge
        go_wp2
        go_ret
        exact ⟨u7, rfl, by rw [List.take_of_length_le (by simp)] at ho; exact ho, hf⟩
end Go.Proofs.YtpkalnkeafggjaaGreatDoor
/- A number put behind bytes: what package cursor and the statements' own answers make of it. -/
