/- Bytes as a number: what package cursor and the statements' own answers make of them. -/
import Derived.Test.YtcbcgciebppjaaaCursor
namespace Go.Proofs.Ytcbcgciebppjaaa
open Go.RowKit
set_option maxHeartbeats 400000
set_option linter.unusedVariables false

theorem beN_snoc (l : List UInt8) (x : UInt8) : beN (l ++ [x]) = beN l * 256 + x.toNat := by simp [beN]
theorem beN_lt (l : List UInt8) : beN l < 256 ^ l.length := by
  suffices h : ∀ (m : List UInt8), beN m.reverse < 256 ^ m.length by
    have := h l.reverse
    simpa using this
  intro m
  induction m with
  | nil => simp [beN]
  | cons x m ih =>
    rw [List.reverse_cons, beN_snoc, List.length_cons, Nat.pow_succ]
    have := x.toNat_lt
    omega

theorem or_step (B x : Nat) (hB : B < 72057594037927936) (hx : x < 256) : bits .or .u64 (IntKind.u64.wrap ((B : Int) * 256)) (x : Int) = ((B * 256 + x : Nat) : Int) := by
  have e : IntKind.u64.wrap ((B : Int) * 256) = ((B * 256 : Nat) : Int) := by
    rw [IntWalk.u64_in _ ⟨by omega, by omega⟩]
    omega
  rw [e, bits_or_u64_nat _ _ (by omega) (by omega)]
  congr 1
  have := Nat.two_pow_add_eq_or_of_lt (i := 8) (b := x) (by omega) B
  rw [show B * 256 = 2 ^ 8 * B from by omega, this]

theorem beN_take_lt (l : List UInt8) (k : Nat) (hk : k < 8) : beN (l.take k) < 72057594037927936 := by
  have h := beN_lt (l.take k)
  have h1 : (l.take k).length ≤ 7 := by rw [List.length_take]; omega
  have h2 : 256 ^ (l.take k).length ≤ 256 ^ 7 := Nat.pow_le_pow_right (by omega) h1
  have h3 : (256 : Nat) ^ 7 = 72057594037927936 := by decide
  omega

theorem beN_step (l : List UInt8) (k : Nat) (hk : k < l.length) : beN (l.take (k + 1)) = beN (l.take k) * 256 + l[k].toNat := by
  rw [List.take_succ_eq_append_getElem hk, beN_snoc]

theorem number_any (A : Option Addr) (n c : Nat) (l : List UInt8) (w : World) (ha : Rd w A n c (u8s l)) (hn : n ≤ 8) :
    Calls Try.prog 27 #[.slice A n c] w fun e w' => e = .returned (.int .u64 (beN l : Int)) ∧ Dr w w' := by
  have hl : l.length = n := by simpa using ha.len
  go_enter Try.func27, Try.ntmps27
  go_wp2
  go_loopw [3, 8] (fun v i wr => ∃ k : Nat, k ≤ n ∧ i = .int .i64 (k : Int) ∧ v = .int .u64 (beN (l.take k) : Int) ∧ Dr w wr) (fun _ i _ => n - (intOf i).toNat)
  case atStart => exact ⟨0, by omega, rfl, rfl, Dr.refl _⟩
  case round =>
    obtain ⟨k, hk, rfl, rfl, hdr⟩ := hrel
    rcases Nat.lt_or_ge k n with hlt | hge
    · obtain ⟨ad, u, rfl, hu, hc⟩ := (ha.dr hdr).at_ hlt
      rw [u8s_get l k (by omega)] at hu
      injection hu with hu
      subst hu
      have hx : l[k].toNat < 256 := l[k].toNat_lt
      have HS := Lib.hid (beN_step l k (by omega))
      have HO := Lib.hid (or_step (beN (l.take k)) l[k].toNat (beN_take_lt l k (by omega)) l[k].toNat_lt)
      go_wp2
      go_roundw
      case rel => exact ⟨k + 1, by omega, by go_num, by rw [HS.out, ← HO.out], hdr⟩
      case measure => simp [intOf]; omega
    · obtain rfl : k = n := by omega
      go_wp2
      go_ret
      exact ⟨by rw [← hl, List.take_length]; rfl, hdr⟩

/-- comptoirref01.Num: a number of so many bytes that are there -/
theorem num_any (A : Option Addr) (n c at_ m : Nat) (l : List UInt8) (w : World) (ha : Rd w A n c (u8s l)) (hm : m ≤ 8) (hn : at_ + m ≤ n) (hn2 : n ≤ 9223372036854775807) :
    Calls Try.prog 28 #[.slice A n c, .int .i64 (at_ : Int), .int .i64 (m : Int)] w fun e w' => e = .returned (.int .u64 (beN ((l.drop at_).take m) : Int)) ∧ Dr w w' := by
  have hl : l.length = n := by simpa using ha.len
  go_enter Try.func28, Try.ntmps28
  go_wp2
  go_loopw [7, 8] (fun v i wr => ∃ k : Nat, k ≤ m ∧ i = .int .i64 (k : Int) ∧ v = .int .u64 (beN ((l.drop at_).take k) : Int) ∧ Dr w wr) (fun _ i _ => m - (intOf i).toNat)
  case atStart => exact ⟨0, by omega, rfl, rfl, Dr.refl _⟩
  case round =>
    obtain ⟨k, hk, rfl, rfl, hdr⟩ := hrel
    rcases Nat.lt_or_ge k m with hlt | hge
    · obtain ⟨ad, u, rfl, hu, hc⟩ := (ha.dr hdr).at_ (k := at_ + k) (by omega)
      rw [u8s_get l (at_ + k) (by omega)] at hu
      injection hu with hu
      subst hu
      have hk2 : k < (l.drop at_).length := by rw [List.length_drop]; omega
      have hx : l[at_ + k].toNat < 256 := (l[at_ + k]).toNat_lt
      have HS := Lib.hid (beN_step (l.drop at_) k hk2)
      have HO := Lib.hid (or_step (beN ((l.drop at_).take k)) l[at_ + k].toNat (beN_take_lt _ k (by omega)) (l[at_ + k]).toNat_lt)
      have HG := Lib.hid (show (l.drop at_)[k] = l[at_ + k] by rw [List.getElem_drop])
      go_wp2
      go_roundw
      case rel => exact ⟨k + 1, by omega, by go_num, by rw [HS.out, HG.out, ← HO.out], hdr⟩
      case measure => simp [intOf]; omega
    · obtain rfl : k = m := by omega
      go_wp2
      go_ret
      exact ⟨rfl, hdr⟩

theorem number_ok {B : Nat} (g : Nat) (m : Nat) (b : List UInt8) (k : Nat) (w : World) (h : Cur w B g b k) (h1 : 1 ≤ m) (h8 : m ≤ 8) (hs : k + m ≤ b.length) :
    Calls Try.prog 12 #[.pointer (some ⟨g, 0, none⟩), .int .i64 (m : Int)] w fun e w' => e = .returned (.tuple #[.int .u64 (beN ((b.drop k).take m) : Int), .int .i64 0]) ∧
      Cur w' B g b (k + m) ∧ Fr (Just g) w w' := by
  go_enter Try.func12, Try.ntmps12
  go_wp2_with (first | (go_at_call 26; refine (narrow_ok _ _ _ _ _ h h1 h8 hs).mono ?_; rintro e w1 ⟨V, d, rfl, hr, hc, hf⟩) | (go_at_call 27; refine (number_any _ _ _ _ _ hr (by omega)).mono ?_; rintro e w2 ⟨rfl, hd⟩) | go_in)
  go_ret2
  exact ⟨rfl, hc.dr hd, hf.dr hd⟩
end Go.Proofs.Ytcbcgciebppjaaa
