/- The texts BeMath, Dig0, joined. -/
import Derived.Test.YtpkalnkeafggjaaGreatDoorK03
import Derived.Test.YtpkalnkeafggjaaGreatDoorK01
import Derived.Laws.BitsLemmas
import Derived.IntWalk
/- Bytes as a number, the highest first, and a number's lowest bytes: plain functions, no program. -/
namespace Go.Proofs.YtpkalnkeafggjaaGreatDoor
open Go.RowKit
set_option maxHeartbeats 400000
set_option linter.unusedVariables false

/-- bytes as a number, the highest first -/
def beN (l : List UInt8) : Nat := l.foldl (fun v x => v * 256 + x.toNat) 0

theorem beN_snoc (l : List UInt8) (x : UInt8) : beN (l ++ [x]) = beN l * 256 + x.toNat := by simp [beN]
theorem beN_lt (l : List UInt8) : beN l < 256 ^ l.length := by
  suffices h : ∀ (m : List UInt8), beN m.reverse < 256 ^ m.length by
    have := h l.reverse
    simpa using this
  intro m
  induction m with
  | nil => simp [beN]
  | cons x m ih =>
    rw [List.reverse_cons, beN_snoc, List.length_cons, Nat.pow_succ]
    have := x.toNat_lt
    omega

theorem or_step (B x : Nat) (hB : B < 72057594037927936) (hx : x < 256) : bits .or .u64 (IntKind.u64.wrap ((B : Int) * 256)) (x : Int) = ((B * 256 + x : Nat) : Int) := by
  have e : IntKind.u64.wrap ((B : Int) * 256) = ((B * 256 : Nat) : Int) := by
    rw [IntWalk.u64_in _ ⟨by omega, by omega⟩]
    omega
  rw [e, bits_or_u64_nat _ _ (by omega) (by omega)]
  congr 1
  have := Nat.two_pow_add_eq_or_of_lt (i := 8) (b := x) (by omega) B
  rw [show B * 256 = 2 ^ 8 * B from by omega, this]

theorem beN_take_lt (l : List UInt8) (k : Nat) (hk : k < 8) : beN (l.take k) < 72057594037927936 := by
  have h := beN_lt (l.take k)
  have h1 : (l.take k).length ≤ 7 := by rw [List.length_take]; omega
  have h2 : 256 ^ (l.take k).length ≤ 256 ^ 7 := Nat.pow_le_pow_right (by omega) h1
  have h3 : (256 : Nat) ^ 7 = 72057594037927936 := by decide
  omega

theorem beN_step (l : List UInt8) (k : Nat) (hk : k < l.length) : beN (l.take (k + 1)) = beN (l.take k) * 256 + l[k].toNat := by
  rw [List.take_succ_eq_append_getElem hk, beN_snoc]

/-- the m lowest bytes of v, the highest first -/
def lowB (v : Nat) (m i : Nat) : UInt8 := UInt8.ofNat (v / 2 ^ (8 * (m - 1 - i)))
def low (v : Nat) (m : Nat) : List UInt8 := (List.range m).map (lowB v m)
theorem lowB_int (v m i : Nat) : (v : Int) / 2 ^ (8 * (m - 1 - i)) % 256 = ((lowB v m i).toNat : Int) := by
  unfold lowB
  rw [UInt8.toNat_ofNat']
  simp [Int.natCast_pow]
theorem lowB_int8 (v i : Nat) : (v : Int) / 2 ^ (8 * (7 - i)) % 256 = ((lowB v 8 i).toNat : Int) := lowB_int v 8 i
@[simp] theorem low_length (v m : Nat) : (low v m).length = m := by simp [low]
theorem low_snoc (v m k : Nat) (l : List UInt8) (h : k < m) : l ++ (low v m).take k ++ [lowB v m k] = l ++ (low v m).take (k + 1) := by
  rw [List.append_assoc, List.take_succ_eq_append_getElem (by simpa using h)]
  simp [low]

/-- held from 0 to 8 -/
def held8 (n : Int) : Nat := (max (min n 8) 0).toNat
theorem held8_cases (z : Int) : (z ≤ 0 ∧ held8 z ≤ 0) ∨ (0 < z ∧ z ≤ 8 ∧ z = (held8 z : Int)) ∨ (8 < z ∧ 8 ≤ held8 z ∧ held8 z ≤ 8) := by
  unfold held8
  omega
theorem low_succ' (v m : Nat) : low v (m + 1) = low (v / 256) m ++ [UInt8.ofNat v] := by
  unfold low
  rw [List.range_succ, List.map_append]
  congr 1
  · apply List.map_congr_left
    intro i hi
    have hi' : i < m := by simpa using hi
    unfold lowB
    rw [Nat.div_div_eq_div_mul]
    congr 2
    rw [show m + 1 - 1 - i = (m - 1 - i) + 1 from by omega, Nat.mul_add, Nat.pow_add]
    simp [Nat.mul_comm]
  · simp [lowB]
theorem beN_low' (m : Nat) : ∀ v : Nat, beN (low v m) = v % 256 ^ m := by
  induction m with
  | zero => intro v; simp [low, beN, Nat.mod_one]
  | succ m ih =>
    intro v
    rw [low_succ', beN_snoc, ih, UInt8.toNat_ofNat']
    have h := Nat.mod_mul (x := v) (a := 256) (b := 256 ^ m)
    have e : 256 ^ (m + 1) = 256 * 256 ^ m := by rw [Nat.pow_succ, Nat.mul_comm]
    rw [e, h]
    omega
end Go.Proofs.YtpkalnkeafggjaaGreatDoor
/- Small words on what a call hands back: no program. -/
namespace Go.Proofs.YtpkalnkeafggjaaGreatDoor
theorem ret_bool {a b : Bool} (h : a = b) : Ending.returned (.bool a) = .returned (.bool b) := by rw [h]
theorem ret_u8 {a : Int} {b : UInt8} (h : a = (b.toNat : Int)) : Ending.returned (.int .u8 a) = .returned (.int .u8 (b.toNat : Int)) := by rw [h]
/-- a row of one's own, said of an elder world -/
theorem own_low {w : World} {base base' : Nat} {e : TypeId} {size : Nat} {v : Value} {n : Nat} {xs : List Value} (h : w.ownsRow base e size v n xs) (hb : base' ≤ base) : w.ownsRow base' e size v n xs := by
  refine ⟨h.1, ?_⟩
  rcases h.2 with h2 | ⟨g, cap, cur, e1, hg, r⟩
  · exact .inl h2
  · exact .inr ⟨g, cap, cur, e1, Nat.le_trans hb hg, r⟩
end Go.Proofs.YtpkalnkeafggjaaGreatDoor
