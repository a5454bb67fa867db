/- A number put behind bytes: what package cursor and the statements' own answers make of it. -/
import Derived.Test.YtcbcgciebppjaaaCurNum
namespace Go.Proofs.Ytcbcgciebppjaaa
open Go.RowKit
set_option maxHeartbeats 400000
set_option linter.unusedVariables false

/-- the m lowest bytes of v, the highest first -/
def lowB (v : Nat) (m i : Nat) : UInt8 := UInt8.ofNat (v / 2 ^ (8 * (m - 1 - i)))
def low (v : Nat) (m : Nat) : List UInt8 := (List.range m).map (lowB v m)
theorem lowB_int (v m i : Nat) : (v : Int) / 2 ^ (8 * (m - 1 - i)) % 256 = ((lowB v m i).toNat : Int) := by
  unfold lowB
  rw [UInt8.toNat_ofNat']
  simp [Int.natCast_pow]
theorem lowB_int8 (v i : Nat) : (v : Int) / 2 ^ (8 * (7 - i)) % 256 = ((lowB v 8 i).toNat : Int) := lowB_int v 8 i
@[simp] theorem low_length (v m : Nat) : (low v m).length = m := by simp [low]
theorem low_snoc (v m k : Nat) (l : List UInt8) (h : k < m) : l ++ (low v m).take k ++ [lowB v m k] = l ++ (low v m).take (k + 1) := by
  rw [List.append_assoc, List.take_succ_eq_append_getElem (by simpa using h)]
  simp [low]

/-- held from 0 to 8 -/
def held8 (n : Int) : Nat := (max (min n 8) 0).toNat
theorem held8_cases (z : Int) : (z ≤ 0 ∧ held8 z ≤ 0) ∨ (0 < z ∧ z ≤ 8 ∧ z = (held8 z : Int)) ∨ (8 < z ∧ 8 ≤ held8 z ∧ held8 z ≤ 8) := by
  unfold held8
  omega

set_option maxHeartbeats 800000 in
theorem ref_put_any (A : Option Addr) (n c : Nat) (l : List UInt8) (v : Nat) (z : Int) (w : World) (ha : Rd w A n c (u8s l)) (hn : n ≤ 65536) (hv : v < 18446744073709551616) :
    Calls Try.prog 20 #[.slice A n c, .int .u64 (v : Int), .int .i64 z] w fun e w' => ∃ r, e = .returned r ∧ w'.ownsRow w.heap.size 5 1 r (n + held8 z) (u8s (l ++ low v (held8 z))) ∧ Fr No w w' := by
  have hl : l.length = n := by simpa using ha.len
  have hc := held8_cases z
  generalize held8 z = m at *
  rcases hc with ⟨h, h2⟩ | ⟨h, h', rfl⟩ | ⟨h, h2, h3⟩
  all_goals
    go_enter Try.func20, Try.ntmps20
    go_wp2_with (at_builtin; refine ap8 _ rfl (.const (.slice none 0 0)) (.tmp 9) rfl w.heap.size (.slice none 0 0) 0 [] rfl (World.ownsRow_nil _ _ _ _) A n c l rfl ha (by omega) (Nat.le_refl _) ?_; intro r1 w1 ho1 hg1 hr1)
  all_goals
    go_loopw [7, 8] (fun r i wr => ∃ k : Nat, k ≤ m ∧ i = .int .i64 ((m : Int) - 1 - (k : Int)) ∧ wr.ownsRow w.heap.size 5 1 r (n + k) (u8s (l ++ (low v m).take k)) ∧ Fr No w wr) (fun _ i _ => (intOf i + 1).toNat)
    case atStart => exact ⟨0, by omega, by congr 1; omega, by simpa using ho1, (Fr.refl No w).grown hg1 (by simp [Value.ownBlock])⟩
    case round =>
      obtain ⟨k, hk, rfl, ho, hf⟩ := hrel
      rcases Nat.lt_or_ge k m with hlt | hge
      · first
        | (exfalso; omega)
        | (go_wp2_with (at_builtin; go_must (refine ap8_one wr rfl (.tmp 19) (.tmp 26) rfl w.heap.size u7 (n + k) (l ++ (low v m).take k) rfl ho _ (lowB v m k) (lowB_int v m k) _ rfl (by omega) hf.size ?_); intro r2 w2 ho2 hg2 hr2)
           go_roundw
           case rel => exact ⟨k + 1, by omega, by congr 1; omega, by rw [low_snoc v m k l hlt] at ho2; exact ho2, (hf.alloc _).grown hg2 (fun g e => .inr (ho.lt g e).1)⟩
           case measure => simp [intOf]; omega)
      · obtain rfl : k = m := by omega
        go_wp2
        go_ret
        exact ⟨u7, rfl, by rw [List.take_of_length_le (by simp)] at ho; exact ho, hf⟩

set_option maxHeartbeats 1600000 in
theorem put_any (A : Option Addr) (n c : Nat) (l : List UInt8) (v : Nat) (z : Int) (w : World) (ha : Rd w A n c (u8s l)) (hn : n ≤ 65536) (hv : v < 18446744073709551616) :
    Calls Try.prog 19 #[.slice A n c, .int .u64 (v : Int), .int .i64 z] w fun e w' => ∃ r, e = .returned r ∧ w'.ownsRow w.heap.size 5 1 r (n + held8 z) (u8s (l ++ low v (held8 z))) ∧ Fr No w w' := by
  have hl : l.length = n := by simpa using ha.len
  have hc := held8_cases z
  generalize held8 z = m at *
  have hm8 : m ≤ 8 := by omega
  rcases hc with ⟨h, h'⟩ | ⟨h, h', rfl⟩ | ⟨h, h', h3⟩
  all_goals
    go_enter Try.func19, Try.ntmps19
    go_wp2_with (first | (at_make; go_must (refine mk8 w rfl (.tmp 13) (.tmp 17) rfl .i64 .i64 _ _ n (n + m) rfl rfl rfl (by omega) (by omega) (by omega) ?_); intro w1 hb1 hf1 hs1) | ((with_reducible refine cp8 w1 rfl (.tmp 19) (.tmp 20) rfl w.heap.size n (n + m) (List.replicate (n + m) 0) rfl hb1 A c l rfl (ha.no hf1) (by simp) ?_); intro w2 hb2 hf2 hs2))
  all_goals
    have hf3 : Fr No w w2 := hf1.trans_new hf2 (fun i hi => .inr (by rw [show i = w.heap.size from hi]; exact Nat.le_refl _))
    have ho3 : w2.ownsRow w.heap.size 5 1 (.slice (some ⟨w.heap.size, 0, none⟩) n (n + m)) n (u8s l) := by
      have := hb2.own (base := w.heap.size) (n := n) (cap := n + m) (Nat.le_refl _) (by omega) (by simp only [maxLen]; omega) (by simp; omega)
      rwa [u8s_append, List.take_left' (by simpa using hl)] at this
    clear hb1 hf1 hs1 hb2 hf2 hs2
    go_loopw [7, 23] (fun r i wr => ∃ k : Nat, k ≤ m ∧ i = .int .i64 (k : Int) ∧ wr.ownsRow w.heap.size 5 1 r (n + k) (u8s (l ++ (low v m).take k)) ∧ Fr No w wr) (fun _ i _ => 8 - (intOf i).toNat)
    case atStart => exact ⟨0, by omega, rfl, by simpa using ho3, hf3⟩
    case round =>
      obtain ⟨k, hk, rfl, ho, hf⟩ := hrel
      rcases Nat.lt_or_ge k m with hlt | hge
      · first
        | (exfalso; omega)
        | (go_wp2_with (at_builtin; go_must (refine ap8_one wr rfl (.tmp 26) (.tmp 35) rfl w.heap.size u7 (n + k) _ rfl ho _ (lowB v m k) (by first | exact lowB_int v m k | (rw [show m = 8 from by omega]; exact lowB_int8 v k)) _ rfl (by omega) hf.size ?_); intro r2 w2 ho2 hg2 hr2)
           go_roundw
           case rel => exact ⟨k + 1, by omega, by go_num, by rw [low_snoc v _ k l hlt] at ho2; exact ho2, (hf.alloc _).grown hg2 (fun g e => .inr (ho.lt g e).1)⟩
           case measure => simp [intOf]; omega)
      · obtain rfl : k = _ := Nat.le_antisymm hk hge
        go_wp2
        go_ret
        exact ⟨u7, rfl, by rw [List.take_of_length_le (by simp)] at ho; exact ho, hf⟩
end Go.Proofs.Ytcbcgciebppjaaa
