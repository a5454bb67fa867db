/- What package bitmap does: contracts of its calls. -/
import Derived.Test.YtcjfikeephbceaaBmHalf
import Derived.Test.YtcjfikeephbceaaBmMath3
import Derived.Test.YtcjfikeephbceaaHelpInt
namespace Go.Proofs.Ytcjfikeephbceaa
open Go.RowKit
set_option maxHeartbeats 400000
set_option linter.unusedVariables false

/-- two halves as a value -/
def hvV (a b : Nat) : Value := .agg #[.int .u64 (a : Int), .int .u64 (b : Int)]

theorem place_any (n : Nat) (w : World) (h1 : 1 ≤ n) (h2 : n ≤ 128) :
    Calls Try.prog 30 #[.int .i64 (n : Int)] w fun e w' => w = w' ∧ ∃ U : Nat, U < 64 ∧ ((n ≤ 64 ∧ U = 64 - n ∧ e = .returned (.tuple #[.int .i64 0, .int .i64 (U : Int)])) ∨ (64 < n ∧ U = 128 - n ∧ e = .returned (.tuple #[.int .i64 1, .int .i64 (U : Int)]))) := by
  have e0 : (n : Int) - 1 = ((n - 1 : Nat) : Int) := by omega
  go_enter Try.func30, Try.ntmps30
  go_wp2
  go_ret2
  refine ⟨rfl, 63 - (n - 1) % 64, by omega, ?_⟩
  by_cases h : n ≤ 64
  · refine .inl ⟨h, by omega, ?_⟩
    show Ending.returned (.tuple #[.int .i64 _, .int .i64 _]) = _
    rw [show (((n - 1 : Nat) : Int) / 64) = 0 from by omega, show (63 - ((n - 1 : Nat) : Int) % 64) = ((63 - (n - 1) % 64 : Nat) : Int) from by omega]
  · refine .inr ⟨by omega, by omega, ?_⟩
    show Ending.returned (.tuple #[.int .i64 _, .int .i64 _]) = _
    rw [show (((n - 1 : Nat) : Int) / 64) = 1 from by omega, show (63 - ((n - 1 : Nat) : Int) % 64) = ((63 - (n - 1) % 64 : Nat) : Int) from by omega]

theorem has_any (a b n : Nat) (w : World) (ha : a < 18446744073709551616) (hb : b < 18446744073709551616) (h1 : 1 ≤ n) (h2 : n ≤ 128) :
    Calls Try.prog 22 #[hvV a b, .int .i64 (n : Int)] w fun e w' => e = .returned (.bool (hbit a b n)) ∧ Fr No w w' := by
  unfold hvV
  have b1 := one_bit a (64 - n) ha
  have b2 := one_bit b (128 - n) hb
  have B1 := Lib.hid b1; have B2 := Lib.hid b2
  clear b1 b2
  go_enter Try.func22, Try.ntmps22
  go_wp2_with (go_at_call 30; refine (place_any _ _ h1 h2).mono ?_; rintro e w' ⟨rfl, U, hU, (⟨hn, hUn, rfl⟩ | ⟨hn, hUn, rfl⟩)⟩)
  · go_ret
    refine ⟨ret_bool ?_, (Fr.refl No w).alloc _⟩
    unfold hbit
    rw [if_pos hn]
    exact B1.out
  · go_ret
    refine ⟨ret_bool ?_, (Fr.refl No w).alloc _⟩
    unfold hbit
    rw [if_neg (by omega)]
    exact B2.out

/-- what lies in a block of two halves -/
def hvL (a b : Nat) : List Value := [.int .u64 (a : Int), .int .u64 (b : Int)]

theorem set_any (g a b n : Nat) (w : World) (ha : a < 18446744073709551616) (hb2 : b < 18446744073709551616) (hb : Bk w g 46 (hvL a b)) (h1 : 1 ≤ n) (h2 : n ≤ 128) :
    Calls Try.prog 20 #[.pointer (some ⟨g, 0, none⟩), .int .i64 (n : Int)] w fun e w' => e = .returned (.tuple #[]) ∧ Fr (Just g) w w' ∧ Bk w' g 46 (hvL (setA a n) (setB b n)) := by
  go_enter Try.func20, Try.ntmps20
  go_wp2_with (go_at_call 30; refine (place_any _ _ h1 h2).mono ?_; rintro e w' ⟨rfl, U, hU, (⟨hn, hUn, rfl⟩ | ⟨hn, hUn, rfl⟩)⟩)
  all_goals
    refine wp_region_reads 10 (by kernel_rfl) (by kernel_rfl) ?_
    intro w4 hd
    simp only [List.take_succ_cons, List.take_zero, List.drop_succ_cons, List.drop_zero]
    have hb4 := hb.no hd.fr
    have c0 := hb4.cell 0
    have c1 := hb4.cell 1
    have f0 := hb4.frozen 0
    have f1 := hb4.frozen 1
    simp only [hvL, List.getElem?_cons_zero, List.getElem?_cons_succ] at c0 c1
    have HU := Lib.hid hUn
    clear hUn
    repeat still_step
    refine wpStill_nil ?_
    go_wp2
    go_end0
    refine ⟨rfl, hd.fr.setCell (.inl (Just.at g)) _, ?_⟩
  · have hs := hb4.set_ 0 (.int .u64 ((a ||| 2 ^ (64 - n) : Nat) : Int))
    rw [← or_u64 a (64 - n) ha (by omega)] at hs
    have e1 : setA a n = a ||| 2 ^ (64 - n) := by unfold setA; rw [if_pos hn]
    have e2 : setB b n = b := by unfold setB; rw [if_pos hn]
    rw [e1, e2]
    unfold hvL
    rw [← or_u64 a (64 - n) ha (by omega)]
    exact hs
  · have hs := hb4.set_ 1 (.int .u64 ((b ||| 2 ^ (128 - n) : Nat) : Int))
    rw [← or_u64 b (128 - n) hb2 (by omega)] at hs
    have e1 : setA a n = a := by unfold setA; rw [if_neg (by omega)]
    have e2 : setB b n = b ||| 2 ^ (128 - n) := by unfold setB; rw [if_neg (by omega)]
    rw [e1, e2]
    unfold hvL
    rw [← or_u64 b (128 - n) hb2 (by omega)]
    exact hs

theorem those_any (a b low high : Nat) (w : World) (ha : a < 18446744073709551616) (hb : b < 18446744073709551616) (h1 : 1 ≤ low) (h2 : low ≤ high) (h3 : high ≤ 128) :
    Calls Try.prog 25 #[.func (.func 22) #[hvV a b] #[], .int .i64 (low : Int), .int .i64 (high : Int)] w fun e w' => ∃ v, e = .returned v ∧
      w'.ownsRow w.heap.size 3 1 v (thoseK a b low (high + 1 - low)).length (ints (thoseK a b low (high + 1 - low))) ∧ Fr No w w' := by
  go_enter Try.func25, Try.ntmps25
  go_wp2
  go_loopw [7, 8] (fun v i wr => ∃ k : Nat, low + k ≤ high + 1 ∧ i = .int .i64 ((low + k : Nat) : Int) ∧ wr.ownsRow w.heap.size 3 1 v (thoseK a b low k).length (ints (thoseK a b low k)) ∧ Fr No w wr) (fun _ i _ => 130 - (intOf i).toNat)
  case atStart => exact ⟨0, by omega, rfl, World.ownsRow_nil _ _ _ _, Fr.refl _ _⟩
  case round =>
    obtain ⟨k, hk, rfl, ho, hf⟩ := hrel
    rcases Nat.lt_or_ge high (low + k) with hge | hlt
    · have e : high + 1 - low = k := by omega
      have E := Lib.hid e
      clear e
      go_wp2
      go_ret
      exact ⟨u7, rfl, by rw [E.out]; exact ho, hf⟩
    · have hlen := thoseK_len a b low k
      cases hh : hbit a b (low + k) with
      | true =>
        have hs := thoseK_yes a b low k hh
        have HS := Lib.hid hs
        have HH := Lib.hid hh
        clear hs hh
        go_wp2_with (first
          | (go_at_call 22; refine (has_any a b (low + k) _ ha hb (by omega) (by omega)).mono ?_; rw [HH.out]; rintro e w1 ⟨rfl, hf1⟩)
          | (at_builtin; go_must (refine apI_one w1 rfl (.tmp 18) (.tmp 20) rfl w.heap.size u7 _ _ rfl (hf1.own ho (fun _ _ x => x)) ((low + k : Nat) : Int) 3 rfl (by omega) (Nat.le_trans hf.size hf1.size) ?_); intro v2 w2 ho2 hg2 hr2))
        go_roundw
        case rel => exact ⟨k + 1, by omega, by go_num, by rw [HS.out, List.length_append]; exact ho2, ((hf.trans hf1).alloc _).grown hg2 (fun g e => .inr (ho.lt g e).1)⟩
        case measure => simp [intOf]; omega
      | false =>
        have hs := thoseK_no a b low k hh
        have HS := Lib.hid hs
        have HH := Lib.hid hh
        clear hs hh
        go_wp2_with (go_at_call 22; refine (has_any a b (low + k) _ ha hb (by omega) (by omega)).mono ?_; rw [HH.out]; rintro e w1 ⟨rfl, hf1⟩)
        go_roundw
        case rel => exact ⟨k + 1, by omega, by go_num, by rw [HS.out]; exact hf1.own ho (fun _ _ x => x), hf.trans hf1⟩
        case measure => simp [intOf]; omega
end Go.Proofs.Ytcjfikeephbceaa
