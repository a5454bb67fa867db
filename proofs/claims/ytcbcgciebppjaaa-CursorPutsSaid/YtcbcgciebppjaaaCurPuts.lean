/- CursorPuts: Put tells any bytes with any number's lowest bytes behind them, as the statements' own answer does, and what is handed in stays: true for every list of bytes, number and width. -/
import Derived.Test.YtcbcgciebppjaaaCurAwake
namespace Go.Proofs.Ytcbcgciebppjaaa
open Go.RowKit Go.ChangeShapes Go.WideShapes Go.ChangeAt
set_option maxHeartbeats 400000
set_option linter.unusedVariables false

theorem puts_walk {A : Option Addr} {n c : Nat} {l : List UInt8} {v : Nat} {z : Int} (w : World) (ha : Rd w A n c (u8s l)) (hv : v < 18446744073709551616) (hz : (Lit.int .i64 z).wf = true) :
    Calls Try.prog 5 #[.slice A n c, .int .u64 (v : Int), .int .i64 z] w fun e w' => e = .returned (.bool true) ∧ Fr No w w' := by
  rcases Nat.lt_or_ge 300 n with hn | hn
  · go_enter Try.func5, Try.ntmps5
    go_wp2_with (go_at_call 7; refine (awake_any _).mono ?_; rintro e w1 ⟨rfl, hf⟩)
    go_ret
    exact ⟨rfl, hf⟩
  · have hbt : ∀ k : List UInt8, (k == k) = true := fun k => by simp
    have HB := Lib.hid hbt
    clear hbt
    go_enter Try.func5, Try.ntmps5
    go_wp2_with (first
      | (go_at_call 8; refine (own_any _ _ _ l 71 _ ha (by omega)).mono ?_; rintro e w1 ⟨g, rfl, hg, hb1, hf1⟩)
      | (go_at_call 7; refine (awake_any _).mono ?_; rintro e w2 ⟨rfl, hf2⟩)
      | (go_at_call 19; refine (put_any _ _ _ l v z _ (own_rd hb1 hf2 ha.len (by omega)) (by omega) hv).mono ?_; rintro e w3 ⟨r3, rfl, ho3, hf3⟩; obtain ⟨B, d, rfl, hr3, _⟩ := Rd.of_own ho3)
      | (go_at_call 20; refine (ref_put_any _ _ _ l v z _ (((ha.no hf1).no hf2).no hf3) (by omega) hv).mono ?_; rintro e w4 ⟨r4, rfl, ho4, hf4⟩; obtain ⟨B', d', rfl, hr4, _⟩ := Rd.of_own ho4)
      | (go_at_call 15; refine (bytes_any _ _ _ _ _ _ _ _ _ (hr3.no hf4) hr4).mono ?_; rintro e w5 ⟨rfl, rfl⟩; simp only [HB.out])
      | (go_at_call 18; refine (kept8_any _ _ _ _ l 71 _ ((((ha.no hf1).no hf2).no hf3).no hf4) (((hb1.no hf2).no hf3).no hf4) (by omega)).mono ?_; rintro e w6 ⟨rfl, hd6⟩))
    go_ret
    exact ⟨rfl, (((hf1.trans hf2).trans hf3).trans hf4).dr hd6⟩

end Go.Proofs.Ytcbcgciebppjaaa
