/- BitmapTells: any numbers as a map, and any bytes as numbers, or why not; what is handed in stays: the walk, for every list of numbers and of bytes. -/
import Derived.Test.YtcjfikeephbceaaBmAwake
import Derived.Test.YtcjfikeephbceaaRefMap
import Derived.Test.YtcjfikeephbceaaRefPar
import Derived.Test.YtcjfikeephbceaaHelp
namespace Go.Proofs.Ytcjfikeephbceaa
open Go.RowKit
set_option maxHeartbeats 400000
set_option linter.unusedVariables false

set_option maxHeartbeats 1000000 in
theorem tells_walk {A B : Option Addr} {n c m d : Nat} {l : List Int} {b : List UInt8} (w : World) (ha : Rd w A n c (ints l)) (hw : ∀ z ∈ l, (Lit.int .i64 z).wf = true) (hb : Rd w B m d (u8s b)) :
    Calls Try.prog 3 #[.slice A n c, .slice B m d] w fun e w' => e = .returned (.bool true) ∧ Fr No w w' := by
  rcases Nat.lt_or_ge 200 n with hn | hn
  · go_enter Try.func3, Try.ntmps3
    go_wp2_with (go_at_call 8; refine (awake_any _).mono ?_; rintro e w1 ⟨rfl, hf⟩)
    go_ret
    exact ⟨rfl, hf⟩
  rcases Nat.lt_or_ge 100 m with hm | hm
  · go_enter Try.func3, Try.ntmps3
    go_wp2_with (go_at_call 8; refine (awake_any _).mono ?_; rintro e w1 ⟨rfl, hf⟩)
    go_ret
    exact ⟨rfl, hf⟩
  have hbt : ∀ k : List UInt8, (k == k) = true := fun k => by simp
  have HB := Lib.hid hbt
  clear hbt
  go_enter Try.func3, Try.ntmps3
  go_wp2_with (first
    | (go_at_call 9; refine (ownI_any _ _ _ l 71 _ ha (by omega)).mono ?_; rintro e w1 ⟨g, rfl, hg, hg1, hf1⟩)
    | (go_at_call 10; refine (own_any _ _ _ b 71 _ (hb.no hf1) (by omega)).mono ?_; rintro e w2 ⟨g2, rfl, hg2, hg3, hf2⟩)
    | (go_at_call 11; refine (write_any _ _ _ l _ ((ownI_rd hg1 hf2 ha.len (by omega))) (by omega)).mono ?_; rintro e w3 ⟨v3, rfl, ho3, hf3⟩; obtain ⟨V3, d3, rfl, hr3, _⟩ := Rd.of_own ho3)
    | (go_at_call 12; refine (ref_write _ _ _ l _ (((ha.no hf1).no hf2).no hf3) (by omega)).mono ?_; rintro e w4 ⟨v4, rfl, ho4, hf4⟩; obtain ⟨V4, d4, rfl, hr4, _⟩ := Rd.of_own ho4)
    | (go_at_call 13; refine (parse_any _ _ _ b _ (((own_rd0 hg3 hb.len (by omega)).no hf3).no hf4) (by omega)).mono ?_; rintro e w5 ⟨v5, rfl, ho5, hf5⟩; obtain ⟨V5, d5, rfl, hr5, _⟩ := Rd.of_own ho5)
    | (go_at_call 14; refine (ref_parse _ _ _ b _ (((((hb.no hf1).no hf2).no hf3).no hf4).no hf5) (by omega)).mono ?_; rintro e w6 ⟨v6, rfl, ho6, hf6⟩; obtain ⟨V6, d6, rfl, hr6, _⟩ := Rd.of_own ho6)
    | (go_at_call 8; refine (awake_any _).mono ?_; rintro e w7 ⟨rfl, hf7⟩)
    | (go_at_call 15; refine (bytes_any _ _ _ _ _ _ _ _ _ ((((hr3.no hf4).no hf5).no hf6).no hf7) (((hr4.no hf5).no hf6).no hf7)).mono ?_; rintro e w8 ⟨rfl, rfl⟩; simp only [HB.out])
    | (go_at_call 16; refine (plainI_any _ _ _ _ _ _ _ ((hr5.no hf6).no hf7) (hr6.no hf7)).mono ?_; rintro e w9 ⟨rfl, hd9⟩)
    | (go_at_call 17; refine (keptI_any _ _ _ _ l 71 _ ((((((((ha.no hf1).no hf2).no hf3).no hf4).no hf5).no hf6).no hf7).dr hd9) (((((((hg1.no hf2).no hf3).no hf4).no hf5).no hf6).no hf7).no hd9.fr) (by omega)).mono ?_; rintro e w10 ⟨rfl, hd10⟩)
    | (go_at_call 18; refine (kept8_any _ _ _ _ b 71 _ (((((((((hb.no hf1).no hf2).no hf3).no hf4).no hf5).no hf6).no hf7).dr hd9).dr hd10) (((((((hg3.no hf3).no hf4).no hf5).no hf6).no hf7).no hd9.fr).no hd10.fr) (by omega)).mono ?_; rintro e w11 ⟨rfl, hd11⟩))
  go_ret
  exact ⟨rfl, (((((((((hf1.trans hf2).trans hf3).trans hf4).trans hf5).trans hf6).trans hf7).dr hd9).dr hd10).dr hd11)⟩
end Go.Proofs.Ytcjfikeephbceaa
