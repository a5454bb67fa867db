/- BitmapBack: what is written is parsed, with what stands behind it; what is parsed, written, is the bytes that it took: the walk, for every list of bools and of bytes. -/
import Derived.Test.YtcjfikeephbceaaBmAwake
import Derived.Test.YtcjfikeephbceaaPick
namespace Go.Proofs.Ytcjfikeephbceaa
open Go.RowKit
set_option maxHeartbeats 400000
set_option linter.unusedVariables false

/-- which numbers are asked for -/
def backP (s : List Bool) (n : Nat) : Bool := s.getD n false && decide (n ≠ 65)

set_option maxHeartbeats 1000000 in
theorem back_walk {A B C : Option Addr} {n c m d k e : Nat} {s : List Bool} {b more : List UInt8} (w : World) (ha : Rd w A n c (bools s)) (hb : Rd w B m d (u8s b)) (hc : Rd w C k e (u8s more)) :
    Calls Try.prog 4 #[.slice A n c, .slice B m d, .slice C k e] w fun e w' => e = .returned (.bool true) ∧ Fr No w w' := by
  rcases Nat.lt_or_ge 50 k with hk | hk
  · go_enter Try.func4, Try.ntmps4
    go_wp2_with (go_at_call 8; refine (awake_any _).mono ?_; rintro e w1 ⟨rfl, hf⟩)
    go_ret
    exact ⟨rfl, hf⟩
  rcases Nat.lt_or_ge 50 m with hm | hm
  · go_enter Try.func4, Try.ntmps4
    go_wp2_with (go_at_call 8; refine (awake_any _).mono ?_; rintro e w1 ⟨rfl, hf⟩)
    go_ret
    exact ⟨rfl, hf⟩
  have hls : s.length = n := by simpa using ha.len
  have HLS := Lib.hid hls
  clear hls
  go_enter Try.func4, Try.ntmps4
  go_wp2
  go_loopw [7, 8] (fun v i wr => ∃ j : Nat, j ≤ 127 ∧ i = .int .i64 ((2 + j : Nat) : Int) ∧ wr.ownsRow w.heap.size 3 1 v (pickK (backP s) 2 j).length (ints (pickK (backP s) 2 j)) ∧ Fr No w wr) (fun _ i _ => 130 - (intOf i).toNat)
  case atStart => exact ⟨0, by omega, rfl, World.ownsRow_nil _ _ _ _, Fr.refl _ _⟩
  case round =>
    obtain ⟨j, hj, rfl, ho, hf⟩ := hrel
    by_cases hgo : j < 127 ∧ 2 + j < n
    · obtain ⟨hg1, hg2⟩ := hgo
      have hls : 2 + j < s.length := by have := HLS.out; omega
      obtain ⟨ad, u, rfl, hu, hcl⟩ := (ha.no hf).at_ hg2
      rw [bools_get s _ hls] at hu
      injection hu with hu
      subst hu
      have hp : backP s (2 + j) = (s[2 + j] && decide (2 + j ≠ 65)) := by unfold backP; rw [getD_lt hls]
      generalize s[2 + j] = sb at hcl hp
      have hlen := pickK_len (backP s) 2 j
      by_cases hyes : backP s (2 + j) = true
      · have hs := pickK_yes (backP s) 2 j hyes
        rw [hp, Bool.and_eq_true] at hyes
        obtain ⟨rfl, h65⟩ := hyes
        have h65' : (((2 + j : Nat) : Int) != 65) = true := by rw [bne_iff_ne]; have := of_decide_eq_true h65; omega
        rw [show ((2 + j : Nat) : Int) = 2 + (j : Int) from by omega] at hs
        have HS := Lib.hid hs
        clear hs hp h65
        go_wp2_with (at_builtin; go_must (refine apI_one wr rfl (.tmp 46) (.tmp 48) rfl w.heap.size u7 _ _ rfl ho (2 + (j : Int)) 3 rfl (by omega) hf.size ?_); intro v2 w2 ho2 hg2 hr2)
        go_roundw
        case rel => exact ⟨j + 1, by omega, by go_num, by rw [HS.out, List.length_append]; exact ho2, (hf.alloc _).grown hg2 (fun g e => .inr (ho.lt g e).1)⟩
        case measure => simp [intOf]; omega
      · have hno : backP s (2 + j) = false := by simpa using hyes
        have hs := pickK_no (backP s) 2 j hno
        have HS := Lib.hid hs
        rw [hp] at hno
        clear hs hp hyes
        cases sb with
        | false =>
          clear hno
          go_wp2
          go_roundw
          case rel => exact ⟨j + 1, by omega, by go_num, by rw [HS.out]; exact ho, hf⟩
          case measure => simp [intOf]; omega
        | true =>
          have h65 : (((2 + j : Nat) : Int) != 65) = false := by
            rw [bne_eq_false_iff_eq]
            simp at hno
            omega
          clear hno
          go_wp2
          go_roundw
          case rel => exact ⟨j + 1, by omega, by go_num, by rw [HS.out]; exact ho, hf⟩
          case measure => simp [intOf]; omega
    · have hri := pickK_rises (backP s) 2 j (by omega) (by omega) (.inr (.inr (by simp [backP])))
      have hlen := pickK_len (backP s) 2 j
      obtain ⟨V, dv, rfl, hrv, _⟩ := Rd.of_own ho
      generalize pickK (backP s) 2 j = L at *
      have hcs : 127 = j ∨ (j < 127 ∧ n ≤ 2 + j) := by omega
      have e1 : wmE L = 0 := by unfold wmE; rw [hri]; rfl
      have e2 : wmR L = mapOf L := by unfold wmR; rw [hri]; rfl
      obtain ⟨p1, p2, p3⟩ := par_map L hri more
      have hml := mapOf_len hri
      have E1 := Lib.hid e1; have E2 := Lib.hid e2; have P1 := Lib.hid p1; have P2 := Lib.hid p2; have P3 := Lib.hid p3; have HML := Lib.hid hml
      have hbt : ∀ k : List UInt8, (k == k) = true := fun k => by simp
      have HB := Lib.hid hbt
      have tok1 : True := trivial
      have tok2 : True := trivial
      have tok3 : True := trivial
      clear hgo ho e1 e2 p1 p2 p3 hml hri hbt
      have hpe : parE b = 0 ∨ parE b = 3 ∨ parE b = 6 := by unfold parE; split <;> (try split) <;> (try split) <;> simp
      rcases hcs with rfl | ⟨hc1, hc2⟩
      all_goals
        rcases hpe with hpe | hpe | hpe
        · obtain ⟨q1, q2, q3⟩ := map_par b hpe
          have e3 : wmE (parL b) = 0 := by unfold wmE; rw [q1]; rfl
          have e4 : wmR (parL b) = b.take (parN b) := by unfold wmR; rw [q1, ← q2]; rfl
          have hpl : (parL b).length ≤ 128 := by
            unfold parL
            rw [if_pos hpe]
            refine Nat.le_trans (List.length_filter_le _ _) ?_
            rw [List.length_map, List.length_range]
            unfold mapN
            split <;> omega
          have hbl : b.length = m := by simpa using hb.len
          have hlt : (b.take (parN b)).length = parN b := by rw [List.length_take]; omega
          rw [hbl] at q3
          have q4 : parN b ≤ d := Nat.le_trans q3 hb.cap
          have LT := Lib.hid hlt
          clear hlt
          have PE := Lib.hid hpe; have E3 := Lib.hid e3; have E4 := Lib.hid e4
          clear q1 q2 hpe e3 e4 hbl
          go_wp2_with (first
          | (go_at_call 11; clear tok1; refine (write_any _ _ _ L _ hrv (by omega)).mono ?_; rw [E1.out, E2.out]; rintro e w1 ⟨v1, rfl, ho1, hf1⟩; obtain ⟨V1, d1, rfl, hr1, _⟩ := Rd.of_own ho1)
          | (at_builtin; clear tok2; refine ap8 w1 rfl (.const (.slice none 0 0)) (.tmp 56) rfl w1.heap.size (.slice none 0 0) 0 [] rfl (World.ownsRow_nil _ _ _ _) V1 (mapOf L).length d1 (mapOf L) rfl hr1 (by have := HML.out; omega) (Nat.le_refl _) ?_; intro v2 w2 ho2 hg2 hr2; have hf2 : Fr No w1 w2 := (Fr.refl No w1).grown hg2 (by simp [Value.ownBlock]))
          | (at_builtin; refine ap8 w2 rfl (.tmp 57) (.tmp 58) rfl w1.heap.size v2 _ _ rfl ho2 C k e more rfl (((hc.no hf).no hf1).no hf2) (by have := HML.out; omega) hf2.size ?_; intro v3 w3 ho3 hg3 hr3; have hf3 : Fr No w1 w3 := hf2.grown hg3 (fun g e => .inr (ho2.lt g e).1); have ho3' : w3.ownsRow w1.heap.size 5 1 v3 ((mapOf L).length + k) (u8s (mapOf L ++ more)) := (by simpa using ho3); obtain ⟨V3, d3, rfl, hr3', _⟩ := Rd.of_own ho3')
          | (go_at_call 13; clear tok3; refine (parse_any _ _ _ (mapOf L ++ more) _ hr3' (by have := HML.out; omega)).mono ?_; rw [P1.out, P2.out, P3.out]; rintro e w4 ⟨v4, rfl, ho4, hf4⟩; obtain ⟨V4, d4, rfl, hr4, _⟩ := Rd.of_own ho4)
          | (go_at_call 13; refine (parse_any _ _ _ b _ ((((hb.no hf).no hf1).no hf3).no hf4) (by omega)).mono ?_; rw [PE.out]; rintro e w5 ⟨v5, rfl, ho5, hf5⟩; obtain ⟨V5, d5, rfl, hr5, _⟩ := Rd.of_own ho5)
          | (go_at_call 8; refine (awake_any _).mono ?_; rintro e w6 ⟨rfl, hf6⟩)
          | (go_at_call 16; refine (plainI_any _ _ _ _ _ _ _ ((hr4.no hf5).no hf6) (((((hrv.no hf1).no hf3).no hf4).no hf5).no hf6)).mono ?_; rintro e w7 ⟨rfl, hd7⟩)
          | (go_at_call 11; refine (write_any _ _ _ (parL b) _ ((hr5.no hf6).dr hd7) (by omega)).mono ?_; rw [E3.out, E4.out, LT.out]; rintro e w8 ⟨v8, rfl, ho8, hf8⟩; obtain ⟨V8, d8, rfl, hr8, _⟩ := Rd.of_own ho8)
          | (go_at_call 15; refine (bytes_any _ _ _ _ _ _ _ _ _ hr8 (((((((hb.head q3).no hf).no hf1).no hf3).no hf4).no hf5).no hf6 |>.dr hd7 |>.no hf8)).mono ?_; rintro e w9 ⟨rfl, rfl⟩; simp only [HB.out]))
          go_ret
          exact ⟨rfl, ((((((hf.trans hf1).trans hf3).trans hf4).trans hf5).trans hf6).dr hd7).trans hf8⟩
        · have PE := Lib.hid hpe
          clear hpe
          go_wp2_with (first
          | (go_at_call 11; clear tok1; refine (write_any _ _ _ L _ hrv (by omega)).mono ?_; rw [E1.out, E2.out]; rintro e w1 ⟨v1, rfl, ho1, hf1⟩; obtain ⟨V1, d1, rfl, hr1, _⟩ := Rd.of_own ho1)
          | (at_builtin; clear tok2; refine ap8 w1 rfl (.const (.slice none 0 0)) (.tmp 56) rfl w1.heap.size (.slice none 0 0) 0 [] rfl (World.ownsRow_nil _ _ _ _) V1 (mapOf L).length d1 (mapOf L) rfl hr1 (by have := HML.out; omega) (Nat.le_refl _) ?_; intro v2 w2 ho2 hg2 hr2; have hf2 : Fr No w1 w2 := (Fr.refl No w1).grown hg2 (by simp [Value.ownBlock]))
          | (at_builtin; refine ap8 w2 rfl (.tmp 57) (.tmp 58) rfl w1.heap.size v2 _ _ rfl ho2 C k e more rfl (((hc.no hf).no hf1).no hf2) (by have := HML.out; omega) hf2.size ?_; intro v3 w3 ho3 hg3 hr3; have hf3 : Fr No w1 w3 := hf2.grown hg3 (fun g e => .inr (ho2.lt g e).1); have ho3' : w3.ownsRow w1.heap.size 5 1 v3 ((mapOf L).length + k) (u8s (mapOf L ++ more)) := (by simpa using ho3); obtain ⟨V3, d3, rfl, hr3', _⟩ := Rd.of_own ho3')
          | (go_at_call 13; clear tok3; refine (parse_any _ _ _ (mapOf L ++ more) _ hr3' (by have := HML.out; omega)).mono ?_; rw [P1.out, P2.out, P3.out]; rintro e w4 ⟨v4, rfl, ho4, hf4⟩; obtain ⟨V4, d4, rfl, hr4, _⟩ := Rd.of_own ho4)
          | (go_at_call 13; refine (parse_any _ _ _ b _ ((((hb.no hf).no hf1).no hf3).no hf4) (by omega)).mono ?_; rw [PE.out]; rintro e w5 ⟨v5, rfl, ho5, hf5⟩; obtain ⟨V5, d5, rfl, hr5, _⟩ := Rd.of_own ho5)
          | (go_at_call 8; refine (awake_any _).mono ?_; rintro e w6 ⟨rfl, hf6⟩)
          | (go_at_call 16; refine (plainI_any _ _ _ _ _ _ _ ((hr4.no hf5).no hf6) (((((hrv.no hf1).no hf3).no hf4).no hf5).no hf6)).mono ?_; rintro e w7 ⟨rfl, hd7⟩))
          go_ret
          exact ⟨rfl, (((((hf.trans hf1).trans hf3).trans hf4).trans hf5).trans hf6).dr hd7⟩
        · have PE := Lib.hid hpe
          clear hpe
          go_wp2_with (first
          | (go_at_call 11; clear tok1; refine (write_any _ _ _ L _ hrv (by omega)).mono ?_; rw [E1.out, E2.out]; rintro e w1 ⟨v1, rfl, ho1, hf1⟩; obtain ⟨V1, d1, rfl, hr1, _⟩ := Rd.of_own ho1)
          | (at_builtin; clear tok2; refine ap8 w1 rfl (.const (.slice none 0 0)) (.tmp 56) rfl w1.heap.size (.slice none 0 0) 0 [] rfl (World.ownsRow_nil _ _ _ _) V1 (mapOf L).length d1 (mapOf L) rfl hr1 (by have := HML.out; omega) (Nat.le_refl _) ?_; intro v2 w2 ho2 hg2 hr2; have hf2 : Fr No w1 w2 := (Fr.refl No w1).grown hg2 (by simp [Value.ownBlock]))
          | (at_builtin; refine ap8 w2 rfl (.tmp 57) (.tmp 58) rfl w1.heap.size v2 _ _ rfl ho2 C k e more rfl (((hc.no hf).no hf1).no hf2) (by have := HML.out; omega) hf2.size ?_; intro v3 w3 ho3 hg3 hr3; have hf3 : Fr No w1 w3 := hf2.grown hg3 (fun g e => .inr (ho2.lt g e).1); have ho3' : w3.ownsRow w1.heap.size 5 1 v3 ((mapOf L).length + k) (u8s (mapOf L ++ more)) := (by simpa using ho3); obtain ⟨V3, d3, rfl, hr3', _⟩ := Rd.of_own ho3')
          | (go_at_call 13; clear tok3; refine (parse_any _ _ _ (mapOf L ++ more) _ hr3' (by have := HML.out; omega)).mono ?_; rw [P1.out, P2.out, P3.out]; rintro e w4 ⟨v4, rfl, ho4, hf4⟩; obtain ⟨V4, d4, rfl, hr4, _⟩ := Rd.of_own ho4)
          | (go_at_call 13; refine (parse_any _ _ _ b _ ((((hb.no hf).no hf1).no hf3).no hf4) (by omega)).mono ?_; rw [PE.out]; rintro e w5 ⟨v5, rfl, ho5, hf5⟩; obtain ⟨V5, d5, rfl, hr5, _⟩ := Rd.of_own ho5)
          | (go_at_call 8; refine (awake_any _).mono ?_; rintro e w6 ⟨rfl, hf6⟩)
          | (go_at_call 16; refine (plainI_any _ _ _ _ _ _ _ ((hr4.no hf5).no hf6) (((((hrv.no hf1).no hf3).no hf4).no hf5).no hf6)).mono ?_; rintro e w7 ⟨rfl, hd7⟩))
          go_ret
          exact ⟨rfl, (((((hf.trans hf1).trans hf3).trans hf4).trans hf5).trans hf6).dr hd7⟩
end Go.Proofs.Ytcjfikeephbceaa
