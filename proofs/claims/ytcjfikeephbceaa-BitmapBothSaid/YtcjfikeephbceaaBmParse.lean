/- What package bitmap does: the contract of Parse, and what shows that it does something. -/
import Derived.Test.YtcjfikeephbceaaBmProg3
namespace Go.Proofs.Ytcjfikeephbceaa
open Go.RowKit
set_option maxHeartbeats 400000
set_option linter.unusedVariables false

theorem bm_bad3 {b : List UInt8} (h : b.length < 8 ∨ b.length < mapN b) : parE b = 3 ∧ parN b = 0 ∧ parL b = [] := by
  have e : parE b = 3 := by
    unfold parE
    rcases h with h | h
    · rw [if_pos h]
    · by_cases h8 : b.length < 8
      · rw [if_pos h8]
      · rw [if_neg h8, if_pos h]
  refine ⟨e, ?_, ?_⟩
  · unfold parN; rw [e]; rfl
  · unfold parL; rw [e]; rfl
theorem bm_bad6 {b : List UInt8} (h : mapN b ≤ b.length) (hb : mapBad b = true) : parE b = 6 ∧ parN b = 0 ∧ parL b = [] := by
  have h8 : 8 ≤ mapN b := by unfold mapN; split <;> omega
  have e : parE b = 6 := by
    unfold parE
    rw [if_neg (by omega), if_neg (by omega), hb]
    rfl
  refine ⟨e, ?_, ?_⟩
  · unfold parN; rw [e]; rfl
  · unfold parL; rw [e]; rfl
theorem bm_good {b : List UInt8} (h : mapN b ≤ b.length) (hb : mapBad b = false) : parE b = 0 ∧ parN b = mapN b ∧ parL b = setOf b (mapN b) := by
  have h8 : 8 ≤ mapN b := by unfold mapN; split <;> omega
  have e : parE b = 0 := by
    unfold parE
    rw [if_neg (by omega), if_neg (by omega), hb]
    rfl
  refine ⟨e, ?_, ?_⟩
  · unfold parN; rw [e]; rfl
  · unfold parL; rw [e]; rfl

theorem parse_any (A : Option Addr) (n c : Nat) (b : List UInt8) (w : World) (ha : Rd w A n c (u8s b)) (hn : n ≤ 65536) :
    Calls Try.prog 13 #[.slice A n c] w fun e w' => ∃ v, e = .returned (.tuple #[v, .int .i64 (parN b : Int), .int .i64 (parE b)]) ∧ w'.ownsRow w.heap.size 3 1 v (parL b).length (ints (parL b)) ∧ Fr No w w' := by
  have hread := read_any A n c b w ha hn
  unfold hvV at hread
  have HREAD := Lib.hid hread
  clear hread
  go_enter Try.func13, Try.ntmps13
  go_wp2_with (go_at_call 24; refine HREAD.out.mono ?_; rintro e w1 ⟨hf, (⟨a, d, rfl, hbad⟩ | ⟨a, d, rfl, hlen, hrd⟩)⟩)
  · obtain ⟨e1, e2, e3⟩ := bm_bad3 hbad
    go_ret3
    exact ⟨.slice none 0 0, by rw [e1, e2]; rfl, by rw [e3]; exact World.ownsRow_nil _ _ _ _, hf.alloc _⟩
  · obtain ⟨l1, l2, hbit⟩ := id hrd
    have h1 := hbit 1 (by omega) (by have : 8 ≤ mapN b := by unfold mapN; split <;> omega
                                     omega)
    have hbk : Bk (w1.alloc (.cells #[.int .u64 (a : Int), .int .u64 (d : Int)] 46)) w1.heap.size 46 [.int .u64 (a : Int), .int .u64 (d : Int)] := Bk.new w1 _ _
    have hf0 := hf.alloc (.cells #[.int .u64 (a : Int), .int .u64 (d : Int)] 46)
    have tok1 : True := trivial
    have tok2 : True := trivial
    cases hb0 : bitAt b 0 with
    | false =>
      have hN : mapN b = 8 := by unfold mapN; rw [if_neg (by rw [hb0]; simp)]
      obtain ⟨e1, e2, e3⟩ := bm_good hlen (by unfold mapBad; rw [hb0]; rfl)
      rw [hN] at hrd e2 e3
      have hth := reads_those hrd (by omega)
      rw [← e3] at hth
      rw [show (1 : Nat) - 1 = 0 from rfl, hb0] at h1
      have E1 := Lib.hid e1; have E2 := Lib.hid e2; have HTH := Lib.hid hth; have H1 := Lib.hid h1
      rw [hN]
      clear e1 e2 e3 hth h1 hb0 hbit hrd HREAD hN hlen
      go_wp2_with (first
        | (go_at_call 22; clear tok1; refine (has_any a d 1 _ l1 l2 (by omega) (by omega)).mono ?_; rw [H1.out]; rintro e w2 ⟨rfl, hf2⟩; obtain ⟨q0, q1, -, -⟩ := hv_cells (hbk.no hf2))
        | (go_at_call 25; refine (those_any a d 2 64 _ l1 l2 (by omega) (by omega) (by omega)).mono ?_; rw [show 64 + 1 - 2 = 8 * 8 - 1 from rfl, HTH.out]; rintro e w3 ⟨v, rfl, ho3, hf3⟩))
      go_ret3
      exact ⟨v, by rw [E1.out, E2.out]; rfl, own_low ho3 (hf0.trans hf2).size, (hf0.trans hf2).trans hf3⟩
    | true =>
      have hN : mapN b = 16 := by unfold mapN; rw [if_pos hb0]
      have h65 := hbit 65 (by omega) (by omega)
      rw [show 65 - 1 = 64 from rfl] at h65
      rw [show (1 : Nat) - 1 = 0 from rfl, hb0] at h1
      have H1 := Lib.hid h1
      have hrd16 := hrd
      rw [hN] at hrd16
      have hso := reads_some hrd16
      cases hb64 : bitAt b 64 with
      | true =>
        obtain ⟨e1, e2, e3⟩ := bm_bad6 hlen (by unfold mapBad; rw [hb0, hb64]; rfl)
        rw [hb64] at h65
        have E1 := Lib.hid e1; have E2 := Lib.hid e2; have E3 := Lib.hid e3; have H65 := Lib.hid h65
        rw [hN]
        clear e1 e2 e3 h1 h65 hso hb0 hb64 hbit hrd hrd16 HREAD hN hlen
        go_wp2_with (first
          | (go_at_call 22; clear tok1; refine (has_any a d 1 _ l1 l2 (by omega) (by omega)).mono ?_; rw [H1.out]; rintro e w2 ⟨rfl, hf2⟩; obtain ⟨q0, q1, -, -⟩ := hv_cells (hbk.no hf2))
          | (go_at_call 22; clear tok2; refine (has_any a d 65 _ l1 l2 (by omega) (by omega)).mono ?_; rw [H65.out]; rintro e w3 ⟨rfl, hf3⟩))
        go_ret3
        exact ⟨.slice none 0 0, by rw [E1.out, E2.out]; rfl, by rw [E3.out]; exact World.ownsRow_nil _ _ _ _, (hf0.trans hf2).trans hf3⟩
      | false =>
        rw [hb64] at h65
        have H65 := Lib.hid h65
        cases hany : ((setOf b 16).any fun n => decide (66 ≤ n)) with
        | false =>
          obtain ⟨e1, e2, e3⟩ := bm_bad6 hlen (by unfold mapBad; rw [hb0, hb64, hany]; rfl)
          rw [hany] at hso
          have E1 := Lib.hid e1; have E2 := Lib.hid e2; have E3 := Lib.hid e3; have HSO := Lib.hid hso
          rw [hN]
          clear e1 e2 e3 h1 h65 hso hany hb0 hb64 hbit hrd hrd16 HREAD hN hlen
          go_wp2_with (first
            | (go_at_call 22; clear tok1; refine (has_any a d 1 _ l1 l2 (by omega) (by omega)).mono ?_; rw [H1.out]; rintro e w2 ⟨rfl, hf2⟩; obtain ⟨q0, q1, -, -⟩ := hv_cells (hbk.no hf2))
            | (go_at_call 22; clear tok2; refine (has_any a d 65 _ l1 l2 (by omega) (by omega)).mono ?_; rw [H65.out]; rintro e w3 ⟨rfl, hf3⟩; obtain ⟨x0, x1, -, -⟩ := hv_cells ((hbk.no hf2).no hf3))
            | (go_at_call 21; refine (some_any a d 66 128 _ l1 l2 (by omega) (by omega) (by omega)).mono ?_; rw [show 128 + 1 - 66 = 63 from rfl, HSO.out]; rintro e w4 ⟨rfl, hf4⟩))
          go_ret3
          exact ⟨.slice none 0 0, by rw [E1.out, E2.out]; rfl, by rw [E3.out]; exact World.ownsRow_nil _ _ _ _, ((hf0.trans hf2).trans hf3).trans hf4⟩
        | true =>
          obtain ⟨e1, e2, e3⟩ := bm_good hlen (by unfold mapBad; rw [hb0, hb64, hany]; rfl)
          rw [hN] at e2 e3
          have hth := reads_those hrd16 (by omega)
          rw [← e3] at hth
          rw [hany] at hso
          have E1 := Lib.hid e1; have E2 := Lib.hid e2; have HTH := Lib.hid hth; have HSO := Lib.hid hso
          rw [hN]
          clear e1 e2 e3 h1 h65 hso hth hany hb0 hb64 hbit hrd hrd16 HREAD hN hlen
          go_wp2_with (first
            | (go_at_call 22; clear tok1; refine (has_any a d 1 _ l1 l2 (by omega) (by omega)).mono ?_; rw [H1.out]; rintro e w2 ⟨rfl, hf2⟩; obtain ⟨q0, q1, -, -⟩ := hv_cells (hbk.no hf2))
            | (go_at_call 22; clear tok2; refine (has_any a d 65 _ l1 l2 (by omega) (by omega)).mono ?_; rw [H65.out]; rintro e w3 ⟨rfl, hf3⟩; obtain ⟨x0, x1, -, -⟩ := hv_cells ((hbk.no hf2).no hf3))
            | (go_at_call 21; refine (some_any a d 66 128 _ l1 l2 (by omega) (by omega) (by omega)).mono ?_; rw [show 128 + 1 - 66 = 63 from rfl, HSO.out]; rintro e w4 ⟨rfl, hf4⟩; obtain ⟨y0, y1, -, -⟩ := hv_cells (((hbk.no hf2).no hf3).no hf4))
            | (go_at_call 25; refine (those_any a d 2 128 _ l1 l2 (by omega) (by omega) (by omega)).mono ?_; rw [show 128 + 1 - 2 = 8 * 16 - 1 from rfl, HTH.out]; rintro e w5 ⟨v, rfl, ho5, hf5⟩))
          go_ret3
          exact ⟨v, by rw [E1.out, E2.out]; rfl, own_low ho5 (((hf0.trans hf2).trans hf3).trans hf4).size, (((hf0.trans hf2).trans hf3).trans hf4).trans hf5⟩
end Go.Proofs.Ytcjfikeephbceaa
