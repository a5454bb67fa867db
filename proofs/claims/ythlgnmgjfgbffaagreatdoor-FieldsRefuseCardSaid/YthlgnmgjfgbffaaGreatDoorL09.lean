/- The texts BmParse, RefMap, joined. -/
import Derived.Test.YthlgnmgjfgbffaaGreatDoorL08
import Derived.Test.YthlgnmgjfgbffaaGreatDoorL07
import Derived.Test.YthlgnmgjfgbffaaGreatDoorL03
/- What package bitmap does: the contract of Parse, and what shows that it does something. -/
namespace Go.Proofs.YthlgnmgjfgbffaaGreatDoor
open Go.RowKit
set_option maxHeartbeats 400000
set_option linter.unusedVariables false
set_option maxRecDepth 20000

theorem bm_bad3 {b : List UInt8} (h : b.length < 8 ∨ b.length < mapN b) : parE b = 3 ∧ parN b = 0 ∧ parL b = [] := by
  have e : parE b = 3 := by
    unfold parE
    rcases h with h | h
    · rw [if_pos h]
    · by_cases h8 : b.length < 8
      · rw [if_pos h8]
      · rw [if_neg h8, if_pos h]
  refine ⟨e, ?_, ?_⟩
  · unfold parN; rw [e]; rfl
  · unfold parL; rw [e]; rfl
theorem bm_bad6 {b : List UInt8} (h : mapN b ≤ b.length) (hb : mapBad b = true) : parE b = 6 ∧ parN b = 0 ∧ parL b = [] := by
  have h8 : 8 ≤ mapN b := by unfold mapN; split <;> omega
  have e : parE b = 6 := by
    unfold parE
    rw [if_neg (by omega), if_neg (by omega), hb]
    rfl
  refine ⟨e, ?_, ?_⟩
  · unfold parN; rw [e]; rfl
  · unfold parL; rw [e]; rfl
theorem bm_good {b : List UInt8} (h : mapN b ≤ b.length) (hb : mapBad b = false) : parE b = 0 ∧ parN b = mapN b ∧ parL b = setOf b (mapN b) := by
  have h8 : 8 ≤ mapN b := by unfold mapN; split <;> omega
  have e : parE b = 0 := by
    unfold parE
    rw [if_neg (by omega), if_neg (by omega), hb]
    rfl
  refine ⟨e, ?_, ?_⟩
  · unfold parN; rw [e]; rfl
  · unfold parL; rw [e]; rfl

theorem bm_parse_any (A : Option Addr) (n c : Nat) (b : List UInt8) (w : World) (ha : Rd w A n c (u8s b)) (hn : n ≤ 65536) :
    Calls Tryz.prog 78 #[.slice A n c] w fun e w' => ∃ v, e = .returned (.tuple #[v, .int .i64 (parN b : Int), .int .i64 (parE b)]) ∧ w'.ownsRow w.heap.size 3 1 v (parL b).length (ints (parL b)) ∧ Fr No w w' := by
  have hread := read_any A n c b w ha hn
  unfold hvV at hread
  have HREAD := Lib.hid hread
  clear hread
  go_enter Tryz.func78, Tryz.ntmps78
  go_wp2_with (go_at_call 125; refine HREAD.out.mono ?_; rintro e w1 ⟨hf, (⟨a, d, rfl, hbad⟩ | ⟨a, d, rfl, hlen, hrd⟩)⟩)
  · obtain ⟨e1, e2, e3⟩ := bm_bad3 hbad
    go_ret3
    exact ⟨.slice none 0 0, by rw [e1, e2]; rfl, by rw [e3]; exact World.ownsRow_nil _ _ _ _, hf.alloc _⟩
  · obtain ⟨l1, l2, hbit⟩ := id hrd
    have h1 := hbit 1 (by omega) (by have : 8 ≤ mapN b := by unfold mapN; split <;> omega
                                     omega)
    have hbk : Bk (w1.alloc (.cells #[.int .u64 (a : Int), .int .u64 (d : Int)] 169)) w1.heap.size 169 [.int .u64 (a : Int), .int .u64 (d : Int)] := Bk.new w1 _ _
    have hf0 := hf.alloc (.cells #[.int .u64 (a : Int), .int .u64 (d : Int)] 169)
    have tok1 : True := trivial
    have tok2 : True := trivial
    cases hb0 : bitAt b 0 with
    | false =>
      have hN : mapN b = 8 := by unfold mapN; rw [if_neg (by rw [hb0]; simp)]
      obtain ⟨e1, e2, e3⟩ := bm_good hlen (by unfold mapBad; rw [hb0]; rfl)
      rw [hN] at hrd e2 e3
      have hth := reads_those hrd (by omega)
      rw [← e3] at hth
      rw [show (1 : Nat) - 1 = 0 from rfl, hb0] at h1
      have E1 := Lib.hid e1; have E2 := Lib.hid e2; have HTH := Lib.hid hth; have H1 := Lib.hid h1
      rw [hN]
      clear e1 e2 e3 hth h1 hb0 hbit hrd HREAD hN hlen
      go_wp2_with (first
        | (go_at_call 126; clear tok1; refine (has_any a d 1 _ l1 l2 (by omega) (by omega)).mono ?_; rw [H1.out]; rintro e w2 ⟨rfl, hf2⟩; obtain ⟨q0, q1, -, -⟩ := hv_cells (hbk.no hf2))
        | (go_at_call 128; refine (those_any a d 2 64 _ l1 l2 (by omega) (by omega) (by omega)).mono ?_; rw [show 64 + 1 - 2 = 8 * 8 - 1 from rfl, HTH.out]; rintro e w3 ⟨v, rfl, ho3, hf3⟩))
      go_ret3
      exact ⟨v, by rw [E1.out, E2.out]; rfl, own_low ho3 (hf0.trans hf2).size, (hf0.trans hf2).trans hf3⟩
    | true =>
      have hN : mapN b = 16 := by unfold mapN; rw [if_pos hb0]
      have h65 := hbit 65 (by omega) (by omega)
      rw [show 65 - 1 = 64 from rfl] at h65
      rw [show (1 : Nat) - 1 = 0 from rfl, hb0] at h1
      have H1 := Lib.hid h1
      have hrd16 := hrd
      rw [hN] at hrd16
      have hso := reads_some hrd16
      cases hb64 : bitAt b 64 with
      | true =>
        obtain ⟨e1, e2, e3⟩ := bm_bad6 hlen (by unfold mapBad; rw [hb0, hb64]; rfl)
        rw [hb64] at h65
        have E1 := Lib.hid e1; have E2 := Lib.hid e2; have E3 := Lib.hid e3; have H65 := Lib.hid h65
        rw [hN]
        clear e1 e2 e3 h1 h65 hso hb0 hb64 hbit hrd hrd16 HREAD hN hlen
        go_wp2_with (first
          | (go_at_call 126; clear tok1; refine (has_any a d 1 _ l1 l2 (by omega) (by omega)).mono ?_; rw [H1.out]; rintro e w2 ⟨rfl, hf2⟩; obtain ⟨q0, q1, -, -⟩ := hv_cells (hbk.no hf2))
          | (go_at_call 126; clear tok2; refine (has_any a d 65 _ l1 l2 (by omega) (by omega)).mono ?_; rw [H65.out]; rintro e w3 ⟨rfl, hf3⟩))
        go_ret3
        exact ⟨.slice none 0 0, by rw [E1.out, E2.out]; rfl, by rw [E3.out]; exact World.ownsRow_nil _ _ _ _, (hf0.trans hf2).trans hf3⟩
      | false =>
        rw [hb64] at h65
        have H65 := Lib.hid h65
        cases hany : ((setOf b 16).any fun n => decide (66 ≤ n)) with
        | false =>
          obtain ⟨e1, e2, e3⟩ := bm_bad6 hlen (by unfold mapBad; rw [hb0, hb64, hany]; rfl)
          rw [hany] at hso
          have E1 := Lib.hid e1; have E2 := Lib.hid e2; have E3 := Lib.hid e3; have HSO := Lib.hid hso
          rw [hN]
          clear e1 e2 e3 h1 h65 hso hany hb0 hb64 hbit hrd hrd16 HREAD hN hlen
          go_wp2_with (first
            | (go_at_call 126; clear tok1; refine (has_any a d 1 _ l1 l2 (by omega) (by omega)).mono ?_; rw [H1.out]; rintro e w2 ⟨rfl, hf2⟩; obtain ⟨q0, q1, -, -⟩ := hv_cells (hbk.no hf2))
            | (go_at_call 126; clear tok2; refine (has_any a d 65 _ l1 l2 (by omega) (by omega)).mono ?_; rw [H65.out]; rintro e w3 ⟨rfl, hf3⟩; obtain ⟨x0, x1, -, -⟩ := hv_cells ((hbk.no hf2).no hf3))
            | (go_at_call 127; refine (some_any a d 66 128 _ l1 l2 (by omega) (by omega) (by omega)).mono ?_; rw [show 128 + 1 - 66 = 63 from rfl, HSO.out]; rintro e w4 ⟨rfl, hf4⟩))
          go_ret3
          exact ⟨.slice none 0 0, by rw [E1.out, E2.out]; rfl, by rw [E3.out]; exact World.ownsRow_nil _ _ _ _, ((hf0.trans hf2).trans hf3).trans hf4⟩
        | true =>
          obtain ⟨e1, e2, e3⟩ := bm_good hlen (by unfold mapBad; rw [hb0, hb64, hany]; rfl)
          rw [hN] at e2 e3
          have hth := reads_those hrd16 (by omega)
          rw [← e3] at hth
          rw [hany] at hso
          have E1 := Lib.hid e1; have E2 := Lib.hid e2; have HTH := Lib.hid hth; have HSO := Lib.hid hso
          rw [hN]
          clear e1 e2 e3 h1 h65 hso hth hany hb0 hb64 hbit hrd hrd16 HREAD hN hlen
          go_wp2_with (first
            | (go_at_call 126; clear tok1; refine (has_any a d 1 _ l1 l2 (by omega) (by omega)).mono ?_; rw [H1.out]; rintro e w2 ⟨rfl, hf2⟩; obtain ⟨q0, q1, -, -⟩ := hv_cells (hbk.no hf2))
            | (go_at_call 126; clear tok2; refine (has_any a d 65 _ l1 l2 (by omega) (by omega)).mono ?_; rw [H65.out]; rintro e w3 ⟨rfl, hf3⟩; obtain ⟨x0, x1, -, -⟩ := hv_cells ((hbk.no hf2).no hf3))
            | (go_at_call 127; refine (some_any a d 66 128 _ l1 l2 (by omega) (by omega) (by omega)).mono ?_; rw [show 128 + 1 - 66 = 63 from rfl, HSO.out]; rintro e w4 ⟨rfl, hf4⟩; obtain ⟨y0, y1, -, -⟩ := hv_cells (((hbk.no hf2).no hf3).no hf4))
            | (go_at_call 128; refine (those_any a d 2 128 _ l1 l2 (by omega) (by omega) (by omega)).mono ?_; rw [show 128 + 1 - 2 = 8 * 16 - 1 from rfl, HTH.out]; rintro e w5 ⟨v, rfl, ho5, hf5⟩))
          go_ret3
          exact ⟨v, by rw [E1.out, E2.out]; rfl, own_low ho5 (((hf0.trans hf2).trans hf3).trans hf4).size, (((hf0.trans hf2).trans hf3).trans hf4).trans hf5⟩
end Go.Proofs.YthlgnmgjfgbffaaGreatDoor
/- The statements' own maps of bits: what they answer. -/
namespace Go.Proofs.YthlgnmgjfgbffaaGreatDoor
open Go.RowKit
set_option maxHeartbeats 400000
set_option linter.unusedVariables false
set_option maxRecDepth 20000

theorem mask_int (m : Nat) (h : m < 8) : (128 : Int) / 2 ^ m = (((128 : UInt8) >>> UInt8.ofNat m).toNat : Int) := by
  obtain rfl | rfl | rfl | rfl | rfl | rfl | rfl | rfl : m = 0 ∨ m = 1 ∨ m = 2 ∨ m = 3 ∨ m = 4 ∨ m = 5 ∨ m = 6 ∨ m = 7 := by omega
  all_goals decide
theorem u8s_setBit (B : List UInt8) (M : Nat) (b : UInt8) (hb : B[M / 8]? = some b) : u8s (setBit B M) = (u8s B).set (M / 8) (.int .u8 (bits BinOp.or IntKind.u8 (b.toNat : Int) (128 / 2 ^ (M % 8)))) := by
  have hg : B.getD (M / 8) 0 = b := by rw [List.getD, hb]; rfl
  unfold setBit
  rw [hg, mask_int _ (by omega), or_u8]
  simp [u8s, List.map_set]
theorem mapStep_keep (B : List UInt8) (M : Nat) (h : ¬ (64 < (M : Int) + 1 ∧ B.length = 8)) : mapStep B ((M : Int) + 1) = setBit B M := by
  unfold mapStep
  rw [if_neg h, show ((M : Int) + 1).toNat - 1 = M from by omega]
theorem mapStep_grow (B : List UInt8) (M : Nat) (h1 : 64 ≤ M) (h2 : B.length = 8) : mapStep B ((M : Int) + 1) = setBit (setBit (B ++ List.replicate 8 0) 0) M := by
  unfold mapStep
  rw [if_pos ⟨by omega, h2⟩, show ((M : Int) + 1).toNat - 1 = M from by omega]

set_option maxRecDepth 100000 in
set_option maxHeartbeats 4000000 in
theorem ref_write (A : Option Addr) (n c : Nat) (l : List Int) (w : World) (ha : Rd w A n c (ints l)) (hn : n ≤ 65536) :
    Calls Tryz.prog 12 #[.slice A n c] w fun e w' => ∃ v, e = .returned (.tuple #[v, .int .i64 (wmE l)]) ∧ w'.ownsRow w.heap.size 5 1 v (wmR l).length (u8s (wmR l)) ∧ Fr No w w' := by
  have hl : l.length = n := by simpa using ha.len
  have hno : ∀ k, risesB (l.take k) = false → wmE l = 1 ∧ wmR l = [] := fun k h => by
    have hr : risesB l = false := by
      rw [Bool.eq_false_iff]
      intro h2
      rw [rises_take h2 k] at h
      cases h
    exact ⟨by unfold wmE; rw [hr]; rfl, by unfold wmR; rw [hr]; rfl⟩
  have HNO := Lib.hid hno
  have HL := Lib.hid hl
  clear hno hl
  go_enter Tryz.func12, Tryz.ntmps12
  go_wp2_with (at_make; go_must (refine mk8 w rfl (.const (.int .i64 8)) (.const (.int .i64 8)) rfl .i64 .i64 _ _ 8 8 rfl rfl rfl rfl (by omega) (by omega) ?_); intro w1 hb1 hf1 hs1)
  have ho1 := hb1.own (base := w.heap.size) (n := 8) (cap := 8) (Nat.le_refl _) (Nat.le_refl _) (by simp [maxLen]) (by simp)
  clear hb1 hs1
  go_loopw [4, 5] (fun v i wr => ∃ k : Nat, k ≤ n ∧ i = .int .i64 (k : Int) ∧ risesB (l.take k) = true ∧ wr.ownsRow w.heap.size 5 1 v (mapOf (l.take k)).length (u8s (mapOf (l.take k))) ∧ Fr No w wr) (fun _ i _ => n - (intOf i).toNat)
  case atStart => exact ⟨0, Nat.zero_le _, rfl, rfl, ho1, hf1⟩
  case round =>
    clear ho1
    obtain ⟨k, hk, rfl, hr, ho, hf⟩ := hrel
    rcases Nat.lt_or_ge k n with hlt | hge
    · have hlk : k < l.length := by have := HL.out; omega
      obtain ⟨ad, u, rfl, hu, hc⟩ := (ha.no hf).at_ hlt
      rw [ints_get l k hlk] at hu
      injection hu with hu
      subst hu
      have hsn := rises_snoc hlk hr
      have hlen := mapOf_len hr
      -- the one ahead
      have hprev : 0 < k → wr.cell? (ad.add (k - 1)) = some (.int .i64 (l.getD (k - 1) 0)) := fun h0 => by
        obtain ⟨ad2, u2, e2, hu2, hc2⟩ := (ha.no hf).at_ (show k - 1 < n by omega)
        injection e2 with e2
        subst e2
        rw [ints_get l (k - 1) (by omega)] at hu2
        injection hu2 with hu2
        subst hu2
        rw [hc2, List.getD, List.getElem?_eq_getElem (by omega), Option.getD_some]
      have hms := mapOf_snoc (l.take k) l[k]
      rw [← List.take_succ_eq_append_getElem hlk] at hms
      generalize l[k] = x at hc hsn hms
      have HMS := Lib.hid hms
      have HR := Lib.hid hr
      have HSN := Lib.hid hsn
      have HLEN := Lib.hid hlen
      clear hr hsn hlen hms
      have hbad : risesB (l.take (k + 1)) = false → wmE l = 1 ∧ wmR l = [] := HNO.out (k + 1)
      have HB := Lib.hid hbad
      clear hbad
      by_cases hm : 2 ≤ x ∧ x ≤ 128 ∧ x ≠ 65
      · obtain ⟨m1, m2, m3⟩ := hm
        have m3b : (x == 65) = false := by simpa using m3
        have hlen8 := HLEN.out
        generalize mapOf (l.take k) = B at ho HMS hlen8 HLEN
        have hgo : (¬ (0 : Int) < (k : Int) ∨ (0 < k ∧ ∃ pv, wr.cell? (ad.add (k - 1)) = some (.int .i64 pv) ∧ pv < x ∧ (k : Int) - 1 = ((k - 1 : Nat) : Int))) ∧ risesB (l.take (k + 1)) = true ∨
            (0 < k ∧ (∃ pv, wr.cell? (ad.add (k - 1)) = some (.int .i64 pv) ∧ x ≤ pv ∧ (k : Int) - 1 = ((k - 1 : Nat) : Int)) ∧ risesB (l.take (k + 1)) = false) := by
          have hmb : mayB x = true := mayB_iff.2 ⟨m1, m2, m3⟩
          rcases Nat.eq_zero_or_pos k with hk0 | hk0
          · exact .inl ⟨.inl (by omega), by rw [HSN.out, hmb, decide_eq_true hk0]; rfl⟩
          · by_cases hlt2 : l.getD (k - 1) 0 < x
            · exact .inl ⟨.inr ⟨hk0, _, hprev hk0, hlt2, by omega⟩, by rw [HSN.out, hmb, decide_eq_true hlt2]; simp⟩
            · exact .inr ⟨hk0, ⟨_, hprev hk0, by omega, by omega⟩, by rw [HSN.out, hmb, decide_eq_false hlt2, decide_eq_false (by omega : ¬ k = 0)]; rfl⟩
        clear hprev HSN
        rcases hgo with ⟨hgo, hr1⟩ | ⟨hk0, ⟨pv, hp, hle, ek⟩, hr1⟩
        · have HR1 := Lib.hid hr1
          clear hr1
          obtain ⟨M, rfl⟩ : ∃ M : Nat, x = (M : Int) + 1 := ⟨(x - 1).toNat, by omega⟩
          have hM1 : 1 ≤ M := by omega
          have hM2 : M ≤ 127 := by omega
          have hM3 : M ≠ 64 := by omega
          by_cases hgrow : M ≤ 63 ∨ B.length = 16
          · -- no second part is wanted
            obtain ⟨L, hL1⟩ : ∃ L, L = B.length := ⟨B.length, rfl⟩
            rw [← hL1] at hlen8 hgrow
            have hL2 : M < 8 * L := by clear hgo HR1 m3b; omega
            have hL8 : ¬ (64 < (M : Int) + 1 ∧ L = 8) := by clear hgo HR1 m3b; omega
            rw [← hL1] at ho
            obtain ⟨g, cap, rfl, hgb, hcap, -, -, -⟩ := own_open ho (by omega)
            obtain ⟨b, hb⟩ : ∃ b, B[M / 8]? = some b := ⟨_, List.getElem?_eq_getElem (by omega)⟩
            have hcb := own_cell ho (i := M / 8) (u := .int .u8 (b.toNat : Int)) (by unfold u8s; rw [List.getElem?_map, hb]; rfl)
            have hfz := own_free ho (by omega) (M / 8)
            have HL1 := Lib.hid hL1
            have HBB := Lib.hid hb
            have hLB : (M : Int) / 8 < (L : Int) := by omega
            have ht : ((64 : Int) < (M : Int) + 1 ∧ ((L : Int) == 8) = false) ∨ ¬ (64 : Int) < (M : Int) + 1 := by
              by_cases h : (64 : Int) < (M : Int) + 1
              · exact .inl ⟨h, by rw [beq_eq_false_iff_ne]; omega⟩
              · exact .inr h
            have hst := mapStep_keep B M (by rw [← hL1]; exact hL8)
            have hlt9 : M / 8 < L := by omega
            have hset := own_set ho hlt9 (.int .u8 (bits BinOp.or IntKind.u8 (b.toNat : Int) (128 / 2 ^ (M % 8))))
            rw [← u8s_setBit B M b hb] at hset
            have hsl : (setBit B M).length = L := by rw [setBit_length, hL1]
            have HST := Lib.hid hst; have HSL := Lib.hid hsl
            clear hL1 hb hlen8 hgrow hL8 hL2 hst hsl
            rcases hgo with hki | ⟨hk0, pv, hp, hplt, ek⟩
            all_goals
              rcases ht with ⟨ht1, ht2⟩ | ht1
              all_goals
                go_wp2
                go_roundw
                case rel => exact ⟨k + 1, by omega, by go_num, HR1.out, by rw [HMS.out, HST.out, HSL.out]; exact hset, hf.setCell (.inr hgb) _⟩
                case measure => simp [intOf]; omega
          · -- the second part is laid first
            have h8 : B.length = 8 := by clear hgo; omega
            have hM64 : 64 ≤ M := by clear hgo; omega
            rw [h8] at ho
            have hst := mapStep_grow B M hM64 h8
            obtain ⟨g0, cap0, rfl, hgb0, hcap0, -, -, -⟩ := own_open ho (by omega)
            obtain ⟨b0, hb0⟩ : ∃ b0, B[0]? = some b0 := ⟨_, List.getElem?_eq_getElem (by omega)⟩
            have hx0 : (B ++ List.replicate 8 0)[0 / 8]? = some b0 := by rw [List.getElem?_append_left (by omega)]; exact hb0
            have hxM : (setBit (B ++ List.replicate 8 0) 0)[M / 8]? = some 0 := by
              unfold setBit
              rw [List.getElem?_set, if_neg (by omega), List.getElem?_append_right (by omega), List.getElem?_replicate, if_pos (by omega)]
            have hxz : (B ++ List.replicate 8 0)[M / 8]? = some 0 := by rw [List.getElem?_append_right (by omega), List.getElem?_replicate, if_pos (by omega)]
            have HXZ := Lib.hid hxz
            have hM08 : ¬ 0 = M / 8 := by omega
            have hlen16 : (B ++ List.replicate 8 0).length = 16 := by rw [List.length_append, h8]; rfl
            have hsl : (setBit (setBit (B ++ List.replicate 8 0) 0) M).length = 16 := by rw [setBit_length, setBit_length, hlen16]
            have rz : ∀ u : World, Rd (u.alloc (.cells #[.int .u8 0, .int .u8 0, .int .u8 0, .int .u8 0, .int .u8 0, .int .u8 0, .int .u8 0, .int .u8 0] 5)) (some ⟨u.heap.size, 0, none⟩) 8 8 (u8s (List.replicate 8 0)) := fun u => Rd.lit u (u8s (List.replicate 8 0)) _ 8 rfl (by simp [maxLen])
            have RZ := Lib.hid rz
            have HST := Lib.hid hst; have HSL := Lib.hid hsl; have HX0 := Lib.hid hx0; have HXM := Lib.hid hxM
            have ht1 : (64 : Int) < (M : Int) + 1 := by omega
            have hM8 : (M : Int) / 8 < 16 := by omega
            have hM80 : ¬ M / 8 = 0 := by omega
            have hMl : M / 8 < 16 := by omega
            clear hst hsl hxz hx0 hxM hlen16 hb0 rz hlen8 hgrow h8
            rcases hgo with hki | ⟨hk0, pv, hp, hplt, ek⟩
            all_goals
              go_wp2_with (at_builtin; go_must (refine ap8 _ rfl (.tmp 48) (.tmp 49) rfl w.heap.size (.slice (some ⟨g0, 0, none⟩) 8 cap0) 8 B rfl (ho.alloc _) (some ⟨wr.heap.size, 0, none⟩) 8 8 (List.replicate 8 0) rfl (RZ.out wr) (by omega) (by simp; have := hf.size; omega) ?_); intro v2 w2 ho2 hg2 hr2; obtain ⟨g2, cap2, rfl, hgb2, hcap2, -, -, -⟩ := own_open ho2 (by omega); have hc20 := own_cell ho2 (i := 0) (u := .int .u8 (b0.toNat : Int)) (by unfold u8s; rw [List.getElem?_map, HX0.out]; rfl); have hfz0 := own_free ho2 (by omega) 0; have hfzM := own_free ho2 (by omega) (M / 8); have hcM := own_cell ho2 (i := M / 8) (u := .int .u8 0) (by unfold u8s; rw [List.getElem?_map, HXZ.out]; rfl))
              have hown2 : ((w2.setCell ⟨g2, 0, none⟩ (.int .u8 (bits BinOp.or IntKind.u8 (b0.toNat : Int) 128))).setCell ⟨g2, M / 8, none⟩ (.int .u8 (bits BinOp.or IntKind.u8 0 (128 / 2 ^ (M % 8))))).ownsRow w.heap.size 5 1 (.slice (some ⟨g2, 0, none⟩) 16 cap2) 16 (u8s (setBit (setBit (B ++ List.replicate 8 0) 0) M)) := by
                have h1 := own_set (own_set ho2 (i := 0) (by omega) (.int .u8 (bits BinOp.or IntKind.u8 (b0.toNat : Int) 128))) (i := M / 8) hMl (.int .u8 (bits BinOp.or IntKind.u8 0 (128 / 2 ^ (M % 8))))
                rw [u8s_setBit _ M 0 HXM.out, u8s_setBit _ 0 b0 HX0.out]
                exact h1
              have hFr2 : Fr No w ((w2.setCell ⟨g2, 0, none⟩ (.int .u8 (bits BinOp.or IntKind.u8 (b0.toNat : Int) 128))).setCell ⟨g2, M / 8, none⟩ (.int .u8 (bits BinOp.or IntKind.u8 0 (128 / 2 ^ (M % 8))))) :=
                (((hf.alloc _).grown hg2 (fun g e => .inr (ho.lt g e).1)).setCell (.inr hgb2) _).setCell (.inr hgb2) _
              go_roundw
              case rel => exact ⟨k + 1, by omega, by go_num, HR1.out, by rw [HMS.out, HST.out, HSL.out]; exact hown2, hFr2⟩
              case measure => simp [intOf]; omega
        · obtain ⟨r1, r2⟩ := HB.out hr1
          have R1 := Lib.hid r1; have R2 := Lib.hid r2
          clear r1 r2 hr1 hlen8
          go_wp2
          go_ret2
          exact ⟨.slice none 0 0, by rw [R1.out]; rfl, by rw [R2.out]; exact World.ownsRow_nil _ _ _ _, hf⟩
      · have hmb : mayB x = false := by
          rw [Bool.eq_false_iff]
          intro h
          exact hm (mayB_iff.1 h)
        obtain ⟨r1, r2⟩ := HB.out (by rw [HSN.out, hmb]; rfl)
        have R1 := Lib.hid r1; have R2 := Lib.hid r2
        have hcs : x < 2 ∨ (2 ≤ x ∧ 128 < x) ∨ (2 ≤ x ∧ x ≤ 128 ∧ (x == 65) = true) := by
          rw [beq_iff_eq]
          omega
        clear r1 r2 hm hmb hprev
        rcases hcs with h | ⟨h, h2⟩ | ⟨h, h2, h3⟩
        all_goals
          go_wp2
          go_ret2
          exact ⟨.slice none 0 0, by rw [R1.out]; rfl, by rw [R2.out]; exact World.ownsRow_nil _ _ _ _, hf⟩
    · obtain rfl : k = n := by omega
      have hl2 := HL.out
      rw [List.take_of_length_le (by omega)] at ho hr
      have e1 : wmE l = 0 := by unfold wmE; rw [if_pos hr]
      have e2 : wmR l = mapOf l := by unfold wmR; rw [if_pos hr]
      have E1 := Lib.hid e1; have E2 := Lib.hid e2
      clear e1 e2 hr hl2
      go_wp2
      go_ret2
      exact ⟨u4, by rw [E1.out]; rfl, by rw [E2.out]; exact ho, hf⟩
end Go.Proofs.YthlgnmgjfgbffaaGreatDoor
