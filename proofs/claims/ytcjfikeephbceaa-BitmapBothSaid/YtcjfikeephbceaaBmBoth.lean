/- BitmapBoth: what stands in one part alone is the same with the other part beside: the walk, for every two lists of bools. -/
import Derived.Test.YtcjfikeephbceaaBmAwake
import Derived.Test.YtcjfikeephbceaaPick
namespace Go.Proofs.Ytcjfikeephbceaa
open Go.RowKit
set_option maxHeartbeats 400000
set_option linter.unusedVariables false

def lowP (s : List Bool) (n : Nat) : Bool := s.getD (n - 2) false
def highP (s : List Bool) (n : Nat) : Bool := s.getD (n - 66) false

theorem byte_eq {a b : UInt8} (h : ∀ k, k < 8 → a.toNat.testBit k = b.toNat.testBit k) : a = b := by
  apply UInt8.toNat_inj.1
  apply Nat.eq_of_testBit_eq
  intro k
  by_cases hk : k < 8
  · exact h k hk
  · have e : 2 ^ 8 ≤ 2 ^ k := Nat.pow_le_pow_right (by decide) (by omega)
    rw [Nat.testBit_lt_two_pow (Nat.lt_of_lt_of_le a.toNat_lt e), Nat.testBit_lt_two_pow (Nat.lt_of_lt_of_le b.toNat_lt e)]
theorem bit128 : ∀ k : Fin 8, (128 : UInt8).toNat.testBit k.val = decide (k.val = 7) := by decide
theorem big_byte : ∀ y : UInt8, decide (128 ≤ y.toNat) = y.toNat.testBit 7 := by
  have h : ∀ y : Fin 256, decide (128 ≤ y.val) = y.val.testBit 7 := by decide +kernel
  intro y
  exact h ⟨y.toNat, y.toNat_lt⟩
theorem bit_of (X : List UInt8) (i k : Nat) (hk : k < 8) : (X.getD i 0).toNat.testBit k = bitAt X (8 * i + (7 - k)) := by
  unfold bitAt
  rw [show (8 * i + (7 - k)) / 8 = i from by omega, show 7 - (8 * i + (7 - k)) % 8 = k from by omega]

theorem both_facts {L H : List Int} (hL : ∀ n ∈ L, 2 ≤ n ∧ n ≤ 64) (hH : ∀ n ∈ H, 66 ≤ n ∧ n ≤ 128) :
    (mapOf L).length = 8 ∧ (mapOf (L ++ H)).length = (if H.length = 0 then 8 else 16) ∧ ((mapOf L).getD 0 0 ||| ((mapOf (L ++ H)).getD 0 0 &&& 128)) = (mapOf (L ++ H)).getD 0 0 ∧
      (∀ i, 1 ≤ i → i < 8 → (mapOf L).getD i 0 = (mapOf (L ++ H)).getD i 0) ∧ decide (128 ≤ ((mapOf (L ++ H)).getD 0 0).toNat) = decide (0 < H.length) := by
  have m1 : ∀ n ∈ L, mayB n = true := fun n hn => mayB_iff.2 (by have := hL n hn; omega)
  have m2 : ∀ n ∈ L ++ H, mayB n = true := fun n hn => by
    rcases List.mem_append.1 hn with h | h
    · exact m1 n h
    · exact mayB_iff.2 (by have := hH n h; omega)
  obtain ⟨s1, b1⟩ := mapOf_spec L m1
  obtain ⟨s2, b2⟩ := mapOf_spec (L ++ H) m2
  have g1 : bigB L = false := by
    unfold bigB
    rw [← Bool.not_eq_true, List.any_eq_true]
    rintro ⟨n, hn, h⟩
    have := of_decide_eq_true h
    have := hL n hn
    omega
  have g2 : bigB (L ++ H) = decide (0 < H.length) := by
    rw [Bool.eq_iff_iff, decide_eq_true_iff]
    unfold bigB
    rw [List.any_eq_true]
    constructor
    · rintro ⟨n, hn, h⟩
      have := of_decide_eq_true h
      rcases List.mem_append.1 hn with h1 | h1
      · have := hL n h1; omega
      · exact List.length_pos_of_mem h1
    · intro h
      obtain ⟨n, hn⟩ := List.exists_mem_of_length_pos h
      exact ⟨n, List.mem_append_right _ hn, decide_eq_true (by have := hH n hn; omega)⟩
  have hin : ∀ i, 1 ≤ i → i < 64 → bitAt (mapOf L) i = bitAt (mapOf (L ++ H)) i := fun i h1 h2 => by
    rw [b1, b2]
    unfold inMap
    rw [decide_eq_false (by omega), Bool.false_and, Bool.false_and, Bool.or_false, Bool.or_false, List.contains_append]
    have : H.contains ((i : Int) + 1) = false := by
      rw [← Bool.not_eq_true, List.contains_iff_mem]
      intro h
      have := hH _ h
      omega
    rw [this, Bool.or_false]
  have h0 : bitAt (mapOf L) 0 = false := by
    rw [b1]
    unfold inMap
    rw [g1, Bool.and_false, Bool.or_false]
    exact contains_low m1 _ (by omega)
  have h0' : bitAt (mapOf (L ++ H)) 0 = decide (0 < H.length) := by
    rw [b2]
    unfold inMap
    rw [g2, contains_low m2 _ (by omega)]
    simp
  refine ⟨by rw [s1]; unfold sizeOfMap; rw [g1]; rfl, ?_, ?_, ?_, ?_⟩
  · rw [s2]
    unfold sizeOfMap
    rw [g2]
    by_cases h : H.length = 0
    · rw [if_pos h, decide_eq_false (by omega)]; rfl
    · rw [if_neg h, decide_eq_true (by omega)]; rfl
  · apply byte_eq
    intro k hk
    rw [UInt8.toNat_or, Nat.testBit_or, UInt8.toNat_and, Nat.testBit_and, bit128 ⟨k, hk⟩, bit_of _ _ _ hk, bit_of _ _ _ hk]
    by_cases h7 : k = 7
    · subst h7
      rw [show 8 * 0 + (7 - 7) = 0 from rfl, h0]
      simp
    · rw [hin _ (by omega) (by omega)]
      simp [h7]
  · intro i h1 h2
    apply byte_eq
    intro k hk
    rw [bit_of _ _ _ hk, bit_of _ _ _ hk, hin _ (by omega) (by omega)]
  · rw [big_byte, bit_of _ _ _ (by omega)]
    exact h0'

theorem u8s_getD (l : List UInt8) (i : Nat) (h : i < l.length) : (u8s l)[i]? = some (.int .u8 ((l.getD i 0).toNat : Int)) := by
  rw [u8s_get l i h, List.getD, List.getElem?_eq_getElem h]
  rfl

/-- the end of a count that may run over: how far it goes -/
theorem count_end (n lo top : Nat) (hn : n ≤ 9223372036854775807) (hlo : lo ≤ 100) (htop : top ≤ 100) : ∃ (T : Int) (N : Nat), wrap64 ((n : Int) + (lo : Int)) = T ∧ N ≤ n ∧ ∀ j : Nat, j ≤ top → (((lo + j : Nat) : Int) < T ↔ j < N) := by
  by_cases h : n + lo ≤ 9223372036854775807
  · refine ⟨(n : Int) + (lo : Int), n, ?_, Nat.le_refl _, fun j hj => by omega⟩
    unfold wrap64
    omega
  · refine ⟨_, 0, rfl, Nat.zero_le _, fun j hj => ?_⟩
    have e : wrap64 ((n : Int) + (lo : Int)) = (n : Int) + (lo : Int) - 18446744073709551616 := by
      unfold wrap64
      omega
    rw [e]
    omega

set_option maxRecDepth 100000 in
set_option maxHeartbeats 8000000 in
set_option maxHeartbeats 8000000 in
theorem both_walk {A B : Option Addr} {n c m d : Nat} {s r : List Bool} (w : World) (ha : Rd w A n c (bools s)) (hb : Rd w B m d (bools r)) :
    Calls Try.prog 7 #[.slice A n c, .slice B m d] w fun e w' => e = .returned (.bool true) ∧ Fr No w w' := by
  have hls : s.length = n := by simpa using ha.len
  have hrs : r.length = m := by simpa using hb.len
  have HLS := Lib.hid hls; have HRS := Lib.hid hrs
  obtain ⟨T1, N1, hT1, hN1, hi1⟩ := count_end n 2 63 (by have := ha.cap; have := ha.max; simp only [maxLen] at *; omega) (by omega) (by omega)
  obtain ⟨T2, N2, hT2, hN2, hi2⟩ := count_end m 66 63 (by have := hb.cap; have := hb.max; simp only [maxLen] at *; omega) (by omega) (by omega)
  have hT1' : wrap64 ((n : Int) + 2) = T1 := hT1
  have hT2' : wrap64 ((m : Int) + 66) = T2 := hT2
  have HI1 := Lib.hid hi1; have HI2 := Lib.hid hi2
  clear hls hrs hT1 hT2 hi1 hi2
  go_enter Try.func7, Try.ntmps7
  go_wp2
  go_loopw [5, 7] (fun v i wr => ∃ j : Nat, j ≤ 63 ∧ i = .int .i64 (2 + (j : Int)) ∧ wr.ownsRow w.heap.size 3 1 v (pickK (lowP s) 2 j).length (ints (pickK (lowP s) 2 j)) ∧ Fr No w wr) (fun _ i _ => 130 - (intOf i).toNat)
  case atStart => exact ⟨0, by omega, rfl, World.ownsRow_nil _ _ _ _, Fr.refl _ _⟩
  case round =>
    obtain ⟨j, hj, rfl, ho, hf⟩ := hrel
    have hit : (2 + (j : Int) < T1 ↔ j < N1) := by have := HI1.out j hj; rwa [show ((2 + j : Nat) : Int) = 2 + (j : Int) from by omega] at this
    by_cases hgo : j < 63 ∧ j < N1
    · obtain ⟨hg1, hg2⟩ := hgo
      have hlt := hit.2 hg2
      have hls : j < s.length := by have := HLS.out; omega
      obtain ⟨ad, u, rfl, hu, hcl⟩ := (ha.no hf).at_ (show j < n by omega)
      rw [bools_get s _ hls] at hu
      injection hu with hu
      subst hu
      have hp : lowP s (2 + j) = s[j] := by unfold lowP; rw [show 2 + j - 2 = j from by omega, getD_lt hls]
      generalize s[j] = sb at hcl hp
      have hlen := pickK_len (lowP s) 2 j
      have hlt64 : j < n := by omega
      clear hit
      cases sb with
      | true =>
        have hs := pickK_yes (lowP s) 2 j hp
        rw [show ((2 + j : Nat) : Int) = 2 + (j : Int) from by omega] at hs
        have HS := Lib.hid hs
        clear hs hp
        go_wp2_with (at_builtin; go_must (refine apI_one wr rfl (.tmp 30) (.tmp 32) rfl w.heap.size u5 _ _ rfl ho (2 + (j : Int)) 3 rfl (by omega) hf.size ?_); intro v2 w2 ho2 hg2 hr2)
        go_roundw
        case rel => exact ⟨j + 1, by omega, by go_num, by rw [HS.out, List.length_append]; exact ho2, (hf.alloc _).grown hg2 (fun g e => .inr (ho.lt g e).1)⟩
        case measure => simp [intOf]; omega
      | false =>
        have hs := pickK_no (lowP s) 2 j hp
        have HS := Lib.hid hs
        clear hs hp
        go_wp2
        go_roundw
        case rel => exact ⟨j + 1, by omega, by go_num, by rw [HS.out]; exact ho, hf⟩
        case measure => simp [intOf]; omega
    · have hlen := pickK_len (lowP s) 2 j
      have hL : ∀ n ∈ pickK (lowP s) 2 j, 2 ≤ n ∧ n ≤ 64 := fun x hx => by
        obtain ⟨n, rfl, a1, a2, _⟩ := (pickK_mem _ _ _ x).1 hx
        omega
      have hrL := pickK_rises (lowP s) 2 j (by omega) (by omega) (.inl (by omega))
      obtain ⟨V, dv, rfl, hrv, _⟩ := Rd.of_own ho
      generalize pickK (lowP s) 2 j = L at *
      have hcs : (64 < 2 + (j : Int) ∧ 1 = 1) ∨ (2 + (j : Int) ≤ 64 ∧ ¬ 2 + (j : Int) < T1) := by omega
      have HL := Lib.hid hL; have HRL := Lib.hid hrL
      clear hgo ho hit hL hrL HI1
      rcases hcs with ⟨hc1, hc2⟩ | ⟨hc1, hc2⟩
      all_goals
        go_wp2
        clear hT1'
        try clear hc2
        go_loopw [6, 8] (fun v i wr2 => ∃ q : Nat, q ≤ 63 ∧ i = .int .i64 (66 + (q : Int)) ∧ wr2.ownsRow wr.heap.size 3 1 v (pickK (highP r) 66 q).length (ints (pickK (highP r) 66 q)) ∧ Fr No wr wr2) (fun _ i _ => 200 - (intOf i).toNat)
        case atStart => exact ⟨0, by omega, rfl, World.ownsRow_nil _ _ _ _, Fr.refl _ _⟩
        case round =>
          obtain ⟨wo, rfl⟩ : ∃ wo : World, wo = wr := ⟨_, rfl⟩
          obtain ⟨q, hq, rfl, ho, hfo⟩ := hrel
          have hit : (66 + (q : Int) < T2 ↔ q < N2) := by have := HI2.out q hq; rwa [show ((66 + q : Nat) : Int) = 66 + (q : Int) from by omega] at this
          by_cases hgo : q < 63 ∧ q < N2
          · obtain ⟨hg1, hg2⟩ := hgo
            have hlt := hit.2 hg2
            have hls : q < r.length := by have := HRS.out; omega
            obtain ⟨ad, u, rfl, hu, hcl⟩ := ((hb.no hf).no hfo).at_ (show q < m by omega)
            rw [bools_get r _ hls] at hu
            injection hu with hu
            subst hu
            have hp : highP r (66 + q) = r[q] := by unfold highP; rw [show 66 + q - 66 = q from by omega, getD_lt hls]
            generalize r[q] = sb at hcl hp
            have hlen2 := pickK_len (highP r) 66 q
            have hlt64 : q < m := by omega
            clear hit
            cases sb with
            | true =>
              have hs := pickK_yes (highP r) 66 q hp
              rw [show ((66 + q : Nat) : Int) = 66 + (q : Int) from by omega] at hs
              have HS := Lib.hid hs
              clear hs hp
              go_wp2_with (at_builtin; go_must (refine apI_one wo rfl (.tmp 50) (.tmp 52) rfl wr.heap.size u6 _ _ rfl ho (66 + (q : Int)) 3 rfl (by omega) hfo.size ?_); intro v2 w2 ho2 hg2 hr2)
              go_roundw
              case rel => exact ⟨q + 1, by omega, by go_num, by rw [HS.out, List.length_append]; exact ho2, (hfo.alloc _).grown hg2 (fun g e => .inr (ho.lt g e).1)⟩
              case measure => simp [intOf]; omega
            | false =>
              have hs := pickK_no (highP r) 66 q hp
              have HS := Lib.hid hs
              clear hs hp
              go_wp2
              go_roundw
              case rel => exact ⟨q + 1, by omega, by go_num, by rw [HS.out]; exact ho, hfo⟩
              case measure => simp [intOf]; omega
          · have hlen2 := pickK_len (highP r) 66 q
            have hH : ∀ n ∈ pickK (highP r) 66 q, 66 ≤ n ∧ n ≤ 128 := fun x hx => by
              obtain ⟨n, rfl, a1, a2, _⟩ := (pickK_mem _ _ _ x).1 hx
              omega
            have hpH := pickK_pair (highP r) 66 q
            obtain ⟨W, dw, rfl, hrw, _⟩ := Rd.of_own ho
            generalize pickK (highP r) 66 q = H at *
            have hcs : (128 < 66 + (q : Int) ∧ 1 = 1) ∨ (66 + (q : Int) ≤ 128 ∧ ¬ 66 + (q : Int) < T2) := by omega
            have hLL := HL.out
            have hrLH : risesB (L ++ H) = true := by
              refine (risesB_iff _).2 ⟨List.pairwise_append.2 ⟨((risesB_iff _).1 HRL.out).1, hpH, fun a ha b hb => by have := hLL a ha; have := hH b hb; omega⟩, fun x hx => ?_⟩
              rcases List.mem_append.1 hx with h | h
              · exact mayB_iff.2 (by have := hLL x h; omega)
              · exact mayB_iff.2 (by have := hH x h; omega)
            obtain ⟨g1, g2, g3, g4, g5⟩ := both_facts hLL hH
            have e1 : wmE L = 0 := by unfold wmE; rw [HRL.out]; rfl
            have e2 : wmR L = mapOf L := by unfold wmR; rw [HRL.out]; rfl
            have e3 : wmE (L ++ H) = 0 := by unfold wmE; rw [hrLH]; rfl
            have e4 : wmR (L ++ H) = mapOf (L ++ H) := by unfold wmR; rw [hrLH]; rfl
            have hll : (L ++ H).length = L.length + H.length := List.length_append
            have E1 := Lib.hid e1; have E2 := Lib.hid e2; have E3 := Lib.hid e3; have E4 := Lib.hid e4; have HLL := Lib.hid hll
            have G1 := Lib.hid g1; have G3 := Lib.hid g3; have G4 := Lib.hid g4; have G5 := Lib.hid g5
            have g22 : (H.length = 0 ∧ (mapOf (L ++ H)).length = 8) ∨ (0 < H.length ∧ (mapOf (L ++ H)).length = 16) := by
              rw [g2]
              by_cases h : H.length = 0
              · exact .inl ⟨h, by rw [if_pos h]⟩
              · exact .inr ⟨by omega, by rw [if_neg h]⟩
            generalize mapOf L = X at *
            generalize mapOf (L ++ H) = Y at *
            clear hgo ho hit hH hpH hLL hrLH g1 g2 g3 g4 g5 e1 e2 e3 e4 HL HRL HI2 hll
            have tok1 : True := trivial
            have tok2 : True := trivial
            rcases g22 with ⟨hz, hy⟩ | ⟨hz, hy⟩
            · obtain rfl : H = [] := List.eq_nil_of_length_eq_zero hz
              clear hz
              have HY := Lib.hid hy
              clear hy
              rcases hcs with ⟨hd1, hd2⟩ | ⟨hd1, hd2⟩
              all_goals
                go_wp2_with (first
                  | (go_at_call 11; clear tok1; refine (write_any _ _ _ L _ (hrv.no hfo) (by omega)).mono ?_; rw [E1.out, E2.out, G1.out]; rintro e w1 ⟨v1, rfl, ho1, hf1⟩; obtain ⟨x1, cx, rfl, hx1, hx2, -, -, -⟩ := own_open ho1 (by omega))
                  | (at_builtin; clear tok2; refine apI w1 rfl (.const (.slice none 0 0)) (.tmp 60) rfl w1.heap.size (.slice none 0 0) 0 [] rfl (World.ownsRow_nil _ _ _ _) V L.length dv L rfl ((hrv.no hfo).no hf1) (by omega) (Nat.le_refl _) ?_; intro v2 w2 ho2 hg2 hr2; have hf2 : Fr No w1 w2 := (Fr.refl No w1).grown hg2 (by simp [Value.ownBlock]))
                  | (at_builtin; refine apI w2 rfl (.tmp 61) (.tmp 62) rfl w1.heap.size v2 _ _ rfl ho2 W _ dw [] rfl ((hrw.no hf1).no hf2) (by simp; omega) hf2.size ?_; intro v3 w3 ho3 hg3 hr3; have hf3 : Fr No w1 w3 := hf2.grown hg3 (fun g e => .inr (ho2.lt g e).1); have ho3' : w3.ownsRow w1.heap.size 3 1 v3 L.length (ints (L ++ [])) := (by simpa using ho3); obtain ⟨V3, d3, rfl, hr3', _⟩ := Rd.of_own ho3')
                  | (go_at_call 11; refine (write_any _ _ _ (L ++ []) _ hr3' (by omega)).mono ?_; rw [E3.out, E4.out, HY.out]; rintro e w4 ⟨v4, rfl, ho4, hf4⟩; obtain ⟨y1, cy, rfl, hy1, hy2, -, -, -⟩ := own_open ho4 (by omega))
                  | (go_at_call 8; refine (awake_any _).mono ?_; rintro e w5 ⟨rfl, hf5⟩))
                have hF15 : Fr No w1 w5 := (hf3.trans hf4).trans hf5
                have hx5 := hF15.own ho1 (fun _ _ x => x)
                have hy5 := hf5.own ho4 (fun _ _ x => x)
                have hxy : x1 < y1 := by
                  have h1 := (ho1.lt x1 rfl).2
                  have h2 := hf3.size
                  omega
                have hF5 : Fr No w w5 := ((hf.trans hfo).trans hf1).trans hF15
                clear hr3' ho3' ho3 hr3 hg3 ho2 hg2 hr2 ho1 ho4 hf1 hf3 hf4 hf5 hF15 hrv hrw hf2
                refine wp_region_reads 9 (by kernel_rfl) (by kernel_rfl) ?_
                intro w6 hd6
                simp only [List.take_succ_cons, List.take_zero, List.drop_succ_cons, List.drop_zero]
                have hx6 := hd6.fr.own (S := No) hx5 (fun _ _ x => x)
                have hy6 := hd6.fr.own (S := No) hy5 (fun _ _ x => x)
                obtain ⟨x0, hx0⟩ : ∃ x0, x0 = X.getD 0 0 := ⟨_, rfl⟩
                obtain ⟨y0, hy0⟩ : ∃ y0, y0 = Y.getD 0 0 := ⟨_, rfl⟩
                have c0 := own_cell hx6 (u8s_getD X 0 (by have := G1.out; omega))
                have c1 := own_cell hy6 (u8s_getD Y 0 (by have := HY.out; omega))
                have f0 := own_free hx6 (by omega) 0
                have g3 := G3.out
                have g5 := G5.out
                rw [← hx0] at c0 g3
                rw [← hy0] at c1 g3 g5
                have hv : bits BinOp.or IntKind.u8 (x0.toNat : Int) (bits BinOp.and IntKind.u8 (y0.toNat : Int) 128) = (y0.toNat : Int) := by
                  have e128 : (128 : Int) = ((128 : UInt8).toNat : Int) := rfl
                  rw [e128, and_u8, or_u8, g3]
                have hyb : ¬ 128 ≤ (y0.toNat : Int) := fun h => by rw [decide_eq_true (by omega : 128 ≤ y0.toNat)] at g5; simp at g5
                have HX0 := Lib.hid hx0; have HY0 := Lib.hid hy0; have HV := Lib.hid hv
                clear hx0 hy0 g3 g5 hv
                repeat still_step
                refine wpStill_nil ?_
                go_wp2
                go_name_world w7 hw7
                rw [HV.out] at hw7
                have hX' : ∀ k, k < 8 → (u8s (X.set 0 y0))[k]? = some (.int .u8 ((Y.getD k 0).toNat : Int)) := fun k hk => by
                  rw [u8s_getD _ _ (by rw [List.length_set]; have := G1.out; omega)]
                  congr 4
                  by_cases h0 : k = 0
                  · subst h0
                    rw [← HY0.out]
                    simp [List.getD, G1.out]
                  · rw [← G4.out k (by omega) hk]
                    simp only [List.getD, List.getElem?_set]
                    rw [if_neg (by omega)]
                have hx7 : w7.ownsRow wo.heap.size 5 1 (.slice (some ⟨x1, 0, none⟩) 8 cx) 8 (u8s (X.set 0 y0)) := by
                  have h9 := own_set hx6 (i := 0) (by omega) (.int .u8 (y0.toNat : Int))
                  rw [← hw7]
                  have e9 : (u8s X).set 0 (.int .u8 (y0.toNat : Int)) = u8s (X.set 0 y0) := by simp [u8s, List.map_set]
                  rw [← e9]
                  exact h9
                have hF67 : Fr (Just x1) w6 w7 := by rw [← hw7]; exact (Fr.refl _ w6).setCell (p := ⟨x1, 0, none⟩) (.inl (Just.at x1)) _
                have hy7 := hF67.own hy6 (fun g e x => by
                  simp only [Value.ownBlock, Option.some.injEq] at e
                  have : g = x1 := x
                  omega)
                have hF7 : Fr No w w7 := (hF5.dr hd6).trans_just hF67 (Nat.le_trans (Nat.le_trans hf.size hfo.size) hx1)
                have HX' := Lib.hid hX'
                clear hw7 c0 c1 f0 hX' hx6 hy6 hx5 hy5 hd6 hF5 hF67
                go_loopw [13] (fun i w8 => ∃ k : Nat, k ≤ 8 ∧ i = .int .i64 (k : Int) ∧ Dr w7 w8) (fun i _ => 8 - (intOf i).toNat)
                case atStart => exact ⟨0, by omega, rfl, Dr.refl _⟩
                case round =>
                  obtain ⟨w8, rfl⟩ : ∃ w8 : World, w8 = wr := ⟨_, rfl⟩
                  obtain ⟨k, hk, rfl, hd8⟩ := hrel
                  have hx8 := hd8.fr.own (S := No) hx7 (fun _ _ x => x)
                  have hy8 := hd8.fr.own (S := No) hy7 (fun _ _ x => x)
                  rcases Nat.lt_or_ge k 8 with hlt | hge
                  · have c0 := own_cell hx8 (HX'.out k hlt)
                    have c1 := own_cell hy8 (u8s_getD Y k (by have := HY.out; omega))
                    generalize Y.getD k 0 = zb at c0 c1
                    clear hx8 hy8
                    go_wp2
                    go_quiet (fail)
                    go_wp2
                    go_roundw
                    case rel => exact ⟨k + 1, by omega, by go_num, hd8.drewN _⟩
                    case measure => simp [intOf]; omega
                  · obtain rfl : k = 8 := by omega
                    have c1 := own_cell hy8 (u8s_getD Y 0 (by have := HY.out; omega))
                    rw [← HY0.out] at c1
                    go_wp2
                    go_ret
                    refine ⟨ret_bool ?_, hF7.dr hd8⟩
                    first | (simp; done) | (simp; omega)
            · have hz2 : ((H.length : Int) == 0) = false := by rw [beq_eq_false_iff_ne]; omega
              have HY := Lib.hid hy
              clear hy
              rcases hcs with ⟨hd1, hd2⟩ | ⟨hd1, hd2⟩
              all_goals
                go_wp2_with (first
                  | (go_at_call 11; clear tok1; refine (write_any _ _ _ L _ (hrv.no hfo) (by omega)).mono ?_; rw [E1.out, E2.out, G1.out]; rintro e w1 ⟨v1, rfl, ho1, hf1⟩; obtain ⟨x1, cx, rfl, hx1, hx2, -, -, -⟩ := own_open ho1 (by omega))
                  | (at_builtin; clear tok2; refine apI w1 rfl (.const (.slice none 0 0)) (.tmp 60) rfl w1.heap.size (.slice none 0 0) 0 [] rfl (World.ownsRow_nil _ _ _ _) V L.length dv L rfl ((hrv.no hfo).no hf1) (by omega) (Nat.le_refl _) ?_; intro v2 w2 ho2 hg2 hr2; have hf2 : Fr No w1 w2 := (Fr.refl No w1).grown hg2 (by simp [Value.ownBlock]))
                  | (at_builtin; refine apI w2 rfl (.tmp 61) (.tmp 62) rfl w1.heap.size v2 _ _ rfl ho2 W _ dw H rfl ((hrw.no hf1).no hf2) (by simp; omega) hf2.size ?_; intro v3 w3 ho3 hg3 hr3; have hf3 : Fr No w1 w3 := hf2.grown hg3 (fun g e => .inr (ho2.lt g e).1); have ho3' : w3.ownsRow w1.heap.size 3 1 v3 (L.length + H.length) (ints (L ++ H)) := (by simpa using ho3); obtain ⟨V3, d3, rfl, hr3', _⟩ := Rd.of_own ho3')
                  | (go_at_call 11; refine (write_any _ _ _ (L ++ H) _ hr3' (by omega)).mono ?_; rw [E3.out, E4.out, HY.out]; rintro e w4 ⟨v4, rfl, ho4, hf4⟩; obtain ⟨y1, cy, rfl, hy1, hy2, -, -, -⟩ := own_open ho4 (by omega))
                  | (go_at_call 8; refine (awake_any _).mono ?_; rintro e w5 ⟨rfl, hf5⟩))
                have hF15 : Fr No w1 w5 := (hf3.trans hf4).trans hf5
                have hx5 := hF15.own ho1 (fun _ _ x => x)
                have hy5 := hf5.own ho4 (fun _ _ x => x)
                have hxy : x1 < y1 := by
                  have h1 := (ho1.lt x1 rfl).2
                  have h2 := hf3.size
                  omega
                have hF5 : Fr No w w5 := ((hf.trans hfo).trans hf1).trans hF15
                clear hr3' ho3' ho3 hr3 hg3 ho2 hg2 hr2 ho1 ho4 hf1 hf3 hf4 hf5 hF15 hrv hrw hf2
                refine wp_region_reads 9 (by kernel_rfl) (by kernel_rfl) ?_
                intro w6 hd6
                simp only [List.take_succ_cons, List.take_zero, List.drop_succ_cons, List.drop_zero]
                have hx6 := hd6.fr.own (S := No) hx5 (fun _ _ x => x)
                have hy6 := hd6.fr.own (S := No) hy5 (fun _ _ x => x)
                obtain ⟨x0, hx0⟩ : ∃ x0, x0 = X.getD 0 0 := ⟨_, rfl⟩
                obtain ⟨y0, hy0⟩ : ∃ y0, y0 = Y.getD 0 0 := ⟨_, rfl⟩
                have c0 := own_cell hx6 (u8s_getD X 0 (by have := G1.out; omega))
                have c1 := own_cell hy6 (u8s_getD Y 0 (by have := HY.out; omega))
                have f0 := own_free hx6 (by omega) 0
                have g3 := G3.out
                have g5 := G5.out
                rw [← hx0] at c0 g3
                rw [← hy0] at c1 g3 g5
                have hv : bits BinOp.or IntKind.u8 (x0.toNat : Int) (bits BinOp.and IntKind.u8 (y0.toNat : Int) 128) = (y0.toNat : Int) := by
                  have e128 : (128 : Int) = ((128 : UInt8).toNat : Int) := rfl
                  rw [e128, and_u8, or_u8, g3]
                have hyb : 128 ≤ (y0.toNat : Int) := by
                  rw [decide_eq_true hz, decide_eq_true_iff] at g5
                  omega
                have HX0 := Lib.hid hx0; have HY0 := Lib.hid hy0; have HV := Lib.hid hv
                clear hx0 hy0 g3 g5 hv
                repeat still_step
                refine wpStill_nil ?_
                go_wp2
                go_name_world w7 hw7
                rw [HV.out] at hw7
                have hX' : ∀ k, k < 8 → (u8s (X.set 0 y0))[k]? = some (.int .u8 ((Y.getD k 0).toNat : Int)) := fun k hk => by
                  rw [u8s_getD _ _ (by rw [List.length_set]; have := G1.out; omega)]
                  congr 4
                  by_cases h0 : k = 0
                  · subst h0
                    rw [← HY0.out]
                    simp [List.getD, G1.out]
                  · rw [← G4.out k (by omega) hk]
                    simp only [List.getD, List.getElem?_set]
                    rw [if_neg (by omega)]
                have hx7 : w7.ownsRow wo.heap.size 5 1 (.slice (some ⟨x1, 0, none⟩) 8 cx) 8 (u8s (X.set 0 y0)) := by
                  have h9 := own_set hx6 (i := 0) (by omega) (.int .u8 (y0.toNat : Int))
                  rw [← hw7]
                  have e9 : (u8s X).set 0 (.int .u8 (y0.toNat : Int)) = u8s (X.set 0 y0) := by simp [u8s, List.map_set]
                  rw [← e9]
                  exact h9
                have hF67 : Fr (Just x1) w6 w7 := by rw [← hw7]; exact (Fr.refl _ w6).setCell (p := ⟨x1, 0, none⟩) (.inl (Just.at x1)) _
                have hy7 := hF67.own hy6 (fun g e x => by
                  simp only [Value.ownBlock, Option.some.injEq] at e
                  have : g = x1 := x
                  omega)
                have hF7 : Fr No w w7 := (hF5.dr hd6).trans_just hF67 (Nat.le_trans (Nat.le_trans hf.size hfo.size) hx1)
                have HX' := Lib.hid hX'
                clear hw7 c0 c1 f0 hX' hx6 hy6 hx5 hy5 hd6 hF5 hF67
                go_loopw [13] (fun i w8 => ∃ k : Nat, k ≤ 8 ∧ i = .int .i64 (k : Int) ∧ Dr w7 w8) (fun i _ => 8 - (intOf i).toNat)
                case atStart => exact ⟨0, by omega, rfl, Dr.refl _⟩
                case round =>
                  obtain ⟨w8, rfl⟩ : ∃ w8 : World, w8 = wr := ⟨_, rfl⟩
                  obtain ⟨k, hk, rfl, hd8⟩ := hrel
                  have hx8 := hd8.fr.own (S := No) hx7 (fun _ _ x => x)
                  have hy8 := hd8.fr.own (S := No) hy7 (fun _ _ x => x)
                  rcases Nat.lt_or_ge k 8 with hlt | hge
                  · have c0 := own_cell hx8 (HX'.out k hlt)
                    have c1 := own_cell hy8 (u8s_getD Y k (by have := HY.out; omega))
                    generalize Y.getD k 0 = zb at c0 c1
                    clear hx8 hy8
                    go_wp2
                    go_quiet (fail)
                    go_wp2
                    go_roundw
                    case rel => exact ⟨k + 1, by omega, by go_num, hd8.drewN _⟩
                    case measure => simp [intOf]; omega
                  · obtain rfl : k = 8 := by omega
                    have c1 := own_cell hy8 (u8s_getD Y 0 (by have := HY.out; omega))
                    rw [← HY0.out] at c1
                    go_wp2
                    go_ret
                    refine ⟨ret_bool ?_, hF7.dr hd8⟩
                    first | (simp; done) | (simp; omega)
end Go.Proofs.Ytcjfikeephbceaa
