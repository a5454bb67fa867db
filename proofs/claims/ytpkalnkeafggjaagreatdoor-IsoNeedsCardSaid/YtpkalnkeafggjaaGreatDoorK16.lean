/- The texts BmProg2, joined. -/
import Derived.Test.YtpkalnkeafggjaaGreatDoorK12
import Derived.Test.YtpkalnkeafggjaaGreatDoorK15
/- What package bitmap does: contracts of its calls, Write. -/
namespace Go.Proofs.YtpkalnkeafggjaaGreatDoor
open Go.RowKit
set_option maxHeartbeats 400000
set_option linter.unusedVariables false
set_option maxRecDepth 20000

theorem some_any (a b low high : Nat) (w : World) (ha : a < 18446744073709551616) (hb : b < 18446744073709551616) (h1 : 1 ≤ low) (h2 : low ≤ high) (h3 : high ≤ 128) :
    Calls Tryz.prog 63 #[.func (.func 62) #[hvV a b] #[], .int .i64 (low : Int), .int .i64 (high : Int)] w fun e w' => e = .returned (.bool (someK a b low (high + 1 - low))) ∧ Fr No w w' := by
  go_enter Tryz.func63, Tryz.ntmps63
  go_wp2_with (go_at_call 64; refine (those_any a b low high _ ha hb h1 h2 h3).mono ?_; rintro e w1 ⟨v, rfl, ho, hf⟩; obtain ⟨B, d, rfl, hr, _⟩ := Rd.of_own ho)
  go_ret
  refine ⟨ret_bool ?_, hf⟩
  unfold someK
  rw [decide_eq_decide]

theorem bm_right_any (A : Option Addr) (n c : Nat) (l : List Int) (w : World) (ha : Rd w A n c (ints l)) (hn : n ≤ 65536) :
    Calls Tryz.prog 71 #[.slice A n c] w fun e w' => e = .returned (.bool (risesB l)) ∧ w = w' := by
  have hl : l.length = n := by simpa using ha.len
  have HL := Lib.hid hl
  clear hl
  go_enter Tryz.func71, Tryz.ntmps71
  go_wp2
  go_loop [3, 8] (fun v i => ∃ k : Nat, k ≤ n ∧ i = .int .i64 (k : Int) ∧ v = .int .i64 (ahd l k) ∧ risesB (l.take k) = true) (fun _ i => n - (intOf i).toNat)
  case atStart => exact ⟨0, Nat.zero_le _, rfl, rfl, rfl⟩
  case round =>
    obtain ⟨k, hk, rfl, rfl, hr⟩ := hrel
    rcases Nat.lt_or_ge k n with hlt | hge
    · have hlk : k < l.length := by have := HL.out; omega
      obtain ⟨ad, u, rfl, hu, hc⟩ := ha.at_ hlt
      rw [ints_get l k hlk] at hu
      injection hu with hu
      subst hu
      have hnx := rises_next hlk hr
      have has := ahd_succ l k hlk
      have hbad : risesB (l.take (k + 1)) = false → risesB l = false := fun h => by
        rw [Bool.eq_false_iff]
        intro h2
        rw [rises_take h2 (k + 1)] at h
        cases h
      generalize l[k] = x at hc hnx has
      generalize ahd l k = p at *
      have HNX := Lib.hid hnx
      have HAS := Lib.hid has
      have HBAD := Lib.hid hbad
      clear hnx has hr hbad
      by_cases c1 : p < x
      · by_cases c2 : x = 65
        · have e : risesB l = false := HBAD.out (by rw [HNX.out]; simp [c2])
          have E := Lib.hid e
          have c2b : (x == 65) = true := by simpa using c2
          clear e c2
          go_wp2
          go_ret
          exact ⟨ret_bool E.out.symm, rfl⟩
        · have c2b : (x == 65) = false := by simpa using c2
          by_cases c3 : x ≤ 128
          · have e : risesB (l.take (k + 1)) = true := by rw [HNX.out]; simp [c1, c2, c3]
            have E := Lib.hid e
            clear e c2
            go_wp2
            go_round
            case rel => exact ⟨k + 1, by omega, by go_num, by rw [HAS.out], E.out⟩
            case measure => simp [intOf]; omega
          · have e : risesB l = false := HBAD.out (by rw [HNX.out]; simp [c3])
            have E := Lib.hid e
            clear e c2
            go_wp2
            go_ret
            exact ⟨ret_bool E.out.symm, rfl⟩
      · have e : risesB l = false := HBAD.out (by rw [HNX.out]; simp [c1])
        have E := Lib.hid e
        clear e
        go_wp2
        go_ret
        exact ⟨ret_bool E.out.symm, rfl⟩
    · obtain rfl : k = n := by omega
      have e : risesB l = true := by
        rwa [List.take_of_length_le (by have := HL.out; omega)] at hr
      have E := Lib.hid e
      clear e hr
      go_wp2
      go_ret
      exact ⟨ret_bool E.out.symm, rfl⟩

/-- the first k numbers are set -/
def SetTo (l : List Int) (k a b : Nat) : Prop := a < 18446744073709551616 ∧ b < 18446744073709551616 ∧ ∀ m, 1 ≤ m → m ≤ 128 → hbit a b m = (l.take k).contains (m : Int)
theorem setTo_zero (l : List Int) : SetTo l 0 0 0 := ⟨by omega, by omega, fun m _ _ => by unfold hbit; split <;> simp⟩
theorem setTo_succ {l : List Int} {k a b n : Nat} (hk : k < l.length) (hn : l[k] = (n : Int)) (h1 : 1 ≤ n) (h2 : n ≤ 128) (h : SetTo l k a b) : SetTo l (k + 1) (setA a n) (setB b n) := by
  refine ⟨setA_lt _ _ h.1 h1, setB_lt _ _ h.2.1 h2, fun m m1 m2 => ?_⟩
  rw [hbit_set _ _ _ _ h1 h2 m1 m2, h.2.2 m m1 m2, List.take_succ_eq_append_getElem hk, List.contains_append, hn]
  congr 1
  simp only [List.contains_cons, List.contains_nil, Bool.or_false]
  rw [Bool.eq_iff_iff]
  simp
  omega

theorem bm_write_any (A : Option Addr) (n c : Nat) (l : List Int) (w : World) (ha : Rd w A n c (ints l)) (hn : n ≤ 65536) :
    Calls Tryz.prog 49 #[.slice A n c] w fun e w' => ∃ v, e = .returned (.tuple #[v, .int .i64 (wmE l)]) ∧ w'.ownsRow w.heap.size 5 1 v (wmR l).length (u8s (wmR l)) ∧ Fr No w w' := by
  have hl : l.length = n := by simpa using ha.len
  have HL := Lib.hid hl
  clear hl
  cases hr : risesB l with
  | false =>
    have e1 : wmE l = 1 := by unfold wmE; rw [hr]; rfl
    have e2 : wmR l = [] := by unfold wmR; rw [hr]; rfl
    have E1 := Lib.hid e1; have E2 := Lib.hid e2; have HR := Lib.hid hr
    clear e1 e2 hr
    go_enter Tryz.func49, Tryz.ntmps49
    go_wp2_with (go_at_call 71; refine (bm_right_any _ _ _ _ _ ha hn).mono ?_; rw [HR.out]; rintro e w1 ⟨rfl, rfl⟩)
    go_ret2
    exact ⟨.slice none 0 0, by rw [E1.out]; rfl, by rw [E2.out]; exact World.ownsRow_nil _ _ _ _, Fr.refl _ _⟩
  | true =>
    obtain ⟨hp, hm⟩ := (risesB_iff l).1 hr
    have e1 : wmE l = 0 := by unfold wmE; rw [hr]; rfl
    have e2 : wmR l = mapOf l := by unfold wmR; rw [hr]; rfl
    have E1 := Lib.hid e1; have E2 := Lib.hid e2; have HR := Lib.hid hr; have HM := Lib.hid hm
    have h8 : held8 8 = 8 := by decide
    have H8 := Lib.hid h8
    clear e1 e2 hr hp hm h8
    go_enter Tryz.func49, Tryz.ntmps49
    go_wp2_with (go_at_call 71; refine (bm_right_any _ _ _ _ _ ha hn).mono ?_; rw [HR.out]; rintro e w1 ⟨rfl, rfl⟩)
    have hb0 : Bk (w.alloc (.cells #[.int .u64 0, .int .u64 0] 98)) w.heap.size 98 (hvL 0 0) := Bk.new w _ _
    have hf0 : Fr No w (w.alloc (.cells #[.int .u64 0, .int .u64 0] 98)) := (Fr.refl No w).alloc _
    go_loopw [13] (fun i wr => ∃ k a b : Nat, k ≤ n ∧ i = .int .i64 (k : Int) ∧ SetTo l k a b ∧ Bk wr w.heap.size 98 (hvL a b) ∧ Fr No w wr) (fun i _ => n - (intOf i).toNat)
    case atStart => exact ⟨0, 0, 0, Nat.zero_le _, rfl, setTo_zero l, hb0, hf0⟩
    case round =>
      clear hb0 hf0
      obtain ⟨k, a, b, hk, rfl, hs, hbk, hf⟩ := hrel
      rcases Nat.lt_or_ge k n with hlt | hge
      · have hlk : k < l.length := by have := HL.out; omega
        obtain ⟨ad, u, rfl, hu, hc⟩ := (ha.no hf).at_ hlt
        rw [ints_get l k hlk] at hu
        injection hu with hu
        subst hu
        have hmay := mayB_iff.1 (HM.out l[k] (List.getElem_mem _))
        obtain ⟨x, hx⟩ := Int.eq_ofNat_of_zero_le (show 0 ≤ l[k] by omega)
        have hx1 : 1 ≤ x := by omega
        have hx2 : x ≤ 128 := by omega
        have hs2 := setTo_succ hlk hx hx1 hx2 hs
        rw [hx] at hc
        obtain ⟨l1, l2, -⟩ := hs
        have HS2 := Lib.hid hs2
        clear hx hmay hs2
        go_wp2_with (go_at_call 72; refine (set_any w.heap.size a b x _ l1 l2 hbk hx1 hx2).mono ?_; rintro e w1 ⟨rfl, hf1, hb1⟩)
        go_roundw
        case rel => exact ⟨k + 1, _, _, by omega, by go_num, HS2.out, hb1, hf.trans_just hf1 (Nat.le_refl _)⟩
        case measure => simp [intOf]; omega
      · obtain rfl : k = n := by omega
        obtain ⟨l1, l2, hab⟩ := hs
        rw [List.take_of_length_le (by have := HL.out; omega)] at hab
        have c0 := hbk.cell 0
        have c1 := hbk.cell 1
        simp only [hvL, List.getElem?_cons_zero, List.getElem?_cons_succ] at c0 c1
        have hbig := big_some HM.out hab
        cases hbb : bigB l with
        | false =>
          obtain ⟨m1, m2⟩ := map_small HM.out hab hbb
          rw [hbb] at hbig
          have M1 := Lib.hid m1; have M2 := Lib.hid m2; have HBIG := Lib.hid hbig
          clear m1 m2 hbb hbig hab
          go_wp2_with (first
            | (go_at_call 63; refine (some_any a b 66 128 _ l1 l2 (by omega) (by omega) (by omega)).mono ?_; rw [show 128 + 1 - 66 = 63 from rfl, HBIG.out]; rintro e w1 ⟨rfl, hf1⟩; have c0' := (hbk.no hf1).cell 0; have c1' := (hbk.no hf1).cell 1; simp only [hvL, List.getElem?_cons_zero, List.getElem?_cons_succ] at c0' c1')
            | (go_at_call 73; refine (put_any none 0 0 [] a 8 _ (Rd.nil_ _) (by omega) l1).mono ?_; rw [H8.out]; rintro e w2 ⟨v2, rfl, ho2, hf2⟩; have c0'' := ((hbk.no hf1).no hf2).cell 0; have c1'' := ((hbk.no hf1).no hf2).cell 1; simp only [hvL, List.getElem?_cons_zero, List.getElem?_cons_succ] at c0'' c1'')
            | (go_at_call 62; refine (has_any a b 1 _ l1 l2 (by omega) (by omega)).mono ?_; rw [M2.out]; rintro e w3 ⟨rfl, hf3⟩))
          go_ret2
          refine ⟨v2, by rw [E1.out]; rfl, ?_, ((hf.trans hf1).trans hf2).trans hf3⟩
          rw [E2.out, ← M1.out]
          have := own_low (hf3.own ho2 (fun _ _ x => x)) (Nat.le_trans hf.size hf1.size)
          simpa using this
        | true =>
          obtain ⟨m1, m2⟩ := map_great HM.out hab hbb
          rw [hbb] at hbig
          have l1' := setA_lt a 1 l1 (by omega)
          have l2' := setB_lt b 1 l2 (by omega)
          have M1 := Lib.hid m1; have M2 := Lib.hid m2; have HBIG := Lib.hid hbig
          clear m1 m2 hbb hbig hab
          go_wp2_with (first
            | (go_at_call 63; refine (some_any a b 66 128 _ l1 l2 (by omega) (by omega) (by omega)).mono ?_; rw [show 128 + 1 - 66 = 63 from rfl, HBIG.out]; rintro e w1 ⟨rfl, hf1⟩)
            | (go_at_call 72; refine (set_any w.heap.size a b 1 _ l1 l2 (hbk.no hf1) (by omega) (by omega)).mono ?_; rintro e ws ⟨rfl, hfs, hbs⟩; have c0' := hbs.cell 0; have c1' := hbs.cell 1; simp only [hvL, List.getElem?_cons_zero, List.getElem?_cons_succ] at c0' c1')
            | (go_at_call 73; with_reducible refine (put_any none 0 0 [] (setA a 1) 8 _ (Rd.nil_ _) ?_ l1').mono ?_; omega; rw [H8.out]; rintro e w2 ⟨v2, rfl, ho2, hf2⟩; obtain ⟨V2, d2, rfl, hr2, _⟩ := Rd.of_own ho2; have c0'' := (hbs.no hf2).cell 0; have c1'' := (hbs.no hf2).cell 1; simp only [hvL, List.getElem?_cons_zero, List.getElem?_cons_succ] at c0'' c1'')
            | (go_at_call 62; refine (has_any (setA a 1) (setB b 1) 1 _ l1' l2' (by omega) (by omega)).mono ?_; rw [M2.out]; rintro e w3 ⟨rfl, hf3⟩; have d1x := ((hbs.no hf2).no hf3).cell 1; simp only [hvL, List.getElem?_cons_zero, List.getElem?_cons_succ] at d1x)
            | (go_at_call 73; refine (put_any V2 _ d2 _ (setB b 1) 8 _ (hr2.no hf3) ?_ l2').mono ?_; omega; rw [H8.out]; rintro e w4 ⟨v4, rfl, ho4, hf4⟩))
          go_ret2
          have hF2 : Fr No w ws := (hf.trans hf1).trans_just hfs (Nat.le_refl _)
          refine ⟨v4, by rw [E1.out]; rfl, ?_, ((hF2.trans hf2).trans hf3).trans hf4⟩
          rw [E2.out, ← M1.out]
          have := own_low ho4 (((hF2.trans hf2).trans hf3).size)
          simpa using this
end Go.Proofs.YtpkalnkeafggjaaGreatDoor
