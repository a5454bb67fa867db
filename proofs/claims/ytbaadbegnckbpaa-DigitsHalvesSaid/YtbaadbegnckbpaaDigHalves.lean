/- DigitsHalves: of bytes with a half above nine there are no digits; of an odd number the first half is a nought: the walk, for every list of bytes. -/
import Derived.Test.YtbaadbegnckbpaaDigAwake
namespace Go.Proofs.Ytbaadbegnckbpaa
open Go.RowKit
set_option maxHeartbeats 400000
set_option linter.unusedVariables false

/-- both halves are digits -/
def okX (x : UInt8) : Bool := decide ((x >>> 4).toNat < 10) && decide ((x &&& 15).toNat < 10)
def okL (l : List UInt8) : Bool := l.all okX
theorem okX_sg (x : UInt8) : (isD (sg (x >>> 4)) && isD (sg (x &&& 15))) = okX x := by
  have := byte_all (fun x => (isD (sg (x >>> 4)) && isD (sg (x &&& 15))) == okX x) (by decide +kernel) x
  simpa using this
theorem ok_hex : ∀ l : List UInt8, allB (hexL l) isD = okL l
  | [] => rfl
  | x :: r => by
    have ih := ok_hex r
    unfold allB okL at *
    simp only [hexL, List.all_cons, ← okX_sg x, ih, Bool.and_assoc]
theorem okL_snoc (l : List UInt8) (k : Nat) (h : k < l.length) : okL (l.take (k + 1)) = (okL (l.take k) && okX l[k]) := by
  unfold okL
  rw [List.take_succ_eq_append_getElem h, List.all_append]
  simp
theorem sg_48 (x : UInt8) : (sg (x >>> 4) == 48) = decide ((x >>> 4).toNat = 0) := by
  have := byte_all (fun x => (sg (x >>> 4) == 48) == decide ((x >>> 4).toNat = 0)) (by decide +kernel) x
  simpa using this

theorem okX_int (x : UInt8) : okX x = (decide ((x.toNat : Int) / 16 < 10) && decide ((x.toNat : Int) % 16 < 10)) := by
  have h1 : (x >>> 4).toNat = x.toNat / 16 := by have := shr4_u8 x; omega
  have h2 : (x &&& 15).toNat = x.toNat % 16 := by
    rw [UInt8.toNat_and]
    exact Nat.and_two_pow_sub_one_eq_mod x.toNat 4
  unfold okX
  rw [h1, h2, Bool.eq_iff_iff]
  simp
  omega

theorem unbcd_arg (l : List UInt8) (m : Nat) (n : Int) (hl : l.length = m) (h : n < 0 ∨ (n ≠ 2 * (m : Int) ∧ n ≠ 2 * (m : Int) - 1)) : unbcdE l n = 1 ∧ unbcdR l n = [] := by
  have e2 : unbcdE l n = 1 := by unfold unbcdE; rw [hl, if_pos h]
  exact ⟨e2, by unfold unbcdR; rw [e2]; rfl⟩
theorem unbcd_even (l : List UInt8) (m : Nat) (hl : l.length = m) : unbcdE l (2 * (m : Int)) = (if okL l then 0 else 5) ∧ unbcdR l (2 * (m : Int)) = (if okL l then hexL l else []) := by
  have e2 : unbcdE l (2 * (m : Int)) = if okL l then 0 else 5 := by
    unfold unbcdE
    rw [hl, if_neg (by omega), ok_hex]
    cases okL l with
    | false => rw [if_pos (.inl rfl)]; rfl
    | true => rw [if_neg (by rintro (h | h); cases h; omega)]; rfl
  refine ⟨e2, ?_⟩
  unfold unbcdR
  rw [e2, hl]
  cases okL l with
  | false => rfl
  | true => simp
theorem unbcd_odd (x : UInt8) (r : List UInt8) (m : Nat) (hl : (x :: r).length = m) : unbcdE (x :: r) (2 * (m : Int) - 1) = (if okL (x :: r) && decide ((x >>> 4).toNat = 0) then 0 else 5) ∧
    unbcdR (x :: r) (2 * (m : Int) - 1) = (if okL (x :: r) && decide ((x >>> 4).toNat = 0) then (hexL (x :: r)).drop 1 else []) := by
  have hm : 1 ≤ m := by simp at hl; omega
  have e2 : unbcdE (x :: r) (2 * (m : Int) - 1) = if okL (x :: r) && decide ((x >>> 4).toNat = 0) then 0 else 5 := by
    unfold unbcdE
    rw [hl, if_neg (by omega), ok_hex, ← sg_48]
    cases okL (x :: r) with
    | false => rw [if_pos (.inl rfl)]; rfl
    | true =>
      cases h : sg (x >>> 4) == 48 with
      | false =>
        rw [if_pos (.inr ⟨by omega, fun e => by simp only [hexL, List.getElem?_cons_zero, Option.some.injEq] at e; rw [e] at h; cases h⟩)]; rfl
      | true =>
        have e : sg (x >>> 4) = 48 := by simpa using h
        rw [if_neg (by rintro (h | h); cases h; exact h.2 (by simp only [hexL, List.getElem?_cons_zero, e]))]; rfl
  refine ⟨e2, ?_⟩
  unfold unbcdR
  rw [e2, hl, show (2 * (m : Int) - (2 * (m : Int) - 1)).toNat = 1 from by omega]
  cases okL (x :: r) && decide ((x >>> 4).toNat = 0) with
  | false => rfl
  | true => rfl
theorem hex_nought (x : UInt8) (r : List UInt8) (h : (x >>> 4).toNat = 0) : bstr (hexL (x :: r)) = ({ data := #[48] } : ByteArray) ++ bstr ((hexL (x :: r)).drop 1) := by
  have h1 : sg (x >>> 4) = 48 := by
    have := sg_48 x
    rw [h] at this
    simpa using this
  apply ByteArray.ext
  rw [ByteArray.data_append]
  simp [bstr, hexL, h1]

set_option maxHeartbeats 1000000 in
theorem halves_walk {A : Option Addr} {m c : Nat} {l : List UInt8} (w : World) (ha : Rd w A m c (u8s l)) :
    Calls Try.prog 4 #[.slice A m c] w fun e w' => e = .returned (.bool true) ∧ Fr No w w' := by
  rcases Nat.lt_or_ge m 1 with hm | hm
  · obtain rfl : m = 0 := by omega
    go_enter Try.func4, Try.ntmps4
    go_wp2_with (go_at_call 8; refine (awake_any _).mono ?_; rintro e w1 ⟨rfl, hf⟩)
    go_ret
    exact ⟨rfl, hf⟩
  rcases Nat.lt_or_ge 100 m with hm2 | hm2
  · go_enter Try.func4, Try.ntmps4
    go_wp2_with (go_at_call 8; refine (awake_any _).mono ?_; rintro e w1 ⟨rfl, hf⟩)
    go_ret
    exact ⟨rfl, hf⟩
  have hl : l.length = m := by simpa using ha.len
  go_enter Try.func4, Try.ntmps4
  go_wp2_with fail
  go_loop [3, 4] (fun b i => ∃ k : Nat, k ≤ m ∧ i = .int .i64 (k : Int) ∧ b = .bool (okL (l.take k))) (fun _ i => m - (intOf i).toNat)
  case atStart => exact ⟨0, Nat.zero_le _, rfl, rfl⟩
  case round =>
    obtain ⟨k, hk, rfl, rfl⟩ := hrel
    rcases Nat.lt_or_ge k m with hlt | hge
    · have HS := Lib.hid (okL_snoc l k (by omega))
      obtain ⟨ad, u, rfl, hu, hc⟩ := ha.at_ hlt
      rw [u8s_get l k (by omega)] at hu
      injection hu with hu
      subst hu
      have h1 := shr4_u8 l[k]
      have h2 : bits BinOp.and IntKind.u8 (l[k].toNat : Int) 15 = ((l[k] &&& 15).toNat : Int) := and_u8 l[k] 15
      have H1 := Lib.hid h1
      have H2 := Lib.hid h2
      clear h1 h2
      cases hb : okL (l.take k) with
      | false =>
        have HB := Lib.hid hb
        clear hb
        go_wp2_with fail
        go_round
        case rel => exact ⟨k + 1, by omega, by go_num, by rw [HS.out, HB.out]; rfl⟩
        case measure => simp [intOf]; omega
      | true =>
        have HB := Lib.hid hb
        clear hb
        go_wp2_with fail
        · have hh : (l[k].toNat : Int) / 16 < 10 := by assumption
          go_round
          case rel => exact ⟨k + 1, by omega, by go_num, by rw [HS.out, HB.out, okX_int]; simp [hh]⟩
          case measure => simp [intOf]; omega
        · have hh : ¬ (l[k].toNat : Int) / 16 < 10 := by assumption
          go_round
          case rel => exact ⟨k + 1, by omega, by go_num, by rw [HS.out, HB.out, okX_int]; simp [hh]⟩
          case measure => simp [intOf]; omega
    · obtain rfl : k = m := by omega
      rw [List.take_of_length_le (by omega)]
      obtain ⟨ad, u, rfl, hu, hc⟩ := ha.at_ (show 0 < k by omega)
      obtain ⟨a1, a2⟩ := unbcd_arg l k (2 * (k : Int) + 1) hl (by omega)
      obtain ⟨b1, b2⟩ := unbcd_arg l k (2 * (k : Int) - 2) hl (by omega)
      obtain ⟨e1, e2⟩ := unbcd_even l k hl
      cases l with
      | nil => simp at hl; omega
      | cons x r =>
        obtain ⟨o1, o2⟩ := unbcd_odd x r k hl
        have hnx := hex_nought x r
        simp only [u8s, List.map_cons, List.getElem?_cons_zero, Option.some.injEq] at hu
        subst hu
        have hsh := shr4_u8 x
        simp only [Addr.add, if_true] at hc
        have A1 := Lib.hid a1; have A2 := Lib.hid a2; have B1 := Lib.hid b1; have B2 := Lib.hid b2
        clear a1 a2 b1 b2
        cases hb : okL (x :: r) with
        | false =>
          rw [hb] at e1 e2 o1 o2
          simp only [Bool.false_and, if_false, Bool.false_eq_true] at e1 e2 o1 o2
          have E1 := Lib.hid e1; have E2 := Lib.hid e2; have O1 := Lib.hid o1; have O2 := Lib.hid o2
          clear e1 e2 o1 o2 hb hnx hsh hl
          go_wp2_with (first
            | (go_at_call 10; (with_reducible refine (unbcd_any _ _ _ _ (2 * (k : Int)) _ ha (by omega)).mono ?_); rw [E1.out, E2.out]; rintro e w1 ⟨rfl, hf1⟩; have ha1 := ha.no hf1)
            | (go_at_call 10; (with_reducible refine (unbcd_any _ _ _ _ (2 * (k : Int) - 1) _ ha1 (by omega)).mono ?_); rw [O1.out, O2.out]; rintro e w2 ⟨rfl, hf2⟩; have ha2 := ha1.no hf2)
            | (go_at_call 10; (with_reducible refine (unbcd_any _ _ _ _ (2 * (k : Int) + 1) _ ha2 (by omega)).mono ?_); rw [A1.out, A2.out]; rintro e w3 ⟨rfl, hf3⟩; have ha3 := ha2.no hf3)
            | (go_at_call 10; (with_reducible refine (unbcd_any _ _ _ _ (2 * (k : Int) - 2) _ ha3 (by omega)).mono ?_); rw [B1.out, B2.out]; rintro e w4 ⟨rfl, hf4⟩; have hc4 := (((hf1.trans hf2).trans hf3).trans hf4).cell hc (fun x => x))
            | (go_at_call 8; refine (awake_any _).mono ?_; rintro e w5 ⟨rfl, hf5⟩))
          go_ret
          exact ⟨rfl, (((hf1.trans hf2).trans hf3).trans hf4).trans hf5⟩
        | true =>
          rw [hb] at e1 e2 o1 o2
          by_cases hz : (x >>> 4).toNat = 0
          · have hz2 : (x.toNat : Int) / 16 = 0 := by omega
            have hz3 : ((x.toNat : Int) / 16 == 0) = true := by simp; omega
            have HN := Lib.hid (hnx hz)
            have hdec : decide ((x >>> 4).toNat = 0) = true := by rw [hz]; rfl
            rw [hdec] at o1 o2
            rw [Bool.true_and, if_pos rfl] at o1 o2
            rw [if_pos rfl] at e1 e2
            clear hdec
            have E1 := Lib.hid e1; have E2 := Lib.hid e2; have O1 := Lib.hid o1; have O2 := Lib.hid o2
            have hST := hnx hz
            have hlen : ((hexL (x :: r)).drop 1).length ≤ 200 := by rw [List.length_drop, hexL_length, hl]; omega
            rw [← o2, ← e2] at hST
            rw [← o2, ← bstr_size] at hlen
            obtain ⟨S, hS⟩ : ∃ S, S = bstr (unbcdR (x :: r) (2 * (k : Int))) := ⟨_, rfl⟩
            obtain ⟨T, hT⟩ : ∃ T, T = bstr (unbcdR (x :: r) (2 * (k : Int) - 1)) := ⟨_, rfl⟩
            rw [← hS, ← hT] at hST
            rw [← hT] at hlen
            have HS := Lib.hid hS; have HT := Lib.hid hT; have HST := Lib.hid hST
            clear e1 e2 o1 o2 hb hnx hsh hz hz2 hS hT hST HN hl
            go_wp2_with (first
              | (go_at_call 10; (with_reducible refine (unbcd_any _ _ _ _ (2 * (k : Int)) _ ha (by omega)).mono ?_); rw [E1.out, ← HS.out]; rintro e w1 ⟨rfl, hf1⟩; have ha1 := ha.no hf1)
              | (go_at_call 10; (with_reducible refine (unbcd_any _ _ _ _ (2 * (k : Int) - 1) _ ha1 (by omega)).mono ?_); rw [O1.out, ← HT.out]; rintro e w2 ⟨rfl, hf2⟩; have ha2 := ha1.no hf2)
              | (go_at_call 10; (with_reducible refine (unbcd_any _ _ _ _ (2 * (k : Int) + 1) _ ha2 (by omega)).mono ?_); rw [A1.out, A2.out]; rintro e w3 ⟨rfl, hf3⟩; have ha3 := ha2.no hf3)
              | (go_at_call 10; (with_reducible refine (unbcd_any _ _ _ _ (2 * (k : Int) - 2) _ ha3 (by omega)).mono ?_); rw [B1.out, B2.out]; rintro e w4 ⟨rfl, hf4⟩; have hc4 := (((hf1.trans hf2).trans hf3).trans hf4).cell hc (fun x => x))
              | (go_at_call 8; refine (awake_any _).mono ?_; rintro e w5 ⟨rfl, hf5⟩))
            · go_ret
              exact ⟨rfl, (((hf1.trans hf2).trans hf3).trans hf4).trans hf5⟩
            · exfalso
              have hne : ¬ S.toList = ({ data := #[48] } ++ T).toList := by assumption
              exact hne (by rw [HST.out])
          · have hz3 : ((x.toNat : Int) / 16 == 0) = false := by simp; omega
            have hdec : decide ((x >>> 4).toNat = 0) = false := decide_eq_false hz
            rw [hdec] at o1 o2
            rw [Bool.true_and, if_neg Bool.false_ne_true] at o1 o2
            rw [if_pos rfl] at e1 e2
            clear hdec
            have E1 := Lib.hid e1; have E2 := Lib.hid e2; have O1 := Lib.hid o1; have O2 := Lib.hid o2
            clear e1 e2 o1 o2 hb hnx hsh hz hl
            go_wp2_with (first
              | (go_at_call 10; (with_reducible refine (unbcd_any _ _ _ _ (2 * (k : Int)) _ ha (by omega)).mono ?_); rw [E1.out, E2.out]; rintro e w1 ⟨rfl, hf1⟩; have ha1 := ha.no hf1)
              | (go_at_call 10; (with_reducible refine (unbcd_any _ _ _ _ (2 * (k : Int) - 1) _ ha1 (by omega)).mono ?_); rw [O1.out, O2.out]; rintro e w2 ⟨rfl, hf2⟩; have ha2 := ha1.no hf2)
              | (go_at_call 10; (with_reducible refine (unbcd_any _ _ _ _ (2 * (k : Int) + 1) _ ha2 (by omega)).mono ?_); rw [A1.out, A2.out]; rintro e w3 ⟨rfl, hf3⟩; have ha3 := ha2.no hf3)
              | (go_at_call 10; (with_reducible refine (unbcd_any _ _ _ _ (2 * (k : Int) - 2) _ ha3 (by omega)).mono ?_); rw [B1.out, B2.out]; rintro e w4 ⟨rfl, hf4⟩; have hc4 := (((hf1.trans hf2).trans hf3).trans hf4).cell hc (fun x => x))
              | (go_at_call 8; refine (awake_any _).mono ?_; rintro e w5 ⟨rfl, hf5⟩))
            go_ret
            exact ⟨rfl, (((hf1.trans hf2).trans hf3).trans hf4).trans hf5⟩
end Go.Proofs.Ytbaadbegnckbpaa
