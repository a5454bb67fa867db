/- DigitsBack: numbers, halves of bytes, and signs are told, and read as they were: the walk, for every number, width, text and list of bytes. -/
import Derived.Test.YtbaadbegnckbpaaDoorDigAwake
import Derived.Test.YtbaadbegnckbpaaDoorDigText
namespace Go.Proofs.YtbaadbegnckbpaaDoor
open Go.RowKit
set_option maxHeartbeats 400000
set_option linter.unusedVariables false

theorem half_of (d : Nat) (h : d < 10) : (half (UInt8.ofNat (48 + d))).toNat = d := by
  rw [half_digit (isD_mk (by rw [UInt8.toNat_ofNat']; omega) (by rw [UInt8.toNat_ofNat']; omega)), UInt8.toNat_ofNat']
  omega
theorem numV_dec (v : Nat) : numV (Lib.decDigits v) = v := by
  induction v using Nat.strongRecOn with
  | _ v ih =>
    rw [Lib.decDigits]
    split
    · rename_i h
      rw [show ([UInt8.ofNat (48 + v)] : List UInt8) = [] ++ [UInt8.ofNat (48 + v)] from rfl, numV_snoc, half_of v h]
      show 10 * 0 + v = v
      omega
    · rw [numV_snoc, ih (v / 10) (by omega), half_of _ (by omega)]
      omega
theorem dec_all (v : Nat) : (Lib.decDigits v).all isD = true := by
  induction v using Nat.strongRecOn with
  | _ v ih =>
    rw [Lib.decDigits]
    split
    · simp only [List.all_cons, List.all_nil, Bool.and_true]
      exact isD_mk (by rw [UInt8.toNat_ofNat']; omega) (by rw [UInt8.toNat_ofNat']; omega)
    · rw [List.all_append, ih (v / 10) (by omega)]
      simp only [List.all_cons, List.all_nil, Bool.and_true, Bool.true_and]
      exact isD_mk (by rw [UInt8.toNat_ofNat']; omega) (by rw [UInt8.toNat_ofNat']; omega)
theorem numV_wide (v m : Nat) : numV (wide v m) = v := by
  unfold wide
  induction m with
  | zero => exact numV_dec v
  | succ m ih =>
    rw [List.replicate_succ, List.cons_append]
    have h : numV (48 :: (List.replicate m 48 ++ Lib.decDigits v)) = numV (List.replicate m 48 ++ Lib.decDigits v) := rfl
    rw [h, ih]
theorem wide_all (v m : Nat) : (wide v m).all isD = true := by
  unfold wide
  rw [List.all_append, dec_all, Bool.and_true, List.all_eq_true]
  intro x hx
  rw [List.eq_of_mem_replicate hx]
  decide
theorem wide_number (v m : Nat) (h1 : 1 ≤ (wide v m).length) (h2 : (wide v m).length ≤ 18) : numR (wide v m) = v ∧ numE (wide v m) = 0 := by
  have hr : rightB (wide v m) 1 18 = true := by
    unfold rightB
    rw [wide_all, decide_eq_true (by omega), decide_eq_true (by omega)]
    rfl
  exact ⟨by unfold numR; rw [if_pos hr, numV_wide], by unfold numE; rw [if_pos hr]⟩

theorem unbcd_bcd (l : List UInt8) (n : Int) (hn : (l.length : Int) = n) (hd : l.all isD = true) :
    unbcdE (pairL (evenL l)) n = 0 ∧ unbcdR (pairL (evenL l)) n = l ∧ (pairL (evenL l)).length = (l.length + 1) / 2 := by
  have hlen : (pairL (evenL l)).length = (l.length + 1) / 2 := by rw [pairL_length, evenL_length]; omega
  have hh : hexL (pairL (evenL l)) = evenL l := hexL_pairL _ (evenL_even l) (evenL_all hd)
  have hal : allB (evenL l) isD = true := evenL_all hd
  have e : unbcdE (pairL (evenL l)) n = 0 := by
    unfold unbcdE
    rw [hh, hal, hlen, if_neg (by omega)]
    rw [if_neg]
    rintro (h | ⟨h1, h2⟩)
    · cases h
    · apply h2
      have hodd : l.length % 2 = 1 := by omega
      unfold evenL
      rw [if_pos hodd]
      rfl
  refine ⟨e, ?_, hlen⟩
  unfold unbcdR
  rw [if_pos e, hh, hlen]
  unfold evenL
  rcases Nat.mod_two_eq_zero_or_one l.length with h | h
  · rw [if_neg (by omega), show (2 * (((l.length + 1) / 2 : Nat) : Int) - n).toNat = 0 from by omega, List.drop_zero]
  · rw [if_pos h, show (2 * (((l.length + 1) / 2 : Nat) : Int) - n).toNat = 1 from by omega]
    rfl
theorem unhex_hex (l : List UInt8) : unhexR (hexL l) = l ∧ unhexE (hexL l) = 0 := by
  have hb : unhexB (hexL l) = true := by
    unfold unhexB
    rw [hexL_isH, hexL_length, decide_eq_true (by omega)]
    rfl
  exact ⟨by unfold unhexR; rw [if_pos hb, pairL_hexL], by unfold unhexE; rw [if_pos hb]⟩

theorem back_short {v : Nat} {z : Int} {s : ByteArray} {A : Option Addr} {n c : Nat} (w : World) (h : 100 < s.size ∨ 200 < n) :
    Calls Tryd.prog 4 #[.int .u64 (v : Int), .int .i64 z, .string s, .slice A n c] w fun e w' => e = .returned (.bool true) ∧ Fr No w w' := by
  by_cases hs : 100 < s.size
  · go_enter Tryd.func4, Tryd.ntmps4
    go_wp2_with (go_at_call 6; refine (awake_any _).mono ?_; rintro e w1 ⟨rfl, hf⟩)
    go_ret
    exact ⟨rfl, hf⟩
  · have hn : 200 < n := by omega
    go_enter Tryd.func4, Tryd.ntmps4
    go_wp2_with (go_at_call 6; refine (awake_any _).mono ?_; rintro e w1 ⟨rfl, hf⟩)
    go_ret
    exact ⟨rfl, hf⟩

set_option maxRecDepth 100000 in
set_option maxHeartbeats 2000000 in
theorem back_walk {v : Nat} {z : Int} {s : ByteArray} {A : Option Addr} {n c : Nat} {l : List UInt8} (w : World) (htab : Tab w) (hv : v < 18446744073709551616) (hz : (Lit.int .i64 z).wf = true) (hs : s.size ≤ maxLen) (ha : Rd w A n c (u8s l)) :
    Calls Tryd.prog 4 #[.int .u64 (v : Int), .int .i64 z, .string s, .slice A n c] w fun e w' => e = .returned (.bool true) ∧ Fr No w w' := by
  by_cases hbig : 100 < s.size ∨ 200 < n
  · exact back_short w hbig
  have hs1 : s.size ≤ 100 := by omega
  have hn1 : n ≤ 200 := by omega
  obtain ⟨q, hq, hq1⟩ := rem_nat z 18 (by omega)
  obtain ⟨V, hV⟩ : ∃ V, V = v % 1000000000000000000 := ⟨_, rfl⟩
  have hV2 : V < 18446744073709551616 := by omega
  have hm1 : (v : Int) % 1000000000000000000 = (V : Int) := by omega
  have hm2 : (v : Int).tmod 1000000000000000000 = (V : Int) := by rw [Int.tmod_eq_emod_of_nonneg (by omega)]; exact hm1
  have ht := fun w h => text_any V (1 + (q : Int)) w hV2 h
  have hrr : rightB s.data.toList 0 100 = true ∨ rightB s.data.toList 0 100 = false := by cases rightB s.data.toList 0 100 <;> simp
  have hln : l.length = n := by simpa using ha.len
  obtain ⟨x1, x2⟩ := unhex_hex l
  have hhex := fun w ha => hex_all A n c l w ha (by omega)
  have hhd : (bstr (hexL l)).data.toList = hexL l := bstr_data _
  have hhz : (bstr (hexL l)).size ≤ 140737488355328 := by rw [bstr_size, hexL_length]; omega
  generalize bstr (hexL l) = X at hhex hhd hhz
  rw [← hhd] at x1 x2
  have X1 := Lib.hid x1
  have X2 := Lib.hid x2
  have HH := Lib.hid hhex
  have HVV := Lib.hid hV
  have HLN := Lib.hid hln
  have hsd : bstr s.data.toList = s := bstr_of s
  have HSD := Lib.hid hsd
  clear hv hV x1 x2 hhd hhex hln hsd hbig
  have hcs : textE V (1 + (q : Int)) = 4 ∨ ∃ m : Nat, 1 + (q : Int) = ((Lib.decDigits V).length : Int) + (m : Int) ∧ textE V (1 + (q : Int)) = 0 ∧ textR V (1 + (q : Int)) = wide V m := by
    rcases text_cases V (1 + (q : Int)) with ⟨h, _⟩ | ⟨h, _⟩ | ⟨_, _, _, e1, _⟩ | ⟨m, h, _, _, e1, e2⟩
    · omega
    · omega
    · exact .inl e1
    · exact .inr ⟨m, h, e1, e2⟩
  have hbt : (l == l) = true := by simp
  have HBT := Lib.hid hbt
  clear hbt
  rcases hcs with e1 | ⟨m, hm, e1, e2⟩
  · rw [e1] at ht
    have HT := Lib.hid ht
    clear ht e1
    rcases hrr with hr | hr
    · obtain ⟨_, _, hda⟩ := rightB_len hr
      obtain ⟨b3, b4, b5⟩ := unbcd_bcd s.data.toList (s.size : Int) (by simp) hda
      have b1 : bcdE s.data.toList = 0 := by unfold bcdE; rw [if_pos hr]
      have b2 : bcdR s.data.toList = pairL (evenL s.data.toList) := by unfold bcdR; rw [if_pos hr]
      have b6 : s.data.toList.length = s.size := by simp
      rw [b6] at b5
      have B1 := Lib.hid b1; have B2 := Lib.hid b2; have B3 := Lib.hid b3; have B4 := Lib.hid b4; have B5 := Lib.hid b5; have HR := Lib.hid hr
      clear b1 b2 b3 b4 b5 b6 hr hda
      go_enter Tryd.func4, Tryd.ntmps4
      go_wp2_with (first
        | (go_at_call 9; refine (HT.out _ htab).mono ?_; rintro e w1 ⟨rfl, hf1⟩)
        | (go_at_call 11; refine (bcd_any s _ hs).mono ?_; rw [B1.out]; rintro e w2 ⟨v2, rfl, ho2, hf2⟩; rw [B2.out, B5.out] at ho2; obtain ⟨P, d, rfl, hrp, _⟩ := Rd.of_own ho2)
        | (go_at_call 13; refine (unbcd_any _ _ _ (pairL (evenL s.data.toList)) _ _ hrp (by omega)).mono ?_; rw [B3.out, B4.out, HSD.out]; rintro e w3 ⟨rfl, hf3⟩)
        | (go_at_call 20; refine (HH.out _ (ha.no ((hf1.trans hf2).trans hf3))).mono ?_; rintro e w4 ⟨rfl, hf4⟩)
        | (go_at_call 15; refine (unhex_any X _ hhz).mono ?_; rw [X1.out, X2.out]; rintro e w5 ⟨v5, rfl, ho5, hf5⟩; obtain ⟨Y, dy, rfl, hry, _⟩ := Rd.of_own ho5)
        | (go_at_call 6; refine (awake_any _).mono ?_; rintro e w6 ⟨rfl, hf6⟩)
        | (go_at_call 19; refine (bytes_any _ _ _ _ _ _ _ _ _ (hry.no hf6) ((((ha.no ((hf1.trans hf2).trans hf3)).no hf4).no hf5).no hf6)).mono ?_; rw [HBT.out]; rintro e w7 ⟨rfl, rfl⟩)
        | (go_at_call 17; refine (right_any s _ _ _ hs).mono ?_; rw [HR.out]; rintro e w8 ⟨rfl, rfl⟩))
      go_ret
      exact ⟨rfl, (((((hf1.trans hf2).trans hf3).trans hf4).trans hf5).trans hf6)⟩
    · have b1 : bcdE s.data.toList = 5 := by unfold bcdE; rw [if_neg (by rw [hr]; decide)]
      have b2 : bcdR s.data.toList = [] := by unfold bcdR; rw [if_neg (by rw [hr]; decide)]
      have B1 := Lib.hid b1; have B2 := Lib.hid b2; have HR := Lib.hid hr
      clear b1 b2 hr
      go_enter Tryd.func4, Tryd.ntmps4
      go_wp2_with (first
        | (go_at_call 9; refine (HT.out _ htab).mono ?_; rintro e w1 ⟨rfl, hf1⟩)
        | (go_at_call 11; refine (bcd_any s _ hs).mono ?_; rw [B1.out]; rintro e w2 ⟨v2, rfl, ho2, hf2⟩; rw [B2.out] at ho2; obtain ⟨P, d, rfl, hrp, _⟩ := Rd.of_own ho2)
        | (go_at_call 20; refine (HH.out _ (ha.no (hf1.trans hf2))).mono ?_; rintro e w4 ⟨rfl, hf4⟩)
        | (go_at_call 15; refine (unhex_any X _ hhz).mono ?_; rw [X1.out, X2.out]; rintro e w5 ⟨v5, rfl, ho5, hf5⟩; obtain ⟨Y, dy, rfl, hry, _⟩ := Rd.of_own ho5)
        | (go_at_call 6; refine (awake_any _).mono ?_; rintro e w6 ⟨rfl, hf6⟩)
        | (go_at_call 19; refine (bytes_any _ _ _ _ _ _ _ _ _ (hry.no hf6) ((((ha.no (hf1.trans hf2)).no hf4).no hf5).no hf6)).mono ?_; rw [HBT.out]; rintro e w7 ⟨rfl, rfl⟩)
        | (go_at_call 17; refine (right_any s _ _ _ hs).mono ?_; rw [HR.out]; rintro e w8 ⟨rfl, rfl⟩))
      go_ret
      exact ⟨rfl, ((((hf1.trans hf2).trans hf4).trans hf5).trans hf6)⟩
  · rw [e1, e2] at ht
    have hTl : (wide V m).length = 1 + q := by rw [wide_length]; omega
    obtain ⟨n1, n2⟩ := wide_number V m (by omega) (by omega)
    have hTd : (bstr (wide V m)).data.toList = wide V m := bstr_data _
    have hTz : (bstr (wide V m)).size = 1 + q := by rw [bstr_size, hTl]
    generalize bstr (wide V m) = T at ht hTd hTz
    rw [← hTd] at n1 n2
    have hTm : T.size ≤ maxLen := by rw [hTz]; simp only [maxLen]; omega
    have hTi : (T.size : Int) = 1 + (q : Int) := by omega
    have N1 := Lib.hid n1; have N2 := Lib.hid n2; have HT := Lib.hid ht; have HM := Lib.hid hm
    clear e1 e2 ht hTl n1 n2 hTd hTz hm
    rcases hrr with hr | hr
    · obtain ⟨_, _, hda⟩ := rightB_len hr
      obtain ⟨b3, b4, b5⟩ := unbcd_bcd s.data.toList (s.size : Int) (by simp) hda
      have b1 : bcdE s.data.toList = 0 := by unfold bcdE; rw [if_pos hr]
      have b2 : bcdR s.data.toList = pairL (evenL s.data.toList) := by unfold bcdR; rw [if_pos hr]
      have b6 : s.data.toList.length = s.size := by simp
      rw [b6] at b5
      have B1 := Lib.hid b1; have B2 := Lib.hid b2; have B3 := Lib.hid b3; have B4 := Lib.hid b4; have B5 := Lib.hid b5; have HR := Lib.hid hr
      clear b1 b2 b3 b4 b5 b6 hr hda
      go_enter Tryd.func4, Tryd.ntmps4
      go_wp2_with (first
        | (go_at_call 9; refine (HT.out _ htab).mono ?_; rintro e w1 ⟨rfl, hf1⟩)
        | (go_at_call 7; refine (number_any T _ hTm).mono ?_; rw [N1.out, N2.out]; rintro e wn ⟨rfl, rfl⟩)
        | (go_at_call 11; refine (bcd_any s _ hs).mono ?_; rw [B1.out]; rintro e w2 ⟨v2, rfl, ho2, hf2⟩; rw [B2.out, B5.out] at ho2; obtain ⟨P, d, rfl, hrp, _⟩ := Rd.of_own ho2)
        | (go_at_call 13; refine (unbcd_any _ _ _ (pairL (evenL s.data.toList)) _ _ hrp (by omega)).mono ?_; rw [B3.out, B4.out, HSD.out]; rintro e w3 ⟨rfl, hf3⟩)
        | (go_at_call 20; refine (HH.out _ (ha.no ((hf1.trans hf2).trans hf3))).mono ?_; rintro e w4 ⟨rfl, hf4⟩)
        | (go_at_call 15; refine (unhex_any X _ hhz).mono ?_; rw [X1.out, X2.out]; rintro e w5 ⟨v5, rfl, ho5, hf5⟩; obtain ⟨Y, dy, rfl, hry, _⟩ := Rd.of_own ho5)
        | (go_at_call 6; refine (awake_any _).mono ?_; rintro e w6 ⟨rfl, hf6⟩)
        | (go_at_call 19; refine (bytes_any _ _ _ _ _ _ _ _ _ (hry.no hf6) ((((ha.no ((hf1.trans hf2).trans hf3)).no hf4).no hf5).no hf6)).mono ?_; rw [HBT.out]; rintro e w7 ⟨rfl, rfl⟩)
        | (go_at_call 17; refine (right_any s _ _ _ hs).mono ?_; rw [HR.out]; rintro e w8 ⟨rfl, rfl⟩))
      go_ret
      exact ⟨rfl, (((((hf1.trans hf2).trans hf3).trans hf4).trans hf5).trans hf6)⟩
    · have b1 : bcdE s.data.toList = 5 := by unfold bcdE; rw [if_neg (by rw [hr]; decide)]
      have b2 : bcdR s.data.toList = [] := by unfold bcdR; rw [if_neg (by rw [hr]; decide)]
      have B1 := Lib.hid b1; have B2 := Lib.hid b2; have HR := Lib.hid hr
      clear b1 b2 hr
      go_enter Tryd.func4, Tryd.ntmps4
      go_wp2_with (first
        | (go_at_call 9; refine (HT.out _ htab).mono ?_; rintro e w1 ⟨rfl, hf1⟩)
        | (go_at_call 7; refine (number_any T _ hTm).mono ?_; rw [N1.out, N2.out]; rintro e wn ⟨rfl, rfl⟩)
        | (go_at_call 11; refine (bcd_any s _ hs).mono ?_; rw [B1.out]; rintro e w2 ⟨v2, rfl, ho2, hf2⟩; rw [B2.out] at ho2; obtain ⟨P, d, rfl, hrp, _⟩ := Rd.of_own ho2)
        | (go_at_call 20; refine (HH.out _ (ha.no (hf1.trans hf2))).mono ?_; rintro e w4 ⟨rfl, hf4⟩)
        | (go_at_call 15; refine (unhex_any X _ hhz).mono ?_; rw [X1.out, X2.out]; rintro e w5 ⟨v5, rfl, ho5, hf5⟩; obtain ⟨Y, dy, rfl, hry, _⟩ := Rd.of_own ho5)
        | (go_at_call 6; refine (awake_any _).mono ?_; rintro e w6 ⟨rfl, hf6⟩)
        | (go_at_call 19; refine (bytes_any _ _ _ _ _ _ _ _ _ (hry.no hf6) ((((ha.no (hf1.trans hf2)).no hf4).no hf5).no hf6)).mono ?_; rw [HBT.out]; rintro e w7 ⟨rfl, rfl⟩)
        | (go_at_call 17; refine (right_any s _ _ _ hs).mono ?_; rw [HR.out]; rintro e w8 ⟨rfl, rfl⟩))
      go_ret
      exact ⟨rfl, ((((hf1.trans hf2).trans hf4).trans hf5).trans hf6)⟩
end Go.Proofs.YtbaadbegnckbpaaDoor
