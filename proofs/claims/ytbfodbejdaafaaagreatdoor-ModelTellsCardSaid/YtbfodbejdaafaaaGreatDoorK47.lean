/- The texts RefTokB, joined. -/
import Derived.Test.YtbfodbejdaafaaaGreatDoorK46
/- The statements' own tokens: one token. -/
namespace Go.Proofs.YtbfodbejdaafaaaGreatDoor
open Go.RowKit
set_option maxHeartbeats 1000000
set_option linter.unusedVariables false

/-- a closing token behind its name -/
def closeQ (n l : List UInt8) : Option (Tok × List UInt8) := if n = [] then none else (isP [62] l).map fun r => (⟨2, n, [], [], false⟩, r)
theorem tokP_close {l l1 : List UInt8} (h : isP [60, 47] l = some l1) : tokP l = closeQ (nameR l1) ((l1.dropWhile isWi).dropWhile isBl) := by
  unfold tokP closeQ
  rw [h]
  cases hn : nameOk (l1.takeWhile isWi) with
  | false => rw [if_pos (nameR_nil.2 hn)]; simp [hn]
  | true =>
    have h1 : nameR l1 = l1.takeWhile isWi := by unfold nameR; rw [hn]; rfl
    rw [if_neg (fun e => by rw [nameR_nil.1 e] at hn; cases hn), h1]
    simp [hn]
theorem tokP_open {l l1 : List UInt8} (h0 : isP [60, 47] l = none) (h : isP [60] l = some l1) : tokP l = if nameOk (l1.takeWhile isWi) then openV (l1.takeWhile isWi) [] (l1.dropWhile isWi) else none := by
  unfold tokP
  rw [h0]
  simp only
  rw [h]
  simp only
  have e := drop_while_le isWi l1
  cases hn : nameOk (l1.takeWhile isWi) with
  | false => simp
  | true =>
    simp only [Bool.not_true, Bool.false_eq_true, if_false, if_true]
    exact openF_enough _ _ _ _ _ (by omega) (by omega)
def notLt (c : UInt8) : Bool := decide (c.toNat ≠ 60)
theorem tokP_text {l : List UInt8} (h0 : isP [60, 47] l = none) (h : isP [60] l = none) : tokP l = (valV (l.takeWhile notLt)).map fun v => (⟨3, [], v, [], false⟩, l.dropWhile notLt) := by
  unfold tokP
  rw [h0]
  simp only
  rw [h]
  rfl
def zeroTok : List Value := [.int .i64 0, .string ⟨#[]⟩, .string ⟨#[]⟩, .slice none 0 0, .bool false]

set_option maxRecDepth 100000 in
theorem r_tok_close (g : Nat) (S : ByteArray) (a : Nat) (w : World) (h : WkT w g S a) (l1 : List UInt8) (hc : isP [60, 47] (S.data.toList.drop a) = some l1) :
    Calls Tryz.prog 31 #[.pointer (some ⟨g, 0, none⟩)] w fun e w' => OpenEnd S g w.heap.size (tokP (S.data.toList.drop a)) e w' ∧ Fr (Just g) w w' := by
  rw [tokP_close hc]
  obtain ⟨E1, his⟩ := r_is_yes g S ⟨#[60, 47]⟩ a l1 (by decide) hc
  obtain ⟨p0, hp0⟩ : ∃ p0, a + (⟨#[60, 47]⟩ : ByteArray).size = p0 := ⟨_, rfl⟩
  rw [hp0] at E1 his
  obtain ⟨p1, D1, -, hnm⟩ := r_name_at g S p0
  obtain ⟨m, p2, -, -, D2, hbl⟩ := r_blanks_at g S p1
  rw [E1] at D1
  rw [D1] at D2
  rw [E1] at hnm
  rw [← D2]
  have hgw := h.blk.lt
  have hb0 : Bk (w.alloc (.cells #[.int .i64 0, .string ⟨#[]⟩, .string ⟨#[]⟩, .slice none 0 0, .bool false] 68)) w.heap.size 68 [.int .i64 0, .string ⟨#[]⟩, .string ⟨#[]⟩, .slice none 0 0, .bool false] := Bk.new w _ _
  have hfa : Fr (Just g) w (w.alloc (.cells #[.int .i64 0, .string ⟨#[]⟩, .string ⟨#[]⟩, .slice none 0 0, .bool false] 68)) := (Fr.refl _ w).alloc _
  have H := Lib.hid h; have HB0 := Lib.hid hb0; have HFA := Lib.hid hfa; have HGW := Lib.hid hgw; have HIS := Lib.hid his; have HNM := Lib.hid hnm; have HBL := Lib.hid hbl
  clear h hb0 hfa hgw hc E1 his hnm hbl D1 D2 hp0
  by_cases hN : nameR l1 = []
  · have hres : closeQ (nameR l1) (S.data.toList.drop p2) = none := by unfold closeQ; rw [if_pos hN]
    rw [hres]
    rw [hN] at HNM
    clear hres hN
    go_enter Tryz.func31, Tryz.ntmps31
    go_wp2_with (first
      | (go_at_call 30; refine (HIS.out _ (H.out.no ((Fr.refl _ _).alloc _))).mono ?_; rintro e w1 ⟨rfl, hw1, hf1⟩)
      | (go_at_call 53; refine (HNM.out _ hw1).mono ?_; rintro e w2 ⟨R, rfl, hR, hw2, hf2⟩; have hRe : (R.toList == []) = true := (by rw [ba_list, hR]; rfl))
      | (go_at_call 54; refine (HBL.out _ hw2).mono ?_; rintro e w3 ⟨rfl, hw3, hf3⟩; have hf13 := (hf1.trans hf2).trans hf3; have hbk := HB0.out.fr hf13 (fun e => absurd (show w.heap.size = g from e) (by have := HGW.out; omega)); obtain ⟨b0, b1, b2, b3, b4, f0, f1, f2, f3, f4⟩ := cells5 hbk))
    obtain ⟨q0, q1, q2, q3, q4⟩ := put5_cells hbk (.int .i64 2) (.string R) (.string ⟨#[]⟩) (.slice none 0 0) (.bool false)
    refine bodyPost_ret (v := .tuple #[.agg #[.int .i64 2, .string R, .string ⟨#[]⟩, .slice none 0 0, .bool false], .bool false]) (by simp [results, Tryz.results31, go_sem, q0, q1, q2, q3, q4]) rfl ?_
    refine ⟨?_, put5_fr (HFA.out.trans hf13) (.inr (Nat.le_refl _)) _ _ _ _ _⟩
    exact ⟨_, _, _, _, _, _, _, rfl⟩
  · cases h2 : isP [62] (S.data.toList.drop p2) with
    | none =>
      have his2 := r_is_no g S ⟨#[62]⟩ p2 (by decide) h2
      have hres : closeQ (nameR l1) (S.data.toList.drop p2) = none := by unfold closeQ; rw [if_neg hN, h2]; rfl
      rw [hres]
      have HIS2 := Lib.hid his2; have HN := Lib.hid hN
      clear hres hN his2 h2
      have tok1 : True := trivial
      go_enter Tryz.func31, Tryz.ntmps31
      go_wp2_with (first
        | (go_at_call 30; clear tok1; refine (HIS.out _ (H.out.no ((Fr.refl _ _).alloc _))).mono ?_; rintro e w1 ⟨rfl, hw1, hf1⟩)
        | (go_at_call 53; refine (HNM.out _ hw1).mono ?_; rintro e w2 ⟨R, rfl, hR, hw2, hf2⟩; have hRe : (R.toList == []) = false := (by rw [ba_list, hR, beq_eq_false_iff_ne]; exact HN.out))
        | (go_at_call 54; refine (HBL.out _ hw2).mono ?_; rintro e w3 ⟨rfl, hw3, hf3⟩)
        | (go_at_call 30; refine (HIS2.out _ hw3).mono ?_; rintro e w4 ⟨rfl, hw4, hf4⟩; have hf14 := ((hf1.trans hf2).trans hf3).trans hf4; have hbk := HB0.out.fr hf14 (fun e => absurd (show w.heap.size = g from e) (by have := HGW.out; omega)); obtain ⟨b0, b1, b2, b3, b4, f0, f1, f2, f3, f4⟩ := cells5 hbk))
      obtain ⟨q0, q1, q2, q3, q4⟩ := put5_cells hbk (.int .i64 2) (.string R) (.string ⟨#[]⟩) (.slice none 0 0) (.bool false)
      refine bodyPost_ret (v := .tuple #[.agg #[.int .i64 2, .string R, .string ⟨#[]⟩, .slice none 0 0, .bool false], .bool false]) (by simp [results, Tryz.results31, go_sem, q0, q1, q2, q3, q4]) rfl ?_
      refine ⟨?_, put5_fr (HFA.out.trans hf14) (.inr (Nat.le_refl _)) _ _ _ _ _⟩
      exact ⟨_, _, _, _, _, _, _, rfl⟩
    | some r2 =>
      obtain ⟨E2, his2⟩ := r_is_yes g S ⟨#[62]⟩ p2 r2 (by decide) h2
      have hres : closeQ (nameR l1) (S.data.toList.drop p2) = some (⟨2, nameR l1, [], [], false⟩, r2) := by unfold closeQ; rw [if_neg hN, h2]; rfl
      rw [hres]
      have HIS2 := Lib.hid his2; have HN := Lib.hid hN; have HE2 := Lib.hid E2
      clear hres hN his2 h2 E2
      have tok1 : True := trivial
      go_enter Tryz.func31, Tryz.ntmps31
      go_wp2_with (first
        | (go_at_call 30; clear tok1; refine (HIS.out _ (H.out.no ((Fr.refl _ _).alloc _))).mono ?_; rintro e w1 ⟨rfl, hw1, hf1⟩)
        | (go_at_call 53; refine (HNM.out _ hw1).mono ?_; rintro e w2 ⟨R, rfl, hR, hw2, hf2⟩; have hRe : (R.toList == []) = false := (by rw [ba_list, hR, beq_eq_false_iff_ne]; exact HN.out))
        | (go_at_call 54; refine (HBL.out _ hw2).mono ?_; rintro e w3 ⟨rfl, hw3, hf3⟩)
        | (go_at_call 30; refine (HIS2.out _ hw3).mono ?_; rintro e w4 ⟨rfl, hw4, hf4⟩; have hf14 := ((hf1.trans hf2).trans hf3).trans hf4; have hbk := HB0.out.fr hf14 (fun e => absurd (show w.heap.size = g from e) (by have := HGW.out; omega)); obtain ⟨b0, b1, b2, b3, b4, f0, f1, f2, f3, f4⟩ := cells5 hbk))
      obtain ⟨q0, q1, q2, q3, q4⟩ := put5_cells hbk (.int .i64 2) (.string R) (.string ⟨#[]⟩) (.slice none 0 0) (.bool false)
      refine bodyPost_ret (v := .tuple #[.agg #[.int .i64 2, .string R, .string ⟨#[]⟩, .slice none 0 0, .bool false], .bool true]) (by simp [results, Tryz.results31, go_sem, q0, q1, q2, q3, q4]) rfl ?_
      refine ⟨?_, put5_fr (HFA.out.trans hf14) (.inr (Nat.le_refl _)) _ _ _ _ _⟩
      have hy := put5_fr (Fr.refl (fun i => i = w.heap.size) w4) (g := w.heap.size) (.inl rfl) (.int .i64 2) (.string R) (.string ⟨#[]⟩) (.slice none 0 0) (.bool false)
      exact ⟨R, ⟨#[]⟩, none, 0, 0, _, rfl, hR, rfl, RdI.nil_ _ _ _ _, hw4.fr hy (fun e => absurd e (by have := HGW.out; omega)), HE2.out⟩

set_option maxRecDepth 100000 in
theorem r_tok_open (g : Nat) (S : ByteArray) (a : Nat) (w : World) (h : WkT w g S a) (l1 : List UInt8) (hc0 : isP [60, 47] (S.data.toList.drop a) = none) (hc : isP [60] (S.data.toList.drop a) = some l1) :
    Calls Tryz.prog 31 #[.pointer (some ⟨g, 0, none⟩)] w fun e w' => OpenEnd S g w.heap.size (tokP (S.data.toList.drop a)) e w' ∧ Fr (Just g) w w' := by
  rw [tokP_open hc0 hc]
  have his0 := r_is_no g S ⟨#[60, 47]⟩ a (by decide) hc0
  obtain ⟨E1, his⟩ := r_is_yes g S ⟨#[60]⟩ a l1 (by decide) hc
  obtain ⟨p0, hp0⟩ : ∃ p0, a + (⟨#[60]⟩ : ByteArray).size = p0 := ⟨_, rfl⟩
  rw [hp0] at E1 his
  have hop := fun u hu => r_open_any g S p0 u hu
  rw [E1] at hop
  have hgw := h.blk.lt
  have hb0 : Bk (w.alloc (.cells #[.int .i64 0, .string ⟨#[]⟩, .string ⟨#[]⟩, .slice none 0 0, .bool false] 68)) w.heap.size 68 [.int .i64 0, .string ⟨#[]⟩, .string ⟨#[]⟩, .slice none 0 0, .bool false] := Bk.new w _ _
  have hfa : Fr (Just g) w (w.alloc (.cells #[.int .i64 0, .string ⟨#[]⟩, .string ⟨#[]⟩, .slice none 0 0, .bool false] 68)) := (Fr.refl _ w).alloc _
  generalize (if nameOk (l1.takeWhile isWi) then openV (l1.takeWhile isWi) [] (l1.dropWhile isWi) else none) = r at hop ⊢
  have H := Lib.hid h; have HB0 := Lib.hid hb0; have HFA := Lib.hid hfa; have HGW := Lib.hid hgw; have HIS0 := Lib.hid his0; have HIS := Lib.hid his; have HOP := Lib.hid hop
  clear h hb0 hfa hgw hc0 hc E1 his0 his hop hp0
  have tok1 : True := trivial
  go_enter Tryz.func31, Tryz.ntmps31
  cases r with
  | none =>
    go_wp2_with (first
      | (go_at_call 30; clear tok1; refine (HIS0.out _ (H.out.no ((Fr.refl _ _).alloc _))).mono ?_; rintro e w1 ⟨rfl, hw1, hf1⟩)
      | (go_at_call 30; refine (HIS.out _ hw1).mono ?_; rintro e w2 ⟨rfl, hw2, hf2⟩)
      | (go_at_call 55; refine (HOP.out _ hw2).mono ?_; rintro e w3 ⟨⟨k, X, Y, A, n, c, em, rfl⟩, hf3⟩; have hf13 := (hf1.trans hf2).trans hf3; have hbk := HB0.out.fr hf13 (fun e => absurd (show w.heap.size = g from e) (by have := HGW.out; omega)); obtain ⟨b0, b1, b2, b3, b4, f0, f1, f2, f3, f4⟩ := cells5 hbk))
    obtain ⟨q0, q1, q2, q3, q4⟩ := put5_cells hbk (.int .i64 k) (.string X) (.string Y) (.slice A n c) (.bool em)
    refine bodyPost_ret (v := .tuple #[.agg #[.int .i64 k, .string X, .string Y, .slice A n c, .bool em], .bool false]) (by simp [results, Tryz.results31, go_sem, q0, q1, q2, q3, q4]) rfl ?_
    exact ⟨⟨_, _, _, _, _, _, _, rfl⟩, put5_fr (HFA.out.trans hf13) (.inr (Nat.le_refl _)) _ _ _ _ _⟩
  | some r =>
    obtain ⟨t, rest⟩ := r
    go_wp2_with (first
      | (go_at_call 30; clear tok1; refine (HIS0.out _ (H.out.no ((Fr.refl _ _).alloc _))).mono ?_; rintro e w1 ⟨rfl, hw1, hf1⟩)
      | (go_at_call 30; refine (HIS.out _ hw1).mono ?_; rintro e w2 ⟨rfl, hw2, hf2⟩)
      | (go_at_call 55; refine (HOP.out _ hw2).mono ?_; rintro e w3 ⟨⟨X, Y, A, n, c, b, rfl, hX, hY, hrd, hw3, hd3⟩, hf3⟩; have hf13 := (hf1.trans hf2).trans hf3; have hbk := HB0.out.fr hf13 (fun e => absurd (show w.heap.size = g from e) (by have := HGW.out; omega)); obtain ⟨b0, b1, b2, b3, b4, f0, f1, f2, f3, f4⟩ := cells5 hbk))
    obtain ⟨q0, q1, q2, q3, q4⟩ := put5_cells hbk (.int .i64 t.kind) (.string X) (.string Y) (.slice A n c) (.bool t.empty)
    refine bodyPost_ret (v := .tuple #[.agg #[.int .i64 t.kind, .string X, .string Y, .slice A n c, .bool t.empty], .bool true]) (by simp [results, Tryz.results31, go_sem, q0, q1, q2, q3, q4]) rfl ?_
    refine ⟨?_, put5_fr (HFA.out.trans hf13) (.inr (Nat.le_refl _)) _ _ _ _ _⟩
    have hy := put5_fr (Fr.refl (fun i => i = w.heap.size) w3) (g := w.heap.size) (.inl rfl) (.int .i64 t.kind) (.string X) (.string Y) (.slice A n c) (.bool t.empty)
    have hs2 : w.heap.size < w2.heap.size := by
      have h1 := hf1.size
      have h2 := hf2.size
      simp at h1
      omega
    exact ⟨X, Y, A, n, c, b, rfl, hX, hY, (hrd.fr attr_ok hy (fun i hi e => by omega)).mono attr_ok (fun i hi => by have := hy.size; exact ⟨by omega, Nat.lt_of_lt_of_le hi.2 this⟩), hw3.fr hy (fun e => absurd e (by have := HGW.out; omega)), hd3⟩

attribute [local irreducible] yielded in
set_option maxRecDepth 100000 in
theorem r_tok_text (g : Nat) (S : ByteArray) (a : Nat) (w : World) (h : WkT w g S a) (hc0 : isP [60, 47] (S.data.toList.drop a) = none) (hc : isP [60] (S.data.toList.drop a) = none) :
    Calls Tryz.prog 31 #[.pointer (some ⟨g, 0, none⟩)] w fun e w' => OpenEnd S g w.heap.size (tokP (S.data.toList.drop a)) e w' ∧ Fr (Just g) w w' := by
  have hT := tokP_text hc0 hc
  have his0 := r_is_no g S ⟨#[60, 47]⟩ a (by decide) hc0
  have his := r_is_no g S ⟨#[60]⟩ a (by decide) hc
  have hgw := h.blk.lt
  have hb0 : Bk (w.alloc (.cells #[.int .i64 0, .string ⟨#[]⟩, .string ⟨#[]⟩, .slice none 0 0, .bool false] 68)) w.heap.size 68 [.int .i64 0, .string ⟨#[]⟩, .string ⟨#[]⟩, .slice none 0 0, .bool false] := Bk.new w _ _
  have hfa : Fr (Just g) w (w.alloc (.cells #[.int .i64 0, .string ⟨#[]⟩, .string ⟨#[]⟩, .slice none 0 0, .bool false] 68)) := (Fr.refl _ w).alloc _
  have H := Lib.hid h; have HB0 := Lib.hid hb0; have HFA := Lib.hid hfa; have HGW := Lib.hid hgw; have HIS0 := Lib.hid his0; have HIS := Lib.hid his; have HT := Lib.hid hT
  clear h hb0 hfa hgw hc0 hc his0 his hT
  have tok1 : True := trivial
  go_enter Tryz.func31, Tryz.ntmps31
  go_wp2_with (first
    | (go_at_call 30; clear tok1; refine (HIS0.out _ (H.out.no ((Fr.refl _ _).alloc _))).mono ?_; rintro e w1 ⟨rfl, hw1, hf1⟩)
    | (go_at_call 30; refine (HIS.out _ hw1).mono ?_; rintro e w2 ⟨rfl, hw2, hf2⟩; have c1 : w2.cell? ⟨g, 1, none⟩ = some (.int .i64 (a : Int)) := hw2.blk.cell 1))
  have hf02 : Fr (Just g) w w2 := HFA.out.trans (hf1.trans hf2)
  have hbk2 := HB0.out.fr (hf1.trans hf2) (fun e => absurd (show w.heap.size = g from e) (by have := HGW.out; omega))
  have HF02 := Lib.hid hf02; have HBK2 := Lib.hid hbk2; have HW2 := Lib.hid hw2
  clear hf02 hbk2 hw2 hf1 hf2 hw1 c1
  go_loopw [] (fun wr => ∃ t : Nat, WkT wr g S (a + t) ∧ Fr (Just g) w2 wr ∧ ∀ j (hj : j < t) (hl : j < (S.data.toList.drop a).length), notLt (S.data.toList.drop a)[j] = true) (fun wr => S.size - posOf wr g)
  case atStart => exact ⟨0, HW2.out, Fr.refl _ _, fun j hj => by omega⟩
  case round =>
    obtain ⟨t, hwt, hft, hall⟩ := hrel
    obtain ⟨q, hq⟩ : ∃ q, a + t = q := ⟨_, rfl⟩
    rw [hq] at hwt
    have c0 : wr.cell? ⟨g, 0, none⟩ = some (.string S) := hwt.blk.cell 0
    have c1 : wr.cell? ⟨g, 1, none⟩ = some (.int .i64 (q : Int)) := hwt.blk.cell 1
    have z1 := hwt.blk.frozen 1
    have hle := hwt.le
    have hsm := hwt.small
    have hpos := hwt.pos
    have hdl : (S.data.toList.drop a).length = S.size - a := by rw [List.length_drop, size_list]
    have haq : a ≤ q := by omega
    have f1 : (0 : Int) ≤ (q : Int) ∧ (q : Int) ≤ (S.size : Int) := by omega
    have f2 : (0 : Int) ≤ (a : Int) ∧ (a : Int) ≤ (q : Int) := by omega
    have HT2 := Lib.hid hq; have HWT := Lib.hid hwt; have HFT := Lib.hid hft; have HALLV := Lib.hid hall; have HPOS := Lib.hid hpos; have HDL := Lib.hid hdl
    clear hq hwt hft hall hpos hdl
    by_cases hlt2 : q < S.size
    · have hltI2 : (q : Int) < (S.size : Int) := by omega
      obtain ⟨y, hy⟩ : ∃ y, S[q] = y := ⟨_, rfl⟩
      have hyl : ∀ hl : t < (S.data.toList.drop a).length, (S.data.toList.drop a)[t] = y := fun hl => by
        rw [← hy, byte_at S q hlt2, List.getElem_drop]
        have := HT2.out
        subst this
        rfl
      have HYL := Lib.hid hyl
      clear hyl
      by_cases hy6 : y.toNat = 60
      · have hyb : ((y.toNat : Int) != 60) = false := by rw [hy6]; rfl
        have hlen := take_while_len notLt (S.data.toList.drop a) t HALLV.out (by rw [HDL.out]; have := HT2.out; omega) (fun hl => by rw [HYL.out hl]; unfold notLt; rw [decide_eq_false_iff_not]; exact fun h => h hy6)
        clear hy6
        obtain ⟨T, hTT⟩ : ∃ T, S.extract a q = T := ⟨_, rfl⟩
        have hdw := drop_while_at notLt S.data.toList a
        rw [hlen, HT2.out] at hdw
        have hTl : T.data.toList = (S.data.toList.drop a).takeWhile notLt := by
          rw [take_while_pre, hlen, ← hTT, ext_list]
          have := HT2.out
          congr 1
          omega
        have hTs : T.size ≤ 65536 := by rw [← size_list, hTl, hlen]; have := HT2.out; omega
        have hres : tokP (S.data.toList.drop a) = (valV T.data.toList).map fun v => (⟨3, [], v, [], false⟩, S.data.toList.drop q) := by rw [HT.out, ← hTl, hdw]
        obtain ⟨V, hV⟩ : ∃ V : ByteArray, V.data.toList = valB T.data.toList := ⟨bstr _, rfl⟩
        have hval := fun u => r_value_one T V u hTs hV
        have HRES := Lib.hid hres; have HVAL := Lib.hid hval; have HV := Lib.hid hV
        clear hres hdw hlen hTl hTs hval hV
        go_wp2
        go_quiet (fail)
        go_wp2
        have hdr6 : Dr wr (wr.drewN nq) := ((Dr.refl wr).drewN nq)
        generalize wr.drewN nq = w6 at hdr6 ⊢
        have hw6 := HWT.out.no hdr6.fr
        have hf6 := HFT.out.dr hdr6
        have c60 : w6.cell? ⟨g, 0, none⟩ = some (.string S) := hw6.blk.cell 0
        have c61 : w6.cell? ⟨g, 1, none⟩ = some (.int .i64 (q : Int)) := hw6.blk.cell 1
        have q60 := fun d os => cell_regrown c60 d os
        have q61 := fun d os => cell_regrown c61 d os
        have HW6 := Lib.hid hw6; have HF6 := Lib.hid hf6
        clear hdr6 hw6 hf6 c0 c1 z1 HWT HFT c60 c61
        refine wp_region_quiet_below (by kernel_rfl) (by kernel_rfl) ?_
        repeat (quiet_step ((go_at_call 56; exact Calls.regrown_of (HVAL.out _))))
        refine wpQuiet_nil ?_
        intro w7 hw7r
        obtain ⟨⟨nr, osr⟩, hw7r⟩ := hw7r
        have hf7 : Fr No w6 w7 := by rw [hw7r]; exact Fr.of_below (below_regrown w6 nr osr)
        clear hw7r q60 q61
        have hw7 := HW6.out.no hf7
        have hf07 := HF6.out.trans hf7.no
        have hbk := HBK2.out.fr hf07 (fun e => absurd (show w.heap.size = g from e) (by have := HGW.out; omega))
        obtain ⟨b0, b1, b2, b3, b4, f0, f1, f2, f3, f4⟩ := cells5 hbk
        go_wp2
        obtain ⟨q0, q1, q2, q3, q4⟩ := put5_cells hbk (.int .i64 3) (.string ⟨#[]⟩) (.string V) (.slice none 0 0) (.bool false)
        refine bodyPost_ret (v := .tuple #[.agg #[.int .i64 3, .string ⟨#[]⟩, .string V, .slice none 0 0, .bool false], .bool (valV T.data.toList).isSome]) (by simp [results, Tryz.results31, go_sem, q0, q1, q2, q3, q4]) rfl ?_
        refine ⟨?_, put5_fr (HF02.out.trans hf07) (.inr (Nat.le_refl _)) _ _ _ _ _⟩
        have hy := put5_fr (Fr.refl (fun i => i = w.heap.size) w7) (g := w.heap.size) (.inl rfl) (.int .i64 3) (.string ⟨#[]⟩) (.string V) (.slice none 0 0) (.bool false)
        rw [HRES.out]
        have hV := HV.out
        unfold valB at hV
        cases hz : valV T.data.toList with
        | none => exact ⟨_, _, _, _, _, _, _, rfl⟩
        | some z =>
          rw [hz] at hV
          exact ⟨⟨#[]⟩, V, none, 0, 0, q, rfl, rfl, hV, RdI.nil_ _ _ _ _, hw7.fr hy (fun e => absurd e (by have := HGW.out; omega)), rfl⟩
      · have hyb : ((y.toNat : Int) != 60) = true := by rw [bne_iff_ne]; omega
        have hin : notLt y = true := by unfold notLt; rw [decide_eq_true_iff]; exact hy6
        have HIN := Lib.hid hin
        clear hy6 hin
        go_wp2
        go_quiet (fail)
        go_wp2
        have h2 := (HWT.out.no ((Fr.refl No wr).drewN nq)).set (b := q + 1) (by omega)
        have e1 : ((q + 1 : Nat) : Int) = (q : Int) + 1 := by omega
        rw [e1] at h2
        go_roundw
        case rel =>
          refine ⟨t + 1, ?_, (HFT.out.drewN nq).setCell (p := ⟨g, 1, none⟩) (.inl (Just.at g)) _, fun j hj hl => ?_⟩
          · have h3 := HT2.out
            rw [show a + (t + 1) = q + 1 by omega]
            exact h2
          · by_cases hjk : j = t
            · subst hjk; rw [HYL.out hl]; exact HIN.out
            · exact HALLV.out j (by omega) hl
        case measure =>
          have p2 := h2.pos
          have p1 := HPOS.out
          rw [p1, p2]
          omega
    · have hltI2 : ¬ (q : Int) < (S.size : Int) := by omega
      have hlen := take_while_len notLt (S.data.toList.drop a) t HALLV.out (by rw [HDL.out]; have := HT2.out; omega) (fun hl => by rw [HDL.out] at hl; have := HT2.out; omega)
      obtain ⟨T, hTT⟩ : ∃ T, S.extract a q = T := ⟨_, rfl⟩
      have hdw := drop_while_at notLt S.data.toList a
      rw [hlen, HT2.out] at hdw
      have hTl : T.data.toList = (S.data.toList.drop a).takeWhile notLt := by
        rw [take_while_pre, hlen, ← hTT, ext_list]
        have := HT2.out
        congr 1
        omega
      have hTs : T.size ≤ 65536 := by rw [← size_list, hTl, hlen]; have := HT2.out; omega
      have hres : tokP (S.data.toList.drop a) = (valV T.data.toList).map fun v => (⟨3, [], v, [], false⟩, S.data.toList.drop q) := by rw [HT.out, ← hTl, hdw]
      obtain ⟨V, hV⟩ : ∃ V : ByteArray, V.data.toList = valB T.data.toList := ⟨bstr _, rfl⟩
      have hval := fun u => r_value_one T V u hTs hV
      have HRES := Lib.hid hres; have HVAL := Lib.hid hval; have HV := Lib.hid hV
      clear hres hdw hlen hTl hTs hval hV
      go_wp2
      go_quiet (fail)
      go_wp2
      have hdr6 : Dr wr (wr.drewN nq) := ((Dr.refl wr).drewN nq)
      generalize wr.drewN nq = w6 at hdr6 ⊢
      have hw6 := HWT.out.no hdr6.fr
      have hf6 := HFT.out.dr hdr6
      have c60 : w6.cell? ⟨g, 0, none⟩ = some (.string S) := hw6.blk.cell 0
      have c61 : w6.cell? ⟨g, 1, none⟩ = some (.int .i64 (q : Int)) := hw6.blk.cell 1
      have q60 := fun d os => cell_regrown c60 d os
      have q61 := fun d os => cell_regrown c61 d os
      have HW6 := Lib.hid hw6; have HF6 := Lib.hid hf6
      clear hdr6 hw6 hf6 c0 c1 z1 HWT HFT c60 c61
      refine wp_region_quiet_below (by kernel_rfl) (by kernel_rfl) ?_
      repeat (quiet_step ((go_at_call 56; exact Calls.regrown_of (HVAL.out _))))
      refine wpQuiet_nil ?_
      intro w7 hw7r
      obtain ⟨⟨nr, osr⟩, hw7r⟩ := hw7r
      have hf7 : Fr No w6 w7 := by rw [hw7r]; exact Fr.of_below (below_regrown w6 nr osr)
      clear hw7r q60 q61
      have hw7 := HW6.out.no hf7
      have hf07 := HF6.out.trans hf7.no
      have hbk := HBK2.out.fr hf07 (fun e => absurd (show w.heap.size = g from e) (by have := HGW.out; omega))
      obtain ⟨b0, b1, b2, b3, b4, f0, f1, f2, f3, f4⟩ := cells5 hbk
      go_wp2
      obtain ⟨q0, q1, q2, q3, q4⟩ := put5_cells hbk (.int .i64 3) (.string ⟨#[]⟩) (.string V) (.slice none 0 0) (.bool false)
      refine bodyPost_ret (v := .tuple #[.agg #[.int .i64 3, .string ⟨#[]⟩, .string V, .slice none 0 0, .bool false], .bool (valV T.data.toList).isSome]) (by simp [results, Tryz.results31, go_sem, q0, q1, q2, q3, q4]) rfl ?_
      refine ⟨?_, put5_fr (HF02.out.trans hf07) (.inr (Nat.le_refl _)) _ _ _ _ _⟩
      have hy := put5_fr (Fr.refl (fun i => i = w.heap.size) w7) (g := w.heap.size) (.inl rfl) (.int .i64 3) (.string ⟨#[]⟩) (.string V) (.slice none 0 0) (.bool false)
      rw [HRES.out]
      have hV := HV.out
      unfold valB at hV
      cases hz : valV T.data.toList with
      | none => exact ⟨_, _, _, _, _, _, _, rfl⟩
      | some z =>
        rw [hz] at hV
        exact ⟨⟨#[]⟩, V, none, 0, 0, q, rfl, rfl, hV, RdI.nil_ _ _ _ _, hw7.fr hy (fun e => absurd e (by have := HGW.out; omega)), rfl⟩
end Go.Proofs.YtbfodbejdaafaaaGreatDoor
