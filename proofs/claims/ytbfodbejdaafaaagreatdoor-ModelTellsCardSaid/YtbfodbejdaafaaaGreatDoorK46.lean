/- The texts RefTokA, joined. -/
import Derived.Test.YtbfodbejdaafaaaGreatDoorK45
/- The statements' own tokens: an element's beginning. -/
namespace Go.Proofs.YtbfodbejdaafaaaGreatDoor
open Go.RowKit
set_option maxHeartbeats 1000000
set_option linter.unusedVariables false

theorem attrQ_less {n x rest : List UInt8} {y : List UInt8 × List UInt8} (h : attrQ n x = some (y, rest)) : rest.length < x.length := by
  unfold attrQ at h
  split at h
  · cases h
  rename_i l1 h1
  have e1 := (isP_len h1).2
  have e2 := drop_while_le isBl l1
  split at h
  · cases h
  rename_i m r h2
  rw [h2] at e2
  simp only [List.length_cons, List.length_nil] at e1 e2
  split at h
  · cases h
  have e3 := drop_while_le (inVal m) r
  split at h
  · cases h
  rename_i c q h3
  rw [h3] at e3
  simp only [List.length_cons] at e3
  split at h
  · cases h
  cases hv : valV (r.takeWhile (inVal m)) with
  | none => rw [hv] at h; cases h
  | some v =>
    rw [hv] at h
    simp only [Option.map_some, Option.some.injEq, Prod.mk.injEq] at h
    rw [← h.2]
    omega
theorem attrP_less {used : List (List UInt8 × List UInt8)} {l rest : List UInt8} {y : List UInt8 × List UInt8} (h : attrP used l = some (y, rest)) : rest.length < l.length := by
  cases hn : nameOk (l.takeWhile isWi) with
  | false => rw [attrP_bad hn] at h; cases h
  | true =>
    have h2 : attrQ (l.takeWhile isWi) ((l.dropWhile isWi).dropWhile isBl) = some (y, rest) := by
      unfold attrP at h
      simp only [hn, Bool.not_true, Bool.false_or] at h
      split at h
      · cases h
      · exact h
    have e1 := attrQ_less h2
    have e2 := drop_while_le isBl (l.dropWhile isWi)
    have e3 := drop_while_le isWi l
    omega
def openV (name : List UInt8) (attrs : List (List UInt8 × List UInt8)) (l : List UInt8) : Option (Tok × List UInt8) := openF (l.length + 1) name attrs l
theorem openF_enough : ∀ (f k : Nat) (name : List UInt8) (attrs : List (List UInt8 × List UInt8)) (l : List UInt8), l.length < f → l.length < k → openF f name attrs l = openF k name attrs l := by
  intro f
  induction f with
  | zero => intro k name attrs l h; omega
  | succ f ih =>
    intro k name attrs l h1 h2
    cases k with
    | zero => omega
    | succ k =>
      unfold openF
      split
      · rfl
      split
      · rfl
      split
      · rfl
      cases ha : attrP attrs (l.dropWhile isBl) with
      | none => rfl
      | some x =>
        obtain ⟨y, r⟩ := x
        have e1 := attrP_less ha
        have e2 := drop_while_le isBl l
        exact ih k name _ r (by omega) (by omega)
theorem openV_eq (name : List UInt8) (attrs : List (List UInt8 × List UInt8)) (l : List UInt8) : openV name attrs l =
    match isP [47, 62] (l.dropWhile isBl) with
    | some r => some (⟨1, name, [], attrs, true⟩, r)
    | none => match isP [62] (l.dropWhile isBl) with
      | some r => some (⟨1, name, [], attrs, false⟩, r)
      | none => if (l.takeWhile isBl).length = 0 then none else
        match attrP attrs (l.dropWhile isBl) with
        | none => none
        | some (a, r) => openV name (attrs ++ [a]) r := by
  unfold openV
  rw [openF]
  cases isP [47, 62] (l.dropWhile isBl) with
  | some r => rfl
  | none =>
    cases isP [62] (l.dropWhile isBl) with
    | some r => rfl
    | none =>
      by_cases h0 : (l.takeWhile isBl).length = 0
      · simp only [h0, if_true]
      · simp only [h0, if_false]
        cases ha : attrP attrs (l.dropWhile isBl) with
        | none => rfl
        | some x =>
          obtain ⟨y, r⟩ := x
          have e1 := attrP_less ha
          have e2 := drop_while_le isBl l
          exact openF_enough _ _ _ _ _ (by omega) (by omega)

/-- five cells, written one behind the other -/
def put5 (w : World) (g : Nat) (a b c d e : Value) : World := ((((w.setCell ⟨g, 0, none⟩ a).setCell ⟨g, 1, none⟩ b).setCell ⟨g, 2, none⟩ c).setCell ⟨g, 3, none⟩ d).setCell ⟨g, 4, none⟩ e
theorem put5_cells {w : World} {g : Nat} {t : TypeId} {a' b' c' d' e' : Value} (h : Bk w g t [a', b', c', d', e']) (a b c d e : Value) :
    (w.setCell ⟨g, 0, none⟩ a).cell? ⟨g, 0, none⟩ = some a ∧ ((w.setCell ⟨g, 0, none⟩ a).setCell ⟨g, 1, none⟩ b).cell? ⟨g, 1, none⟩ = some b ∧ (((w.setCell ⟨g, 0, none⟩ a).setCell ⟨g, 1, none⟩ b).setCell ⟨g, 2, none⟩ c).cell? ⟨g, 2, none⟩ = some c ∧
    ((((w.setCell ⟨g, 0, none⟩ a).setCell ⟨g, 1, none⟩ b).setCell ⟨g, 2, none⟩ c).setCell ⟨g, 3, none⟩ d).cell? ⟨g, 3, none⟩ = some d ∧ (((((w.setCell ⟨g, 0, none⟩ a).setCell ⟨g, 1, none⟩ b).setCell ⟨g, 2, none⟩ c).setCell ⟨g, 3, none⟩ d).setCell ⟨g, 4, none⟩ e).cell? ⟨g, 4, none⟩ = some e :=
  ⟨(h.set_ 0 a).cell 0, ((h.set_ 0 a).set_ 1 b).cell 1, (((h.set_ 0 a).set_ 1 b).set_ 2 c).cell 2, ((((h.set_ 0 a).set_ 1 b).set_ 2 c).set_ 3 d).cell 3, (((((h.set_ 0 a).set_ 1 b).set_ 2 c).set_ 3 d).set_ 4 e).cell 4⟩
theorem cells5 {w : World} {g : Nat} {t : TypeId} {a b c d e : Value} (h : Bk w g t [a, b, c, d, e]) :
    w.cell? ⟨g, 0, none⟩ = some a ∧ w.cell? ⟨g, 1, none⟩ = some b ∧ w.cell? ⟨g, 2, none⟩ = some c ∧ w.cell? ⟨g, 3, none⟩ = some d ∧ w.cell? ⟨g, 4, none⟩ = some e ∧
    w.frozen? ⟨g, 0, none⟩ = false ∧ w.frozen? ⟨g, 1, none⟩ = false ∧ w.frozen? ⟨g, 2, none⟩ = false ∧ w.frozen? ⟨g, 3, none⟩ = false ∧ w.frozen? ⟨g, 4, none⟩ = false :=
  ⟨h.cell 0, h.cell 1, h.cell 2, h.cell 3, h.cell 4, h.frozen 0, h.frozen 1, h.frozen 2, h.frozen 3, h.frozen 4⟩
theorem put5_fr {S : Nat → Prop} {w0 w : World} {g : Nat} (h : Fr S w0 w) (hg : S g ∨ w0.heap.size ≤ g) (a b c d e : Value) : Fr S w0 (put5 w g a b c d e) :=
  ((((h.setCell hg a).setCell hg b).setCell hg c).setCell hg d).setCell hg e

theorem WkT.fr {w w' : World} {g : Nat} {S : ByteArray} {a : Nat} {Q : Nat → Prop} (h : WkT w g S a) (hf : Fr Q w w') (hQ : ¬ Q g) : WkT w' g S a := ⟨h.blk.fr hf hQ, h.le, h.small⟩
/-- what an element's beginning leaves -/
def OpenEnd (S : ByteArray) (g base : Nat) (r : Option (Tok × List UInt8)) (e : Ending) (w' : World) : Prop := match r with
  | some (t, rest) => ∃ (X Y : ByteArray) (A : Option Addr) (n c b : Nat), e = .returned (.tuple #[.agg #[.int .i64 t.kind, .string X, .string Y, .slice A n c, .bool t.empty], .bool true]) ∧ X.data.toList = t.name ∧ Y.data.toList = t.text ∧
      RdI 2 AttrI w' (fun i => base ≤ i ∧ i < w'.heap.size) A n c t.attrs ∧ WkT w' g S b ∧ S.data.toList.drop b = rest
  | none => ∃ (k : Int) (X Y : ByteArray) (A : Option Addr) (n c : Nat) (em : Bool), e = .returned (.tuple #[.agg #[.int .i64 k, .string X, .string Y, .slice A n c, .bool em], .bool false])
/-- an element's beginning is whole: what its cells' worlds must keep -/
theorem open_good {S : ByteArray} {g T B : Nat} {R : ByteArray} {w wr wz : World} {q : Nat} {A : Option Addr} {c n : Nat} {xs : List (List UInt8 × List UInt8)} {em : Bool} {rest : List UInt8} (hB : w.heap.size = B) (hBT : B < T) (hgB : g < B)
    (own : OwnI 2 AttrI wr (T + 1) 56 No (.slice A n c) n xs) (hz : Fr (fun i => i ≤ T) wr wz) (hw : WkT wz g S q) (hr : S.data.toList.drop q = rest) :
    OpenEnd S g w.heap.size (some (⟨1, R.data.toList, [], xs, em⟩, rest)) (.returned (.tuple #[.agg #[.int .i64 1, .string R, .string ⟨#[]⟩, .slice A n c, .bool em], .bool true])) wz := by
  have hlt := own.lt
  have ho := own.fr attr_ok hz (fun _ x => x.elim) (fun i hi e => by have := (hlt i hi).1; omega)
  have hlt2 := ho.lt
  obtain ⟨A', c', e, hrd⟩ := ho.rd' (M := fun i => w.heap.size ≤ i ∧ i < wz.heap.size) (fun i hi => ⟨by have := (hlt i hi).1; omega, (hlt2 i hi).2⟩) attr_ok (fun _ x => x.elim)
  injection e with e1 e2 e3
  subst e1 e3
  exact ⟨R, ⟨#[]⟩, A, n, c, q, rfl, rfl, rfl, hrd, hw, hr⟩
/-- the state of the loop -/
structure OpSt (S : ByteArray) (g T B : Nat) (R : ByteArray) (r : Option (Tok × List UInt8)) (wr : World) (p : Nat) (A : Option Addr) (c n : Nat) (xs : List (List UInt8 × List UInt8)) : Prop where
  walk : WkT wr g S p
  tok : Bk wr T 68 [.int .i64 1, .string R, .string ⟨#[]⟩, .slice A n c, .bool false]
  own : OwnI 2 AttrI wr (T + 1) 56 No (.slice A n c) n xs
  few : n ≤ p
  res : r = openV R.data.toList xs (S.data.toList.drop p)

set_option maxRecDepth 100000 in
theorem r_open_any (g : Nat) (S : ByteArray) (a : Nat) (w : World) (h : WkT w g S a) :
    Calls Tryz.prog 55 #[.pointer (some ⟨g, 0, none⟩)] w fun e w' =>
      OpenEnd S g w.heap.size (if nameOk ((S.data.toList.drop a).takeWhile isWi) then openV ((S.data.toList.drop a).takeWhile isWi) [] ((S.data.toList.drop a).dropWhile isWi) else none) e w' ∧ Fr (Just g) w w' := by
  obtain ⟨p1, D1, -, hnm⟩ := r_name_at g S a
  have hgw := h.blk.lt
  generalize hr : (if nameOk ((S.data.toList.drop a).takeWhile isWi) then openV ((S.data.toList.drop a).takeWhile isWi) [] ((S.data.toList.drop a).dropWhile isWi) else none) = r
  have H := Lib.hid h; have HNM := Lib.hid hnm; have HRR := Lib.hid hr; have HD1 := Lib.hid D1
  clear hnm h hr D1
  go_enter Tryz.func55, Tryz.ntmps55
  go_wp2_with (go_at_call 53; refine (HNM.out _ (H.out.no ((Fr.refl _ _).alloc _))).mono ?_; rintro e w1 ⟨R, rfl, hR, hw1, hf1⟩)
  have hT : w.heap.size < w1.heap.size := by have := hf1.size; simp at this; omega
  have hB1 : Bk w1 w.heap.size 68 [.int .i64 0, .string ⟨#[]⟩, .string ⟨#[]⟩, .slice none 0 0, .bool false] := (Bk.new w _ _).fr hf1 (fun e => by have : w.heap.size = g := e; omega)
  obtain ⟨B, hBB⟩ : ∃ B, w.heap.size = B := ⟨_, rfl⟩
  obtain ⟨T, hTT⟩ : ∃ T, w1.heap.size = T := ⟨_, rfl⟩
  have hfw : Fr (Just g) w w1 := ((Fr.refl _ w).alloc _).trans hf1
  have hnew : Bk (w1.alloc (.cells #[.int .i64 1, .string R, .string ⟨#[]⟩, .slice none 0 0, .bool false] 68)) w1.heap.size 68 [.int .i64 1, .string R, .string ⟨#[]⟩, .slice none 0 0, .bool false] := Bk.new w1 _ _
  have hsz : (w1.alloc (.cells #[.int .i64 1, .string R, .string ⟨#[]⟩, .slice none 0 0, .bool false] 68)).heap.size = w1.heap.size + 1 := by simp
  have hf2 : Fr No w1 (w1.alloc (.cells #[.int .i64 1, .string R, .string ⟨#[]⟩, .slice none 0 0, .bool false] 68)) := (Fr.refl No w1).alloc _
  generalize w1.alloc (.cells #[.int .i64 1, .string R, .string ⟨#[]⟩, .slice none 0 0, .bool false] 68) = w2 at *
  rw [hBB] at hT hB1 hgw
  rw [hTT] at hT hnew hsz
  simp only [hBB, hTT]
  have HBB := Lib.hid hBB; have HTT := Lib.hid hTT
  have hbase : B ≤ w2.heap.size := by omega
  have hst : (R.data.toList = [] ∧ r = none) ∨ (R.data.toList ≠ [] ∧ OpSt S g T B R r w2 p1 none 0 0 []) := by
    cases hok : nameOk ((S.data.toList.drop a).takeWhile isWi) with
    | false => exact .inl ⟨by rw [hR]; exact nameR_nil.2 hok, by rw [← HRR.out, hok]; rfl⟩
    | true =>
      refine .inr ⟨(by rw [hR]; exact (fun e => (by rw [nameR_nil.1 e] at hok; cases hok))), hw1.no hf2, hnew, OwnI.nil_ _ _ _ _ _ _, by omega, ?_⟩
      rw [← HRR.out, hok, HD1.out, hR]
      unfold nameR
      rw [hok]
      rfl
  have HST := Lib.hid hst; have HF := Lib.hid (hfw.trans hf2.no); have HB := Lib.hid (hB1.no hf2); have HNEW := Lib.hid hnew
  have HSZ := Lib.hid hsz
  clear hst hR hw1 hf1 hB1 hfw hnew hf2 hBB hTT hsz
  go_loopw [5] (fun ok wr => ∃ b : Bool, ok = .bool b ∧ Fr (Just g) w wr ∧ Bk wr B 68 [.int .i64 0, .string ⟨#[]⟩, .string ⟨#[]⟩, .slice none 0 0, .bool false] ∧ T < wr.heap.size ∧
    ((b = false ∧ r = none ∧ ∃ A m c, Bk wr T 68 [.int .i64 1, .string R, .string ⟨#[]⟩, .slice A m c, .bool false]) ∨ (b = true ∧ ∃ p A c n xs, OpSt S g T B R r wr p A c n xs)))
    (fun ok wr => match ok with | .bool true => 1 + S.size - posOf wr g | _ => 0)
  case atStart =>
    rcases HST.out with ⟨h1, h2⟩ | ⟨h1, h2⟩
    · exact ⟨false, by rw [ba_list, h1]; rfl, HF.out, HB.out, by have := HSZ.out; omega, .inl ⟨rfl, h2, _, _, _, HNEW.out⟩⟩
    · refine ⟨true, ?_, HF.out, HB.out, by have := HSZ.out; omega, .inr ⟨rfl, _, _, _, _, _, h2⟩⟩
      rw [ba_list]
      cases hq : R.data.toList with
      | nil => exact absurd hq h1
      | cons c r => rfl
  case round =>
    obtain ⟨b, rfl, hf, hB, hTl, hst⟩ := hrel
    have HFF := Lib.hid hf; have HBK := Lib.hid hB
    clear hf hB
    rcases hst with ⟨rfl, hrn, A, m, c, htk⟩ | ⟨rfl, p, A, c, n, xs, hop⟩
    · obtain ⟨t0, t1, t2, t3, t4, -, -, -, -, -⟩ := cells5 htk
      obtain ⟨b0, b1, b2, b3, b4, f0, f1, f2, f3, f4⟩ := cells5 HBK.out
      obtain ⟨q0, q1, q2, q3, q4⟩ := put5_cells HBK.out (.int .i64 1) (.string R) (.string ⟨#[]⟩) (.slice A m c) (.bool false)
      go_wp2
      refine bodyPost_ret (v := .tuple #[.agg #[.int .i64 1, .string R, .string ⟨#[]⟩, .slice A m c, .bool false], .bool false]) (by simp [results, Tryz.results55, go_sem, q0, q1, q2, q3, q4]) rfl ?_
      refine ⟨by rw [hrn]; exact ⟨_, _, _, _, _, _, _, rfl⟩, put5_fr HFF.out (.inr (by rw [HBB.out]; exact Nat.le_refl _)) _ _ _ _ _⟩
    · have hres := hop.res
      obtain ⟨m, p2, hpm, hmm, D2, hbl⟩ := r_blanks_at g S p
      rw [openV_eq, ← D2, ← hmm] at hres
      have HOP := Lib.hid hop; have HBL := Lib.hid hbl; have HD2 := Lib.hid D2
      clear hop hmm D2 hbl
      cases h1 : isP [47, 62] (S.data.toList.drop p2) with
      | some r2 =>
        obtain ⟨E1, his⟩ := r_is_yes g S ⟨#[47, 62]⟩ p2 r2 (by decide) h1
        rw [h1] at hres
        have HRES := Lib.hid hres; have HE1 := Lib.hid E1; have HIS := Lib.hid his
        clear hres E1 his h1 hpm
        go_wp2_with (first
          | (go_at_call 54; refine (HBL.out _ HOP.out.walk).mono ?_; rintro e w3 ⟨rfl, hw3, hf3⟩)
          | (go_at_call 30; refine (HIS.out _ hw3).mono ?_; rintro e w4 ⟨rfl, hw4, hf4⟩; have htk := HOP.out.tok.fr (hf3.trans hf4) (fun e => absurd (show T = g from e) (by omega)); have hbk := HBK.out.fr (hf3.trans hf4) (fun e => absurd (show B = g from e) (by omega)); have hfT : Fr (Just T) w4 (w4.setCell ⟨T, 4, none⟩ (.bool true)) := (Fr.refl (Just T) _).setCell (p := ⟨T, 4, none⟩) (.inl (Just.at T)) _; have hbk5 := hbk.fr hfT (fun e => absurd (show B = T from e) (by omega)); have htk5 := htk.set_ 4 (.bool true); simp only [List.set_cons_succ, List.set_cons_zero] at htk5; have z4 := htk.frozen 4; have c4 := htk.cell 4; obtain ⟨t0, t1, t2, t3, t4, -, -, -, -, -⟩ := cells5 htk5; obtain ⟨b0, b1, b2, b3, b4, f0, f1, f2, f3, f4⟩ := cells5 hbk5))
        obtain ⟨q0, q1, q2, q3, q4⟩ := put5_cells hbk5 (.int .i64 1) (.string R) (.string ⟨#[]⟩) (.slice A n c) (.bool true)
        refine bodyPost_ret (v := .tuple #[.agg #[.int .i64 1, .string R, .string ⟨#[]⟩, .slice A n c, .bool true], .bool true]) (by simp [results, Tryz.results55, go_sem, q0, q1, q2, q3, q4]) rfl ?_
        have hq4 := (hf3.trans hf4).mono (T := fun i => i ≤ T) (fun i e => by have : i = g := e; omega)
        have hz := put5_fr (hq4.setCell (p := ⟨T, 4, none⟩) (.inl (Nat.le_refl T)) (.bool true)) (g := B) (.inl (Nat.le_of_lt hT)) (.int .i64 1) (.string R) (.string ⟨#[]⟩) (.slice A n c) (.bool true)
        have hy := put5_fr ((Fr.refl (fun i => i = T ∨ i = B) w4).setCell (p := ⟨T, 4, none⟩) (.inl (.inl rfl)) (.bool true)) (g := B) (.inl (.inr rfl)) (.int .i64 1) (.string R) (.string ⟨#[]⟩) (.slice A n c) (.bool true)
        refine ⟨?_, put5_fr (((HFF.out.trans hf3).trans hf4).setCell (p := ⟨T, 4, none⟩) (.inr (by rw [HBB.out]; exact Nat.le_of_lt hT)) (.bool true)) (g := B) (.inr (by rw [HBB.out]; exact Nat.le_refl _)) _ _ _ _ _⟩
        rw [HRES.out]
        exact open_good HBB.out hT hgw HOP.out.own hz (hw4.fr hy (fun e => by rcases e with e | e <;> omega)) HE1.out
      | none =>
        have his := r_is_no g S ⟨#[47, 62]⟩ p2 (by decide) h1
        rw [h1] at hres
        have HIS := Lib.hid his
        clear his h1
        cases h2 : isP [62] (S.data.toList.drop p2) with
        | some r2 =>
          obtain ⟨E1, his2⟩ := r_is_yes g S ⟨#[62]⟩ p2 r2 (by decide) h2
          rw [h2] at hres
          have HRES := Lib.hid hres; have HE1 := Lib.hid E1; have HIS2 := Lib.hid his2
          clear hres E1 his2 h2 hpm
          have tok1 : True := trivial
          go_wp2_with (first
            | (go_at_call 54; refine (HBL.out _ HOP.out.walk).mono ?_; rintro e w3 ⟨rfl, hw3, hf3⟩)
            | (go_at_call 30; clear tok1; refine (HIS.out _ hw3).mono ?_; rintro e w4 ⟨rfl, hw4, hf4⟩)
            | (go_at_call 30; refine (HIS2.out _ hw4).mono ?_; rintro e w5 ⟨rfl, hw5, hf5⟩; have htk := HOP.out.tok.fr ((hf3.trans hf4).trans hf5) (fun e => absurd (show T = g from e) (by omega)); have hbk := HBK.out.fr ((hf3.trans hf4).trans hf5) (fun e => absurd (show B = g from e) (by omega)); obtain ⟨t0, t1, t2, t3, t4, -, -, -, -, -⟩ := cells5 htk; obtain ⟨b0, b1, b2, b3, b4, f0, f1, f2, f3, f4⟩ := cells5 hbk))
          obtain ⟨q0, q1, q2, q3, q4⟩ := put5_cells hbk (.int .i64 1) (.string R) (.string ⟨#[]⟩) (.slice A n c) (.bool false)
          refine bodyPost_ret (v := .tuple #[.agg #[.int .i64 1, .string R, .string ⟨#[]⟩, .slice A n c, .bool false], .bool true]) (by simp [results, Tryz.results55, go_sem, q0, q1, q2, q3, q4]) rfl ?_
          have hq5 := ((hf3.trans hf4).trans hf5).mono (T := fun i => i ≤ T) (fun i e => by have : i = g := e; omega)
          have hz := put5_fr hq5 (g := B) (.inl (Nat.le_of_lt hT)) (.int .i64 1) (.string R) (.string ⟨#[]⟩) (.slice A n c) (.bool false)
          have hy := put5_fr (Fr.refl (fun i => i = T ∨ i = B) w5) (g := B) (.inl (.inr rfl)) (.int .i64 1) (.string R) (.string ⟨#[]⟩) (.slice A n c) (.bool false)
          refine ⟨?_, put5_fr (((HFF.out.trans hf3).trans hf4).trans hf5) (g := B) (.inr (by rw [HBB.out]; exact Nat.le_refl _)) _ _ _ _ _⟩
          rw [HRES.out]
          exact open_good HBB.out hT hgw HOP.out.own hz (hw5.fr hy (fun e => by rcases e with e | e <;> omega)) HE1.out
        | none =>
          have his2 := r_is_no g S ⟨#[62]⟩ p2 (by decide) h2
          rw [h2] at hres
          simp only at hres
          have HIS2 := Lib.hid his2
          clear his2 h2
          by_cases hm0 : m = 0
          · have hmb : ((m : Int) == 0) = true := by rw [hm0]; rfl
            rw [if_pos hm0] at hres
            have HRES := Lib.hid hres
            clear hres hpm hm0
            have tok1 : True := trivial
            go_wp2_with (first
              | (go_at_call 54; refine (HBL.out _ HOP.out.walk).mono ?_; rintro e w3 ⟨rfl, hw3, hf3⟩)
              | (go_at_call 30; clear tok1; refine (HIS.out _ hw3).mono ?_; rintro e w4 ⟨rfl, hw4, hf4⟩)
              | (go_at_call 30; refine (HIS2.out _ hw4).mono ?_; rintro e w5 ⟨rfl, hw5, hf5⟩; have htk := HOP.out.tok.fr ((hf3.trans hf4).trans hf5) (fun e => absurd (show T = g from e) (by omega)); have hbk := HBK.out.fr ((hf3.trans hf4).trans hf5) (fun e => absurd (show B = g from e) (by omega)); obtain ⟨t0, t1, t2, t3, t4, -, -, -, -, -⟩ := cells5 htk; obtain ⟨b0, b1, b2, b3, b4, f0, f1, f2, f3, f4⟩ := cells5 hbk))
            obtain ⟨q0, q1, q2, q3, q4⟩ := put5_cells hbk (.int .i64 1) (.string R) (.string ⟨#[]⟩) (.slice A n c) (.bool false)
            refine bodyPost_ret (v := .tuple #[.agg #[.int .i64 1, .string R, .string ⟨#[]⟩, .slice A n c, .bool false], .bool false]) (by simp [results, Tryz.results55, go_sem, q0, q1, q2, q3, q4]) rfl ?_
            refine ⟨?_, put5_fr (((HFF.out.trans hf3).trans hf4).trans hf5) (g := B) (.inr (by rw [HBB.out]; exact Nat.le_refl _)) _ _ _ _ _⟩
            rw [HRES.out]
            exact ⟨_, _, _, _, _, _, _, rfl⟩
          · have hmb : ((m : Int) == 0) = false := by rw [beq_eq_false_iff_ne]; omega
            rw [if_neg hm0] at hres
            have hle := HOP.out.walk.le
            have hsm := HOP.out.walk.small
            have hfew := HOP.out.few
            have hlt := HOP.out.own.lt
            have hvg : (Value.slice A n c).ownBlock ≠ some g := fun e => by have := (hlt g e).1; omega
            have hat := fun u (hu : WkT u g S p2) (ho : OwnI 2 AttrI u (T + 1) 56 No (.slice A n c) n xs) (hb : T + 1 ≤ u.heap.size) => r_attr_any g S p2 u hu (T + 1) (.slice A n c) n xs ho hvg (by omega) hb
            have HVG := Lib.hid hvg; have HLT := Lib.hid hlt; have HFEW := Lib.hid hfew
            cases ha : attrP xs (S.data.toList.drop p2) with
            | none =>
              rw [ha] at hres hat
              have HRES := Lib.hid hres; have HAT := Lib.hid hat
              clear hres hpm hm0 hat ha hvg hlt hfew
              have tok1 : True := trivial
              go_wp2_with (first
                | (go_at_call 54; refine (HBL.out _ HOP.out.walk).mono ?_; rintro e w3 ⟨rfl, hw3, hf3⟩)
                | (go_at_call 30; clear tok1; refine (HIS.out _ hw3).mono ?_; rintro e w4 ⟨rfl, hw4, hf4⟩)
                | (go_at_call 30; refine (HIS2.out _ hw4).mono ?_; rintro e w5 ⟨rfl, hw5, hf5⟩; have hf35 := (hf3.trans hf4).trans hf5; have htk := HOP.out.tok.fr hf35 (fun e => absurd (show T = g from e) (by omega)); have hbk := HBK.out.fr hf35 (fun e => absurd (show B = g from e) (by omega)); have c3 := htk.cell 3; have z3 := htk.frozen 3; have ho5 := HOP.out.own.fr attr_ok hf35 (fun _ x => x.elim) (fun i hi e => HVG.out (by rw [hi, show i = g from e])); have hT5 := hf35.size)
                | (go_at_call 76; refine (HAT.out _ hw5 ho5 (by omega)).mono ?_; rintro e w6 ⟨⟨A6, m6, c6, rfl⟩, hf6⟩; have htk6 := htk.fr hf6 (fun e => by rcases e with e | e; exact absurd e (by omega); have := (HLT.out T e).1; omega); have z36 := htk6.frozen 3; have c36 := htk6.cell 3))
              have hf06 : Fr (Just g) w w6 := (HFF.out.trans hf35).trans_new hf6 (fun i e => by
                rcases e with e | e
                · exact .inl e
                · refine .inr ?_
                  have h1 := (HLT.out i e).1
                  have h2 := HBB.out
                  omega)
              have hf07 := hf06.setCell (p := ⟨T, 3, none⟩) (.inr (by rw [HBB.out]; exact Nat.le_of_lt hT)) (.slice A6 m6 c6)
              have hf67 : Fr (Just T) w6 (w6.setCell ⟨T, 3, none⟩ (.slice A6 m6 c6)) := (Fr.refl (Just T) _).setCell (p := ⟨T, 3, none⟩) (.inl (Just.at T)) _
              have hbk7 := (hbk.fr hf6 (fun e => by rcases e with e | e; exact absurd e (by omega); have := (HLT.out B e).1; omega)).fr hf67 (fun e => absurd (show B = T from e) (by omega))
              have htk7 := htk6.set_ 3 (.slice A6 m6 c6)
              simp only [List.set_cons_succ, List.set_cons_zero] at htk7
              have hsz7 : T < (w6.setCell ⟨T, 3, none⟩ (.slice A6 m6 c6)).heap.size := by have h1 := hf6.size; have h2 := hf67.size; omega
              go_roundw
              case rel => exact ⟨false, rfl, hf07, hbk7, hsz7, .inl ⟨rfl, HRES.out, _, _, _, htk7⟩⟩
              case measure =>
                have h1 := HOP.out.walk.pos
                show 0 < 1 + S.size - posOf wr g
                omega
            | some x =>
              obtain ⟨y, rest⟩ := x
              have hls := attrP_less ha
              rw [ha] at hres hat
              have HRES := Lib.hid hres; have HAT := Lib.hid hat; have HLS := Lib.hid hls; have HPM := Lib.hid hpm
              clear hres hpm hm0 hat ha hvg hlt hfew hls
              have tok1 : True := trivial
              go_wp2_with (first
                | (go_at_call 54; refine (HBL.out _ HOP.out.walk).mono ?_; rintro e w3 ⟨rfl, hw3, hf3⟩)
                | (go_at_call 30; clear tok1; refine (HIS.out _ hw3).mono ?_; rintro e w4 ⟨rfl, hw4, hf4⟩)
                | (go_at_call 30; refine (HIS2.out _ hw4).mono ?_; rintro e w5 ⟨rfl, hw5, hf5⟩; have hf35 := (hf3.trans hf4).trans hf5; have htk := HOP.out.tok.fr hf35 (fun e => absurd (show T = g from e) (by omega)); have hbk := HBK.out.fr hf35 (fun e => absurd (show B = g from e) (by omega)); have c3 := htk.cell 3; have z3 := htk.frozen 3; have ho5 := HOP.out.own.fr attr_ok hf35 (fun _ x => x.elim) (fun i hi e => HVG.out (by rw [hi, show i = g from e])); have hT5 := hf35.size)
                | (go_at_call 76; refine (HAT.out _ hw5 ho5 (by omega)).mono ?_; rintro e w6 ⟨⟨v6, b6, rfl, ho6, hw6, hd6⟩, hf6⟩; obtain ⟨A6, c6, rfl, _⟩ := ho6.rd' (M := fun _ => True) (fun _ _ => trivial) attr_ok (fun _ _ => trivial); have htk6 := htk.fr hf6 (fun e => by rcases e with e | e; exact absurd e (by omega); have := (HLT.out T e).1; omega); have z36 := htk6.frozen 3; have c36 := htk6.cell 3))
              have hf06 : Fr (Just g) w w6 := (HFF.out.trans hf35).trans_new hf6 (fun i e => by
                rcases e with e | e
                · exact .inl e
                · refine .inr ?_
                  have h1 := (HLT.out i e).1
                  have h2 := HBB.out
                  omega)
              have hf07 := hf06.setCell (p := ⟨T, 3, none⟩) (.inr (by rw [HBB.out]; exact Nat.le_of_lt hT)) (.slice A6 (n + 1) c6)
              have hf67 : Fr (Just T) w6 (w6.setCell ⟨T, 3, none⟩ (.slice A6 (n + 1) c6)) := (Fr.refl (Just T) _).setCell (p := ⟨T, 3, none⟩) (.inl (Just.at T)) _
              have hbk7 := (hbk.fr hf6 (fun e => by rcases e with e | e; exact absurd e (by omega); have := (HLT.out B e).1; omega)).fr hf67 (fun e => absurd (show B = T from e) (by omega))
              have htk7 := htk6.set_ 3 (.slice A6 (n + 1) c6)
              simp only [List.set_cons_succ, List.set_cons_zero] at htk7
              have hsz7 : T < (w6.setCell ⟨T, 3, none⟩ (.slice A6 (n + 1) c6)).heap.size := by have h1 := hf6.size; have h2 := hf67.size; omega
              have hw7 := hw6.fr hf67 (fun e => absurd (show g = T from e) (by omega))
              have ho6l := ho6.lt
              have ho7 := ho6.fr attr_ok hf67 (fun _ x => x.elim) (fun i hi e => by have h1 := (ho6l i hi).1; have h2 : i = T := e; omega)
              have hb6 : p < b6 := by
                have h1 := HLS.out
                have h2 := HPM.out
                rw [← hd6, List.length_drop, List.length_drop, size_list] at h1
                omega
              go_roundw
              case rel => exact ⟨true, rfl, hf07, hbk7, hsz7, .inr ⟨rfl, b6, A6, c6, n + 1, xs ++ [y], hw7, htk7, ho7, by have h1 := HFEW.out; omega, by rw [HRES.out, hd6]⟩⟩
              case measure =>
                have h1 := HOP.out.walk.pos
                have h2 := hw7.pos
                show 1 + S.size - posOf (w6.setCell ⟨T, 3, none⟩ (.slice A6 (n + 1) c6)) g < 1 + S.size - posOf wr g
                omega
end Go.Proofs.YtbfodbejdaafaaaGreatDoor
