/- The texts TokStep, TokStep2, TokStep3, joined. -/
import Derived.Test.YthkjmbkfcnehoaaGreatDoorTokV
/- What package token does: a value in quotes, an attribute; an element's end; a text. -/
namespace Go.Proofs.YthkjmbkfcnehoaaGreatDoor
open Go.RowKit
set_option maxHeartbeats 400000
set_option linter.unusedVariables false

/-- the tables stand, and block g is none of theirs -/
def Tg (w : World) (g : Nat) : Prop := ∃ w0, Tabs w0 ∧ w0.heap.size ≤ g ∧ Fr (fun i => w0.heap.size ≤ i) w0 w
theorem Tg.tabs {w : World} {g : Nat} (h : Tg w g) : Tabs w := let ⟨_, a, _, c⟩ := h; a.frNew c (fun _ x => x)
theorem Tg.fr {w w' : World} {g : Nat} (h : Tg w g) (hf : Fr (Just g) w w') : Tg w' g := let ⟨w0, a, b, c⟩ := h; ⟨w0, a, b, c.trans (hf.mono (fun i hi => by rw [show i = g from hi]; exact b))⟩
theorem Tg.no {w w' : World} {g : Nat} (h : Tg w g) (hf : Fr No w w') : Tg w' g := h.fr hf.no
theorem Tg.dr {w w' : World} {g : Nat} (h : Tg w g) (hf : Dr w w') : Tg w' g := h.no hf.fr
/-- what a value's call leaves -/
def UntilEnd (g : Nat) (r : Option (List UInt8 × List UInt8)) (e : Ending) (w' : World) : Prop := match r with
  | some (v, rest) => ∃ V : ByteArray, e = .returned (.tuple #[.string V, .bool true]) ∧ V.data.toList = v ∧ Wk w' g rest
  | none => ∃ V : ByteArray, e = .returned (.tuple #[.string V, .bool false])

theorem w_until (m : UInt8) (hm : m.toNat ≠ 60) (g : Nat) (L : List UInt8) (w : World) (h : Wk w g L) (hT : Tg w g) :
    Calls Tryz.prog 117 #[.pointer (some ⟨g, 0, none⟩), .string ⟨#[m]⟩] w fun e w' => UntilEnd g (untilV m L) e w' ∧ Fr (Just g) w w' := by
  obtain ⟨S, hb, hS, hsz⟩ := h
  have c0 : w.cell? ⟨g, 0, none⟩ = some (.string S) := hb.cell 0
  have HB := Lib.hid hb
  cases hd : S.data.toList.dropWhile (upTo m) with
  | nil =>
    have hu : untilV m L = none := upTo_none (by rw [← hS]; exact hd)
    have hc := fun u => k_cut_no S m u hd
    have HC := Lib.hid hc; have HU := Lib.hid hu
    clear hc hu hd hS hb
    go_enter Tryz.func117, Tryz.ntmps117
    go_wp2_with (go_at_call 106; refine (HC.out _).mono ?_; rintro e w2 ⟨rfl, hd2⟩)
    go_ret2
    exact ⟨by rw [HU.out]; exact ⟨_, rfl⟩, hd2.fr⟩
  | cons c rest =>
    obtain ⟨hcm, hu⟩ := upTo_some (l := L) hm (by rw [← hS]; exact hd)
    have hc := fun u => k_cut_yes S m c rest u hsz hd
    rw [hS] at hc
    have hlen := congrArg List.length (upTo_cut hd)
    rw [hS] at hlen
    have hLl := sz_eq hS
    simp only [List.length_append, List.length_cons] at hlen
    generalize L.takeWhile (upTo m) = R at hu hc hlen
    have hct := fun (X : ByteArray) (hX : X.data.toList = R) u => k_contains X 60 u
    by_cases h6 : ∃ x ∈ R, x.toNat = 60
    · rw [if_pos h6] at hu
      have hct2 : ∀ (X : ByteArray), X.data.toList = R → ∀ u, Calls Tryz.prog 125 #[.string X, .string ⟨#[60]⟩] u fun e w' => e = .returned (.bool true) ∧ u = w' := by
        intro X hX u
        have := hct X hX u
        rw [hX, decide_eq_true (by obtain ⟨x, hx, e⟩ := h6; exact ⟨x, hx, UInt8.toNat_inj.1 e⟩)] at this
        exact this
      have HC := Lib.hid hc; have HU := Lib.hid hu; have HCT := Lib.hid hct2
      clear hc hu hd hS hb hct hct2 h6 hlen hLl
      go_enter Tryz.func117, Tryz.ntmps117
      go_wp2_with (first
        | (go_at_call 106; refine (HC.out _).mono ?_; rintro e w2 ⟨X, Y, rfl, hX, hY, hd2⟩)
        | (go_at_call 125; refine (HCT.out X hX _).mono ?_; rintro e w' ⟨rfl, rfl⟩))
      go_ret2
      exact ⟨by rw [HU.out]; exact ⟨_, rfl⟩, hd2.fr⟩
    · rw [if_neg h6] at hu
      have hct2 : ∀ (X : ByteArray), X.data.toList = R → ∀ u, Calls Tryz.prog 125 #[.string X, .string ⟨#[60]⟩] u fun e w' => e = .returned (.bool false) ∧ u = w' := by
        intro X hX u
        have := hct X hX u
        rw [hX, decide_eq_false (fun ⟨x, hx, e⟩ => h6 ⟨x, hx, by rw [e]; rfl⟩)] at this
        exact this
      have hval := fun (X : ByteArray) (hX : X.data.toList = R) u hu => k_value X (by rw [sz_eq hX]; omega) u hu
      have hys : ∀ Y : ByteArray, Y.data.toList = rest → Y.size ≤ 65536 := fun Y hY => by rw [sz_eq hY]; omega
      have hlt := hb.lt
      have hres : ∀ V : ByteArray, V.data.toList = valB R → ∀ (e : Ending) (w' : World), e = .returned (.tuple #[.string V, .bool (valV R).isSome]) → Wk w' g rest → UntilEnd g (untilV m L) e w' := by
        intro V hV e w' he hw
        rw [hu]
        unfold valB at hV
        cases hr : valV R with
        | none => rw [hr] at he; exact ⟨V, he⟩
        | some v => rw [hr] at he hV; exact ⟨V, he, hV, hw⟩
      have HC := Lib.hid hc; have HU := Lib.hid hu; have HCT := Lib.hid hct2; have HVAL := Lib.hid hval; have HYS := Lib.hid hys; have HRES := Lib.hid hres; have HLT := Lib.hid hlt
      clear hc hu hd hS hb hct hct2 h6 hlen hLl hval hys hres hlt
      go_enter Tryz.func117, Tryz.ntmps117
      go_wp2_with (first
        | (go_at_call 106; refine (HC.out _).mono ?_; rintro e w2 ⟨X, Y, rfl, hX, hY, hd2⟩; have z2 : w2.frozen? ⟨g, 0, none⟩ = false := (HB.out.no hd2.fr).frozen 0; have c2 : w2.cell? ⟨g, 0, none⟩ = some (.string S) := (HB.out.no hd2.fr).cell 0)
        | (go_at_call 125; refine (HCT.out X hX _).mono ?_; rintro e w' ⟨rfl, rfl⟩)
        | (go_at_call 86; have hT3 := ((hT.dr hd2).fr ((Fr.refl (Just g) w2).setCell (p := ⟨g, 0, none⟩) (.inl (Just.at g)) (.string Y))).tabs; refine (HVAL.out X hX _ hT3).mono ?_; rintro e w3 ⟨V, rfl, hV, hf3⟩))
      go_ret2
      have hw2 : Wk (w2.setCell ⟨g, 0, none⟩ (.string Y)) g rest := ⟨Y, (HB.out.no hd2.fr).set_ 0 (.string Y), hY, HYS.out Y hY⟩
      rw [show X.data.toList = R from hX] at hV
      exact ⟨HRES.out V hV _ _ rfl (hw2.no hf3), ((hd2.fr.trans ((Fr.refl (Just g) w2).setCell (p := ⟨g, 0, none⟩) (.inl (Just.at g)) (.string Y)))).trans hf3.no⟩

/-- a value with its quotes -/
def quotedV (l : List UInt8) : Option (List UInt8 × List UInt8) := match isP [34] l with
  | some r => untilV 34 r
  | none => match isP [39] l with
    | some r => untilV 39 r
    | none => none
theorem attrQ_quoted {n x l1 : List UInt8} (h : isP [61] x = some l1) : attrQ n x = (quotedV (l1.dropWhile isBl)).map fun p => ((n, p.1), p.2) := by
  unfold quotedV
  cases h1 : isP [34] (l1.dropWhile isBl) with
  | some r => exact attrQ_until h (isP_cons h1) (.inl rfl)
  | none => cases h2 : isP [39] (l1.dropWhile isBl) with
    | some r => exact attrQ_until h (isP_cons h2) (.inr rfl)
    | none => rw [attrQ_other h h1 h2]; rfl
theorem w_quoted (g : Nat) (L : List UInt8) (w : World) (h : Wk w g L) (hT : Tg w g) :
    Calls Tryz.prog 103 #[.pointer (some ⟨g, 0, none⟩)] w fun e w' => UntilEnd g (quotedV L) e w' ∧ Fr (Just g) w w' := by
  have hp1 := w_pass ⟨#[34]⟩ g L w h
  unfold quotedV
  cases h1 : isP [34] L with
  | some r =>
    rw [show isP (⟨#[34]⟩ : ByteArray).data.toList L = some r from h1] at hp1
    have hun := fun u hu hu2 => w_until 34 (by decide) g r u hu hu2
    show Calls _ _ _ _ fun e w' => UntilEnd g (untilV 34 r) e w' ∧ Fr (Just g) w w'
    generalize untilV 34 r = q at hun ⊢
    have HP1 := Lib.hid hp1; have HUN := Lib.hid hun
    clear hp1 hun h h1
    go_enter Tryz.func103, Tryz.ntmps103
    cases q with
    | none =>
      go_wp2_with (first
        | (go_at_call 54; refine HP1.out.mono ?_; rintro e w1 ⟨rfl, hw1, hf1⟩)
        | (go_at_call 117; refine (HUN.out _ hw1 (hT.fr hf1)).mono ?_; rintro e w2 ⟨⟨V, rfl⟩, hf2⟩))
      go_ret2
      exact ⟨⟨V, rfl⟩, hf1.trans hf2⟩
    | some q =>
      obtain ⟨v, rest⟩ := q
      go_wp2_with (first
        | (go_at_call 54; refine HP1.out.mono ?_; rintro e w1 ⟨rfl, hw1, hf1⟩)
        | (go_at_call 117; refine (HUN.out _ hw1 (hT.fr hf1)).mono ?_; rintro e w2 ⟨⟨V, rfl, hV, hw2⟩, hf2⟩))
      go_ret2
      exact ⟨⟨V, rfl, hV, hw2⟩, hf1.trans hf2⟩
  | none =>
    rw [show isP (⟨#[34]⟩ : ByteArray).data.toList L = none from h1] at hp1
    have hp2 := fun u hu => w_pass ⟨#[39]⟩ g L u hu
    have tok1 : True := trivial
    cases h2 : isP [39] L with
    | some r =>
      rw [show isP (⟨#[39]⟩ : ByteArray).data.toList L = some r from h2] at hp2
      have hun := fun u hu hu2 => w_until 39 (by decide) g r u hu hu2
      show Calls _ _ _ _ fun e w' => UntilEnd g (untilV 39 r) e w' ∧ Fr (Just g) w w'
      generalize untilV 39 r = q at hun ⊢
      have HP1 := Lib.hid hp1; have HP2 := Lib.hid hp2; have HUN := Lib.hid hun
      clear hp1 hp2 hun h h1 h2
      go_enter Tryz.func103, Tryz.ntmps103
      cases q with
      | none =>
        go_wp2_with (first
          | (go_at_call 54; clear tok1; refine HP1.out.mono ?_; rintro e w1 ⟨rfl, hw1, hf1⟩)
          | (go_at_call 54; refine (HP2.out _ hw1).mono ?_; rintro e w2 ⟨rfl, hw2, hf2⟩)
          | (go_at_call 117; refine (HUN.out _ hw2 (hT.fr (hf1.trans hf2))).mono ?_; rintro e w3 ⟨⟨V, rfl⟩, hf3⟩))
        go_ret2
        exact ⟨⟨V, rfl⟩, (hf1.trans hf2).trans hf3⟩
      | some q =>
        obtain ⟨v, rest⟩ := q
        go_wp2_with (first
          | (go_at_call 54; clear tok1; refine HP1.out.mono ?_; rintro e w1 ⟨rfl, hw1, hf1⟩)
          | (go_at_call 54; refine (HP2.out _ hw1).mono ?_; rintro e w2 ⟨rfl, hw2, hf2⟩)
          | (go_at_call 117; refine (HUN.out _ hw2 (hT.fr (hf1.trans hf2))).mono ?_; rintro e w3 ⟨⟨V, rfl, hV, hw3⟩, hf3⟩))
        go_ret2
        exact ⟨⟨V, rfl, hV, hw3⟩, (hf1.trans hf2).trans hf3⟩
    | none =>
      rw [show isP (⟨#[39]⟩ : ByteArray).data.toList L = none from h2] at hp2
      have HP1 := Lib.hid hp1; have HP2 := Lib.hid hp2
      clear hp1 hp2 h h1 h2
      go_enter Tryz.func103, Tryz.ntmps103
      go_wp2_with (first
        | (go_at_call 54; clear tok1; refine HP1.out.mono ?_; rintro e w1 ⟨rfl, hw1, hf1⟩)
        | (go_at_call 54; refine (HP2.out _ hw1).mono ?_; rintro e w2 ⟨rfl, hw2, hf2⟩))
      go_ret2
      exact ⟨⟨⟨#[]⟩, rfl⟩, hf1.trans hf2⟩

/-- what an attribute's call leaves -/
def AttEnd (g : Nat) (r : Option ((List UInt8 × List UInt8) × List UInt8)) (e : Ending) (w' : World) : Prop := match r with
  | some (a, rest) => ∃ X Y : ByteArray, e = .returned (.tuple #[.agg #[.string X, .string Y], .bool true]) ∧ X.data.toList = a.1 ∧ Y.data.toList = a.2 ∧ Wk w' g rest
  | none => ∃ X Y : ByteArray, e = .returned (.tuple #[.agg #[.string X, .string Y], .bool false])
theorem cells2 {w : World} {g : Nat} {t : TypeId} {a b : Value} (h : Bk w g t [a, b]) : w.cell? ⟨g, 0, none⟩ = some a ∧ w.cell? ⟨g, 1, none⟩ = some b ∧ w.frozen? ⟨g, 0, none⟩ = false ∧ w.frozen? ⟨g, 1, none⟩ = false := ⟨h.cell 0, h.cell 1, h.frozen 0, h.frozen 1⟩
theorem put2_cells {w : World} {g : Nat} {t : TypeId} {a' b' : Value} (h : Bk w g t [a', b']) (a b : Value) :
    (w.setCell ⟨g, 0, none⟩ a).cell? ⟨g, 0, none⟩ = some a ∧ ((w.setCell ⟨g, 0, none⟩ a).setCell ⟨g, 1, none⟩ b).cell? ⟨g, 1, none⟩ = some b :=
  ⟨(h.set_ 0 a).cell 0, ((h.set_ 0 a).set_ 1 b).cell 1⟩
set_option maxRecDepth 100000 in
theorem w_attr (g : Nat) (L : List UInt8) (w : World) (h : Wk w g L) (hT : Tg w g) (hfi : bgB isFi L = true) :
    Calls Tryz.prog 84 #[.pointer (some ⟨g, 0, none⟩)] w fun e w' => AttEnd g (attrQ (nameR L) ((L.dropWhile isWi).dropWhile isBl)) e w' ∧ Fr (Just g) w w' := by
  have hnm := fun u hu => w_name g L u hu
  rw [if_pos hfi] at hnm
  generalize nameR L = nm at hnm ⊢
  generalize L.dropWhile isWi = L1 at hnm ⊢
  have hb1 := fun u hu => w_blanks g L1 u hu
  generalize L1.dropWhile isBl = L2 at hb1 ⊢
  have hp := fun u hu => w_pass ⟨#[61]⟩ g L2 u hu
  have hgw := h.lt
  have hb0 : Bk (w.alloc (.cells #[.string ⟨#[]⟩, .string ⟨#[]⟩] 59)) w.heap.size 59 [.string ⟨#[]⟩, .string ⟨#[]⟩] := Bk.new w _ _
  have hfa : Fr No w (w.alloc (.cells #[.string ⟨#[]⟩, .string ⟨#[]⟩] 59)) := (Fr.refl _ w).alloc _
  have hne : ¬ Just g w.heap.size := fun e => absurd (show w.heap.size = g from e) (by omega)
  have tok1 : True := trivial
  cases hq : isP [61] L2 with
  | none =>
    rw [show isP (⟨#[61]⟩ : ByteArray).data.toList L2 = none from hq] at hp
    rw [attrQ_eq hq]
    have H := Lib.hid (h.no hfa); have HNM := Lib.hid hnm; have HB1 := Lib.hid hb1; have HP := Lib.hid hp; have HB0 := Lib.hid hb0; have HFA := Lib.hid hfa; have HNE := Lib.hid hne
    clear h hnm hb1 hp hb0 hfa hne hq hfi
    go_enter Tryz.func84, Tryz.ntmps84
    go_wp2_with (first
      | (go_at_call 80; refine (HNM.out _ H.out).mono ?_; rintro e w1 ⟨R, rfl, hR, hw1, hf1⟩)
      | (go_at_call 81; refine (HB1.out _ hw1).mono ?_; rintro e w2 ⟨rfl, hw2, hf2⟩)
      | (go_at_call 54; refine (HP.out _ hw2).mono ?_; rintro e w3 ⟨rfl, hw3, hf3⟩; have hbk := ((HB0.out.fr hf1 HNE.out).fr hf2 HNE.out).fr hf3 HNE.out; obtain ⟨b0, b1, f0, f1⟩ := cells2 hbk))
    obtain ⟨q0, q1⟩ := put2_cells hbk (.string ⟨#[]⟩) (.string ⟨#[]⟩)
    refine bodyPost_ret (v := .tuple #[.agg #[.string ⟨#[]⟩, .string ⟨#[]⟩], .bool false]) (by simp [results, Tryz.results84, go_sem, q0, q1]) rfl ?_
    exact ⟨⟨_, _, rfl⟩, (((HFA.out.no.trans ((hf1.trans hf2).trans hf3)).setCell (p := ⟨w.heap.size, 0, none⟩) (.inr (Nat.le_refl _)) _).setCell (p := ⟨w.heap.size, 1, none⟩) (.inr (Nat.le_refl _)) _)⟩
  | some L3 =>
    rw [show isP (⟨#[61]⟩ : ByteArray).data.toList L2 = some L3 from hq] at hp
    rw [attrQ_quoted hq]
    have hb2 := fun u hu => w_blanks g L3 u hu
    generalize L3.dropWhile isBl = L4 at hb2 ⊢
    have hqu := fun u hu hu2 => w_quoted g L4 u hu hu2
    generalize quotedV L4 = q at hqu ⊢
    have H := Lib.hid (h.no hfa); have HNM := Lib.hid hnm; have HB1 := Lib.hid hb1; have HP := Lib.hid hp; have HB0 := Lib.hid hb0; have HFA := Lib.hid hfa; have HNE := Lib.hid hne; have HB2 := Lib.hid hb2; have HQU := Lib.hid hqu; have HT := Lib.hid (hT.no hfa)
    clear h hnm hb1 hp hb0 hfa hne hq hfi hb2 hqu hT
    go_enter Tryz.func84, Tryz.ntmps84
    cases q with
    | none =>
      go_wp2_with (first
        | (go_at_call 80; refine (HNM.out _ H.out).mono ?_; rintro e w1 ⟨R, rfl, hR, hw1, hf1⟩)
        | (go_at_call 81; clear tok1; refine (HB1.out _ hw1).mono ?_; rintro e w2 ⟨rfl, hw2, hf2⟩)
        | (go_at_call 54; refine (HP.out _ hw2).mono ?_; rintro e w3 ⟨rfl, hw3, hf3⟩)
        | (go_at_call 81; refine (HB2.out _ hw3).mono ?_; rintro e w4 ⟨rfl, hw4, hf4⟩; have hf14 := ((hf1.trans hf2).trans hf3).trans hf4)
        | (go_at_call 103; refine (HQU.out _ hw4 (HT.out.fr hf14)).mono ?_; rintro e w5 ⟨⟨V, rfl⟩, hf5⟩; have hbk := (HB0.out.fr hf14 HNE.out).fr hf5 HNE.out; obtain ⟨b0, b1, f0, f1⟩ := cells2 hbk))
      obtain ⟨q0, q1⟩ := put2_cells hbk (.string R) (.string V)
      refine bodyPost_ret (v := .tuple #[.agg #[.string R, .string V], .bool false]) (by simp [results, Tryz.results84, go_sem, q0, q1]) rfl ?_
      exact ⟨⟨_, _, rfl⟩, (((HFA.out.no.trans (hf14.trans hf5)).setCell (p := ⟨w.heap.size, 0, none⟩) (.inr (Nat.le_refl _)) _).setCell (p := ⟨w.heap.size, 1, none⟩) (.inr (Nat.le_refl _)) _)⟩
    | some q =>
      obtain ⟨v, rest⟩ := q
      go_wp2_with (first
        | (go_at_call 80; refine (HNM.out _ H.out).mono ?_; rintro e w1 ⟨R, rfl, hR, hw1, hf1⟩)
        | (go_at_call 81; clear tok1; refine (HB1.out _ hw1).mono ?_; rintro e w2 ⟨rfl, hw2, hf2⟩)
        | (go_at_call 54; refine (HP.out _ hw2).mono ?_; rintro e w3 ⟨rfl, hw3, hf3⟩)
        | (go_at_call 81; refine (HB2.out _ hw3).mono ?_; rintro e w4 ⟨rfl, hw4, hf4⟩; have hf14 := ((hf1.trans hf2).trans hf3).trans hf4)
        | (go_at_call 103; refine (HQU.out _ hw4 (HT.out.fr hf14)).mono ?_; rintro e w5 ⟨⟨V, rfl, hV, hw5⟩, hf5⟩; have hbk := (HB0.out.fr hf14 HNE.out).fr hf5 HNE.out; obtain ⟨b0, b1, f0, f1⟩ := cells2 hbk))
      obtain ⟨q0, q1⟩ := put2_cells hbk (.string R) (.string V)
      refine bodyPost_ret (v := .tuple #[.agg #[.string R, .string V], .bool true]) (by simp [results, Tryz.results84, go_sem, q0, q1]) rfl ?_
      refine ⟨⟨R, V, rfl, hR, hV, ?_⟩, (((HFA.out.no.trans (hf14.trans hf5)).setCell (p := ⟨w.heap.size, 0, none⟩) (.inr (Nat.le_refl _)) _).setCell (p := ⟨w.heap.size, 1, none⟩) (.inr (Nat.le_refl _)) _)⟩
      exact hw5.fr (((Fr.refl (fun i => i = w.heap.size) w5).setCell (p := ⟨w.heap.size, 0, none⟩) (.inl rfl) _).setCell (p := ⟨w.heap.size, 1, none⟩) (.inl rfl) _) (fun e => by have : g = w.heap.size := e; omega)
end Go.Proofs.YthkjmbkfcnehoaaGreatDoor
/- What package token does: an element's end; a text. -/
namespace Go.Proofs.YthkjmbkfcnehoaaGreatDoor
open Go.RowKit
set_option maxHeartbeats 400000
set_option linter.unusedVariables false

/-- what a step leaves -/
def StepEnd (g base : Nat) (r : Option (Tok × List UInt8)) (e : Ending) (w' : World) : Prop := match r with
  | some (t, rest) => ∃ (X Y : ByteArray) (A : Option Addr) (n c : Nat), e = .returned (.tuple #[.agg #[.int .i64 t.kind, .string X, .string Y, .slice A n c, .bool t.empty], .bool true]) ∧ X.data.toList = t.name ∧ Y.data.toList = t.text ∧
      RdI 2 AttrI w' (fun i => base ≤ i ∧ i < w'.heap.size) A n c t.attrs ∧ Wk w' g rest
  | none => ∃ (k : Int) (X Y : ByteArray) (A : Option Addr) (n c : Nat) (em : Bool), e = .returned (.tuple #[.agg #[.int .i64 k, .string X, .string Y, .slice A n c, .bool em], .bool false])

set_option maxRecDepth 100000 in
theorem w_closing (g : Nat) (L : List UInt8) (w : World) (h : Wk w g L) :
    Calls Tryz.prog 55 #[.pointer (some ⟨g, 0, none⟩)] w fun e w' => StepEnd g w.heap.size (closeQ (nameR L) ((L.dropWhile isWi).dropWhile isBl)) e w' ∧ Fr (Just g) w w' := by
  have hnm := fun u hu => w_name g L u hu
  have hgw := h.lt
  have hb0 : Bk (w.alloc (.cells #[.int .i64 0, .string ⟨#[]⟩, .string ⟨#[]⟩, .slice none 0 0, .bool false] 45)) w.heap.size 45 [.int .i64 0, .string ⟨#[]⟩, .string ⟨#[]⟩, .slice none 0 0, .bool false] := Bk.new w _ _
  have hfa : Fr No w (w.alloc (.cells #[.int .i64 0, .string ⟨#[]⟩, .string ⟨#[]⟩, .slice none 0 0, .bool false] 45)) := (Fr.refl _ w).alloc _
  have hne : ¬ Just g w.heap.size := fun e => absurd (show w.heap.size = g from e) (by omega)
  cases hfi : bgB isFi L with
  | false =>
    rw [hfi, if_neg (by decide)] at hnm
    have hn0 : nameR L = [] := by rw [nameR_bg, hfi]; rfl
    have hres : ∀ x, closeQ (nameR L) x = none := fun x => by unfold closeQ; rw [if_pos hn0]
    rw [hres]
    rw [hn0] at hnm
    have hb1 := fun u hu => w_blanks g L u hu
    have H := Lib.hid (h.no hfa); have HNM := Lib.hid hnm; have HB1 := Lib.hid hb1; have HB0 := Lib.hid hb0; have HFA := Lib.hid hfa; have HNE := Lib.hid hne
    clear h hnm hb1 hb0 hfa hne hfi hn0 hres
    go_enter Tryz.func55, Tryz.ntmps55
    go_wp2_with (first
      | (go_at_call 80; refine (HNM.out _ H.out).mono ?_; rintro e w1 ⟨R, rfl, hR, hw1, hf1⟩; have hRe : (R.toList == []) = true := (by rw [ba_list, hR]; rfl))
      | (go_at_call 81; refine (HB1.out _ hw1).mono ?_; rintro e w2 ⟨rfl, hw2, hf2⟩; have hbk := (HB0.out.fr hf1 HNE.out).fr hf2 HNE.out; obtain ⟨b0, b1, b2, b3, b4, f0, f1, f2, f3, f4⟩ := cells5 hbk))
    obtain ⟨q0, q1, q2, q3, q4⟩ := put5_cells hbk (.int .i64 2) (.string R) (.string ⟨#[]⟩) (.slice none 0 0) (.bool false)
    refine bodyPost_ret (v := .tuple #[.agg #[.int .i64 2, .string R, .string ⟨#[]⟩, .slice none 0 0, .bool false], .bool false]) (by simp [results, Tryz.results55, go_sem, q0, q1, q2, q3, q4]) rfl ?_
    exact ⟨⟨_, _, _, _, _, _, _, rfl⟩, put5_fr (HFA.out.no.trans (hf1.trans hf2)) (.inr (Nat.le_refl _)) _ _ _ _ _⟩
  | true =>
    rw [hfi, if_pos rfl] at hnm
    have hnn : nameR L ≠ [] := by
      rw [nameR_bg, hfi, if_pos rfl, bg_ne]
      cases L with
      | nil => cases hfi
      | cons c r => exact isWi_of hfi
    have hb1 := fun u hu => w_blanks g (L.dropWhile isWi) u hu
    generalize (L.dropWhile isWi).dropWhile isBl = L2 at hb1 ⊢
    have hp := fun u hu => w_pass ⟨#[62]⟩ g L2 u hu
    cases hq : isP [62] L2 with
    | none =>
      rw [show isP (⟨#[62]⟩ : ByteArray).data.toList L2 = none from hq] at hp
      have hres : closeQ (nameR L) L2 = none := by unfold closeQ; rw [if_neg hnn, hq]; rfl
      rw [hres]
      have H := Lib.hid (h.no hfa); have HNM := Lib.hid hnm; have HB1 := Lib.hid hb1; have HB0 := Lib.hid hb0; have HFA := Lib.hid hfa; have HNE := Lib.hid hne; have HP := Lib.hid hp; have HNN := Lib.hid hnn
      clear h hnm hb1 hb0 hfa hne hfi hnn hres hp hq
      go_enter Tryz.func55, Tryz.ntmps55
      go_wp2_with (first
        | (go_at_call 80; refine (HNM.out _ H.out).mono ?_; rintro e w1 ⟨R, rfl, hR, hw1, hf1⟩; have hRe : (R.toList == []) = false := (by rw [ba_list, hR, beq_eq_false_iff_ne]; exact HNN.out))
        | (go_at_call 81; refine (HB1.out _ hw1).mono ?_; rintro e w2 ⟨rfl, hw2, hf2⟩)
        | (go_at_call 54; refine (HP.out _ hw2).mono ?_; rintro e w3 ⟨rfl, hw3, hf3⟩; have hbk := ((HB0.out.fr hf1 HNE.out).fr hf2 HNE.out).fr hf3 HNE.out; obtain ⟨b0, b1, b2, b3, b4, f0, f1, f2, f3, f4⟩ := cells5 hbk))
      obtain ⟨q0, q1, q2, q3, q4⟩ := put5_cells hbk (.int .i64 2) (.string R) (.string ⟨#[]⟩) (.slice none 0 0) (.bool false)
      refine bodyPost_ret (v := .tuple #[.agg #[.int .i64 2, .string R, .string ⟨#[]⟩, .slice none 0 0, .bool false], .bool false]) (by simp [results, Tryz.results55, go_sem, q0, q1, q2, q3, q4]) rfl ?_
      exact ⟨⟨_, _, _, _, _, _, _, rfl⟩, put5_fr (HFA.out.no.trans ((hf1.trans hf2).trans hf3)) (.inr (Nat.le_refl _)) _ _ _ _ _⟩
    | some r =>
      rw [show isP (⟨#[62]⟩ : ByteArray).data.toList L2 = some r from hq] at hp
      have hres : closeQ (nameR L) L2 = some (⟨2, nameR L, [], [], false⟩, r) := by unfold closeQ; rw [if_neg hnn, hq]; rfl
      rw [hres]
      have H := Lib.hid (h.no hfa); have HNM := Lib.hid hnm; have HB1 := Lib.hid hb1; have HB0 := Lib.hid hb0; have HFA := Lib.hid hfa; have HNE := Lib.hid hne; have HP := Lib.hid hp; have HNN := Lib.hid hnn
      clear h hnm hb1 hb0 hfa hne hfi hnn hres hp hq
      go_enter Tryz.func55, Tryz.ntmps55
      go_wp2_with (first
        | (go_at_call 80; refine (HNM.out _ H.out).mono ?_; rintro e w1 ⟨R, rfl, hR, hw1, hf1⟩; have hRe : (R.toList == []) = false := (by rw [ba_list, hR, beq_eq_false_iff_ne]; exact HNN.out))
        | (go_at_call 81; refine (HB1.out _ hw1).mono ?_; rintro e w2 ⟨rfl, hw2, hf2⟩)
        | (go_at_call 54; refine (HP.out _ hw2).mono ?_; rintro e w3 ⟨rfl, hw3, hf3⟩; have hbk := ((HB0.out.fr hf1 HNE.out).fr hf2 HNE.out).fr hf3 HNE.out; obtain ⟨b0, b1, b2, b3, b4, f0, f1, f2, f3, f4⟩ := cells5 hbk))
      obtain ⟨q0, q1, q2, q3, q4⟩ := put5_cells hbk (.int .i64 2) (.string R) (.string ⟨#[]⟩) (.slice none 0 0) (.bool false)
      refine bodyPost_ret (v := .tuple #[.agg #[.int .i64 2, .string R, .string ⟨#[]⟩, .slice none 0 0, .bool false], .bool true]) (by simp [results, Tryz.results55, go_sem, q0, q1, q2, q3, q4]) rfl ?_
      refine ⟨?_, put5_fr (HFA.out.no.trans ((hf1.trans hf2).trans hf3)) (.inr (Nat.le_refl _)) _ _ _ _ _⟩
      have hy := put5_fr (Fr.refl (fun i => i = w.heap.size) w3) (g := w.heap.size) (.inl rfl) (.int .i64 2) (.string R) (.string ⟨#[]⟩) (.slice none 0 0) (.bool false)
      exact ⟨R, ⟨#[]⟩, none, 0, 0, rfl, hR, rfl, RdI.nil_ _ _ _ _, hw3.fr hy (fun e => by have : g = w.heap.size := e; omega)⟩

set_option maxRecDepth 100000 in
theorem w_loose (g : Nat) (L : List UInt8) (w : World) (h : Wk w g L) (hT : Tg w g) :
    Calls Tryz.prog 57 #[.pointer (some ⟨g, 0, none⟩)] w fun e w' => StepEnd g w.heap.size ((valV (L.takeWhile notLt)).map fun v => (⟨3, [], v, [], false⟩, L.dropWhile notLt)) e w' ∧ Fr (Just g) w w' := by
  have hwh := fun u hu => w_while _ _ tests_kloose g L u hu
  have hlen : (L.takeWhile notLt).length ≤ 65536 := by
    have h1 := congrArg List.length (List.takeWhile_append_dropWhile (p := notLt) (l := L))
    have h2 := h.small
    rw [List.length_append] at h1
    omega
  have hgw := h.lt
  generalize L.dropWhile notLt = D at hwh ⊢
  generalize L.takeWhile notLt = R at hwh hlen ⊢
  have hval : ∀ (X : ByteArray), X.data.toList = R → ∀ u, Tabs u → Calls Tryz.prog 86 #[.string X] u fun e w' => ∃ V : ByteArray, e = .returned (.tuple #[.string V, .bool (valV R).isSome]) ∧ V.data.toList = valB R ∧ Fr No u w' := by
    intro X hX u hu
    have := k_value X (by rw [sz_eq hX]; omega) u hu
    rw [hX] at this
    exact this
  have hb0 : Bk (w.alloc (.cells #[.int .i64 0, .string ⟨#[]⟩, .string ⟨#[]⟩, .slice none 0 0, .bool false] 45)) w.heap.size 45 [.int .i64 0, .string ⟨#[]⟩, .string ⟨#[]⟩, .slice none 0 0, .bool false] := Bk.new w _ _
  have hfa : Fr No w (w.alloc (.cells #[.int .i64 0, .string ⟨#[]⟩, .string ⟨#[]⟩, .slice none 0 0, .bool false] 45)) := (Fr.refl _ w).alloc _
  have hne : ¬ Just g w.heap.size := fun e => absurd (show w.heap.size = g from e) (by omega)
  have H := Lib.hid (h.no hfa); have HWH := Lib.hid hwh; have HVAL := Lib.hid hval; have HB0 := Lib.hid hb0; have HFA := Lib.hid hfa; have HNE := Lib.hid hne; have HT := Lib.hid (hT.no hfa)
  clear h hwh hval hb0 hfa hne hT hlen
  generalize hres : (valV R).map (fun v => ((⟨3, [], v, [], false⟩ : Tok), D)) = res
  have HRES := Lib.hid hres
  clear hres
  go_enter Tryz.func57, Tryz.ntmps57
  go_wp2_with (first
    | (go_at_call 87; refine (HWH.out _ H.out).mono ?_; rintro e w1 ⟨X, rfl, hX, hw1, hf1⟩)
    | (go_at_call 86; refine (HVAL.out X hX _ (HT.out.fr hf1).tabs).mono ?_; rintro e w2 ⟨V, rfl, hV, hf2⟩; have hbk := (HB0.out.fr hf1 HNE.out).no hf2; obtain ⟨b0, b1, b2, b3, b4, f0, f1, f2, f3, f4⟩ := cells5 hbk))
  obtain ⟨q0, q1, q2, q3, q4⟩ := put5_cells hbk (.int .i64 3) (.string ⟨#[]⟩) (.string V) (.slice none 0 0) (.bool false)
  refine bodyPost_ret (v := .tuple #[.agg #[.int .i64 3, .string ⟨#[]⟩, .string V, .slice none 0 0, .bool false], .bool (valV R).isSome]) (by simp [results, Tryz.results57, go_sem, q0, q1, q2, q3, q4]) rfl ?_
  refine ⟨?_, put5_fr (HFA.out.no.trans (hf1.trans hf2.no)) (.inr (Nat.le_refl _)) _ _ _ _ _⟩
  have hy := put5_fr (Fr.refl (fun i => i = w.heap.size) w2) (g := w.heap.size) (.inl rfl) (.int .i64 3) (.string ⟨#[]⟩) (.string V) (.slice none 0 0) (.bool false)
  rw [← HRES.out]
  unfold valB at hV
  cases hz : valV R with
  | none => exact ⟨_, _, _, _, _, _, _, rfl⟩
  | some z =>
    rw [hz] at hV
    exact ⟨⟨#[]⟩, V, none, 0, 0, rfl, rfl, hV, RdI.nil_ _ _ _ _, (hw1.no hf2).fr hy (fun e => by have : g = w.heap.size := e; omega)⟩
end Go.Proofs.YthkjmbkfcnehoaaGreatDoor
/- What package token does: an element's beginning. -/
namespace Go.Proofs.YthkjmbkfcnehoaaGreatDoor
open Go.RowKit
set_option maxHeartbeats 2000000
set_option linter.unusedVariables false

theorem attrQ_name {n x r : List UInt8} {a : List UInt8 × List UInt8} (h : attrQ n x = some (a, r)) : a.1 = n := by
  cases hq : isP [61] x with
  | none => rw [attrQ_eq hq] at h; cases h
  | some l1 =>
    rw [attrQ_quoted hq] at h
    cases hz : quotedV (l1.dropWhile isBl) with
    | none => rw [hz] at h; cases h
    | some p =>
      rw [hz] at h
      simp only [Option.map_some, Option.some.injEq, Prod.mk.injEq] at h
      rw [← h.1]
theorem attrP_prog {used : List (List UInt8 × List UInt8)} {l : List UInt8} (hf : bgB isFi l = true) : attrP used l = match attrQ (nameR l) ((l.dropWhile isWi).dropWhile isBl) with
    | none => none
    | some (a, r) => if used.any (fun x => x.1 == a.1) then none else some (a, r) := by
  have hn : nameOk (l.takeWhile isWi) = true := by rw [bg_name]; exact hf
  by_cases hd : ∃ j, ∃ hj : j < used.length, used[j].1 = nameR l
  · obtain ⟨j, hj, e⟩ := hd
    rw [attrP_dup j hj e]
    cases hq : attrQ (nameR l) ((l.dropWhile isWi).dropWhile isBl) with
    | none => rfl
    | some p =>
      obtain ⟨a, r⟩ := p
      have hany : used.any (fun x => x.1 == a.1) = true := by
        rw [List.any_eq_true]
        exact ⟨used[j], List.getElem_mem _, by rw [e, attrQ_name hq]; exact beq_self_eq_true _⟩
      show none = if used.any (fun x => x.1 == a.1) = true then none else some (a, r)
      rw [hany]; rfl
  · have hnew : ∀ j (hj : j < used.length), used[j].1 ≠ nameR l := fun j hj e => hd ⟨j, hj, e⟩
    rw [attrP_new hn hnew]
    cases hq : attrQ (nameR l) ((l.dropWhile isWi).dropWhile isBl) with
    | none => rfl
    | some p =>
      obtain ⟨a, r⟩ := p
      have hany : used.any (fun x => x.1 == a.1) = false := by
        rw [List.any_eq_false]
        intro x hx
        obtain ⟨j, hj, rfl⟩ := List.getElem_of_mem hx
        rw [attrQ_name hq, beq_iff_eq]
        exact hnew j hj
      show some (a, r) = if used.any (fun x => x.1 == a.1) = true then none else some (a, r)
      rw [hany]; rfl
theorem openV_end {name l D : List UInt8} {attrs : List (List UInt8 × List UInt8)} (hD : l.dropWhile isBl = D) (h : bgB isBl l = false ∨ bgB isFi D = false) :
    openV name attrs l = (isP [62] ((isP [47] D).getD D)).map fun q => (⟨1, name, [], attrs, (isP [47] D).isSome⟩, q) := by
  rw [openV_last (by rw [hD]; exact h), hD]
  cases isP [47] D <;> rfl
/-- while attributes come -/
structure OpK (w : World) (g U : Nat) (R : ByteArray) (A : Option Addr) (n c : Nat) (attrs : List (List UInt8 × List UInt8)) (L : List UInt8) : Prop where
  walk : Wk w g L
  tok : Bk w U 45 [.int .i64 1, .string R, .string ⟨#[]⟩, .slice A n c, .bool false]
  own : OwnI 2 AttrI w (U + 1) 59 No (.slice A n c) n attrs
  few : n + L.length ≤ 65536

set_option maxRecDepth 100000 in
theorem w_opening (g : Nat) (L : List UInt8) (w : World) (h : Wk w g L) (hT : Tg w g) :
    Calls Tryz.prog 56 #[.pointer (some ⟨g, 0, none⟩)] w fun e w' => StepEnd g w.heap.size (if bgB isFi L then openV (nameR L) [] (L.dropWhile isWi) else none) e w' ∧ Fr (Just g) w w' := by
  have hnm := fun u hu => w_name g L u hu
  have hgw := h.lt
  have hb0 : Bk (w.alloc (.cells #[.int .i64 0, .string ⟨#[]⟩, .string ⟨#[]⟩, .slice none 0 0, .bool false] 45)) w.heap.size 45 [.int .i64 0, .string ⟨#[]⟩, .string ⟨#[]⟩, .slice none 0 0, .bool false] := Bk.new w _ _
  have hfa : Fr No w (w.alloc (.cells #[.int .i64 0, .string ⟨#[]⟩, .string ⟨#[]⟩, .slice none 0 0, .bool false] 45)) := (Fr.refl _ w).alloc _
  have hne : ¬ Just g w.heap.size := fun e => absurd (show w.heap.size = g from e) (by omega)
  cases hfi : bgB isFi L with
  | false =>
    have hn0 : nameR L = [] := by rw [nameR_bg, hfi]; rfl
    rw [hn0] at hnm
    rw [if_neg (by decide)]
    have H := Lib.hid (h.no hfa); have HNM := Lib.hid hnm; have HB0 := Lib.hid hb0; have HFA := Lib.hid hfa; have HNE := Lib.hid hne
    clear h hnm hb0 hfa hne hfi hn0 hT
    go_enter Tryz.func56, Tryz.ntmps56
    go_wp2_with (go_at_call 80; refine (HNM.out _ H.out).mono ?_; rintro e w1 ⟨R, rfl, hR, hw1, hf1⟩; have hRe : (R.toList == []) = true := (by rw [ba_list, hR]; rfl); have hbk := (HB0.out.fr hf1 HNE.out).no ((Fr.refl No w1).alloc (.cells #[.int .i64 1, .string R, .string ⟨#[]⟩, .slice none 0 0, .bool false] 45)); obtain ⟨b0, b1, b2, b3, b4, f0, f1, f2, f3, f4⟩ := cells5 hbk)
    obtain ⟨q0, q1, q2, q3, q4⟩ := put5_cells hbk (.int .i64 0) (.string ⟨#[]⟩) (.string ⟨#[]⟩) (.slice none 0 0) (.bool false)
    refine bodyPost_ret (v := .tuple #[.agg #[.int .i64 0, .string ⟨#[]⟩, .string ⟨#[]⟩, .slice none 0 0, .bool false], .bool false]) (by simp [results, Tryz.results56, go_sem, q0, q1, q2, q3, q4]) rfl ?_
    exact ⟨⟨_, _, _, _, _, _, _, rfl⟩, put5_fr ((HFA.out.no.trans hf1).alloc _) (.inr (Nat.le_refl _)) _ _ _ _ _⟩
  | true =>
    rw [if_pos rfl]
    rw [hfi, if_pos rfl] at hnm
    have hnn : nameR L ≠ [] := by
      rw [nameR_bg, hfi, if_pos rfl, bg_ne]
      cases L with
      | nil => cases hfi
      | cons c r => exact isWi_of hfi
    have hsm : (L.dropWhile isWi).length ≤ 65536 := Nat.le_trans (drop_while_le _ _) h.small
    generalize nameR L = nm at hnm hnn ⊢
    generalize L.dropWhile isWi = L1 at hnm hsm ⊢
    generalize hr : openV nm [] L1 = r
    have H := Lib.hid (h.no hfa); have HNM := Lib.hid hnm; have HB0 := Lib.hid hb0; have HFA := Lib.hid hfa; have HNE := Lib.hid hne; have HT := Lib.hid hT; have HNN := Lib.hid hnn; have HR := Lib.hid hr
    clear h hnm hb0 hfa hne hfi hT hnn hr
    go_enter Tryz.func56, Tryz.ntmps56
    go_wp2_with (go_at_call 80; refine (HNM.out _ H.out).mono ?_; rintro e w1 ⟨R, rfl, hR, hw1, hf1⟩; have hRe : (R.toList == []) = false := (by rw [ba_list, hR, beq_eq_false_iff_ne]; exact HNN.out))
    have hB1 := HB0.out.fr hf1 HNE.out
    have hfw : Fr (Just g) w w1 := HFA.out.no.trans hf1
    have hTB : w.heap.size < w1.heap.size := by have := hf1.size; simp at this; omega
    obtain ⟨B, hBB⟩ : ∃ B, w.heap.size = B := ⟨_, rfl⟩
    have hnew : Bk (w1.alloc (.cells #[.int .i64 1, .string R, .string ⟨#[]⟩, .slice none 0 0, .bool false] 45)) w1.heap.size 45 [.int .i64 1, .string R, .string ⟨#[]⟩, .slice none 0 0, .bool false] := Bk.new w1 _ _
    have hsz : (w1.alloc (.cells #[.int .i64 1, .string R, .string ⟨#[]⟩, .slice none 0 0, .bool false] 45)).heap.size = w1.heap.size + 1 := by simp
    have hf2 : Fr No w1 (w1.alloc (.cells #[.int .i64 1, .string R, .string ⟨#[]⟩, .slice none 0 0, .bool false] 45)) := (Fr.refl No w1).alloc _
    generalize w1.alloc (.cells #[.int .i64 1, .string R, .string ⟨#[]⟩, .slice none 0 0, .bool false] 45) = w2 at *
    obtain ⟨U, hUU⟩ : ∃ U, w1.heap.size = U := ⟨_, rfl⟩
    rw [hBB] at hB1 hTB
    rw [hUU] at hTB hnew hsz
    simp only [hBB, hUU]
    have hgB : g < B := by omega
    have hop0 : OpK w2 g U R none 0 0 [] L1 := ⟨hw1.no hf2, hnew, OwnI.nil_ _ _ _ _ _ _, by omega⟩
    have HB1 := Lib.hid (hB1.no hf2); have HFW := Lib.hid (hfw.trans hf2.no); have HOP0 := Lib.hid hop0; have HBB := Lib.hid hBB; have HRN := Lib.hid hR; have HSZ := Lib.hid hsz
    clear hB1 hfw hop0 hnew hw1 hf1 hf2 hBB hUU hsz hR HB0 HFA H HNM hgw
    go_loopw [] (fun wr => ∃ (A : Option Addr) (n c : Nat) (attrs : List (List UInt8 × List UInt8)) (D : List UInt8), OpK wr g U R A n c attrs D ∧ Fr (Just g) w wr ∧ Bk wr B 45 [.int .i64 0, .string ⟨#[]⟩, .string ⟨#[]⟩, .slice none 0 0, .bool false] ∧ U < wr.heap.size ∧ r = openV nm attrs D) (fun wr => leftOf wr g)
    case atStart => exact ⟨none, 0, 0, [], L1, HOP0.out, HFW.out, HB1.out, by have := HSZ.out; omega, HR.out.symm⟩
    case round =>
      obtain ⟨A, n, c, attrs, D, hop, hf, hB, hUl, hres⟩ := hrel
      have hlf := hop.walk.left
      have hbl := fun u hu => w_blanks g D u hu
      obtain ⟨D2, hD2⟩ : ∃ D2, D.dropWhile isBl = D2 := ⟨_, rfl⟩
      have hDl : D2.length ≤ D.length := by rw [← hD2]; exact drop_while_le _ _
      rw [hD2] at hbl
      have hbg := fun u hu => w_begins _ _ tests_kfirst g D2 u hu
      have hlt := hop.own.lt
      have hTr := HT.out.fr hf
      have hgU : g < U := by omega
      have hneB : ¬ Just g B := fun e => absurd (show B = g from e) (by omega)
      have hneU : ¬ Just g U := fun e => absurd (show U = g from e) (by omega)
      have HOP := Lib.hid hop; have HF := Lib.hid hf; have HB := Lib.hid hB; have HLT := Lib.hid hlt; have HTR := Lib.hid hTr; have HLF := Lib.hid hlf; have HNB := Lib.hid hneB; have HNU := Lib.hid hneU
      clear hop hf hB hlt hTr hlf hneB hneU
      by_cases hgo : bgB isBl D = true ∧ bgB isFi D2 = true
      · obtain ⟨hbD, hfD⟩ := hgo
        have hE := openV_more' (name := nm) (attrs := attrs) hbD (by rw [hD2]; exact hfD)
        have hls := fun y rest' => attrP_less (used := attrs) (l := D2) (rest := rest') (y := y)
        rw [hD2, attrP_prog hfD] at hE
        rw [attrP_prog hfD] at hls
        rw [hbD] at hbl
        rw [hfD] at hbg
        have hat := fun u hu hu2 => w_attr g D2 u hu hu2 hfD
        cases hq : attrQ (nameR D2) ((D2.dropWhile isWi).dropWhile isBl) with
        | none =>
          rw [hq] at hat hE
          have hE : r = none := hres.trans hE
          have HBL := Lib.hid hbl; have HBG := Lib.hid hbg; have HAT := Lib.hid hat; have HE := Lib.hid hE
          clear hbl hbg hat hE hres hq hls hD2 hbD hfD hDl
          go_wp2_with (first
            | (go_at_call 81; refine (HBL.out _ HOP.out.walk).mono ?_; rintro e w3 ⟨rfl, hw3, hf3⟩)
            | (go_at_call 82; refine (HBG.out _ hw3).mono ?_; rintro e w' ⟨rfl, rfl⟩)
            | (go_at_call 84; refine (HAT.out _ hw3 (HTR.out.fr hf3)).mono ?_; rintro e w4 ⟨⟨X, Y, rfl⟩, hf4⟩; have hbk := ((HB.out.fr hf3 HNB.out).fr hf4 HNB.out).no ((Fr.refl No w4).alloc (.cells #[.string X, .string Y] 59)); obtain ⟨b0, b1, b2, b3, b4, f0, f1, f2, f3, f4⟩ := cells5 hbk))
          obtain ⟨q0, q1, q2, q3, q4⟩ := put5_cells hbk (.int .i64 0) (.string ⟨#[]⟩) (.string ⟨#[]⟩) (.slice none 0 0) (.bool false)
          refine bodyPost_ret (v := .tuple #[.agg #[.int .i64 0, .string ⟨#[]⟩, .string ⟨#[]⟩, .slice none 0 0, .bool false], .bool false]) (by simp [results, Tryz.results56, go_sem, q0, q1, q2, q3, q4]) rfl ?_
          exact ⟨by rw [HE.out]; exact ⟨_, _, _, _, _, _, _, rfl⟩, put5_fr ((HF.out.trans (hf3.trans hf4)).alloc _) (.inr (by rw [HBB.out]; exact Nat.le_refl _)) _ _ _ _ _⟩
        | some p =>
          obtain ⟨a, rest⟩ := p
          rw [hq] at hat hE hls
          have hrd : RdI 2 AttrI wr (fun i => i ≠ g) A n c attrs := by
            obtain ⟨A1, c1, e1, h1⟩ := HOP.out.own.rd' (M := fun i => i ≠ g) (fun i hi e => by have := (HLT.out i hi).1; omega) attr_ok (fun _ x => x.elim)
            injection e1 with e1 _ e2
            subst e1 e2
            exact h1
          have hhas := fun (X : ByteArray) (hX : X.data.toList = a.1) u (hu : Fr (Just g) wr u) => k_has A n c attrs _ X u (hrd.fr attr_ok hu (fun i hi e => hi e))
          have htk := fun u (hu : Fr (Just g) wr u) => HOP.out.tok.fr hu HNU.out
          have HHT := Lib.hid htk
          cases hdup : attrs.any (fun x => x.1 == a.1) with
          | true =>
            have hE : r = none := hres.trans (hE.trans (by show (match (if attrs.any (fun x => x.1 == a.1) = true then none else some (a, rest)) with | none => none | some (a, r) => openV nm (attrs ++ [a]) r) = none; rw [hdup]; rfl))
            have hhas2 : ∀ (X : ByteArray), X.data.toList = a.1 → ∀ u, Fr (Just g) wr u → Calls Tryz.prog 85 #[.slice A n c, .string X] u fun e w' => e = .returned (.bool true) ∧ Fr No u w' := by
              intro X hX u hu
              have := hhas X hX u hu
              rw [hX, hdup] at this
              exact this
            have HBL := Lib.hid hbl; have HBG := Lib.hid hbg; have HAT := Lib.hid hat; have HE := Lib.hid hE; have HH := Lib.hid hhas2
            clear hbl hbg hat hE hres hq hls hD2 hbD hfD hDl hrd hhas hhas2 htk hdup
            go_wp2_with (first
              | (go_at_call 81; refine (HBL.out _ HOP.out.walk).mono ?_; rintro e w3 ⟨rfl, hw3, hf3⟩)
              | (go_at_call 82; refine (HBG.out _ hw3).mono ?_; rintro e w' ⟨rfl, rfl⟩)
              | (go_at_call 84; refine (HAT.out _ hw3 (HTR.out.fr hf3)).mono ?_; rintro e w4 ⟨⟨X, Y, rfl, hX, hY, hw4⟩, hf4⟩; have hf34 := (hf3.trans hf4).alloc (.cells #[.string X, .string Y] 59); have c3 := (HHT.out _ hf34).cell 3)
              | (go_at_call 85; refine (HH.out X hX _ hf34).mono ?_; rintro e w5 ⟨rfl, hf5⟩; have hbk := (HB.out.fr hf34 HNB.out).no hf5; obtain ⟨b0, b1, b2, b3, b4, f0, f1, f2, f3, f4⟩ := cells5 hbk))
            obtain ⟨q0, q1, q2, q3, q4⟩ := put5_cells hbk (.int .i64 0) (.string ⟨#[]⟩) (.string ⟨#[]⟩) (.slice none 0 0) (.bool false)
            refine bodyPost_ret (v := .tuple #[.agg #[.int .i64 0, .string ⟨#[]⟩, .string ⟨#[]⟩, .slice none 0 0, .bool false], .bool false]) (by simp [results, Tryz.results56, go_sem, q0, q1, q2, q3, q4]) rfl ?_
            exact ⟨by rw [HE.out]; exact ⟨_, _, _, _, _, _, _, rfl⟩, put5_fr ((HF.out.trans hf34).trans hf5.no) (.inr (by rw [HBB.out]; exact Nat.le_refl _)) _ _ _ _ _⟩
          | false =>
            have hE2 : r = openV nm (attrs ++ [a]) rest := hres.trans (hE.trans (by show (match (if attrs.any (fun x => x.1 == a.1) = true then none else some (a, rest)) with | none => none | some (a, r) => openV nm (attrs ++ [a]) r) = _; rw [hdup]; rfl))
            have hls2 : rest.length < D2.length := hls a rest (by show (if attrs.any (fun x => x.1 == a.1) = true then none else some (a, rest)) = some (a, rest); rw [hdup]; rfl)
            have hhas2 : ∀ (X : ByteArray), X.data.toList = a.1 → ∀ u, Fr (Just g) wr u → Calls Tryz.prog 85 #[.slice A n c, .string X] u fun e w' => e = .returned (.bool false) ∧ Fr No u w' := by
              intro X hX u hu
              have := hhas X hX u hu
              rw [hX, hdup] at this
              exact this
            have hfew := HOP.out.few
            have HBL := Lib.hid hbl; have HBG := Lib.hid hbg; have HAT := Lib.hid hat; have HE := Lib.hid hE2; have HH := Lib.hid hhas2; have HLS := Lib.hid hls2
            clear hbl hbg hat hE hE2 hres hq hls hD2 hbD hfD hrd hhas hhas2 htk hdup hls2
            go_wp2_with (first
              | (go_at_call 81; refine (HBL.out _ HOP.out.walk).mono ?_; rintro e w3 ⟨rfl, hw3, hf3⟩)
              | (go_at_call 82; refine (HBG.out _ hw3).mono ?_; rintro e w' ⟨rfl, rfl⟩)
              | (go_at_call 84; refine (HAT.out _ hw3 (HTR.out.fr hf3)).mono ?_; rintro e w4 ⟨⟨X, Y, rfl, hX, hY, hw4⟩, hf4⟩; have hf34 := (hf3.trans hf4).alloc (.cells #[.string X, .string Y] 59); have c3 := (HHT.out _ hf34).cell 3; have hba := Bk.new w4 59 #[.string X, .string Y]; have hs4 := hf34.size; have hw4b := hw4.no ((Fr.refl No w4).alloc (.cells #[.string X, .string Y] 59)))
              | (go_at_call 85; refine (HH.out X hX _ hf34).mono ?_; rintro e w5 ⟨rfl, hf5⟩; have hf35 := hf34.trans hf5.no; have htk5 := HHT.out _ hf35; have d3 := htk5.cell 3; have hba5 := hba.no hf5; have a0 := hba5.cell 0; have a1 := hba5.cell 1; have ho5 := HOP.out.own.fr attr_ok hf35 (fun _ x => x.elim) (fun i hi e => by have := (HLT.out i hi).1; have : i = g := e; omega); have hs5 := hf35.size; have hw5 := hw4b.no hf5)
              | (at_builtin; go_must (refine ap_attr1 w5 rfl (.tmp 36) (.tmp 38) rfl (U + 1) (.slice A n c) n attrs rfl ho5 X Y a hX hY _ w5.heap.size rfl rfl (by omega) (by omega) ?_); intro v8 w8 ho8 hg8 hr8; obtain ⟨A8, c8, rfl, _⟩ := ho8.rd' (M := fun _ => True) (fun _ _ => trivial) attr_ok (fun _ _ => trivial); have hf8 : Fr (fun i => (Value.slice A n c).ownBlock = some i) w5 w8 := ((Fr.refl _ w5).alloc _).grown hg8 (fun g e => .inl e); have htk8 := htk5.fr hf8 (fun e => by have := (HLT.out U e).1; omega); have z8 := htk8.frozen 3; have k8 := htk8.cell 3))
            have hf9 : Fr (Just U) w8 (w8.setCell ⟨U, 3, none⟩ (.slice A8 (n + 1) c8)) := (Fr.refl (Just U) _).setCell (p := ⟨U, 3, none⟩) (.inl (Just.at U)) _
            have htk9 := htk8.set_ 3 (.slice A8 (n + 1) c8)
            simp only [List.set_cons_succ, List.set_cons_zero] at htk9
            have hlt8 := ho8.lt
            have hw9 : Wk (w8.setCell ⟨U, 3, none⟩ (.slice A8 (n + 1) c8)) g rest := (hw5.fr hf8 (fun e => by have := (HLT.out g e).1; omega)).fr hf9 (fun e => absurd (show g = U from e) (by omega))
            have ho9 := ho8.fr attr_ok hf9 (fun _ x => x.elim) (fun i hi e => by have h1 := (hlt8 i hi).1; have h2 : i = U := e; omega)
            have hB9 := ((HB.out.fr hf35 HNB.out).fr hf8 (fun e => by have := (HLT.out B e).1; omega)).fr hf9 (fun e => absurd (show B = U from e) (by omega))
            have hbb := HBB.out
            have hF9 : Fr (Just g) w (w8.setCell ⟨U, 3, none⟩ (.slice A8 (n + 1) c8)) := ((HF.out.trans hf35).trans_new hf8 (fun i e => .inr (by have := (HLT.out i e).1; omega))).setCell (p := ⟨U, 3, none⟩) (.inr (show w.heap.size ≤ U by omega)) _
            have hs9 : U < (w8.setCell ⟨U, 3, none⟩ (.slice A8 (n + 1) c8)).heap.size := by have h1 := hf8.size; have h2 := hf9.size; omega
            have hls9 := HLS.out
            go_roundw
            case rel => exact ⟨A8, n + 1, c8, attrs ++ [a], rest, ⟨hw9, htk9, ho9, by omega⟩, hF9, hB9, hs9, HE.out⟩
            case measure => rw [hw9.left, HLF.out]; omega
      · have hor : bgB isBl D = false ∨ bgB isFi D2 = false := by
          cases h1 : bgB isBl D with
          | false => exact .inl rfl
          | true => cases h2 : bgB isFi D2 with
            | false => exact .inr rfl
            | true => exact absurd ⟨h1, h2⟩ hgo
        have hE := hres.trans (openV_end (name := nm) (attrs := attrs) hD2 hor)
        have hp1 := fun u hu => w_pass ⟨#[47]⟩ g D2 u hu
        have hp1 : ∀ u, Wk u g D2 → Calls Tryz.prog 54 #[.pointer (some ⟨g, 0, none⟩), .string ⟨#[47]⟩] u fun e w' => e = .returned (.bool (isP [47] D2).isSome) ∧ Wk w' g ((isP [47] D2).getD D2) ∧ Fr (Just g) u w' := hp1
        generalize (isP [47] D2).isSome = em at hp1 hE
        generalize (isP [47] D2).getD D2 = D3 at hp1 hE
        have hp2 : ∀ u, Wk u g D3 → Calls Tryz.prog 54 #[.pointer (some ⟨g, 0, none⟩), .string ⟨#[62]⟩] u fun e w' => e = .returned (.bool (isP [62] D3).isSome) ∧ Wk w' g ((isP [62] D3).getD D3) ∧ Fr (Just g) u w' := fun u hu => w_pass ⟨#[62]⟩ g D3 u hu
        have hend : ∀ (e : Ending) (w' : World) (Y : ByteArray), Y.data.toList = [] → e = .returned (.tuple #[.agg #[.int .i64 1, .string R, .string Y, .slice A n c, .bool em], .bool (isP [62] D3).isSome]) → RdI 2 AttrI w' (fun i => B ≤ i ∧ i < w'.heap.size) A n c attrs → Wk w' g ((isP [62] D3).getD D3) → StepEnd g B r e w' := by
          intro e w' Y hY he hrd hw
          rw [hE]
          cases hz : isP [62] D3 with
          | none => rw [hz] at he; exact ⟨_, _, _, _, _, _, _, he⟩
          | some q => rw [hz] at he hw; exact ⟨R, Y, A, n, c, he, HRN.out, hY, hrd, hw⟩
        generalize (isP [62] D3).isSome = fm at hp2 hend
        generalize (isP [62] D3).getD D3 = D4 at hp2 hend
        have HBL := Lib.hid hbl; have HBG := Lib.hid hbg; have HP1 := Lib.hid hp1; have HP2 := Lib.hid hp2; have HEND := Lib.hid hend
        clear hbl hbg hp1 hp2 hend hE hres hD2 hDl
        have tok1 : True := trivial
        have HTK := Lib.hid (fun u (hu : Fr (Just g) wr u) => HOP.out.tok.fr hu HNU.out)
        cases hbD : bgB isBl D with
        | false =>
          rw [hbD] at HBL
          clear hor hbD hgo
          go_wp2_with (first
            | (go_at_call 81; refine (HBL.out _ HOP.out.walk).mono ?_; rintro e w3 ⟨rfl, hw3, hf3⟩)
            | (go_at_call 54; clear tok1; refine (HP1.out _ hw3).mono ?_; rintro e w4 ⟨rfl, hw4, hf4⟩; have htk4 := HTK.out _ (hf3.trans hf4); have z4 := htk4.frozen 4; have k4 := htk4.cell 4))
          have hw5 : Wk (w4.setCell ⟨U, 4, none⟩ (.bool em)) g D3 := hw4.fr ((Fr.refl (Just U) w4).setCell (p := ⟨U, 4, none⟩) (.inl (Just.at U)) _) (fun e => absurd (show g = U from e) (by omega))
          have htk5 := htk4.set_ 4 (.bool em)
          simp only [List.set_cons_succ, List.set_cons_zero] at htk5
          have hB5 : Bk (w4.setCell ⟨U, 4, none⟩ (.bool em)) B 45 [.int .i64 0, .string ⟨#[]⟩, .string ⟨#[]⟩, .slice none 0 0, .bool false] := (HB.out.fr (hf3.trans hf4) HNB.out).fr ((Fr.refl (Just U) w4).setCell (p := ⟨U, 4, none⟩) (.inl (Just.at U)) _) (fun e => absurd (show B = U from e) (by omega))
          have hbb := HBB.out
          have hF5 : Fr (Just g) w (w4.setCell ⟨U, 4, none⟩ (.bool em)) := (HF.out.trans (hf3.trans hf4)).setCell (p := ⟨U, 4, none⟩) (.inr (show w.heap.size ≤ U by omega)) _
          have ho5 : OwnI 2 AttrI (w4.setCell ⟨U, 4, none⟩ (.bool em)) (U + 1) 59 No (.slice A n c) n attrs := (HOP.out.own.fr attr_ok (hf3.trans hf4) (fun _ x => x.elim) (fun i hi e => by have := (HLT.out i hi).1; have : i = g := e; omega)).fr attr_ok ((Fr.refl (Just U) w4).setCell (p := ⟨U, 4, none⟩) (.inl (Just.at U)) _) (fun _ x => x.elim) (fun i hi e => by have := (HLT.out i hi).1; have : i = U := e; omega)
          generalize w4.setCell ⟨U, 4, none⟩ (.bool em) = w5 at hw5 htk5 hB5 hF5 ho5 ⊢
          obtain ⟨a0, a1, a2, a3, a4, -, -, -, -, -⟩ := cells5 htk5
          obtain ⟨b0, b1, b2, b3, b4, f0, f1, f2, f3, f4⟩ := cells5 hB5
          have hUB : U ≠ B := by omega
          have HW5 := Lib.hid hw5; have HTK5 := Lib.hid htk5; have HB5 := Lib.hid hB5; have HF5 := Lib.hid hF5; have HO5 := Lib.hid ho5
          clear hw5 htk5 hB5 hF5 ho5 hw4 hf4 hw3 hf3 htk4 z4 k4
          go_region_with (go_at_call 54; go_must (refine (HP2.out _ (HW5.out.no (Fr.refl No w5).drew)).mono ?_); rintro e w6 ⟨rfl, hw6, hf6⟩; have hB6 := (HB5.out.no (Fr.refl No w5).drew).fr hf6 HNB.out; have htk6 := (HTK5.out.no (Fr.refl No w5).drew).fr hf6 HNU.out; obtain ⟨c0, c1, c2, c3, c4, g0, g1, g2, g3, g4⟩ := cells5 hB6; obtain ⟨d0, d1, d2, d3, d4, -, -, -, -, -⟩ := cells5 htk6)
          all_goals
            go_wp2
            obtain ⟨q0, q1, q2, q3, q4⟩ := put5_cells hB6 (.int .i64 1) (.string R) (.string ⟨#[]⟩) (.slice A n c) (.bool em)
            refine bodyPost_ret (v := .tuple #[.agg #[.int .i64 1, .string R, .string ⟨#[]⟩, .slice A n c, .bool em], .bool fm]) (by simp [results, Tryz.results56, go_sem, q0, q1, q2, q3, q4]) rfl ?_
            have hy := put5_fr (Fr.refl (fun i => i = B) w6) (g := B) (.inl rfl) (.int .i64 1) (.string R) (.string ⟨#[]⟩) (.slice A n c) (.bool em)
            have hf56 : Fr (Just g) w5 w6 := ((Fr.refl (Just g) w5).drew).trans hf6
            refine ⟨?_, put5_fr (HF5.out.trans hf56) (.inr (by rw [HBB.out]; exact Nat.le_refl _)) _ _ _ _ _⟩
            have ho6 := (HO5.out.fr attr_ok hf56 (fun _ x => x.elim) (fun i hi e => by have := (HLT.out i hi).1; have : i = g := e; omega)).fr attr_ok hy (fun _ x => x.elim) (fun i hi e => by have := (HLT.out i hi).1; have : i = B := e; omega)
            obtain ⟨A', c', e1, hrd⟩ := (own_attrs ho6 (fun i => B ≤ i ∧ i < (put5 w6 B (.int .i64 1) (.string R) (.string ⟨#[]⟩) (.slice A n c) (.bool em)).heap.size)).rd (fun i h1 h2 => ⟨by omega, h2⟩)
            injection e1 with e1 _ e2
            subst e1 e2
            rw [HBB.out]
            exact HEND.out _ _ ⟨#[]⟩ rfl rfl hrd (hw6.fr hy (fun e => absurd (show g = B from e) (by omega)))
        | true =>
          have hfD : bgB isFi D2 = false := hor.resolve_left (by rw [hbD]; decide)
          rw [hbD] at HBL
          rw [hfD] at HBG
          clear hor hbD hgo hfD
          go_wp2_with (first
            | (go_at_call 81; refine (HBL.out _ HOP.out.walk).mono ?_; rintro e w3 ⟨rfl, hw3, hf3⟩)
            | (go_at_call 82; refine (HBG.out _ hw3).mono ?_; rintro e w' ⟨rfl, rfl⟩)
            | (go_at_call 54; clear tok1; refine (HP1.out _ hw3).mono ?_; rintro e w4 ⟨rfl, hw4, hf4⟩; have htk4 := HTK.out _ (hf3.trans hf4); have z4 := htk4.frozen 4; have k4 := htk4.cell 4))
          have hw5 : Wk (w4.setCell ⟨U, 4, none⟩ (.bool em)) g D3 := hw4.fr ((Fr.refl (Just U) w4).setCell (p := ⟨U, 4, none⟩) (.inl (Just.at U)) _) (fun e => absurd (show g = U from e) (by omega))
          have htk5 := htk4.set_ 4 (.bool em)
          simp only [List.set_cons_succ, List.set_cons_zero] at htk5
          have hB5 : Bk (w4.setCell ⟨U, 4, none⟩ (.bool em)) B 45 [.int .i64 0, .string ⟨#[]⟩, .string ⟨#[]⟩, .slice none 0 0, .bool false] := (HB.out.fr (hf3.trans hf4) HNB.out).fr ((Fr.refl (Just U) w4).setCell (p := ⟨U, 4, none⟩) (.inl (Just.at U)) _) (fun e => absurd (show B = U from e) (by omega))
          have hbb := HBB.out
          have hF5 : Fr (Just g) w (w4.setCell ⟨U, 4, none⟩ (.bool em)) := (HF.out.trans (hf3.trans hf4)).setCell (p := ⟨U, 4, none⟩) (.inr (show w.heap.size ≤ U by omega)) _
          have ho5 : OwnI 2 AttrI (w4.setCell ⟨U, 4, none⟩ (.bool em)) (U + 1) 59 No (.slice A n c) n attrs := (HOP.out.own.fr attr_ok (hf3.trans hf4) (fun _ x => x.elim) (fun i hi e => by have := (HLT.out i hi).1; have : i = g := e; omega)).fr attr_ok ((Fr.refl (Just U) w4).setCell (p := ⟨U, 4, none⟩) (.inl (Just.at U)) _) (fun _ x => x.elim) (fun i hi e => by have := (HLT.out i hi).1; have : i = U := e; omega)
          generalize w4.setCell ⟨U, 4, none⟩ (.bool em) = w5 at hw5 htk5 hB5 hF5 ho5 ⊢
          obtain ⟨a0, a1, a2, a3, a4, -, -, -, -, -⟩ := cells5 htk5
          obtain ⟨b0, b1, b2, b3, b4, f0, f1, f2, f3, f4⟩ := cells5 hB5
          have hUB : U ≠ B := by omega
          have HW5 := Lib.hid hw5; have HTK5 := Lib.hid htk5; have HB5 := Lib.hid hB5; have HF5 := Lib.hid hF5; have HO5 := Lib.hid ho5
          clear hw5 htk5 hB5 hF5 ho5 hw4 hf4 hw3 hf3 htk4 z4 k4
          go_region_with (go_at_call 54; go_must (refine (HP2.out _ (HW5.out.no (Fr.refl No w5).drew)).mono ?_); rintro e w6 ⟨rfl, hw6, hf6⟩; have hB6 := (HB5.out.no (Fr.refl No w5).drew).fr hf6 HNB.out; have htk6 := (HTK5.out.no (Fr.refl No w5).drew).fr hf6 HNU.out; obtain ⟨c0, c1, c2, c3, c4, g0, g1, g2, g3, g4⟩ := cells5 hB6; obtain ⟨d0, d1, d2, d3, d4, -, -, -, -, -⟩ := cells5 htk6)
          all_goals
            go_wp2
            obtain ⟨q0, q1, q2, q3, q4⟩ := put5_cells hB6 (.int .i64 1) (.string R) (.string ⟨#[]⟩) (.slice A n c) (.bool em)
            refine bodyPost_ret (v := .tuple #[.agg #[.int .i64 1, .string R, .string ⟨#[]⟩, .slice A n c, .bool em], .bool fm]) (by simp [results, Tryz.results56, go_sem, q0, q1, q2, q3, q4]) rfl ?_
            have hy := put5_fr (Fr.refl (fun i => i = B) w6) (g := B) (.inl rfl) (.int .i64 1) (.string R) (.string ⟨#[]⟩) (.slice A n c) (.bool em)
            have hf56 : Fr (Just g) w5 w6 := ((Fr.refl (Just g) w5).drew).trans hf6
            refine ⟨?_, put5_fr (HF5.out.trans hf56) (.inr (by rw [HBB.out]; exact Nat.le_refl _)) _ _ _ _ _⟩
            have ho6 := (HO5.out.fr attr_ok hf56 (fun _ x => x.elim) (fun i hi e => by have := (HLT.out i hi).1; have : i = g := e; omega)).fr attr_ok hy (fun _ x => x.elim) (fun i hi e => by have := (HLT.out i hi).1; have : i = B := e; omega)
            obtain ⟨A', c', e1, hrd⟩ := (own_attrs ho6 (fun i => B ≤ i ∧ i < (put5 w6 B (.int .i64 1) (.string R) (.string ⟨#[]⟩) (.slice A n c) (.bool em)).heap.size)).rd (fun i h1 h2 => ⟨by omega, h2⟩)
            injection e1 with e1 _ e2
            subst e1 e2
            rw [HBB.out]
            exact HEND.out _ _ ⟨#[]⟩ rfl rfl hrd (hw6.fr hy (fun e => absurd (show g = B from e) (by omega)))
end Go.Proofs.YthkjmbkfcnehoaaGreatDoor
