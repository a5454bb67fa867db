/- What package token does: a value in quotes, an attribute; an element's end; a text. -/
import Derived.Test.YthkbdbgmfolpeaaGreatDoorTokVal2
namespace Go.Proofs.YthkbdbgmfolpeaaGreatDoor
open Go.RowKit
set_option maxHeartbeats 400000
set_option linter.unusedVariables false

/-- the tables stand, and block g is none of theirs -/
def Tg (w : World) (g : Nat) : Prop := ∃ w0, Tabs w0 ∧ w0.heap.size ≤ g ∧ Fr (fun i => w0.heap.size ≤ i) w0 w
theorem Tg.tabs {w : World} {g : Nat} (h : Tg w g) : Tabs w := let ⟨_, a, _, c⟩ := h; a.frNew c (fun _ x => x)
theorem Tg.fr {w w' : World} {g : Nat} (h : Tg w g) (hf : Fr (Just g) w w') : Tg w' g := let ⟨w0, a, b, c⟩ := h; ⟨w0, a, b, c.trans (hf.mono (fun i hi => by rw [show i = g from hi]; exact b))⟩
theorem Tg.no {w w' : World} {g : Nat} (h : Tg w g) (hf : Fr No w w') : Tg w' g := h.fr hf.no
theorem Tg.dr {w w' : World} {g : Nat} (h : Tg w g) (hf : Dr w w') : Tg w' g := h.no hf.fr
/-- what a value's call leaves -/
def UntilEnd (g : Nat) (r : Option (List UInt8 × List UInt8)) (e : Ending) (w' : World) : Prop := match r with
  | some (v, rest) => ∃ V : ByteArray, e = .returned (.tuple #[.string V, .bool true]) ∧ V.data.toList = v ∧ Wk w' g rest
  | none => ∃ V : ByteArray, e = .returned (.tuple #[.string V, .bool false])

theorem w_until (m : UInt8) (hm : m.toNat ≠ 60) (g : Nat) (L : List UInt8) (w : World) (h : Wk w g L) (hT : Tg w g) :
    Calls Tryz.prog 63 #[.pointer (some ⟨g, 0, none⟩), .string ⟨#[m]⟩] w fun e w' => UntilEnd g (untilV m L) e w' ∧ Fr (Just g) w w' := by
  obtain ⟨S, hb, hS, hsz⟩ := h
  have c0 : w.cell? ⟨g, 0, none⟩ = some (.string S) := hb.cell 0
  have HB := Lib.hid hb
  cases hd : S.data.toList.dropWhile (upTo m) with
  | nil =>
    have hu : untilV m L = none := upTo_none (by rw [← hS]; exact hd)
    have hc := fun u => k_cut_no S m u hd
    have HC := Lib.hid hc; have HU := Lib.hid hu
    clear hc hu hd hS hb
    go_enter Tryz.func63, Tryz.ntmps63
    go_wp2_with (go_at_call 55; refine (HC.out _).mono ?_; rintro e w2 ⟨rfl, hd2⟩)
    go_ret2
    exact ⟨by rw [HU.out]; exact ⟨_, rfl⟩, hd2.fr⟩
  | cons c rest =>
    obtain ⟨hcm, hu⟩ := upTo_some (l := L) hm (by rw [← hS]; exact hd)
    have hc := fun u => k_cut_yes S m c rest u hsz hd
    rw [hS] at hc
    have hlen := congrArg List.length (upTo_cut hd)
    rw [hS] at hlen
    have hLl := sz_eq hS
    simp only [List.length_append, List.length_cons] at hlen
    generalize L.takeWhile (upTo m) = R at hu hc hlen
    have hct := fun (X : ByteArray) (hX : X.data.toList = R) u => k_contains X 60 u
    by_cases h6 : ∃ x ∈ R, x.toNat = 60
    · rw [if_pos h6] at hu
      have hct2 : ∀ (X : ByteArray), X.data.toList = R → ∀ u, Calls Tryz.prog 68 #[.string X, .string ⟨#[60]⟩] u fun e w' => e = .returned (.bool true) ∧ u = w' := by
        intro X hX u
        have := hct X hX u
        rw [hX, decide_eq_true (by obtain ⟨x, hx, e⟩ := h6; exact ⟨x, hx, UInt8.toNat_inj.1 e⟩)] at this
        exact this
      have HC := Lib.hid hc; have HU := Lib.hid hu; have HCT := Lib.hid hct2
      clear hc hu hd hS hb hct hct2 h6 hlen hLl
      go_enter Tryz.func63, Tryz.ntmps63
      go_wp2_with (first
        | (go_at_call 55; refine (HC.out _).mono ?_; rintro e w2 ⟨X, Y, rfl, hX, hY, hd2⟩)
        | (go_at_call 68; refine (HCT.out X hX _).mono ?_; rintro e w' ⟨rfl, rfl⟩))
      go_ret2
      exact ⟨by rw [HU.out]; exact ⟨_, rfl⟩, hd2.fr⟩
    · rw [if_neg h6] at hu
      have hct2 : ∀ (X : ByteArray), X.data.toList = R → ∀ u, Calls Tryz.prog 68 #[.string X, .string ⟨#[60]⟩] u fun e w' => e = .returned (.bool false) ∧ u = w' := by
        intro X hX u
        have := hct X hX u
        rw [hX, decide_eq_false (fun ⟨x, hx, e⟩ => h6 ⟨x, hx, by rw [e]; rfl⟩)] at this
        exact this
      have hval := fun (X : ByteArray) (hX : X.data.toList = R) u hu => k_value X (by rw [sz_eq hX]; omega) u hu
      have hys : ∀ Y : ByteArray, Y.data.toList = rest → Y.size ≤ 65536 := fun Y hY => by rw [sz_eq hY]; omega
      have hlt := hb.lt
      have hres : ∀ V : ByteArray, V.data.toList = valB R → ∀ (e : Ending) (w' : World), e = .returned (.tuple #[.string V, .bool (valV R).isSome]) → Wk w' g rest → UntilEnd g (untilV m L) e w' := by
        intro V hV e w' he hw
        rw [hu]
        unfold valB at hV
        cases hr : valV R with
        | none => rw [hr] at he; exact ⟨V, he⟩
        | some v => rw [hr] at he hV; exact ⟨V, he, hV, hw⟩
      have HC := Lib.hid hc; have HU := Lib.hid hu; have HCT := Lib.hid hct2; have HVAL := Lib.hid hval; have HYS := Lib.hid hys; have HRES := Lib.hid hres; have HLT := Lib.hid hlt
      clear hc hu hd hS hb hct hct2 h6 hlen hLl hval hys hres hlt
      go_enter Tryz.func63, Tryz.ntmps63
      go_wp2_with (first
        | (go_at_call 55; refine (HC.out _).mono ?_; rintro e w2 ⟨X, Y, rfl, hX, hY, hd2⟩; have z2 : w2.frozen? ⟨g, 0, none⟩ = false := (HB.out.no hd2.fr).frozen 0; have c2 : w2.cell? ⟨g, 0, none⟩ = some (.string S) := (HB.out.no hd2.fr).cell 0)
        | (go_at_call 68; refine (HCT.out X hX _).mono ?_; rintro e w' ⟨rfl, rfl⟩)
        | (go_at_call 40; have hT3 := ((hT.dr hd2).fr ((Fr.refl (Just g) w2).setCell (p := ⟨g, 0, none⟩) (.inl (Just.at g)) (.string Y))).tabs; refine (HVAL.out X hX _ hT3).mono ?_; rintro e w3 ⟨V, rfl, hV, hf3⟩))
      go_ret2
      have hw2 : Wk (w2.setCell ⟨g, 0, none⟩ (.string Y)) g rest := ⟨Y, (HB.out.no hd2.fr).set_ 0 (.string Y), hY, HYS.out Y hY⟩
      rw [show X.data.toList = R from hX] at hV
      exact ⟨HRES.out V hV _ _ rfl (hw2.no hf3), ((hd2.fr.trans ((Fr.refl (Just g) w2).setCell (p := ⟨g, 0, none⟩) (.inl (Just.at g)) (.string Y)))).trans hf3.no⟩

/-- a value with its quotes -/
def quotedV (l : List UInt8) : Option (List UInt8 × List UInt8) := match isP [34] l with
  | some r => untilV 34 r
  | none => match isP [39] l with
    | some r => untilV 39 r
    | none => none
theorem attrQ_quoted {n x l1 : List UInt8} (h : isP [61] x = some l1) : attrQ n x = (quotedV (l1.dropWhile isBl)).map fun p => ((n, p.1), p.2) := by
  unfold quotedV
  cases h1 : isP [34] (l1.dropWhile isBl) with
  | some r => exact attrQ_until h (isP_cons h1) (.inl rfl)
  | none => cases h2 : isP [39] (l1.dropWhile isBl) with
    | some r => exact attrQ_until h (isP_cons h2) (.inr rfl)
    | none => rw [attrQ_other h h1 h2]; rfl
theorem w_quoted (g : Nat) (L : List UInt8) (w : World) (h : Wk w g L) (hT : Tg w g) :
    Calls Tryz.prog 52 #[.pointer (some ⟨g, 0, none⟩)] w fun e w' => UntilEnd g (quotedV L) e w' ∧ Fr (Just g) w w' := by
  have hp1 := w_pass ⟨#[34]⟩ g L w h
  unfold quotedV
  cases h1 : isP [34] L with
  | some r =>
    rw [show isP (⟨#[34]⟩ : ByteArray).data.toList L = some r from h1] at hp1
    have hun := fun u hu hu2 => w_until 34 (by decide) g r u hu hu2
    show Calls _ _ _ _ fun e w' => UntilEnd g (untilV 34 r) e w' ∧ Fr (Just g) w w'
    generalize untilV 34 r = q at hun ⊢
    have HP1 := Lib.hid hp1; have HUN := Lib.hid hun
    clear hp1 hun h h1
    go_enter Tryz.func52, Tryz.ntmps52
    cases q with
    | none =>
      go_wp2_with (first
        | (go_at_call 20; refine HP1.out.mono ?_; rintro e w1 ⟨rfl, hw1, hf1⟩)
        | (go_at_call 63; refine (HUN.out _ hw1 (hT.fr hf1)).mono ?_; rintro e w2 ⟨⟨V, rfl⟩, hf2⟩))
      go_ret2
      exact ⟨⟨V, rfl⟩, hf1.trans hf2⟩
    | some q =>
      obtain ⟨v, rest⟩ := q
      go_wp2_with (first
        | (go_at_call 20; refine HP1.out.mono ?_; rintro e w1 ⟨rfl, hw1, hf1⟩)
        | (go_at_call 63; refine (HUN.out _ hw1 (hT.fr hf1)).mono ?_; rintro e w2 ⟨⟨V, rfl, hV, hw2⟩, hf2⟩))
      go_ret2
      exact ⟨⟨V, rfl, hV, hw2⟩, hf1.trans hf2⟩
  | none =>
    rw [show isP (⟨#[34]⟩ : ByteArray).data.toList L = none from h1] at hp1
    have hp2 := fun u hu => w_pass ⟨#[39]⟩ g L u hu
    have tok1 : True := trivial
    cases h2 : isP [39] L with
    | some r =>
      rw [show isP (⟨#[39]⟩ : ByteArray).data.toList L = some r from h2] at hp2
      have hun := fun u hu hu2 => w_until 39 (by decide) g r u hu hu2
      show Calls _ _ _ _ fun e w' => UntilEnd g (untilV 39 r) e w' ∧ Fr (Just g) w w'
      generalize untilV 39 r = q at hun ⊢
      have HP1 := Lib.hid hp1; have HP2 := Lib.hid hp2; have HUN := Lib.hid hun
      clear hp1 hp2 hun h h1 h2
      go_enter Tryz.func52, Tryz.ntmps52
      cases q with
      | none =>
        go_wp2_with (first
          | (go_at_call 20; clear tok1; refine HP1.out.mono ?_; rintro e w1 ⟨rfl, hw1, hf1⟩)
          | (go_at_call 20; refine (HP2.out _ hw1).mono ?_; rintro e w2 ⟨rfl, hw2, hf2⟩)
          | (go_at_call 63; refine (HUN.out _ hw2 (hT.fr (hf1.trans hf2))).mono ?_; rintro e w3 ⟨⟨V, rfl⟩, hf3⟩))
        go_ret2
        exact ⟨⟨V, rfl⟩, (hf1.trans hf2).trans hf3⟩
      | some q =>
        obtain ⟨v, rest⟩ := q
        go_wp2_with (first
          | (go_at_call 20; clear tok1; refine HP1.out.mono ?_; rintro e w1 ⟨rfl, hw1, hf1⟩)
          | (go_at_call 20; refine (HP2.out _ hw1).mono ?_; rintro e w2 ⟨rfl, hw2, hf2⟩)
          | (go_at_call 63; refine (HUN.out _ hw2 (hT.fr (hf1.trans hf2))).mono ?_; rintro e w3 ⟨⟨V, rfl, hV, hw3⟩, hf3⟩))
        go_ret2
        exact ⟨⟨V, rfl, hV, hw3⟩, (hf1.trans hf2).trans hf3⟩
    | none =>
      rw [show isP (⟨#[39]⟩ : ByteArray).data.toList L = none from h2] at hp2
      have HP1 := Lib.hid hp1; have HP2 := Lib.hid hp2
      clear hp1 hp2 h h1 h2
      go_enter Tryz.func52, Tryz.ntmps52
      go_wp2_with (first
        | (go_at_call 20; clear tok1; refine HP1.out.mono ?_; rintro e w1 ⟨rfl, hw1, hf1⟩)
        | (go_at_call 20; refine (HP2.out _ hw1).mono ?_; rintro e w2 ⟨rfl, hw2, hf2⟩))
      go_ret2
      exact ⟨⟨⟨#[]⟩, rfl⟩, hf1.trans hf2⟩

/-- what an attribute's call leaves -/
def AttEnd (g : Nat) (r : Option ((List UInt8 × List UInt8) × List UInt8)) (e : Ending) (w' : World) : Prop := match r with
  | some (a, rest) => ∃ X Y : ByteArray, e = .returned (.tuple #[.agg #[.string X, .string Y], .bool true]) ∧ X.data.toList = a.1 ∧ Y.data.toList = a.2 ∧ Wk w' g rest
  | none => ∃ X Y : ByteArray, e = .returned (.tuple #[.agg #[.string X, .string Y], .bool false])
theorem cells2 {w : World} {g : Nat} {t : TypeId} {a b : Value} (h : Bk w g t [a, b]) : w.cell? ⟨g, 0, none⟩ = some a ∧ w.cell? ⟨g, 1, none⟩ = some b ∧ w.frozen? ⟨g, 0, none⟩ = false ∧ w.frozen? ⟨g, 1, none⟩ = false := ⟨h.cell 0, h.cell 1, h.frozen 0, h.frozen 1⟩
theorem put2_cells {w : World} {g : Nat} {t : TypeId} {a' b' : Value} (h : Bk w g t [a', b']) (a b : Value) :
    (w.setCell ⟨g, 0, none⟩ a).cell? ⟨g, 0, none⟩ = some a ∧ ((w.setCell ⟨g, 0, none⟩ a).setCell ⟨g, 1, none⟩ b).cell? ⟨g, 1, none⟩ = some b :=
  ⟨(h.set_ 0 a).cell 0, ((h.set_ 0 a).set_ 1 b).cell 1⟩
set_option maxRecDepth 100000 in
theorem w_attr (g : Nat) (L : List UInt8) (w : World) (h : Wk w g L) (hT : Tg w g) (hfi : bgB isFi L = true) :
    Calls Tryz.prog 38 #[.pointer (some ⟨g, 0, none⟩)] w fun e w' => AttEnd g (attrQ (nameR L) ((L.dropWhile isWi).dropWhile isBl)) e w' ∧ Fr (Just g) w w' := by
  have hnm := fun u hu => w_name g L u hu
  rw [if_pos hfi] at hnm
  generalize nameR L = nm at hnm ⊢
  generalize L.dropWhile isWi = L1 at hnm ⊢
  have hb1 := fun u hu => w_blanks g L1 u hu
  generalize L1.dropWhile isBl = L2 at hb1 ⊢
  have hp := fun u hu => w_pass ⟨#[61]⟩ g L2 u hu
  have hgw := h.lt
  have hb0 : Bk (w.alloc (.cells #[.string ⟨#[]⟩, .string ⟨#[]⟩] 46)) w.heap.size 46 [.string ⟨#[]⟩, .string ⟨#[]⟩] := Bk.new w _ _
  have hfa : Fr No w (w.alloc (.cells #[.string ⟨#[]⟩, .string ⟨#[]⟩] 46)) := (Fr.refl _ w).alloc _
  have hne : ¬ Just g w.heap.size := fun e => absurd (show w.heap.size = g from e) (by omega)
  have tok1 : True := trivial
  cases hq : isP [61] L2 with
  | none =>
    rw [show isP (⟨#[61]⟩ : ByteArray).data.toList L2 = none from hq] at hp
    rw [attrQ_eq hq]
    have H := Lib.hid (h.no hfa); have HNM := Lib.hid hnm; have HB1 := Lib.hid hb1; have HP := Lib.hid hp; have HB0 := Lib.hid hb0; have HFA := Lib.hid hfa; have HNE := Lib.hid hne
    clear h hnm hb1 hp hb0 hfa hne hq hfi
    go_enter Tryz.func38, Tryz.ntmps38
    go_wp2_with (first
      | (go_at_call 34; refine (HNM.out _ H.out).mono ?_; rintro e w1 ⟨R, rfl, hR, hw1, hf1⟩)
      | (go_at_call 35; refine (HB1.out _ hw1).mono ?_; rintro e w2 ⟨rfl, hw2, hf2⟩)
      | (go_at_call 20; refine (HP.out _ hw2).mono ?_; rintro e w3 ⟨rfl, hw3, hf3⟩; have hbk := ((HB0.out.fr hf1 HNE.out).fr hf2 HNE.out).fr hf3 HNE.out; obtain ⟨b0, b1, f0, f1⟩ := cells2 hbk))
    obtain ⟨q0, q1⟩ := put2_cells hbk (.string ⟨#[]⟩) (.string ⟨#[]⟩)
    refine bodyPost_ret (v := .tuple #[.agg #[.string ⟨#[]⟩, .string ⟨#[]⟩], .bool false]) (by simp [results, Tryz.results38, go_sem, q0, q1]) rfl ?_
    exact ⟨⟨_, _, rfl⟩, (((HFA.out.no.trans ((hf1.trans hf2).trans hf3)).setCell (p := ⟨w.heap.size, 0, none⟩) (.inr (Nat.le_refl _)) _).setCell (p := ⟨w.heap.size, 1, none⟩) (.inr (Nat.le_refl _)) _)⟩
  | some L3 =>
    rw [show isP (⟨#[61]⟩ : ByteArray).data.toList L2 = some L3 from hq] at hp
    rw [attrQ_quoted hq]
    have hb2 := fun u hu => w_blanks g L3 u hu
    generalize L3.dropWhile isBl = L4 at hb2 ⊢
    have hqu := fun u hu hu2 => w_quoted g L4 u hu hu2
    generalize quotedV L4 = q at hqu ⊢
    have H := Lib.hid (h.no hfa); have HNM := Lib.hid hnm; have HB1 := Lib.hid hb1; have HP := Lib.hid hp; have HB0 := Lib.hid hb0; have HFA := Lib.hid hfa; have HNE := Lib.hid hne; have HB2 := Lib.hid hb2; have HQU := Lib.hid hqu; have HT := Lib.hid (hT.no hfa)
    clear h hnm hb1 hp hb0 hfa hne hq hfi hb2 hqu hT
    go_enter Tryz.func38, Tryz.ntmps38
    cases q with
    | none =>
      go_wp2_with (first
        | (go_at_call 34; refine (HNM.out _ H.out).mono ?_; rintro e w1 ⟨R, rfl, hR, hw1, hf1⟩)
        | (go_at_call 35; clear tok1; refine (HB1.out _ hw1).mono ?_; rintro e w2 ⟨rfl, hw2, hf2⟩)
        | (go_at_call 20; refine (HP.out _ hw2).mono ?_; rintro e w3 ⟨rfl, hw3, hf3⟩)
        | (go_at_call 35; refine (HB2.out _ hw3).mono ?_; rintro e w4 ⟨rfl, hw4, hf4⟩; have hf14 := ((hf1.trans hf2).trans hf3).trans hf4)
        | (go_at_call 52; refine (HQU.out _ hw4 (HT.out.fr hf14)).mono ?_; rintro e w5 ⟨⟨V, rfl⟩, hf5⟩; have hbk := (HB0.out.fr hf14 HNE.out).fr hf5 HNE.out; obtain ⟨b0, b1, f0, f1⟩ := cells2 hbk))
      obtain ⟨q0, q1⟩ := put2_cells hbk (.string R) (.string V)
      refine bodyPost_ret (v := .tuple #[.agg #[.string R, .string V], .bool false]) (by simp [results, Tryz.results38, go_sem, q0, q1]) rfl ?_
      exact ⟨⟨_, _, rfl⟩, (((HFA.out.no.trans (hf14.trans hf5)).setCell (p := ⟨w.heap.size, 0, none⟩) (.inr (Nat.le_refl _)) _).setCell (p := ⟨w.heap.size, 1, none⟩) (.inr (Nat.le_refl _)) _)⟩
    | some q =>
      obtain ⟨v, rest⟩ := q
      go_wp2_with (first
        | (go_at_call 34; refine (HNM.out _ H.out).mono ?_; rintro e w1 ⟨R, rfl, hR, hw1, hf1⟩)
        | (go_at_call 35; clear tok1; refine (HB1.out _ hw1).mono ?_; rintro e w2 ⟨rfl, hw2, hf2⟩)
        | (go_at_call 20; refine (HP.out _ hw2).mono ?_; rintro e w3 ⟨rfl, hw3, hf3⟩)
        | (go_at_call 35; refine (HB2.out _ hw3).mono ?_; rintro e w4 ⟨rfl, hw4, hf4⟩; have hf14 := ((hf1.trans hf2).trans hf3).trans hf4)
        | (go_at_call 52; refine (HQU.out _ hw4 (HT.out.fr hf14)).mono ?_; rintro e w5 ⟨⟨V, rfl, hV, hw5⟩, hf5⟩; have hbk := (HB0.out.fr hf14 HNE.out).fr hf5 HNE.out; obtain ⟨b0, b1, f0, f1⟩ := cells2 hbk))
      obtain ⟨q0, q1⟩ := put2_cells hbk (.string R) (.string V)
      refine bodyPost_ret (v := .tuple #[.agg #[.string R, .string V], .bool true]) (by simp [results, Tryz.results38, go_sem, q0, q1]) rfl ?_
      refine ⟨⟨R, V, rfl, hR, hV, ?_⟩, (((HFA.out.no.trans (hf14.trans hf5)).setCell (p := ⟨w.heap.size, 0, none⟩) (.inr (Nat.le_refl _)) _).setCell (p := ⟨w.heap.size, 1, none⟩) (.inr (Nat.le_refl _)) _)⟩
      exact hw5.fr (((Fr.refl (fun i => i = w.heap.size) w5).setCell (p := ⟨w.heap.size, 0, none⟩) (.inl rfl) _).setCell (p := ⟨w.heap.size, 1, none⟩) (.inl rfl) _) (fun e => by have : g = w.heap.size := e; omega)
end Go.Proofs.YthkbdbgmfolpeaaGreatDoor
