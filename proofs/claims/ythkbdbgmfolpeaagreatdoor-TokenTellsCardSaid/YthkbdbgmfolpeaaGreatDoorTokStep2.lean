/- What package token does: an element's end; a text. -/
import Derived.Test.YthkbdbgmfolpeaaGreatDoorTokStep
namespace Go.Proofs.YthkbdbgmfolpeaaGreatDoor
open Go.RowKit
set_option maxHeartbeats 400000
set_option linter.unusedVariables false

/-- what a step leaves -/
def StepEnd (g base : Nat) (r : Option (Tok × List UInt8)) (e : Ending) (w' : World) : Prop := match r with
  | some (t, rest) => ∃ (X Y : ByteArray) (A : Option Addr) (n c : Nat), e = .returned (.tuple #[.agg #[.int .i64 t.kind, .string X, .string Y, .slice A n c, .bool t.empty], .bool true]) ∧ X.data.toList = t.name ∧ Y.data.toList = t.text ∧
      RdI 2 AttrI w' (fun i => base ≤ i ∧ i < w'.heap.size) A n c t.attrs ∧ Wk w' g rest
  | none => ∃ (k : Int) (X Y : ByteArray) (A : Option Addr) (n c : Nat) (em : Bool), e = .returned (.tuple #[.agg #[.int .i64 k, .string X, .string Y, .slice A n c, .bool em], .bool false])

set_option maxRecDepth 100000 in
theorem w_closing (g : Nat) (L : List UInt8) (w : World) (h : Wk w g L) :
    Calls Tryz.prog 21 #[.pointer (some ⟨g, 0, none⟩)] w fun e w' => StepEnd g w.heap.size (closeQ (nameR L) ((L.dropWhile isWi).dropWhile isBl)) e w' ∧ Fr (Just g) w w' := by
  have hnm := fun u hu => w_name g L u hu
  have hgw := h.lt
  have hb0 : Bk (w.alloc (.cells #[.int .i64 0, .string ⟨#[]⟩, .string ⟨#[]⟩, .slice none 0 0, .bool false] 30)) w.heap.size 30 [.int .i64 0, .string ⟨#[]⟩, .string ⟨#[]⟩, .slice none 0 0, .bool false] := Bk.new w _ _
  have hfa : Fr No w (w.alloc (.cells #[.int .i64 0, .string ⟨#[]⟩, .string ⟨#[]⟩, .slice none 0 0, .bool false] 30)) := (Fr.refl _ w).alloc _
  have hne : ¬ Just g w.heap.size := fun e => absurd (show w.heap.size = g from e) (by omega)
  cases hfi : bgB isFi L with
  | false =>
    rw [hfi, if_neg (by decide)] at hnm
    have hn0 : nameR L = [] := by rw [nameR_bg, hfi]; rfl
    have hres : ∀ x, closeQ (nameR L) x = none := fun x => by unfold closeQ; rw [if_pos hn0]
    rw [hres]
    rw [hn0] at hnm
    have hb1 := fun u hu => w_blanks g L u hu
    have H := Lib.hid (h.no hfa); have HNM := Lib.hid hnm; have HB1 := Lib.hid hb1; have HB0 := Lib.hid hb0; have HFA := Lib.hid hfa; have HNE := Lib.hid hne
    clear h hnm hb1 hb0 hfa hne hfi hn0 hres
    go_enter Tryz.func21, Tryz.ntmps21
    go_wp2_with (first
      | (go_at_call 34; refine (HNM.out _ H.out).mono ?_; rintro e w1 ⟨R, rfl, hR, hw1, hf1⟩; have hRe : (R.toList == []) = true := (by rw [ba_list, hR]; rfl))
      | (go_at_call 35; refine (HB1.out _ hw1).mono ?_; rintro e w2 ⟨rfl, hw2, hf2⟩; have hbk := (HB0.out.fr hf1 HNE.out).fr hf2 HNE.out; obtain ⟨b0, b1, b2, b3, b4, f0, f1, f2, f3, f4⟩ := cells5 hbk))
    obtain ⟨q0, q1, q2, q3, q4⟩ := put5_cells hbk (.int .i64 2) (.string R) (.string ⟨#[]⟩) (.slice none 0 0) (.bool false)
    refine bodyPost_ret (v := .tuple #[.agg #[.int .i64 2, .string R, .string ⟨#[]⟩, .slice none 0 0, .bool false], .bool false]) (by simp [results, Tryz.results21, go_sem, q0, q1, q2, q3, q4]) rfl ?_
    exact ⟨⟨_, _, _, _, _, _, _, rfl⟩, put5_fr (HFA.out.no.trans (hf1.trans hf2)) (.inr (Nat.le_refl _)) _ _ _ _ _⟩
  | true =>
    rw [hfi, if_pos rfl] at hnm
    have hnn : nameR L ≠ [] := by
      rw [nameR_bg, hfi, if_pos rfl, bg_ne]
      cases L with
      | nil => cases hfi
      | cons c r => exact isWi_of hfi
    have hb1 := fun u hu => w_blanks g (L.dropWhile isWi) u hu
    generalize (L.dropWhile isWi).dropWhile isBl = L2 at hb1 ⊢
    have hp := fun u hu => w_pass ⟨#[62]⟩ g L2 u hu
    cases hq : isP [62] L2 with
    | none =>
      rw [show isP (⟨#[62]⟩ : ByteArray).data.toList L2 = none from hq] at hp
      have hres : closeQ (nameR L) L2 = none := by unfold closeQ; rw [if_neg hnn, hq]; rfl
      rw [hres]
      have H := Lib.hid (h.no hfa); have HNM := Lib.hid hnm; have HB1 := Lib.hid hb1; have HB0 := Lib.hid hb0; have HFA := Lib.hid hfa; have HNE := Lib.hid hne; have HP := Lib.hid hp; have HNN := Lib.hid hnn
      clear h hnm hb1 hb0 hfa hne hfi hnn hres hp hq
      go_enter Tryz.func21, Tryz.ntmps21
      go_wp2_with (first
        | (go_at_call 34; refine (HNM.out _ H.out).mono ?_; rintro e w1 ⟨R, rfl, hR, hw1, hf1⟩; have hRe : (R.toList == []) = false := (by rw [ba_list, hR, beq_eq_false_iff_ne]; exact HNN.out))
        | (go_at_call 35; refine (HB1.out _ hw1).mono ?_; rintro e w2 ⟨rfl, hw2, hf2⟩)
        | (go_at_call 20; refine (HP.out _ hw2).mono ?_; rintro e w3 ⟨rfl, hw3, hf3⟩; have hbk := ((HB0.out.fr hf1 HNE.out).fr hf2 HNE.out).fr hf3 HNE.out; obtain ⟨b0, b1, b2, b3, b4, f0, f1, f2, f3, f4⟩ := cells5 hbk))
      obtain ⟨q0, q1, q2, q3, q4⟩ := put5_cells hbk (.int .i64 2) (.string R) (.string ⟨#[]⟩) (.slice none 0 0) (.bool false)
      refine bodyPost_ret (v := .tuple #[.agg #[.int .i64 2, .string R, .string ⟨#[]⟩, .slice none 0 0, .bool false], .bool false]) (by simp [results, Tryz.results21, go_sem, q0, q1, q2, q3, q4]) rfl ?_
      exact ⟨⟨_, _, _, _, _, _, _, rfl⟩, put5_fr (HFA.out.no.trans ((hf1.trans hf2).trans hf3)) (.inr (Nat.le_refl _)) _ _ _ _ _⟩
    | some r =>
      rw [show isP (⟨#[62]⟩ : ByteArray).data.toList L2 = some r from hq] at hp
      have hres : closeQ (nameR L) L2 = some (⟨2, nameR L, [], [], false⟩, r) := by unfold closeQ; rw [if_neg hnn, hq]; rfl
      rw [hres]
      have H := Lib.hid (h.no hfa); have HNM := Lib.hid hnm; have HB1 := Lib.hid hb1; have HB0 := Lib.hid hb0; have HFA := Lib.hid hfa; have HNE := Lib.hid hne; have HP := Lib.hid hp; have HNN := Lib.hid hnn
      clear h hnm hb1 hb0 hfa hne hfi hnn hres hp hq
      go_enter Tryz.func21, Tryz.ntmps21
      go_wp2_with (first
        | (go_at_call 34; refine (HNM.out _ H.out).mono ?_; rintro e w1 ⟨R, rfl, hR, hw1, hf1⟩; have hRe : (R.toList == []) = false := (by rw [ba_list, hR, beq_eq_false_iff_ne]; exact HNN.out))
        | (go_at_call 35; refine (HB1.out _ hw1).mono ?_; rintro e w2 ⟨rfl, hw2, hf2⟩)
        | (go_at_call 20; refine (HP.out _ hw2).mono ?_; rintro e w3 ⟨rfl, hw3, hf3⟩; have hbk := ((HB0.out.fr hf1 HNE.out).fr hf2 HNE.out).fr hf3 HNE.out; obtain ⟨b0, b1, b2, b3, b4, f0, f1, f2, f3, f4⟩ := cells5 hbk))
      obtain ⟨q0, q1, q2, q3, q4⟩ := put5_cells hbk (.int .i64 2) (.string R) (.string ⟨#[]⟩) (.slice none 0 0) (.bool false)
      refine bodyPost_ret (v := .tuple #[.agg #[.int .i64 2, .string R, .string ⟨#[]⟩, .slice none 0 0, .bool false], .bool true]) (by simp [results, Tryz.results21, go_sem, q0, q1, q2, q3, q4]) rfl ?_
      refine ⟨?_, put5_fr (HFA.out.no.trans ((hf1.trans hf2).trans hf3)) (.inr (Nat.le_refl _)) _ _ _ _ _⟩
      have hy := put5_fr (Fr.refl (fun i => i = w.heap.size) w3) (g := w.heap.size) (.inl rfl) (.int .i64 2) (.string R) (.string ⟨#[]⟩) (.slice none 0 0) (.bool false)
      exact ⟨R, ⟨#[]⟩, none, 0, 0, rfl, hR, rfl, RdI.nil_ _ _ _ _, hw3.fr hy (fun e => by have : g = w.heap.size := e; omega)⟩

set_option maxRecDepth 100000 in
theorem w_loose (g : Nat) (L : List UInt8) (w : World) (h : Wk w g L) (hT : Tg w g) :
    Calls Tryz.prog 23 #[.pointer (some ⟨g, 0, none⟩)] w fun e w' => StepEnd g w.heap.size ((valV (L.takeWhile notLt)).map fun v => (⟨3, [], v, [], false⟩, L.dropWhile notLt)) e w' ∧ Fr (Just g) w w' := by
  have hwh := fun u hu => w_while _ _ tests_kloose g L u hu
  have hlen : (L.takeWhile notLt).length ≤ 65536 := by
    have h1 := congrArg List.length (List.takeWhile_append_dropWhile (p := notLt) (l := L))
    have h2 := h.small
    rw [List.length_append] at h1
    omega
  have hgw := h.lt
  generalize L.dropWhile notLt = D at hwh ⊢
  generalize L.takeWhile notLt = R at hwh hlen ⊢
  have hval : ∀ (X : ByteArray), X.data.toList = R → ∀ u, Tabs u → Calls Tryz.prog 40 #[.string X] u fun e w' => ∃ V : ByteArray, e = .returned (.tuple #[.string V, .bool (valV R).isSome]) ∧ V.data.toList = valB R ∧ Fr No u w' := by
    intro X hX u hu
    have := k_value X (by rw [sz_eq hX]; omega) u hu
    rw [hX] at this
    exact this
  have hb0 : Bk (w.alloc (.cells #[.int .i64 0, .string ⟨#[]⟩, .string ⟨#[]⟩, .slice none 0 0, .bool false] 30)) w.heap.size 30 [.int .i64 0, .string ⟨#[]⟩, .string ⟨#[]⟩, .slice none 0 0, .bool false] := Bk.new w _ _
  have hfa : Fr No w (w.alloc (.cells #[.int .i64 0, .string ⟨#[]⟩, .string ⟨#[]⟩, .slice none 0 0, .bool false] 30)) := (Fr.refl _ w).alloc _
  have hne : ¬ Just g w.heap.size := fun e => absurd (show w.heap.size = g from e) (by omega)
  have H := Lib.hid (h.no hfa); have HWH := Lib.hid hwh; have HVAL := Lib.hid hval; have HB0 := Lib.hid hb0; have HFA := Lib.hid hfa; have HNE := Lib.hid hne; have HT := Lib.hid (hT.no hfa)
  clear h hwh hval hb0 hfa hne hT hlen
  generalize hres : (valV R).map (fun v => ((⟨3, [], v, [], false⟩ : Tok), D)) = res
  have HRES := Lib.hid hres
  clear hres
  go_enter Tryz.func23, Tryz.ntmps23
  go_wp2_with (first
    | (go_at_call 41; refine (HWH.out _ H.out).mono ?_; rintro e w1 ⟨X, rfl, hX, hw1, hf1⟩)
    | (go_at_call 40; refine (HVAL.out X hX _ (HT.out.fr hf1).tabs).mono ?_; rintro e w2 ⟨V, rfl, hV, hf2⟩; have hbk := (HB0.out.fr hf1 HNE.out).no hf2; obtain ⟨b0, b1, b2, b3, b4, f0, f1, f2, f3, f4⟩ := cells5 hbk))
  obtain ⟨q0, q1, q2, q3, q4⟩ := put5_cells hbk (.int .i64 3) (.string ⟨#[]⟩) (.string V) (.slice none 0 0) (.bool false)
  refine bodyPost_ret (v := .tuple #[.agg #[.int .i64 3, .string ⟨#[]⟩, .string V, .slice none 0 0, .bool false], .bool (valV R).isSome]) (by simp [results, Tryz.results23, go_sem, q0, q1, q2, q3, q4]) rfl ?_
  refine ⟨?_, put5_fr (HFA.out.no.trans (hf1.trans hf2.no)) (.inr (Nat.le_refl _)) _ _ _ _ _⟩
  have hy := put5_fr (Fr.refl (fun i => i = w.heap.size) w2) (g := w.heap.size) (.inl rfl) (.int .i64 3) (.string ⟨#[]⟩) (.string V) (.slice none 0 0) (.bool false)
  rw [← HRES.out]
  unfold valB at hV
  cases hz : valV R with
  | none => exact ⟨_, _, _, _, _, _, _, rfl⟩
  | some z =>
    rw [hz] at hV
    exact ⟨⟨#[]⟩, V, none, 0, 0, rfl, rfl, hV, RdI.nil_ _ _ _ _, (hw1.no hf2).fr hy (fun e => by have : g = w.heap.size := e; omega)⟩
end Go.Proofs.YthkbdbgmfolpeaaGreatDoor
