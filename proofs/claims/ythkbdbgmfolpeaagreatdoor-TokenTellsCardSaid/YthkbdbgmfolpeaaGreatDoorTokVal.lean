/- What package token does: a character by its name; what a text tells. -/
import Derived.Test.YthkbdbgmfolpeaaGreatDoorTokNum2
import Derived.Test.YthkbdbgmfolpeaaGreatDoorBuild
namespace Go.Proofs.YthkbdbgmfolpeaaGreatDoor
open Go.RowKit
set_option maxHeartbeats 400000
set_option linter.unusedVariables false

/-! ### a builder of one's own -/
def Bd (w : World) (B b : Nat) (l : List UInt8) : Prop := Lib.IsBuilderF 83 5 B b (Lib.byteCells l) w
theorem Bd.no {a c : World} {B b : Nat} {l : List UInt8} (h : Bd a B b l) (hf : Fr No a c) : Bd c B b l := by
  have key : ∀ p, Lib.BuilderAtF 83 5 B b p (Lib.byteCells l) a → Lib.BuilderAtF 83 5 B b p (Lib.byteCells l) c := by
    rintro p ⟨h1, v, h2, h3, h4⟩
    exact ⟨h1, v, hf.heap h2 (fun x => x), h3.kept hf.grownNone (by by_cases e : v.ownBlock = none; exact .inl e; exact .inr e), h4⟩
  rcases h with h | h
  · exact .inl (key _ h)
  · exact .inr (key _ h)
theorem Bd.dr {a c : World} {B b : Nat} {l : List UInt8} (h : Bd a B b l) (hf : Dr a c) : Bd c B b l := h.no hf.fr
theorem Bd.new (w : World) : Bd (w.alloc (.cells #[.pointer none, .slice none 0 0] 83)) w.heap.size w.heap.size [] := Lib.IsBuilderF.of (Lib.fresh_isBuilder _ _ _)
theorem k_write (B b : Nat) (l : List UInt8) (s : ByteArray) (w : World) (h : Bd w B b l) (hl : l.length ≤ 1000000) (hs : s.size ≤ 1000000) (hB : B ≤ w.heap.size) :
    Calls Tryz.prog 57 #[.pointer (some ⟨b, 0, none⟩), .string s] w fun e w' => e = .returned (.tuple #[.int .i64 s.size, .nilIface]) ∧ Bd w' B b (l ++ s.data.toList) ∧ Below B w w' := by
  refine (sb_write B b _ s w h (by rw [Lib.byteCells_length]; omega) hB).mono ?_
  rintro e w' ⟨rfl, h1, h2, _⟩
  refine ⟨rfl, .inr ?_, h2⟩
  have e1 : Lib.byteCells l ++ Lib.strCells s = Lib.byteCells (l ++ s.data.toList) := by unfold Lib.byteCells Lib.strCells; rw [List.map_append]
  rw [← e1]
  exact h1
theorem k_string (B b : Nat) (l : List UInt8) (w : World) (h : Bd w B b l) (hB : B ≤ w.heap.size) :
    Calls Tryz.prog 58 #[.pointer (some ⟨b, 0, none⟩)] w fun e w' => e = .returned (.string (bstr l)) ∧ Below B w w' := by
  refine (Tryz.Builder_String_any_k B b l w h hB).mono ?_
  rintro e w' ⟨rfl, h1⟩
  exact ⟨rfl, h1.2.1⟩

/-! ### a character by its name -/
theorem k_cutp (S M : ByteArray) (w : World) :
    Calls Tryz.prog 33 #[.string S, .string M] w fun e w' => ∃ T : ByteArray, e = .returned (.tuple #[.string T, .bool (isP M.data.toList S.data.toList).isSome]) ∧ T.data.toList = (isP M.data.toList S.data.toList).getD S.data.toList ∧ w = w' := by
  refine (Tryz.strings_CutPrefix S M w).mono ?_
  rintro e w' ⟨rfl, rfl⟩
  have e1 : Lib.hasPrefix S.data.toList M.data.toList = (isP M.data.toList S.data.toList).isSome := by
    unfold Lib.hasPrefix isP; cases M.data.toList.isPrefixOf S.data.toList <;> rfl
  have e2 : Lib.trimPrefix S.data.toList M.data.toList = (isP M.data.toList S.data.toList).getD S.data.toList := by
    unfold Lib.trimPrefix Lib.hasPrefix isP; split <;> rfl
  rw [e1, e2]
  exact ⟨_, rfl, rfl, rfl⟩
/-- what an answer (text, yes) is, against what should be told -/
def Told (r : Option (List UInt8)) (e : Ending) : Prop := ∃ X : ByteArray, e = .returned (.tuple #[.string X, .bool r.isSome]) ∧ (r.isSome = true → some X.data.toList = r)
theorem Told.lit (l : List UInt8) : Told (some l) (.returned (.tuple #[.string (bstr l), .bool true])) := ⟨bstr l, rfl, fun _ => rfl⟩
theorem k_character (s : ByteArray) (hs : s.size ≤ 65536) (w : World) (hT : Tabs w) :
    Calls Tryz.prog 56 #[.string s] w fun e w' => Told (entV s.data.toList) e ∧ Fr No w w' := by
  obtain ⟨l, hl⟩ : ∃ l, s.data.toList = l := ⟨_, rfl⟩
  have hq : ∀ m : List UInt8, (s.toList == m) = decide (l = m) := fun m => by rw [ba_list, hl, Bool.eq_iff_iff]; simp
  have q0 := hq [108, 116]; have q1 := hq [103, 116]; have q2 := hq [97, 109, 112]; have q3 := hq [113, 117, 111, 116]; have q4 := hq [97, 112, 111, 115]
  clear hq
  rw [hl]
  by_cases h0 : l = [108, 116]
  · rw [decide_eq_true h0] at q0
    rw [h0]
    clear q1 q2 q3 q4 hl h0
    go_enter Tryz.func56, Tryz.ntmps56
    go_wp2
    go_ret2
    exact ⟨Told.lit [60], Fr.refl _ _⟩
  rw [decide_eq_false h0] at q0
  by_cases h1 : l = [103, 116]
  · rw [decide_eq_true h1] at q1
    rw [h1]
    clear q2 q3 q4 hl h0 h1
    go_enter Tryz.func56, Tryz.ntmps56
    go_wp2
    go_ret2
    exact ⟨Told.lit [62], Fr.refl _ _⟩
  rw [decide_eq_false h1] at q1
  by_cases h2 : l = [97, 109, 112]
  · rw [decide_eq_true h2] at q2
    rw [h2]
    clear q3 q4 hl h0 h1 h2
    go_enter Tryz.func56, Tryz.ntmps56
    go_wp2
    go_ret2
    exact ⟨Told.lit [38], Fr.refl _ _⟩
  rw [decide_eq_false h2] at q2
  by_cases h3 : l = [113, 117, 111, 116]
  · rw [decide_eq_true h3] at q3
    rw [h3]
    clear q4 hl h0 h1 h2 h3
    go_enter Tryz.func56, Tryz.ntmps56
    go_wp2
    go_ret2
    exact ⟨Told.lit [34], Fr.refl _ _⟩
  rw [decide_eq_false h3] at q3
  by_cases h4 : l = [97, 112, 111, 115]
  · rw [decide_eq_true h4] at q4
    rw [h4]
    clear hl h0 h1 h2 h3 h4
    go_enter Tryz.func56, Tryz.ntmps56
    go_wp2
    go_ret2
    exact ⟨Told.lit [39], Fr.refl _ _⟩
  rw [decide_eq_false h4] at q4
  have hE := entV_prog (s := l) (by
    intro j hj
    match j, hj with
    | 0, _ => exact h0
    | 1, _ => exact h1
    | 2, _ => exact h2
    | 3, _ => exact h3
    | 4, _ => exact h4)
  clear h0 h1 h2 h3 h4
  have hc1 := fun u => k_cutp s ⟨#[35, 120]⟩ u
  have hc2 := fun u => k_cutp s ⟨#[35]⟩ u
  have hsl := sz_eq hl
  cases hx : isP [35, 120] l with
  | some r =>
    rw [hl, show isP (⟨#[35, 120]⟩ : ByteArray).data.toList l = some r from hx] at hc1
    rw [hx] at hE
    have hlen := (isP_len hx).2
    have hn := fun (T : ByteArray) (hT2 : T.data.toList = r) u hu => k_numbered T 16 6 (.inr ⟨rfl, rfl⟩) (by rw [sz_eq hT2]; omega) u hu
    have hE : entV l = numQ 16 6 r := hE
    rw [hE]
    have HC1 := Lib.hid hc1; have HN := Lib.hid hn
    clear hc1 hc2 hn hE hl hx hsl
    go_enter Tryz.func56, Tryz.ntmps56
    go_wp2_with (first
      | (go_at_call 33; refine (HC1.out _).mono ?_; rintro e w' ⟨T, rfl, hT2, rfl⟩)
      | (go_at_call 66; refine (HN.out T hT2 _ hT).mono ?_; rintro e w2 ⟨⟨X, rfl, hX⟩, hf⟩; rw [show T.data.toList = r from hT2] at hX))
    go_ret2
    exact ⟨⟨X, rfl, hX⟩, hf⟩
  | none =>
    rw [hl, show isP (⟨#[35, 120]⟩ : ByteArray).data.toList l = none from hx] at hc1
    rw [hx] at hE
    cases hy : isP [35] l with
    | some r =>
      rw [hl, show isP (⟨#[35]⟩ : ByteArray).data.toList l = some r from hy] at hc2
      rw [hy] at hE
      have hlen := (isP_len hy).2
      have hn := fun (T : ByteArray) (hT2 : T.data.toList = r) u hu => k_numbered T 10 7 (.inl ⟨rfl, rfl⟩) (by rw [sz_eq hT2]; omega) u hu
      have hE : entV l = numQ 10 7 r := hE
      rw [hE]
      have HC1 := Lib.hid hc1; have HC2 := Lib.hid hc2; have HN := Lib.hid hn
      clear hc1 hc2 hn hE hl hx hsl hy
      have tok1 : True := trivial
      go_enter Tryz.func56, Tryz.ntmps56
      go_wp2_with (first
        | (go_at_call 33; clear tok1; refine (HC1.out _).mono ?_; rintro e w' ⟨T1, rfl, _, rfl⟩)
        | (go_at_call 33; refine (HC2.out _).mono ?_; rintro e w' ⟨T, rfl, hT2, rfl⟩)
        | (go_at_call 66; refine (HN.out T hT2 _ hT).mono ?_; rintro e w2 ⟨⟨X, rfl, hX⟩, hf⟩; rw [show T.data.toList = r from hT2] at hX))
      go_ret2
      exact ⟨⟨X, rfl, hX⟩, hf⟩
    | none =>
      rw [hl, show isP (⟨#[35]⟩ : ByteArray).data.toList l = none from hy] at hc2
      rw [hy] at hE
      have hE : entV l = none := hE
      rw [hE]
      have HC1 := Lib.hid hc1; have HC2 := Lib.hid hc2
      clear hc1 hc2 hE hl hx hsl hy
      have tok1 : True := trivial
      go_enter Tryz.func56, Tryz.ntmps56
      go_wp2_with (first
        | (go_at_call 33; clear tok1; refine (HC1.out _).mono ?_; rintro e w' ⟨T1, rfl, _, rfl⟩)
        | (go_at_call 33; refine (HC2.out _).mono ?_; rintro e w' ⟨T, rfl, _, rfl⟩))
      go_ret2
      exact ⟨⟨⟨#[]⟩, rfl, fun e => by cases e⟩, Fr.refl _ _⟩
end Go.Proofs.YthkbdbgmfolpeaaGreatDoor
