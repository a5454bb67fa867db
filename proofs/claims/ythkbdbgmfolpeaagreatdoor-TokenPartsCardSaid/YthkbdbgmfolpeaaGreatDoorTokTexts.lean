/- The statements' own escapes; TokenTexts: the walk, for every text. -/
import Derived.Test.YthkbdbgmfolpeaaGreatDoorTokMath2
import Derived.Test.YthkbdbgmfolpeaaGreatDoorTokAwake
namespace Go.Proofs.YthkbdbgmfolpeaaGreatDoor
open Go.RowKit
set_option maxHeartbeats 400000
set_option linter.unusedVariables false

theorem escL_snoc (S : ByteArray) (k : Nat) (h : k < S.size) : escL (S.data.toList.take (k + 1)) = escL (S.data.toList.take k) ++ escB S[k] := by
  rw [List.take_succ_eq_append_getElem (by rw [size_list]; exact h), escL_app, escL_cons, show escL [] = [] from rfl, List.append_nil]
  rfl
/-! ### TokenTexts -/
theorem tok_answers {l : List UInt8} {ts : List Tok} (h1 : l.length ≤ 4096) (h2 : utf8B l = true) (h3 : isP prologL l = none) (h4 : toksV l = some ts) : tokE l = 0 ∧ tokL l = ts := by
  have hb : bodyL l = l := by unfold bodyL; rw [h3]; rfl
  have he : tokE l = 0 := by
    unfold tokE
    rw [if_neg (by omega), h2, hb, h4]
    rfl
  refine ⟨he, ?_⟩
  unfold tokL
  rw [he, hb, h4]
  rfl
/-- an element with a text as its attribute, and within -/
def textT (l : List UInt8) : List UInt8 := [60, 97, 32, 98, 61, 34] ++ escL l ++ [34, 62] ++ escL l ++ [60, 47, 97, 62]
def textK (l : List UInt8) : List Tok := ⟨1, [97], [], [([98], l)], false⟩ :: ((if l = [] then [] else [⟨3, [], l, [], false⟩]) ++ [⟨2, [97], [], [], false⟩])
theorem nil_bl : allBl [] := fun x hx => by cases hx
theorem text_close : toksV [60, 47, 97, 62] = some [⟨2, [97], [], [], false⟩] := by
  exact (toks_step (l := [60, 47, 97, 62]) (by simp) (tok_close (n := [97]) (g := []) (r := []) rfl nil_bl)).trans (by rw [toksV_nil]; rfl)
theorem text_toks (l : List UInt8) : toksV (textT l) = some (textK l) := by
  have e : textT l = 60 :: ([97] ++ ([32] ++ ([98] ++ ([] ++ (61 :: ([] ++ (34 :: (escL l ++ (34 :: ([] ++ (62 :: (escL l ++ [60, 47, 97, 62])))))))))))) := by simp [textT]
  have h1 : tokP (textT l) = some (⟨1, [97], [], [([98], l)], false⟩, escL l ++ [60, 47, 97, 62]) := by
    rw [e, tok_open rfl (fun x q e => by injection e with e _; subst e; decide), open_attr (fun x hx => by simp at hx; subst hx; decide) (by simp) rfl (fun _ h => by cases h) nil_bl nil_bl, open_end nil_bl]
    rfl
  rw [toks_step (by simp [textT]) h1]
  unfold textK
  by_cases hl : l = []
  · subst hl
    rw [show escL [] ++ [60, 47, 97, 62] = [60, 47, 97, 62] from rfl, text_close]
    rfl
  · have h2 := tok_text (s := l) (r := [60, 47, 97, 62]) hl (fun x q e => by injection e with e _; exact e.symm)
    obtain ⟨x, q, e2, _⟩ := esc_head (r := [60, 47, 97, 62]) hl
    rw [toks_step (by rw [e2]; simp) h2, text_close, if_neg hl]
    rfl
theorem text_utf8 {l : List UInt8} (h : utf8B l = true) : utf8B (textT l) = true := by
  have he := utf8_esc _ l (Nat.le_refl _) h
  unfold textT
  exact (runes_app (runes_app (runes_app (runes_app (by decide) he).1 (by decide)).1 he).1 (by decide)).1
theorem text_prolog (l : List UInt8) : isP prologL (textT l) = none := by
  unfold textT isP
  rw [if_neg]
  simp [prologL]
theorem text_len {l : List UInt8} (h : l.length ≤ 300) : (textT l).length ≤ 4096 := by
  have := (escL_len l).2
  simp [textT]
  omega

/-- the element's attribute, and its text -/
theorem text_cells {w : World} {N : Nat → Prop} {A : Option Addr} {n c : Nat} {S : ByteArray} (h : RdI 5 TokI w N A n c (textK S.data.toList)) : ∃ ad bd y, A = some ad ∧ w.cell? ⟨ad.block, ad.off + 3, none⟩ = some (.slice (some bd) 1 y) ∧ w.cell? ⟨bd.block, bd.off + 1, none⟩ = some (.string S) ∧
    ((S.toList = [] ∧ n = 2) ∨ (S.toList ≠ [] ∧ n = 3 ∧ w.cell? ⟨ad.block, ad.off + 5 + 2, none⟩ = some (.string S))) := by
  have hn := h.len tok_ok (by omega)
  obtain ⟨ad, cs, rfl, ⟨X, Y, A1, n1, x1, rfl, hX, hY, hA1⟩, hc⟩ := h.at_ tok_ok (by omega) (i := 0) (by unfold textK; simp)
  have c3 := hc 3 _ rfl
  rw [add_next ad, Nat.zero_mul, add_zero] at c3
  have hA2 : RdI 2 AttrI w N A1 n1 x1 [([98], S.data.toList)] := hA1
  have hn1 := hA2.len attr_ok (by omega)
  obtain ⟨bd, ds, rfl, ⟨X', Y', rfl, hX', hY'⟩, hd⟩ := hA2.at_ attr_ok (by omega) (i := 0) (by simp)
  have d1 := hd 1 _ rfl
  rw [add_next bd, Nat.zero_mul, add_zero] at d1
  have hYS : Y' = S := by
    have : Y'.data.toList = S.data.toList := hY'
    rw [← bstr_self Y', ← bstr_self S, this]
  subst hYS
  refine ⟨ad, bd, x1, rfl, by rw [c3, ← hn1]; rfl, d1, ?_⟩
  by_cases hl : Y'.data.toList = []
  · exact .inl ⟨by rw [ba_list, hl], by rw [← hn]; unfold textK; rw [if_pos hl]; rfl⟩
  · refine .inr ⟨by rw [ba_list]; exact hl, by rw [← hn]; unfold textK; rw [if_neg hl]; rfl, ?_⟩
    have hk : textK Y'.data.toList = [⟨1, [97], [], [([98], Y'.data.toList)], false⟩, ⟨3, [], Y'.data.toList, [], false⟩, ⟨2, [97], [], [], false⟩] := by unfold textK; rw [if_neg hl]; rfl
    rw [hk] at h
    obtain ⟨ad', cs', e1, ⟨X2, Y2, A2, n2, x2, rfl, hX2, hY2, hA3⟩, hc2⟩ := h.at_ tok_ok (by omega) (i := 1) (by simp)
    injection e1 with e1
    subst e1
    have c2 := hc2 2 _ rfl
    rw [show ad.add (1 * 5 + 2) = ⟨ad.block, ad.off + 5 + 2, none⟩ from by simp [Addr.add]] at c2
    have hY2' : Y2 = Y' := by
      have : Y2.data.toList = Y'.data.toList := hY2
      rw [← bstr_self Y2, ← bstr_self Y', this]
    rw [c2, hY2']
end Go.Proofs.YthkbdbgmfolpeaaGreatDoor
