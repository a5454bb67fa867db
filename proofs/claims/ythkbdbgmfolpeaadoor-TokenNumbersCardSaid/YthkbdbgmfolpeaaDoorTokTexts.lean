/- The statements' own escapes; TokenTexts: the walk, for every text. -/
import Derived.Test.YthkbdbgmfolpeaaDoorTokMath2
import Derived.Test.YthkbdbgmfolpeaaDoorTokAwake
namespace Go.Proofs.YthkbdbgmfolpeaaDoor
open Go.RowKit
set_option maxHeartbeats 400000
set_option linter.unusedVariables false

theorem escL_snoc (S : ByteArray) (k : Nat) (h : k < S.size) : escL (S.data.toList.take (k + 1)) = escL (S.data.toList.take k) ++ escB S[k] := by
  rw [List.take_succ_eq_append_getElem (by rw [size_list]; exact h), escL_app, escL_cons, show escL [] = [] from rfl, List.append_nil]
  rfl
theorem r_esc_any (S R : ByteArray) (w : World) (hs : S.size ≤ 65536) (hR : R.data.toList = escL S.data.toList) :
    Calls Tryd.prog 10 #[.string S] w fun e w' => e = .returned (.string R) ∧ w = w' := by
  have hsl := size_list S
  have HSL := Lib.hid hsl; have HR := Lib.hid hR
  clear hsl hR
  go_enter Tryd.func10, Tryd.ntmps10
  go_wp2
  go_loop [3, 4] (fun ov iv => ∃ (k : Nat) (O : ByteArray), ov = .string O ∧ iv = .int .i64 (k : Int) ∧ k ≤ S.size ∧ O.size ≤ 6 * k ∧ O.data.toList = escL (S.data.toList.take k)) (fun _ iv => S.size - (intOf iv).toNat)
  case atStart => exact ⟨0, ⟨#[]⟩, rfl, rfl, by omega, by decide, rfl⟩
  case round =>
    obtain ⟨k, O, rfl, rfl, hk, hO, hl⟩ := hrel
    have HL := Lib.hid hl
    clear hl
    by_cases hlt : k < S.size
    · have hltI : (k : Int) < (S.size : Int) := by omega
      have hsn := escL_snoc S k hlt
      obtain ⟨x, hx⟩ : ∃ x, S[k] = x := ⟨_, rfl⟩
      rw [hx] at hsn
      have f1 : (0 : Int) ≤ (k : Int) + 1 ∧ (k : Int) + 1 ≤ (S.size : Int) := by omega
      have f2 : (0 : Int) ≤ (k : Int) ∧ (k : Int) ≤ (k : Int) + 1 := by omega
      rcases esc_cases x with ⟨rfl, e⟩ | ⟨rfl, e⟩ | ⟨rfl, e⟩ | ⟨rfl, e⟩ | ⟨h1, h2, h3, h4, e⟩
      · rw [e] at hsn
        have HSN := Lib.hid hsn
        clear e hsn
        go_wp2
        go_round
        case rel => exact ⟨k + 1, O ++ ⟨#[38, 97, 109, 112, 59]⟩, rfl, by go_num, by omega, by rw [← size_list, app_list, List.length_append, size_list]; simp; omega, by rw [app_list, HL.out, HSN.out]⟩
        case measure => simp [intOf]; omega
      · rw [e] at hsn
        have HSN := Lib.hid hsn
        clear e hsn
        go_wp2
        go_round
        case rel => exact ⟨k + 1, O ++ ⟨#[38, 108, 116, 59]⟩, rfl, by go_num, by omega, by rw [← size_list, app_list, List.length_append, size_list]; simp; omega, by rw [app_list, HL.out, HSN.out]⟩
        case measure => simp [intOf]; omega
      · rw [e] at hsn
        have HSN := Lib.hid hsn
        clear e hsn
        go_wp2
        go_round
        case rel => exact ⟨k + 1, O ++ ⟨#[38, 103, 116, 59]⟩, rfl, by go_num, by omega, by rw [← size_list, app_list, List.length_append, size_list]; simp; omega, by rw [app_list, HL.out, HSN.out]⟩
        case measure => simp [intOf]; omega
      · rw [e] at hsn
        have HSN := Lib.hid hsn
        clear e hsn
        go_wp2
        go_round
        case rel => exact ⟨k + 1, O ++ ⟨#[38, 113, 117, 111, 116, 59]⟩, rfl, by go_num, by omega, by rw [← size_list, app_list, List.length_append, size_list]; simp; omega, by rw [app_list, HL.out, HSN.out]⟩
        case measure => simp [intOf]; omega
      · have b1 : ((x.toNat : Int) == 38) = false := by rw [beq_eq_false_iff_ne]; intro h; exact h1 (UInt8.toNat_inj.1 (by have : (38 : UInt8).toNat = 38 := rfl; omega))
        have b2 : ((x.toNat : Int) == 60) = false := by rw [beq_eq_false_iff_ne]; intro h; exact h2 (UInt8.toNat_inj.1 (by have : (60 : UInt8).toNat = 60 := rfl; omega))
        have b3 : ((x.toNat : Int) == 62) = false := by rw [beq_eq_false_iff_ne]; intro h; exact h3 (UInt8.toNat_inj.1 (by have : (62 : UInt8).toNat = 62 := rfl; omega))
        have b4 : ((x.toNat : Int) == 34) = false := by rw [beq_eq_false_iff_ne]; intro h; exact h4 (UInt8.toNat_inj.1 (by have : (34 : UInt8).toNat = 34 := rfl; omega))
        rw [e] at hsn
        have HSN := Lib.hid hsn; have HDC := Lib.hid (sdrop_cons S k hlt)
        clear e hsn h1 h2 h3 h4
        go_wp2
        go_round
        case rel => exact ⟨k + 1, O ++ S.extract k (k + 1), rfl, by go_num, by omega, by rw [← size_list, app_list, ext_list, List.length_append, size_list, List.length_take]; omega, by rw [app_list, HL.out, HSN.out, ext_list, HDC.out, hx]; simp⟩
        case measure => simp [intOf]; omega
    · obtain rfl : k = S.size := by omega
      have hltI : ¬ (S.size : Int) < (S.size : Int) := by omega
      have hO2 : O = R := by rw [← bstr_self O, ← bstr_self R, HR.out, HL.out, List.take_of_length_le (by rw [HSL.out]; exact Nat.le_refl _)]
      go_wp2
      go_ret
      exact ⟨by subst hO2; rfl, rfl⟩

/-! ### TokenTexts -/
theorem tok_answers {l : List UInt8} {ts : List Tok} (h1 : l.length ≤ 4096) (h2 : utf8B l = true) (h3 : isP prologL l = none) (h4 : toksV l = some ts) : tokE l = 0 ∧ tokL l = ts := by
  have hb : bodyL l = l := by unfold bodyL; rw [h3]; rfl
  have he : tokE l = 0 := by
    unfold tokE
    rw [if_neg (by omega), h2, hb, h4]
    rfl
  refine ⟨he, ?_⟩
  unfold tokL
  rw [he, hb, h4]
  rfl
/-- an element with a text as its attribute, and within -/
def textT (l : List UInt8) : List UInt8 := [60, 97, 32, 98, 61, 34] ++ escL l ++ [34, 62] ++ escL l ++ [60, 47, 97, 62]
def textK (l : List UInt8) : List Tok := ⟨1, [97], [], [([98], l)], false⟩ :: ((if l = [] then [] else [⟨3, [], l, [], false⟩]) ++ [⟨2, [97], [], [], false⟩])
theorem nil_bl : allBl [] := fun x hx => by cases hx
theorem text_close : toksV [60, 47, 97, 62] = some [⟨2, [97], [], [], false⟩] := by
  exact (toks_step (l := [60, 47, 97, 62]) (by simp) (tok_close (n := [97]) (g := []) (r := []) rfl nil_bl)).trans (by rw [toksV_nil]; rfl)
theorem text_toks (l : List UInt8) : toksV (textT l) = some (textK l) := by
  have e : textT l = 60 :: ([97] ++ ([32] ++ ([98] ++ ([] ++ (61 :: ([] ++ (34 :: (escL l ++ (34 :: ([] ++ (62 :: (escL l ++ [60, 47, 97, 62])))))))))))) := by simp [textT]
  have h1 : tokP (textT l) = some (⟨1, [97], [], [([98], l)], false⟩, escL l ++ [60, 47, 97, 62]) := by
    rw [e, tok_open rfl (fun x q e => by injection e with e _; subst e; decide), open_attr (fun x hx => by simp at hx; subst hx; decide) (by simp) rfl (fun _ h => by cases h) nil_bl nil_bl, open_end nil_bl]
    rfl
  rw [toks_step (by simp [textT]) h1]
  unfold textK
  by_cases hl : l = []
  · subst hl
    rw [show escL [] ++ [60, 47, 97, 62] = [60, 47, 97, 62] from rfl, text_close]
    rfl
  · have h2 := tok_text (s := l) (r := [60, 47, 97, 62]) hl (fun x q e => by injection e with e _; exact e.symm)
    obtain ⟨x, q, e2, _⟩ := esc_head (r := [60, 47, 97, 62]) hl
    rw [toks_step (by rw [e2]; simp) h2, text_close, if_neg hl]
    rfl
theorem text_utf8 {l : List UInt8} (h : utf8B l = true) : utf8B (textT l) = true := by
  have he := utf8_esc _ l (Nat.le_refl _) h
  unfold textT
  exact (runes_app (runes_app (runes_app (runes_app (by decide) he).1 (by decide)).1 he).1 (by decide)).1
theorem text_prolog (l : List UInt8) : isP prologL (textT l) = none := by
  unfold textT isP
  rw [if_neg]
  simp [prologL]
theorem text_len {l : List UInt8} (h : l.length ≤ 300) : (textT l).length ≤ 4096 := by
  have := (escL_len l).2
  simp [textT]
  omega

/-- the element's attribute, and its text -/
theorem text_cells {w : World} {N : Nat → Prop} {A : Option Addr} {n c : Nat} {S : ByteArray} (h : RdI 5 TokI w N A n c (textK S.data.toList)) : ∃ ad bd y, A = some ad ∧ w.cell? ⟨ad.block, ad.off + 3, none⟩ = some (.slice (some bd) 1 y) ∧ w.cell? ⟨bd.block, bd.off + 1, none⟩ = some (.string S) ∧
    ((S.toList = [] ∧ n = 2) ∨ (S.toList ≠ [] ∧ n = 3 ∧ w.cell? ⟨ad.block, ad.off + 5 + 2, none⟩ = some (.string S))) := by
  have hn := h.len tok_ok (by omega)
  obtain ⟨ad, cs, rfl, ⟨X, Y, A1, n1, x1, rfl, hX, hY, hA1⟩, hc⟩ := h.at_ tok_ok (by omega) (i := 0) (by unfold textK; simp)
  have c3 := hc 3 _ rfl
  rw [add_next ad, Nat.zero_mul, add_zero] at c3
  have hA2 : RdI 2 AttrI w N A1 n1 x1 [([98], S.data.toList)] := hA1
  have hn1 := hA2.len attr_ok (by omega)
  obtain ⟨bd, ds, rfl, ⟨X', Y', rfl, hX', hY'⟩, hd⟩ := hA2.at_ attr_ok (by omega) (i := 0) (by simp)
  have d1 := hd 1 _ rfl
  rw [add_next bd, Nat.zero_mul, add_zero] at d1
  have hYS : Y' = S := by
    have : Y'.data.toList = S.data.toList := hY'
    rw [← bstr_self Y', ← bstr_self S, this]
  subst hYS
  refine ⟨ad, bd, x1, rfl, by rw [c3, ← hn1]; rfl, d1, ?_⟩
  by_cases hl : Y'.data.toList = []
  · exact .inl ⟨by rw [ba_list, hl], by rw [← hn]; unfold textK; rw [if_pos hl]; rfl⟩
  · refine .inr ⟨by rw [ba_list]; exact hl, by rw [← hn]; unfold textK; rw [if_neg hl]; rfl, ?_⟩
    have hk : textK Y'.data.toList = [⟨1, [97], [], [([98], Y'.data.toList)], false⟩, ⟨3, [], Y'.data.toList, [], false⟩, ⟨2, [97], [], [], false⟩] := by unfold textK; rw [if_neg hl]; rfl
    rw [hk] at h
    obtain ⟨ad', cs', e1, ⟨X2, Y2, A2, n2, x2, rfl, hX2, hY2, hA3⟩, hc2⟩ := h.at_ tok_ok (by omega) (i := 1) (by simp)
    injection e1 with e1
    subst e1
    have c2 := hc2 2 _ rfl
    rw [show ad.add (1 * 5 + 2) = ⟨ad.block, ad.off + 5 + 2, none⟩ from by simp [Addr.add]] at c2
    have hY2' : Y2 = Y' := by
      have : Y2.data.toList = Y'.data.toList := hY2
      rw [← bstr_self Y2, ← bstr_self Y', this]
    rw [c2, hY2']
set_option maxHeartbeats 1000000 in
theorem texts_walk {S : ByteArray} (w : World) (hT : Tabs w) (hS : S.size ≤ 9223372036854775807) : Calls Tryd.prog 3 #[.string S] w fun e w' => e = .returned (.bool true) ∧ Fr No w w' := by
  by_cases hl : 300 < S.size
  · have hlI : (300 : Int) < (S.size : Int) := by omega
    go_enter Tryd.func3, Tryd.ntmps3
    go_wp2_with (go_at_call 8; refine (awake_any _).mono ?_; rintro e w1 ⟨rfl, hf1⟩)
    go_ret
    exact ⟨rfl, hf1⟩
  have hlI : ¬ (300 : Int) < (S.size : Int) := by omega
  have hsl := size_list S
  cases hu : utf8B S.data.toList with
  | false =>
    have hq := fun u => ref_utf8_any S u (by omega)
    rw [hu] at hq
    have HQ := Lib.hid hq
    clear hq hu hsl
    go_enter Tryd.func3, Tryd.ntmps3
    go_wp2_with (first
      | (go_at_call 7; refine (HQ.out _).mono ?_; rintro e w1 ⟨rfl, rfl⟩)
      | (go_at_call 8; refine (awake_any _).mono ?_; rintro e w1 ⟨rfl, hf1⟩))
    go_ret
    exact ⟨rfl, hf1⟩
  | true =>
    have hq := fun u => ref_utf8_any S u (by omega)
    rw [hu] at hq
    obtain ⟨R, hR⟩ : ∃ R : ByteArray, R.data.toList = escL S.data.toList := ⟨bstr _, rfl⟩
    have hesc := fun u => r_esc_any S R u (by omega) hR
    have hRs : R.size ≤ 1800 := by rw [← size_list, hR]; have := (escL_len S.data.toList).2; omega
    obtain ⟨T, hT⟩ : ∃ T, (((⟨#[60, 97, 32, 98, 61, 34]⟩ ++ R) ++ ⟨#[34, 62]⟩) ++ R) ++ ⟨#[60, 47, 97, 62]⟩ = T := ⟨_, rfl⟩
    have hTl : T.data.toList = textT S.data.toList := by
      rw [← hT, app_list, app_list, app_list, app_list, hR]
      rfl
    obtain ⟨e1, e2⟩ := tok_answers (text_len (l := S.data.toList) (by omega)) (text_utf8 hu) (text_prolog _) (text_toks _)
    have hp := fun u (hT : Tabs u) => tokens_any T u (by rw [← size_list, hTl]; have := text_len (l := S.data.toList) (by omega); omega)
    rw [hTl, e1, e2] at hp
    have HQ := Lib.hid hq; have HESC := Lib.hid hesc; have HP := Lib.hid hp
    clear hq hu hsl hesc hR hTl e1 e2 hp
    go_enter Tryd.func3, Tryd.ntmps3
    generalize hts : textK S.data.toList = ts at HP
    have hln : ts.length = 2 ∨ ts.length = 3 := by rw [← hts]; unfold textK; split <;> simp
    obtain ⟨n, hn⟩ : ∃ n, ts.length = n := ⟨_, rfl⟩
    rw [hn] at HP hln
    have HTS := Lib.hid hts
    clear hts hn
    go_wp2_with (first
      | (go_at_call 7; refine (HQ.out _).mono ?_; rintro e w1 ⟨rfl, rfl⟩)
      | (go_at_call 10; refine (HESC.out _).mono ?_; rintro e w1 ⟨rfl, rfl⟩)
      | (go_at_call 9; refine (HP.out _ (by repeat' first | with_reducible assumption | with_reducible apply Tabs.drew | with_reducible apply Tabs.drewN | with_reducible apply Tabs.alloc | refine Tabs.fr ?_ (by with_reducible assumption) | refine Tabs.dr ?_ (by with_reducible assumption))).mono ?_; rintro e w1 ⟨v, rfl, ho1, hf1⟩; obtain ⟨A, c, rfl, hr1⟩ := toks_rd ho1)
      | (go_at_call 8; refine (awake_any _).mono ?_; rintro e w3 ⟨rfl, hf3⟩; have hr3 := hr1.no tok_ok hf3; rw [← HTS.out] at hr3; obtain ⟨ad, bd, y, rfl, c3, d1, (⟨he, rfl⟩ | ⟨he, rfl, c7⟩)⟩ := text_cells hr3))
    all_goals
      go_ret
      exact ⟨rfl, hf1.trans hf3⟩
end Go.Proofs.YthkbdbgmfolpeaaDoor
