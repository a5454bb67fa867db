/- TokenBlanks: the walk, for every number and every text. -/
import Derived.Test.YthkbdbgmfolpeaaDoorTokTexts
namespace Go.Proofs.YthkbdbgmfolpeaaDoor
open Go.RowKit
set_option maxHeartbeats 400000
set_option linter.unusedVariables false

/-- elements with blanks wherever they may stand -/
def blankR (gf gh : List UInt8) : List UInt8 := 60 :: 47 :: ([97] ++ (gf ++ (62 :: (60 :: ([100] ++ (gh ++ (47 :: 62 :: [])))))))
def blankT (ga gb gc gd ge gf gh l : List UInt8) : List UInt8 :=
  60 :: ([97] ++ (ga ++ ([98] ++ (gb ++ (61 :: (gc ++ (34 :: (escL l ++ (34 :: (gd ++ ([99] ++ ([] ++ (61 :: ([] ++ (34 :: (escL [49] ++ (34 :: (ge ++ (62 :: (escL [116] ++ blankR gf gh))))))))))))))))))))
def blankK (l : List UInt8) : List Tok := [⟨1, [97], [], [([98], l), ([99], [49])], false⟩, ⟨3, [], [116], [], false⟩, ⟨2, [97], [], [], false⟩, ⟨1, [100], [], [], true⟩]
theorem gap_wi {g r : List UInt8} (hg : allBl g) (h0 : g ≠ []) : ∀ x q, g ++ r = x :: q → isWi x = false := by
  intro x q e
  cases g with
  | nil => exact absurd rfl h0
  | cons y t =>
    injection e with e1 _
    subst e1
    exact bl_not_wi (hg _ (by simp))
theorem blank_toks {ga gb gc gd ge gf gh l : List UInt8} (ha : allBl ga) (ha0 : ga ≠ []) (hb : allBl gb) (hc : allBl gc) (hd : allBl gd) (hd0 : gd ≠ []) (he : allBl ge) (hf : allBl gf) (hh : allBl gh) : toksV (blankT ga gb gc gd ge gf gh l) = some (blankK l) := by
  have h4 : tokP (60 :: ([100] ++ (gh ++ (47 :: 62 :: [])))) = some (⟨1, [100], [], [], true⟩, []) := by
    rw [tok_open rfl (gap_head hh _ (fun x => bl_not_wi) (fun x q e => by injection e with e _; subst e; decide)), open_empty hh]
  have s4 := toks_step (by simp) h4
  rw [toksV_nil] at s4
  have h3 := tok_close (n := [97]) (g := gf) (r := 60 :: ([100] ++ (gh ++ (47 :: 62 :: [])))) rfl hf
  have s3 := toks_step (by simp) h3
  rw [s4] at s3
  have h2 := tok_text (s := [116]) (r := blankR gf gh) (by simp) (fun x q e => by unfold blankR at e; injection e with e _; exact e.symm)
  have s2 := toks_step (by rw [show escL [116] = [116] from rfl]; simp) h2
  rw [show toksV (blankR gf gh) = _ from s3] at s2
  have h1 : tokP (blankT ga gb gc gd ge gf gh l) = some (⟨1, [97], [], [([98], l), ([99], [49])], false⟩, escL [116] ++ blankR gf gh) := by
    unfold blankT
    rw [tok_open rfl (gap_wi ha ha0), open_attr ha ha0 rfl (fun _ h => by cases h) hb hc, open_attr hd hd0 rfl (fun a h => by simp at h; rw [h]; simp) nil_bl nil_bl, open_end he]
    rfl
  rw [toks_step (by simp [blankT]) h1, s2]
  rfl
theorem blank_prolog (ga gb gc gd ge gf gh l : List UInt8) : isP prologL (blankT ga gb gc gd ge gf gh l) = none := by
  unfold blankT isP
  rw [if_neg]
  simp [prologL]
theorem blank_utf8 {ga gb gc gd ge gf gh l : List UInt8} (ha : utf8B ga = true) (hb : utf8B gb = true) (hc : utf8B gc = true) (hd : utf8B gd = true) (he : utf8B ge = true) (hf : utf8B gf = true) (hh : utf8B gh = true) (hl : utf8B l = true) : utf8B (blankT ga gb gc gd ge gf gh l) = true := by
  have hx := utf8_esc _ l (Nat.le_refl _) hl
  have ap : ∀ {a b : List UInt8}, utf8B a = true → utf8B b = true → utf8B (a ++ b) = true := fun h1 h2 => (runes_app h1 h2).1
  have hr : utf8B (blankR gf gh) = true := ap (a := [60, 47, 97]) (by decide) (ap hf (ap (a := [62, 60, 100]) (by decide) (ap hh (by decide))))
  exact ap (a := [60, 97]) (by decide) (ap ha (ap (a := [98]) (by decide) (ap hb (ap (a := [61]) (by decide) (ap hc (ap (a := [34]) (by decide) (ap hx (ap (a := [34]) (by decide) (ap hd (ap (a := [99, 61, 34, 49, 34]) (by decide) (ap he (ap (a := [62, 116]) (by decide) hr))))))))))))
theorem blank_len {ga gb gc gd ge gf gh l : List UInt8} (ha : ga.length ≤ 3) (hb : gb.length ≤ 3) (hc : gc.length ≤ 3) (hd : gd.length ≤ 3) (he : ge.length ≤ 3) (hf : gf.length ≤ 3) (hh : gh.length ≤ 3) (hl : l.length ≤ 100) : (blankT ga gb gc gd ge gf gh l).length ≤ 4096 := by
  have := (escL_len l).2
  simp [blankT, blankR, show escL [49] = [49] from rfl, show escL [116] = [116] from rfl]
  omega

set_option maxHeartbeats 1000000 in
theorem blanks_walk {z : Int} {S : ByteArray} (w : World) (hT : Tabs w) (hz : (Lit.int .i64 z).wf = true) (hS : S.size ≤ 9223372036854775807) : Calls Tryd.prog 6 #[.int .i64 z, .string S] w fun e w' => e = .returned (.bool true) ∧ Fr No w w' := by
  by_cases hl : 100 < S.size
  · have hlI : (100 : Int) < (S.size : Int) := by omega
    go_enter Tryd.func6, Tryd.ntmps6
    go_wp2_with (go_at_call 8; refine (awake_any _).mono ?_; rintro e w1 ⟨rfl, hf1⟩)
    go_ret
    exact ⟨rfl, hf1⟩
  have hlI : ¬ (100 : Int) < (S.size : Int) := by omega
  have hsl := size_list S
  cases hu : utf8B S.data.toList with
  | false =>
    have hq := fun u => ref_utf8_any S u (by omega)
    rw [hu] at hq
    have HQ := Lib.hid hq
    clear hq hu hsl
    go_enter Tryd.func6, Tryd.ntmps6
    go_wp2_with (first
      | (go_at_call 7; refine (HQ.out _).mono ?_; rintro e w1 ⟨rfl, rfl⟩)
      | (go_at_call 8; refine (awake_any _).mono ?_; rintro e w1 ⟨rfl, hf1⟩))
    go_ret
    exact ⟨rfl, hf1⟩
  | true =>
    have hq := fun u => ref_utf8_any S u (by omega)
    rw [hu] at hq
    obtain ⟨R, hR⟩ : ∃ R : ByteArray, R.data.toList = escL S.data.toList := ⟨bstr _, rfl⟩
    have hesc := fun u => r_esc_any S R u (by omega) hR
    have hRs : R.size ≤ 600 := by rw [← size_list, hR]; have := (escL_len S.data.toList).2; omega
    obtain ⟨m, hm, hm4⟩ := rem_nat z 4 (by omega)
    obtain ⟨X, hX⟩ : ∃ X, (⟨#[60, 97, 32, 98, 61, 34]⟩ ++ R) ++ ⟨#[34, 32, 99, 61, 34, 49, 34, 62, 116, 60, 47, 97, 62, 60, 100, 47, 62]⟩ = X := ⟨_, rfl⟩
    have hXl : X.data.toList = blankT [32] [] [] [32] [] [] [] S.data.toList := by
      rw [← hX, app_list, app_list, hR]
      simp [blankT, blankR, show escL [49] = [49] from rfl, show escL [116] = [116] from rfl]
    have hbx : ∀ l, l = ([] : List UInt8) ∨ l = [32] ∨ l = [9, 10] ∨ l = [32, 32, 32] ∨ l = [13, 32] → allBl l ∧ utf8B l = true ∧ l.length ≤ 3 := by
      rintro l (rfl | rfl | rfl | rfl | rfl) <;> refine ⟨?_, by decide, by decide⟩ <;> (intro x hx; revert x; decide)
    have hb0 := hbx [] (.inl rfl)
    have hb1 := hbx [32] (.inr (.inl rfl))
    obtain ⟨e1, e2⟩ := tok_answers (blank_len hb1.2.2 hb0.2.2 hb0.2.2 hb1.2.2 hb0.2.2 hb0.2.2 hb0.2.2 (by omega : S.data.toList.length ≤ 100)) (blank_utf8 hb1.2.1 hb0.2.1 hb0.2.1 hb1.2.1 hb0.2.1 hb0.2.1 hb0.2.1 hu) (blank_prolog _ _ _ _ _ _ _ _) (blank_toks hb1.1 (by simp) hb0.1 hb0.1 hb1.1 (by simp) hb0.1 hb0.1 hb0.1)
    have hp := fun u (hT : Tabs u) => tokens_any X u (by rw [← size_list, hXl]; have := blank_len hb1.2.2 hb0.2.2 hb0.2.2 hb1.2.2 hb0.2.2 hb0.2.2 hb0.2.2 (by omega : S.data.toList.length ≤ 100); omega)
    rw [hXl, e1, e2] at hp
    have hpy : ∀ g, g ≠ [] → (allBl g ∧ utf8B g = true ∧ g.length ≤ 3) → ∀ Y : ByteArray, Y.data.toList = blankT g g g g g g g S.data.toList → ∀ u, Tabs u → Calls Tryd.prog 9 #[.string Y] u fun e w' => ∃ v, e = .returned (.tuple #[v, .int .i64 0]) ∧
        OwnI 5 TokI w' u.heap.size 31 (fun i => u.heap.size ≤ i ∧ i < w'.heap.size) v 4 (blankK S.data.toList) ∧ Fr No u w' := by
      intro g g0 hb Y hY u hT
      have hln := blank_len hb.2.2 hb.2.2 hb.2.2 hb.2.2 hb.2.2 hb.2.2 hb.2.2 (by omega : S.data.toList.length ≤ 100)
      obtain ⟨f1, f2⟩ := tok_answers hln (blank_utf8 hb.2.1 hb.2.1 hb.2.1 hb.2.1 hb.2.1 hb.2.1 hb.2.1 hu) (blank_prolog _ _ _ _ _ _ _ _) (blank_toks hb.1 g0 hb.1 hb.1 hb.1 g0 hb.1 hb.1 hb.1)
      have h := tokens_any Y u (by rw [← size_list, hY]; omega)
      rw [hY, f1, f2] at h
      exact h
    have hlen : (blankK S.data.toList).length = 4 := rfl
    rw [hlen] at hp
    generalize blankK S.data.toList = ts at hp hpy
    have HQ := Lib.hid hq; have HESC := Lib.hid hesc; have HP := Lib.hid hp; have HPY := Lib.hid hpy; have HR := Lib.hid hR; have HBX := Lib.hid hbx
    clear hq hu hsl hesc hXl e1 e2 hp hpy hlen hbx hb0 hb1 hR
    rcases (show m = 0 ∨ m = 1 ∨ m = 2 ∨ m = 3 by omega) with rfl | rfl | rfl | rfl
    · obtain ⟨Y, hY⟩ : ∃ Y, (((((((((((((((⟨#[60, 97]⟩ ++ ⟨#[32]⟩) ++ ⟨#[98]⟩) ++ ⟨#[32]⟩) ++ ⟨#[61]⟩) ++ ⟨#[32]⟩) ++ ⟨#[34]⟩) ++ R) ++ ⟨#[34]⟩) ++ ⟨#[32]⟩) ++ ⟨#[99, 61, 34, 49, 34]⟩) ++ ⟨#[32]⟩) ++ ⟨#[62, 116, 60, 47, 97]⟩) ++ ⟨#[32]⟩) ++ ⟨#[62, 60, 100]⟩) ++ ⟨#[32]⟩) ++ ⟨#[47, 62]⟩ = Y := ⟨_, rfl⟩
      have hY2 := hY
      have hYl : Y.data.toList = blankT [32] [32] [32] [32] [32] [32] [32] S.data.toList := by
        rw [← hY]
        simp only [app_list, HR.out]
        simp [blankT, blankR, show escL [49] = [49] from rfl, show escL [116] = [116] from rfl]
      have hpz := HPY.out [32] (by simp) (HBX.out _ (by simp)) Y hYl
      have HPZ := Lib.hid hpz
      clear hpz hYl hY2
      go_enter Tryd.func6, Tryd.ntmps6
      have tok1 : True := trivial
      go_wp2_with (first
        | (go_at_call 7; refine (HQ.out _).mono ?_; rintro e w1 ⟨rfl, rfl⟩)
        | (go_at_call 10; refine (HESC.out _).mono ?_; rintro e w1 ⟨rfl, rfl⟩)
        | (go_at_call 9; clear tok1; refine (HP.out _ (by repeat' first | with_reducible assumption | with_reducible apply Tabs.drew | with_reducible apply Tabs.drewN | with_reducible apply Tabs.alloc | refine Tabs.fr ?_ (by with_reducible assumption) | refine Tabs.dr ?_ (by with_reducible assumption))).mono ?_; rintro e w1 ⟨v1, rfl, ho1, hf1⟩; obtain ⟨A1, c1, rfl, hr1⟩ := toks_rd ho1)
        | (go_at_call 9; refine (HPZ.out _ (by repeat' first | with_reducible assumption | with_reducible apply Tabs.drew | with_reducible apply Tabs.drewN | with_reducible apply Tabs.alloc | refine Tabs.fr ?_ (by with_reducible assumption) | refine Tabs.dr ?_ (by with_reducible assumption))).mono ?_; rintro e w2 ⟨v2, rfl, ho2, hf2⟩; obtain ⟨A2, c2, rfl, hr2⟩ := toks_rd ho2)
        | (go_at_call 8; refine (awake_any _).mono ?_; rintro e w3 ⟨rfl, hf3⟩)
        | (go_at_call 13; refine (sameT_any _ _ _ _ _ ts _ _ _ ((hr1.no tok_ok hf2).no tok_ok hf3) (hr2.no tok_ok hf3)).mono ?_; rintro e w4 ⟨rfl, hf4⟩))
      go_ret
      exact ⟨rfl, (((((Fr.refl No w).alloc _).trans hf1).trans hf2).trans hf3).trans hf4⟩
    · obtain ⟨Y, hY⟩ : ∃ Y, (((((((((((((((⟨#[60, 97]⟩ ++ ⟨#[9, 10]⟩) ++ ⟨#[98]⟩) ++ ⟨#[9, 10]⟩) ++ ⟨#[61]⟩) ++ ⟨#[9, 10]⟩) ++ ⟨#[34]⟩) ++ R) ++ ⟨#[34]⟩) ++ ⟨#[9, 10]⟩) ++ ⟨#[99, 61, 34, 49, 34]⟩) ++ ⟨#[9, 10]⟩) ++ ⟨#[62, 116, 60, 47, 97]⟩) ++ ⟨#[9, 10]⟩) ++ ⟨#[62, 60, 100]⟩) ++ ⟨#[9, 10]⟩) ++ ⟨#[47, 62]⟩ = Y := ⟨_, rfl⟩
      have hY2 := hY
      have hYl : Y.data.toList = blankT [9, 10] [9, 10] [9, 10] [9, 10] [9, 10] [9, 10] [9, 10] S.data.toList := by
        rw [← hY]
        simp only [app_list, HR.out]
        simp [blankT, blankR, show escL [49] = [49] from rfl, show escL [116] = [116] from rfl]
      have hpz := HPY.out [9, 10] (by simp) (HBX.out _ (by simp)) Y hYl
      have HPZ := Lib.hid hpz
      clear hpz hYl hY2
      go_enter Tryd.func6, Tryd.ntmps6
      have tok1 : True := trivial
      go_wp2_with (first
        | (go_at_call 7; refine (HQ.out _).mono ?_; rintro e w1 ⟨rfl, rfl⟩)
        | (go_at_call 10; refine (HESC.out _).mono ?_; rintro e w1 ⟨rfl, rfl⟩)
        | (go_at_call 9; clear tok1; refine (HP.out _ (by repeat' first | with_reducible assumption | with_reducible apply Tabs.drew | with_reducible apply Tabs.drewN | with_reducible apply Tabs.alloc | refine Tabs.fr ?_ (by with_reducible assumption) | refine Tabs.dr ?_ (by with_reducible assumption))).mono ?_; rintro e w1 ⟨v1, rfl, ho1, hf1⟩; obtain ⟨A1, c1, rfl, hr1⟩ := toks_rd ho1)
        | (go_at_call 9; refine (HPZ.out _ (by repeat' first | with_reducible assumption | with_reducible apply Tabs.drew | with_reducible apply Tabs.drewN | with_reducible apply Tabs.alloc | refine Tabs.fr ?_ (by with_reducible assumption) | refine Tabs.dr ?_ (by with_reducible assumption))).mono ?_; rintro e w2 ⟨v2, rfl, ho2, hf2⟩; obtain ⟨A2, c2, rfl, hr2⟩ := toks_rd ho2)
        | (go_at_call 8; refine (awake_any _).mono ?_; rintro e w3 ⟨rfl, hf3⟩)
        | (go_at_call 13; refine (sameT_any _ _ _ _ _ ts _ _ _ ((hr1.no tok_ok hf2).no tok_ok hf3) (hr2.no tok_ok hf3)).mono ?_; rintro e w4 ⟨rfl, hf4⟩))
      go_ret
      exact ⟨rfl, (((((Fr.refl No w).alloc _).trans hf1).trans hf2).trans hf3).trans hf4⟩
    · obtain ⟨Y, hY⟩ : ∃ Y, (((((((((((((((⟨#[60, 97]⟩ ++ ⟨#[32, 32, 32]⟩) ++ ⟨#[98]⟩) ++ ⟨#[32, 32, 32]⟩) ++ ⟨#[61]⟩) ++ ⟨#[32, 32, 32]⟩) ++ ⟨#[34]⟩) ++ R) ++ ⟨#[34]⟩) ++ ⟨#[32, 32, 32]⟩) ++ ⟨#[99, 61, 34, 49, 34]⟩) ++ ⟨#[32, 32, 32]⟩) ++ ⟨#[62, 116, 60, 47, 97]⟩) ++ ⟨#[32, 32, 32]⟩) ++ ⟨#[62, 60, 100]⟩) ++ ⟨#[32, 32, 32]⟩) ++ ⟨#[47, 62]⟩ = Y := ⟨_, rfl⟩
      have hY2 := hY
      have hYl : Y.data.toList = blankT [32, 32, 32] [32, 32, 32] [32, 32, 32] [32, 32, 32] [32, 32, 32] [32, 32, 32] [32, 32, 32] S.data.toList := by
        rw [← hY]
        simp only [app_list, HR.out]
        simp [blankT, blankR, show escL [49] = [49] from rfl, show escL [116] = [116] from rfl]
      have hpz := HPY.out [32, 32, 32] (by simp) (HBX.out _ (by simp)) Y hYl
      have HPZ := Lib.hid hpz
      clear hpz hYl hY2
      go_enter Tryd.func6, Tryd.ntmps6
      have tok1 : True := trivial
      go_wp2_with (first
        | (go_at_call 7; refine (HQ.out _).mono ?_; rintro e w1 ⟨rfl, rfl⟩)
        | (go_at_call 10; refine (HESC.out _).mono ?_; rintro e w1 ⟨rfl, rfl⟩)
        | (go_at_call 9; clear tok1; refine (HP.out _ (by repeat' first | with_reducible assumption | with_reducible apply Tabs.drew | with_reducible apply Tabs.drewN | with_reducible apply Tabs.alloc | refine Tabs.fr ?_ (by with_reducible assumption) | refine Tabs.dr ?_ (by with_reducible assumption))).mono ?_; rintro e w1 ⟨v1, rfl, ho1, hf1⟩; obtain ⟨A1, c1, rfl, hr1⟩ := toks_rd ho1)
        | (go_at_call 9; refine (HPZ.out _ (by repeat' first | with_reducible assumption | with_reducible apply Tabs.drew | with_reducible apply Tabs.drewN | with_reducible apply Tabs.alloc | refine Tabs.fr ?_ (by with_reducible assumption) | refine Tabs.dr ?_ (by with_reducible assumption))).mono ?_; rintro e w2 ⟨v2, rfl, ho2, hf2⟩; obtain ⟨A2, c2, rfl, hr2⟩ := toks_rd ho2)
        | (go_at_call 8; refine (awake_any _).mono ?_; rintro e w3 ⟨rfl, hf3⟩)
        | (go_at_call 13; refine (sameT_any _ _ _ _ _ ts _ _ _ ((hr1.no tok_ok hf2).no tok_ok hf3) (hr2.no tok_ok hf3)).mono ?_; rintro e w4 ⟨rfl, hf4⟩))
      go_ret
      exact ⟨rfl, (((((Fr.refl No w).alloc _).trans hf1).trans hf2).trans hf3).trans hf4⟩
    · obtain ⟨Y, hY⟩ : ∃ Y, (((((((((((((((⟨#[60, 97]⟩ ++ ⟨#[13, 32]⟩) ++ ⟨#[98]⟩) ++ ⟨#[13, 32]⟩) ++ ⟨#[61]⟩) ++ ⟨#[13, 32]⟩) ++ ⟨#[34]⟩) ++ R) ++ ⟨#[34]⟩) ++ ⟨#[13, 32]⟩) ++ ⟨#[99, 61, 34, 49, 34]⟩) ++ ⟨#[13, 32]⟩) ++ ⟨#[62, 116, 60, 47, 97]⟩) ++ ⟨#[13, 32]⟩) ++ ⟨#[62, 60, 100]⟩) ++ ⟨#[13, 32]⟩) ++ ⟨#[47, 62]⟩ = Y := ⟨_, rfl⟩
      have hY2 := hY
      have hYl : Y.data.toList = blankT [13, 32] [13, 32] [13, 32] [13, 32] [13, 32] [13, 32] [13, 32] S.data.toList := by
        rw [← hY]
        simp only [app_list, HR.out]
        simp [blankT, blankR, show escL [49] = [49] from rfl, show escL [116] = [116] from rfl]
      have hpz := HPY.out [13, 32] (by simp) (HBX.out _ (by simp)) Y hYl
      have HPZ := Lib.hid hpz
      clear hpz hYl hY2
      go_enter Tryd.func6, Tryd.ntmps6
      have tok1 : True := trivial
      go_wp2_with (first
        | (go_at_call 7; refine (HQ.out _).mono ?_; rintro e w1 ⟨rfl, rfl⟩)
        | (go_at_call 10; refine (HESC.out _).mono ?_; rintro e w1 ⟨rfl, rfl⟩)
        | (go_at_call 9; clear tok1; refine (HP.out _ (by repeat' first | with_reducible assumption | with_reducible apply Tabs.drew | with_reducible apply Tabs.drewN | with_reducible apply Tabs.alloc | refine Tabs.fr ?_ (by with_reducible assumption) | refine Tabs.dr ?_ (by with_reducible assumption))).mono ?_; rintro e w1 ⟨v1, rfl, ho1, hf1⟩; obtain ⟨A1, c1, rfl, hr1⟩ := toks_rd ho1)
        | (go_at_call 9; refine (HPZ.out _ (by repeat' first | with_reducible assumption | with_reducible apply Tabs.drew | with_reducible apply Tabs.drewN | with_reducible apply Tabs.alloc | refine Tabs.fr ?_ (by with_reducible assumption) | refine Tabs.dr ?_ (by with_reducible assumption))).mono ?_; rintro e w2 ⟨v2, rfl, ho2, hf2⟩; obtain ⟨A2, c2, rfl, hr2⟩ := toks_rd ho2)
        | (go_at_call 8; refine (awake_any _).mono ?_; rintro e w3 ⟨rfl, hf3⟩)
        | (go_at_call 13; refine (sameT_any _ _ _ _ _ ts _ _ _ ((hr1.no tok_ok hf2).no tok_ok hf3) (hr2.no tok_ok hf3)).mono ?_; rintro e w4 ⟨rfl, hf4⟩))
      go_ret
      exact ⟨rfl, (((((Fr.refl No w).alloc _).trans hf1).trans hf2).trans hf3).trans hf4⟩
end Go.Proofs.YthkbdbgmfolpeaaDoor
