/- TokenParts: pieces that stand one behind the other are told one behind the other. -/
import Derived.Test.YthkbdbgmfolpeaaGreatDoorTokTexts
namespace Go.Proofs.YthkbdbgmfolpeaaGreatDoor
open Go.RowKit
set_option maxHeartbeats 400000
set_option linter.unusedVariables false

/-! ### what stands ahead of a < is told as if it stood alone -/
theorem tw_lt {p : UInt8 → Bool} (hp : p 60 = false) (z : List UInt8) : ∀ l : List UInt8, (l ++ 60 :: z).takeWhile p = l.takeWhile p ∧ (l ++ 60 :: z).dropWhile p = l.dropWhile p ++ 60 :: z
  | [] => ⟨by simp [hp], by simp [hp]⟩
  | c :: l => by
    obtain ⟨h1, h2⟩ := tw_lt hp z l
    rw [List.cons_append, List.takeWhile_cons, List.takeWhile_cons, List.dropWhile_cons, List.dropWhile_cons]
    split
    · exact ⟨by rw [h1], h2⟩
    · exact ⟨rfl, rfl⟩
theorem isP_more {p l r : List UInt8} (h : isP p l = some r) (X : List UInt8) : isP p (l ++ X) = some (r ++ X) := by
  rw [(isP_len h).1, List.append_assoc, isP_app]
theorem isP_less {c : UInt8} {q l : List UInt8} (h : isP (c :: q) l = none) (hl : l ≠ []) (hq : ∀ x ∈ q, x ≠ 60) (z : List UInt8) : isP (c :: q) (l ++ 60 :: z) = none := by
  unfold isP at h ⊢
  split at h
  · cases h
  rename_i hn
  rw [if_neg]
  intro e
  have e1 := List.isPrefixOf_iff_prefix.1 e
  have e2 : l <+: l ++ 60 :: z := List.prefix_append _ _
  rcases Nat.le_total (c :: q).length l.length with hle | hle
  · exact hn (List.isPrefixOf_iff_prefix.2 (List.prefix_of_prefix_length_le e1 e2 hle))
  · obtain ⟨s, hs⟩ := List.prefix_of_prefix_length_le e2 e1 hle
    have hs0 : s ≠ [] := by
      intro e0
      rw [e0, List.append_nil] at hs
      rw [hs] at hn
      exact hn (List.isPrefixOf_iff_prefix.2 (List.prefix_refl _))
    rw [← hs] at e1
    have e3 := (List.prefix_append_right_inj l).1 e1
    cases s with
    | nil => exact hs0 rfl
    | cons y t =>
      obtain ⟨u, hu⟩ := e3
      injection hu with hy _
      cases l with
      | nil => exact hl rfl
      | cons d m =>
        injection hs with _ hs
        exact hq y (by rw [← hs]; simp) hy
theorem nameR_more (z l : List UInt8) : nameR (l ++ 60 :: z) = nameR l := by
  unfold nameR
  rw [(tw_lt (p := isWi) (by decide) z l).1]
theorem attrQ_more {n x rest : List UInt8} {y : List UInt8 × List UInt8} (h : attrQ n x = some (y, rest)) (z : List UInt8) : attrQ n (x ++ 60 :: z) = some (y, rest ++ 60 :: z) := by
  unfold attrQ at h ⊢
  cases h1 : isP [61] x with
  | none => rw [h1] at h; cases h
  | some l1 =>
    rw [h1] at h
    rw [isP_more h1]
    simp only at h ⊢
    rw [(tw_lt (p := isBl) (by decide) z l1).2]
    cases h2 : l1.dropWhile isBl with
    | nil => rw [h2] at h; cases h
    | cons m r =>
      rw [h2] at h
      simp only [List.cons_append] at h ⊢
      split at h
      · cases h
      rename_i hm
      rw [if_neg hm]
      obtain ⟨e1, e2⟩ := tw_lt (p := inVal m) (by unfold inVal; rw [decide_eq_false_iff_not]; exact fun h => h.2 rfl) z r
      rw [e1, e2]
      cases h3 : r.dropWhile (inVal m) with
      | nil => rw [h3] at h; cases h
      | cons c q =>
        rw [h3] at h
        simp only [List.cons_append] at h ⊢
        split at h
        · cases h
        rename_i hc
        rw [if_neg hc]
        cases hv : valV (r.takeWhile (inVal m)) with
        | none => rw [hv] at h; cases h
        | some v =>
          rw [hv] at h
          simp only [Option.map_some, Option.some.injEq, Prod.mk.injEq] at h ⊢
          exact ⟨h.1, by rw [h.2]⟩
theorem attrP_more {used : List (List UInt8 × List UInt8)} {l rest : List UInt8} {y : List UInt8 × List UInt8} (h : attrP used l = some (y, rest)) (z : List UInt8) : attrP used (l ++ 60 :: z) = some (y, rest ++ 60 :: z) := by
  obtain ⟨e1, e2⟩ := tw_lt (p := isWi) (by decide) z l
  cases hn : nameOk (l.takeWhile isWi) with
  | false => rw [attrP_bad hn] at h; cases h
  | true =>
    have hnew : ∀ j (hj : j < used.length), used[j].1 ≠ nameR l := fun j hj e => by rw [attrP_dup j hj e] at h; cases h
    rw [attrP_new hn hnew] at h
    rw [attrP_new (by rw [e1]; exact hn) (by intro j hj; rw [nameR_more]; exact hnew j hj), nameR_more, e2, (tw_lt (p := isBl) (by decide) z _).2]
    exact attrQ_more h z
theorem openV_more : ∀ (k : Nat) (name : List UInt8) (attrs : List (List UInt8 × List UInt8)) (l rest : List UInt8) (t : Tok), l.length ≤ k → openV name attrs l = some (t, rest) → ∀ z, openV name attrs (l ++ 60 :: z) = some (t, rest ++ 60 :: z) := by
  intro k
  induction k with
  | zero =>
    intro name attrs l rest t hk h
    have : l = [] := List.eq_nil_of_length_eq_zero (by omega)
    subst this
    cases h
  | succ k ih =>
    intro name attrs l rest t hk h z
    obtain ⟨b1, b2⟩ := tw_lt (p := isBl) (by decide) z l
    have hd := drop_while_le isBl l
    rw [openV_eq] at h ⊢
    rw [b1, b2]
    by_cases hne : l.dropWhile isBl = []
    · exfalso
      rw [hne] at h
      have h9 : attrP attrs [] = none := attrP_bad rfl
      rw [h9] at h
      revert h
      show (if _ then _ else _) = _ → _
      split <;> (intro h; cases h)
    cases h1 : isP [47, 62] (l.dropWhile isBl) with
    | some r =>
      rw [h1] at h
      rw [isP_more h1]
      simp only [Option.some.injEq, Prod.mk.injEq] at h ⊢
      exact ⟨h.1, by rw [h.2]⟩
    | none =>
      rw [h1] at h
      rw [isP_less h1 hne (by decide)]
      cases h2 : isP [62] (l.dropWhile isBl) with
      | some r =>
        rw [h2] at h
        rw [isP_more h2]
        simp only [Option.some.injEq, Prod.mk.injEq] at h ⊢
        exact ⟨h.1, by rw [h.2]⟩
      | none =>
        rw [h2] at h
        rw [isP_less h2 hne (fun x hx => by cases hx)]
        simp only at h ⊢
        split at h
        · cases h
        rename_i h3
        rw [if_neg h3]
        cases h4 : attrP attrs (l.dropWhile isBl) with
        | none => rw [h4] at h; cases h
        | some x =>
          obtain ⟨y, r⟩ := x
          rw [h4] at h
          rw [attrP_more h4]
          have e1 := attrP_less h4
          exact ih name _ r rest t (by omega) h z
theorem tokP_more {l rest : List UInt8} {t : Tok} (hl : l ≠ []) (h : tokP l = some (t, rest)) (z : List UInt8) : tokP (l ++ 60 :: z) = some (t, rest ++ 60 :: z) := by
  cases h0 : isP [60, 47] l with
  | some l1 =>
    rw [tokP_close h0] at h
    rw [tokP_close (isP_more h0 _), nameR_more, (tw_lt (p := isWi) (by decide) z l1).2, (tw_lt (p := isBl) (by decide) z _).2]
    unfold closeQ at h ⊢
    split at h
    · cases h
    rename_i h1
    rw [if_neg h1]
    cases h2 : isP [62] ((l1.dropWhile isWi).dropWhile isBl) with
    | none => rw [h2] at h; cases h
    | some q =>
      rw [h2] at h
      rw [isP_more h2]
      simp only [Option.map_some, Option.some.injEq, Prod.mk.injEq] at h ⊢
      exact ⟨h.1, by rw [h.2]⟩
  | none =>
    have h0' := isP_less h0 hl (by decide) z
    cases h1 : isP [60] l with
    | some l1 =>
      rw [tokP_open h0 h1] at h
      rw [tokP_open h0' (isP_more h1 _), (tw_lt (p := isWi) (by decide) z l1).1, (tw_lt (p := isWi) (by decide) z l1).2]
      split at h
      · rename_i hn
        rw [if_pos hn]
        exact openV_more _ _ _ _ _ _ (Nat.le_refl _) h z
      · cases h
    | none =>
      rw [tokP_text h0 h1] at h
      obtain ⟨e1, e2⟩ := tw_lt (p := notLt) (by decide) z l
      rw [tokP_text h0' (isP_less h1 hl (fun x hx => by cases hx) z), e1, e2]
      cases hv : valV (l.takeWhile notLt) with
      | none => rw [hv] at h; cases h
      | some v =>
        rw [hv] at h
        simp only [Option.map_some, Option.some.injEq, Prod.mk.injEq] at h ⊢
        exact ⟨h.1, by rw [h.2]⟩
theorem toksV_more (z : List UInt8) : ∀ (k : Nat) (l : List UInt8) (ts : List Tok), l.length ≤ k → toksV l = some ts → toksV (l ++ 60 :: z) = (toksV (60 :: z)).map (ts ++ ·)
  | 0, l, ts, hk, h => by
    have : l = [] := List.eq_nil_of_length_eq_zero (by omega)
    subst this
    rw [toksV_nil] at h
    injection h with h
    subst h
    simp
  | k + 1, [], ts, hk, h => by
    rw [toksV_nil] at h
    injection h with h
    subst h
    simp
  | k + 1, c :: r, ts, hk, h => by
    rw [toksV_cons] at h
    cases ht : tokP (c :: r) with
    | none => rw [ht] at h; cases h
    | some x =>
      obtain ⟨t, rest⟩ := x
      have hls := tokP_less ht
      rw [ht] at h
      simp only at h
      cases hr : toksV rest with
      | none => rw [hr] at h; cases h
      | some us =>
        rw [hr] at h
        injection h with h
        subst h
        rw [toks_step (by simp) (tokP_more (by simp) ht z), toksV_more z k rest us (by simp only [List.length_cons] at hls hk; omega) hr, Option.map_map]
        rfl
/-- <c/> -/
def cTok : Tok := ⟨1, [99], [], [], true⟩
theorem c_toks (b : List UInt8) : toksV (60 :: 99 :: 47 :: 62 :: b) = (toksV b).map (cTok :: ·) := by
  have h : tokP (60 :: 99 :: 47 :: 62 :: b) = some (cTok, b) := by
    show tokP (60 :: ([99] ++ ([] ++ (47 :: 62 :: b)))) = _
    rw [tok_open rfl (fun x q e => by injection e with e _; subst e; decide), open_empty nil_bl]
    rfl
  exact toks_step (by simp) h
theorem tokE_parts {l : List UInt8} (h : tokE l = 0) : utf8B l = true ∧ toksV (bodyL l) = some (tokL l) := by
  have hL : tokL l = (toksV (bodyL l)).getD [] := by unfold tokL; rw [h]; rfl
  unfold tokE at h
  split at h
  · cases h
  split at h
  · cases h
  rename_i hu
  split at h
  · rename_i hs
    refine ⟨by simpa using hu, ?_⟩
    rw [hL]
    cases ht : toksV (bodyL l) with
    | none => rw [ht] at hs; cases hs
    | some ts => rfl
  · cases h
theorem parts_math {a b : List UInt8} (ha : tokE a = 0) (hb : tokE b = 0) (hla : a.length ≤ 1000) (hlb : b.length ≤ 1000) (hp : isP prologL b = none) :
    tokE (a ++ [60, 99, 47, 62] ++ b) = 0 ∧ tokL (a ++ [60, 99, 47, 62] ++ b) = tokL a ++ [cTok] ++ tokL b := by
  obtain ⟨ua, ta⟩ := tokE_parts ha
  obtain ⟨ub, tb⟩ := tokE_parts hb
  have hbb : bodyL b = b := by unfold bodyL; rw [hp]; rfl
  rw [hbb] at tb
  have e : a ++ [60, 99, 47, 62] ++ b = a ++ 60 :: (99 :: 47 :: 62 :: b) := by simp
  have hu : utf8B (a ++ [60, 99, 47, 62] ++ b) = true := (runes_app (runes_app ua (by decide)).1 ub).1
  have hbody : bodyL (a ++ [60, 99, 47, 62] ++ b) = bodyL a ++ 60 :: (99 :: 47 :: 62 :: b) := by
    rw [e]
    unfold bodyL
    cases h1 : isP prologL a with
    | some r => rw [isP_more h1]; rfl
    | none =>
      by_cases h0 : a = []
      · subst h0
        rw [List.nil_append, show isP prologL (60 :: 99 :: 47 :: 62 :: b) = none from by unfold isP; rw [if_neg]; simp [prologL]]
        rfl
      · rw [show isP prologL (a ++ 60 :: (99 :: 47 :: 62 :: b)) = none from isP_less h1 h0 (by decide) _]
        rfl
  have ht : toksV (bodyL (a ++ [60, 99, 47, 62] ++ b)) = some (tokL a ++ [cTok] ++ tokL b) := by
    rw [hbody, toksV_more _ _ _ _ (Nat.le_refl _) ta, c_toks, tb]
    simp
  have he : tokE (a ++ [60, 99, 47, 62] ++ b) = 0 := by
    unfold tokE
    rw [if_neg (by simp; omega), hu, ht]
    rfl
  refine ⟨he, ?_⟩
  unfold tokL
  rw [he, ht]
  rfl

theorem toksV_len : ∀ (k : Nat) (l : List UInt8) (ts : List Tok), l.length ≤ k → toksV l = some ts → ts.length ≤ l.length
  | _, [], ts, _, h => by
    rw [toksV_nil] at h
    injection h with h
    subst h
    simp
  | 0, _ :: _, _, hk, _ => by simp at hk
  | k + 1, c :: r, ts, hk, h => by
    rw [toksV_cons] at h
    cases ht : tokP (c :: r) with
    | none => rw [ht] at h; cases h
    | some x =>
      obtain ⟨t, rest⟩ := x
      have hls := tokP_less ht
      rw [ht] at h
      simp only at h
      cases hr : toksV rest with
      | none => rw [hr] at h; cases h
      | some us =>
        rw [hr] at h
        injection h with h
        subst h
        have := toksV_len k rest us (by simp only [List.length_cons] at hls hk; omega) hr
        simp only [List.length_cons] at hls ⊢
        omega
theorem tokL_len {l : List UInt8} (h : tokE l = 0) : (tokL l).length ≤ l.length := by
  obtain ⟨_, h2⟩ := tokE_parts h
  have h3 := toksV_len _ _ _ (Nat.le_refl _) h2
  have h4 : (bodyL l).length ≤ l.length := by
    unfold bodyL
    cases hp : isP prologL l with
    | none => exact Nat.le_refl _
    | some r =>
      have := (isP_len hp).2
      simp only [Option.getD_some]
      omega
  omega

/-- the token in the middle, as it is laid -/
theorem cTok_cells (w : World) (N : Nat → Prop) : TokI w N [.int .i64 1, .string ⟨#[99]⟩, .string ⟨#[]⟩, .slice none 0 0, .bool true] cTok :=
  ⟨⟨#[99]⟩, ⟨#[]⟩, none, 0, 0, rfl, rfl, rfl, RdI.nil_ _ _ _ _⟩

set_option maxHeartbeats 1000000 in
theorem parts_bad (w : World) (hT : Tabs w) (S T : ByteArray) (hS : S.size ≤ 1000) (hU : T.size ≤ 1000) (hbad : ¬ (tokE S.data.toList = 0 ∧ tokE T.data.toList = 0 ∧ ¬ (4 < T.size ∧ T.data.toList.take 5 = [60, 63, 120, 109, 108]))) : Calls Tryz.prog 4 #[.string S, .string T] w fun e w' => e = .returned (.bool true) ∧ Fr No w w' := by
  have hlI : ¬ (1000 : Int) < (S.size : Int) := by omega
  have hlJ : ¬ (1000 : Int) < (T.size : Int) := by omega
  have hp := fun u => r_Tokens_any S u (by omega)
  have hq := fun u => r_Tokens_any T u (by omega)
  obtain ⟨P5, hP5⟩ : ∃ P5, T.extract 0 5 = P5 := ⟨_, rfl⟩
  have h5 : P5.toList = T.data.toList.take 5 := by rw [ba_list, ← hP5, ext_list]; rfl
  rw [← h5] at hbad
  generalize tokE S.data.toList = E1 at hp hbad
  generalize tokE T.data.toList = E2 at hq hbad
  generalize tokL S.data.toList = ls at hp
  generalize tokL T.data.toList = ms at hq
  have htest : ((E1 != 0) = true ∨ ((E1 != 0) = false ∧ (E2 != 0) = true) ∨ ((E1 != 0) = false ∧ (E2 != 0) = false)) ∧ ((T.size : Int) ≤ 4 ∨ (4 < (T.size : Int) ∧ (P5.toList == [60, 63, 120, 109, 108]) = false) ∨ (4 < (T.size : Int) ∧ (P5.toList == [60, 63, 120, 109, 108]) = true)) := by
    refine ⟨?_, ?_⟩
    · cases (E1 != 0) <;> cases (E2 != 0) <;> simp
    · cases (P5.toList == [60, 63, 120, 109, 108]) <;> simp <;> omega
  have hno : (E1 != 0) = false → (E2 != 0) = false → 4 < (T.size : Int) ∧ (P5.toList == [60, 63, 120, 109, 108]) = true := by
    intro h1 h2
    rw [bne_eq_false_iff_eq] at h1 h2
    have h3 := hbad
    rw [h1, h2] at h3
    have h4 : 4 < T.size ∧ P5.toList = [60, 63, 120, 109, 108] := Classical.byContradiction fun x => h3 ⟨rfl, rfl, x⟩
    exact ⟨by omega, by rw [h4.2]; rfl⟩
  have HP := Lib.hid hp; have HQ := Lib.hid hq; have HN := Lib.hid hno
  clear hp hq hbad hno h5
  obtain ⟨t1, t2⟩ := htest
  rcases t1 with t1 | ⟨t1, t3⟩ | ⟨t1, t3⟩
  all_goals rcases t2 with t2 | ⟨t2, t4⟩ | ⟨t2, t4⟩
  all_goals first
    | (exfalso; have h := HN.out t1 t3; first | omega | (rw [t4] at h; exact Bool.noConfusion h.2))
    | (go_enter Tryz.func4, Tryz.ntmps4
       have tok1 : True := trivial
       go_wp2_with (first
         | (go_at_call 7; clear tok1; refine (HP.out _).mono ?_; rintro e w1 ⟨v1, rfl, ho1, hf1⟩; obtain ⟨A1, c1, rfl, hr1⟩ := toks_rd ho1)
         | (go_at_call 7; refine (HQ.out _).mono ?_; rintro e w2 ⟨v2, rfl, ho2, hf2⟩; obtain ⟨A2, c2, rfl, hr2⟩ := toks_rd ho2)
         | (go_at_call 5; refine (awake_any _).mono ?_; rintro e w3 ⟨rfl, hf3⟩))
       go_ret
       exact ⟨rfl, (hf1.trans hf2).trans hf3⟩)

set_option maxHeartbeats 1000000 in
theorem parts_good (w : World) (hT : Tabs w) (S T : ByteArray) (hS : S.size ≤ 1000) (hU : T.size ≤ 1000) (ga : tokE S.data.toList = 0) (gb : tokE T.data.toList = 0) (gc : ¬ (4 < T.size ∧ T.data.toList.take 5 = [60, 63, 120, 109, 108])) : Calls Tryz.prog 4 #[.string S, .string T] w fun e w' => e = .returned (.bool true) ∧ Fr No w w' := by
  have hlI : ¬ (1000 : Int) < (S.size : Int) := by omega
  have hlJ : ¬ (1000 : Int) < (T.size : Int) := by omega
  have hs := size_list S
  have ht := size_list T
  have hp := fun u => r_Tokens_any S u (by omega)
  have hq := fun u => r_Tokens_any T u (by omega)
  obtain ⟨P5, hP5⟩ : ∃ P5, T.extract 0 5 = P5 := ⟨_, rfl⟩
  have h5 : P5.toList = T.data.toList.take 5 := by rw [ba_list, ← hP5, ext_list]; rfl
  have hnp : isP prologL T.data.toList = none := by
    cases h : isP prologL T.data.toList with
    | none => rfl
    | some r =>
      exfalso
      obtain ⟨e1, e2⟩ := isP_len h
      refine gc ⟨?_, by rw [e1]; rfl⟩
      rw [ht] at e2
      simp [prologL] at e2
      omega
  obtain ⟨m1, m2⟩ := parts_math ga gb (by omega) (by omega) hnp
  obtain ⟨Z, hZ⟩ : ∃ Z, (S ++ ⟨#[60, 99, 47, 62]⟩) ++ T = Z := ⟨_, rfl⟩
  have hZl : Z.data.toList = S.data.toList ++ [60, 99, 47, 62] ++ T.data.toList := by rw [← hZ, app_list, app_list]
  have hz := fun u (hT : Tabs u) => tokens_any Z u (by rw [← size_list, hZl]; simp; omega)
  rw [hZl, m1, m2] at hz
  have l1 := tokL_len ga
  have l2 := tokL_len gb
  rw [hs] at l1
  rw [ht] at l2
  rw [ga] at hp
  rw [gb] at hq
  have htest : (T.size : Int) ≤ 4 ∨ (4 < (T.size : Int) ∧ (P5.toList == [60, 63, 120, 109, 108]) = false) := by
    by_cases h4 : 4 < T.size
    · exact .inr ⟨by omega, by rw [h5, beq_eq_false_iff_ne]; exact fun e => gc ⟨h4, e⟩⟩
    · exact .inl (by omega)
  generalize tokL S.data.toList = ls at hp hz l1
  generalize tokL T.data.toList = ms at hq hz l2
  have hll : (ls ++ [cTok] ++ ms).length = ls.length + 1 + ms.length := by simp; omega
  rw [hll] at hz
  generalize hn1 : ls.length = n1 at *
  generalize hn2 : ms.length = n2 at *
  have HP := Lib.hid hp; have HQ := Lib.hid hq; have HZ := Lib.hid hz; have HL := Lib.hid hll
  clear hp hq hz hZl h5 m1 m2 ga gb gc hnp hs ht hll hn1 hn2
  rcases htest with h4 | ⟨h4, h5⟩
  all_goals
    go_enter Tryz.func4, Tryz.ntmps4
    have tok1 : True := trivial
    have tok2 : True := trivial
    have tok3 : True := trivial
    go_wp2_with (first
      | (go_at_call 7; clear tok1; refine (HP.out _).mono ?_; rintro e w1 ⟨v1, rfl, ho1, hf1⟩; obtain ⟨A1, c1, rfl, hr1⟩ := toks_rd ho1)
      | (go_at_call 7; refine (HQ.out _).mono ?_; rintro e w2 ⟨v2, rfl, ho2, hf2⟩; obtain ⟨A2, c2, rfl, hr2⟩ := toks_rd ho2; have hs1 := hf1.size; have hs2 := hf2.size)
      | (go_at_call 6; refine (HZ.out _ (by repeat' first | with_reducible assumption | with_reducible apply Tabs.drew | with_reducible apply Tabs.drewN | with_reducible apply Tabs.alloc | refine Tabs.fr ?_ (by with_reducible assumption) | refine Tabs.dr ?_ (by with_reducible assumption))).mono ?_; rintro e w3 ⟨v3, rfl, ho3, hf3⟩; obtain ⟨A3, c3, rfl, hr3⟩ := toks_rd ho3; have hs3 := hf3.size; have hr13 := (hr1.no tok_ok hf2).no tok_ok hf3; have hr23 := hr2.no tok_ok hf3)
      | (at_builtin; clear tok2; refine ap_toks _ rfl _ _ rfl w3.heap.size (.slice none 0 0) 0 [] ls No _ rfl (OwnI.nil_ _ _ _ _ _ _) A1 n1 c1 rfl hr13 (by omega) (Nat.le_refl _) (fun i x => x.elim) (fun i x e => by simp [Value.ownBlock] at e) ?_; intro v4 w4 ho4 hg4 hv4; have hf4 : Fr No w3 w4 := (Fr.refl No w3).grown hg4 (by simp [Value.ownBlock]); have hs4 := hf4.size; have hlt4 := ho4.lt; rw [Nat.zero_add, List.nil_append] at ho4)
      | (at_builtin; clear tok3; refine ap_tok1 w4 rfl _ _ rfl w3.heap.size v4 n1 ls _ No rfl ho4 cTok [.int .i64 1, .string ⟨#[99]⟩, .string ⟨#[]⟩, .slice none 0 0, .bool true] (cTok_cells _ _) _ _ rfl rfl (by omega) hs4 (fun i x e => by have := hlt4 i e; rcases x with x | x; exact x.elim; omega) (fun i x => x.elim) ?_; intro v5 w5 ho5 hg5 hv5; have hf5 : Fr (fun i => w3.heap.size ≤ i) w4 w5 := ((Fr.refl _ w4).alloc _).grown hg5 (fun g e => .inl (hlt4 g e).1); have hs5 := hf5.size; have hlt5 := ho5.lt; have hr25 := (hr23.no tok_ok hf4).fr tok_ok hf5 (fun i hi e => by omega))
      | (at_builtin; refine ap_toks _ rfl _ _ rfl w3.heap.size v5 (n1 + 1) (ls ++ [cTok]) ms _ _ rfl ho5 A2 n2 c2 rfl hr25 (by omega) (by omega) (fun i x e => by have := hlt5 i e; rcases x with (x | x) | x; exact x.elim; omega; exact x.elim) (fun i x e => by have := hlt5 i e; omega) ?_; intro v6 w6 ho6 hg6 hv6; have hf6 : Fr (fun i => w3.heap.size ≤ i) w5 w6 := (Fr.refl _ w5).grown hg6 (fun g e => .inl (hlt5 g e).1); have hlt6 := ho6.lt; have hs6 := hf6.size; obtain ⟨A6, c6, rfl, hr6⟩ := ho6.rd' (M := fun i => w.heap.size ≤ i) (fun i e => by have := hlt6 i e; omega) tok_ok (fun i x => by rcases x with ((x | x) | x) | x; exact x.elim; omega; exact x.elim; omega); have hf36 : Fr No w w6 := ((((hf1.trans hf2).trans hf3).trans hf4).trans_new hf5 (fun i hi => .inr (by omega))).trans_new hf6 (fun i hi => .inr (by omega)); have hT6 : Tabs w6 := hT.fr hf36; have hr36 := (((hr3.no tok_ok hf4).fr tok_ok hf5 (fun i hi e => by omega)).fr tok_ok hf6 (fun i hi e => by omega)))
      | (go_at_call 5; refine (awake_any _).mono ?_; rintro e w7 ⟨rfl, hf7⟩)
      | (go_at_call 8; refine (sameT_any _ _ _ _ _ (ls ++ [cTok] ++ ms) _ _ _ (hr36.no tok_ok hf7) (hr6.no tok_ok hf7)).mono ?_; rintro e w8 ⟨rfl, hf8⟩))
    go_ret
    exact ⟨rfl, (hf36.trans hf7).trans hf8⟩

theorem parts_walk {S T : ByteArray} (w : World) (hT : Tabs w) (hS : S.size ≤ 9223372036854775807) (hU : T.size ≤ 9223372036854775807) : Calls Tryz.prog 4 #[.string S, .string T] w fun e w' => e = .returned (.bool true) ∧ Fr No w w' := by
  by_cases hl : 1000 < S.size ∨ 1000 < T.size
  · have hlI : (1000 : Int) < (S.size : Int) ∨ (¬ (1000 : Int) < (S.size : Int) ∧ (1000 : Int) < (T.size : Int)) := by omega
    clear hl
    rcases hlI with hlI | ⟨hlI, hlJ⟩
    all_goals
      go_enter Tryz.func4, Tryz.ntmps4
      go_wp2_with (go_at_call 5; refine (awake_any _).mono ?_; rintro e w1 ⟨rfl, hf1⟩)
      go_ret
      exact ⟨rfl, hf1⟩
  · by_cases hgood : tokE S.data.toList = 0 ∧ tokE T.data.toList = 0 ∧ ¬ (4 < T.size ∧ T.data.toList.take 5 = [60, 63, 120, 109, 108])
    · exact parts_good w hT S T (by omega) (by omega) hgood.1 hgood.2.1 hgood.2.2
    · exact parts_bad w hT S T (by omega) (by omega) hgood
end Go.Proofs.YthkbdbgmfolpeaaGreatDoor
