/- XML, piece by piece: what is written is told: plain functions on lists of bytes, no program. -/
import Derived.Test.YthkjmbkfcnehoaaGreatDoorRefTokY
import Derived.Test.YthkjmbkfcnehoaaGreatDoorEscMath
namespace Go.Proofs.YthkjmbkfcnehoaaGreatDoor
set_option linter.unusedVariables false

/-! ### pieces that are written are told -/
def allBl (g : List UInt8) : Prop := ∀ x ∈ g, isBl x = true
theorem bl_not_wi {x : UInt8} (h : isBl x = true) : isWi x = false := by
  unfold isBl at h
  unfold isWi isFi
  simp at h ⊢
  omega
/-- a name, and what is behind it begins with none of a name's signs -/
theorem name_here {n r : List UInt8} (hn : nameOk n = true) (hr : ∀ x q, r = x :: q → isWi x = false) : (n ++ r).takeWhile isWi = n ∧ (n ++ r).dropWhile isWi = r := by
  refine tw_app (fun x hx => ?_) hr
  cases n with
  | nil => cases hx
  | cons c q =>
    unfold nameOk at hn
    simp only [Bool.and_eq_true, List.all_eq_true] at hn
    exact hn.2 x hx
theorem nameR_here {n r : List UInt8} (hn : nameOk n = true) (hr : ∀ x q, r = x :: q → isWi x = false) : nameR (n ++ r) = n := by
  unfold nameR
  rw [(name_here hn hr).1, hn]
  rfl
/-- blanks, and what is behind them is none -/
theorem blanks_here {g r : List UInt8} (hg : allBl g) (hr : ∀ x q, r = x :: q → isBl x = false) : (g ++ r).takeWhile isBl = g ∧ (g ++ r).dropWhile isBl = r := tw_app hg hr
theorem gap_head {g r : List UInt8} (hg : allBl g) (p : UInt8 → Prop) (hb : ∀ x, isBl x = true → p x) (hr : ∀ x q, r = x :: q → p x) : ∀ x q, g ++ r = x :: q → p x := by
  intro x q e
  cases g with
  | nil => exact hr x q e
  | cons y t =>
    injection e with e1 _
    subst e1
    exact hb _ (hg _ (by simp))
theorem name_head {n r : List UInt8} (hn : nameOk n = true) : ∀ x q, n ++ r = x :: q → isBl x = false ∧ x ≠ 47 ∧ x ≠ 62 := by
  intro x q e
  cases n with
  | nil => cases hn
  | cons c t =>
    injection e with e1 _
    subst e1
    unfold nameOk at hn
    simp only [Bool.and_eq_true] at hn
    have h := hn.1
    unfold isFi at h
    simp at h
    refine ⟨?_, fun e => ?_, fun e => ?_⟩
    · unfold isBl
      simp
      omega
    · subst e; simp at h
    · subst e; simp at h
theorem attr_here {used : List (List UInt8 × List UInt8)} {n g1 g2 s rest : List UInt8} (hn : nameOk n = true) (hu : ∀ a ∈ used, a.1 ≠ n) (h1 : allBl g1) (h2 : allBl g2) :
    attrP used (n ++ (g1 ++ (61 :: (g2 ++ (34 :: (escL s ++ (34 :: rest))))))) = some ((n, s), rest) := by
  have hh : ∀ x q, g1 ++ (61 :: (g2 ++ (34 :: (escL s ++ (34 :: rest))))) = x :: q → isWi x = false := gap_head h1 _ (fun x => bl_not_wi) (fun x q e => by injection e with e _; subst e; decide)
  have hnm := nameR_here hn hh
  obtain ⟨t1, t2⟩ := name_here hn hh
  rw [attrP_new (by rw [t1]; exact hn) (by intro j hj; rw [hnm]; exact hu _ (List.getElem_mem _)), hnm, t2, (blanks_here h1 (fun x q e => by injection e with e _; subst e; decide)).2]
  rw [attrQ_good (isP_one 61 _) (blanks_here h2 (fun x q e => by injection e with e _; subst e; decide)).2 (.inl rfl)]
  obtain ⟨v1, v2⟩ := tw_app (p := inVal 34) (a := escL s) (b := 34 :: rest) (fun x hx => by
    have := escL_in hx
    unfold inVal
    rw [decide_eq_true_iff]
    exact ⟨fun e => this.2.1 (by rw [e]; rfl), this.1⟩) (fun x q e => by injection e with e _; subst e; decide)
  rw [v2, v1, valV_escL]
  simp
theorem open_attr {name n g g1 g2 s rest : List UInt8} {attrs : List (List UInt8 × List UInt8)} (hg : allBl g) (hg0 : g ≠ []) (hn : nameOk n = true) (hu : ∀ a ∈ attrs, a.1 ≠ n) (h1 : allBl g1) (h2 : allBl g2) :
    openV name attrs (g ++ (n ++ (g1 ++ (61 :: (g2 ++ (34 :: (escL s ++ (34 :: rest)))))))) = openV name (attrs ++ [(n, s)]) rest := by
  have hh := name_head (r := g1 ++ (61 :: (g2 ++ (34 :: (escL s ++ (34 :: rest)))))) hn
  obtain ⟨t1, t2⟩ := blanks_here hg (fun x q e => (hh x q e).1)
  rw [openV_eq, t2, t1, attr_here hn hu h1 h2]
  obtain ⟨x, q, e⟩ : ∃ x q, n ++ (g1 ++ (61 :: (g2 ++ (34 :: (escL s ++ (34 :: rest)))))) = x :: q := by
    cases n with
    | nil => cases hn
    | cons c t => exact ⟨_, _, rfl⟩
  obtain ⟨_, h47, h62⟩ := hh x q e
  rw [e, isP_ne (fun e => h47 e.symm), isP_ne (fun e => h62 e.symm)]
  simp only
  rw [if_neg (by intro e; exact hg0 (List.eq_nil_of_length_eq_zero e))]
theorem open_end {name g rest : List UInt8} {attrs : List (List UInt8 × List UInt8)} (hg : allBl g) : openV name attrs (g ++ (62 :: rest)) = some (⟨1, name, [], attrs, false⟩, rest) := by
  rw [openV_eq, (blanks_here hg (fun x q e => by injection e with e _; subst e; decide)).2, isP_ne (by decide), isP_one]
theorem open_empty {name g rest : List UInt8} {attrs : List (List UInt8 × List UInt8)} (hg : allBl g) : openV name attrs (g ++ (47 :: 62 :: rest)) = some (⟨1, name, [], attrs, true⟩, rest) := by
  rw [openV_eq, (blanks_here hg (fun x q e => by injection e with e _; subst e; decide)).2, show (47 :: 62 :: rest : List UInt8) = [47, 62] ++ rest from rfl, isP_app]
theorem tok_open {n r : List UInt8} (hn : nameOk n = true) (hr : ∀ x q, r = x :: q → isWi x = false) : tokP (60 :: (n ++ r)) = openV n [] r := by
  obtain ⟨t1, t2⟩ := name_here hn hr
  have h0 : isP [60, 47] (60 :: (n ++ r)) = none := by
    cases n with
    | nil => cases hn
    | cons c t =>
      have h := (name_head (r := r) hn c (t ++ r) rfl).2.1
      unfold isP
      rw [if_neg]
      intro e
      obtain ⟨u, e⟩ := List.isPrefixOf_iff_prefix.1 e
      injection e with _ e
      injection e with e _
      exact h e.symm
  rw [tokP_open h0 (isP_one 60 _), t1, t2, hn]
  rfl
theorem tok_close {n g r : List UInt8} (hn : nameOk n = true) (hg : allBl g) : tokP (60 :: 47 :: (n ++ (g ++ (62 :: r)))) = some (⟨2, n, [], [], false⟩, r) := by
  have hh : ∀ x q, g ++ (62 :: r) = x :: q → isWi x = false := gap_head hg _ (fun x => bl_not_wi) (fun x q e => by injection e with e _; subst e; decide)
  rw [show (60 :: 47 :: (n ++ (g ++ (62 :: r))) : List UInt8) = [60, 47] ++ (n ++ (g ++ (62 :: r))) from rfl, tokP_close (isP_app [60, 47] (n ++ (g ++ (62 :: r)))), nameR_here hn hh, (name_here hn hh).2, (blanks_here hg (fun x q e => by injection e with e _; subst e; decide)).2]
  unfold closeQ
  rw [if_neg (by intro e; subst e; cases hn), isP_one]
  rfl
theorem esc_head {s r : List UInt8} (hs : s ≠ []) : ∃ x q, escL s ++ r = x :: q ∧ x ≠ 60 := by
  cases s with
  | nil => exact absurd rfl hs
  | cons c t =>
    rw [escL_cons]
    cases hb : escB c with
    | nil => have := (escB_len c).1; rw [hb] at this; simp at this
    | cons x q =>
      refine ⟨x, _, rfl, fun e => ?_⟩
      have := (escB_in (c := c) (b := x) (by rw [hb]; simp)).1
      exact this (by rw [e]; rfl)
theorem tok_text {s r : List UInt8} (hs : s ≠ []) (hr : ∀ x q, r = x :: q → x = 60) : tokP (escL s ++ r) = some (⟨3, [], s, [], false⟩, r) := by
  obtain ⟨x, q, e, hx⟩ := esc_head (r := r) hs
  obtain ⟨t1, t2⟩ := tw_app (p := notLt) (a := escL s) (b := r) (fun x hx => by
    have := escL_in hx
    unfold notLt
    rw [decide_eq_true_iff]
    exact this.1) (fun x q e => by rw [hr x q e]; decide)
  rw [tokP_text (by rw [e]; exact isP_ne (fun h => hx h.symm)) (by rw [e]; exact isP_ne (fun h => hx h.symm)), t1, t2, valV_escL]
  rfl
theorem toks_step {l rest : List UInt8} {t : Tok} (hl : l ≠ []) (h : tokP l = some (t, rest)) : toksV l = (toksV rest).map (t :: ·) := by
  cases l with
  | nil => exact absurd rfl hl
  | cons c r => rw [toksV_cons, h]
end Go.Proofs.YthkjmbkfcnehoaaGreatDoor
