/- XML, piece by piece: what is written is told: plain functions on lists of bytes, no program. -/
import Derived.Test.YtdgfpjekahpggaaGreatDoorRefTokY
namespace Go.Proofs.YtdgfpjekahpggaaGreatDoor
set_option linter.unusedVariables false

theorem tw_app {p : UInt8 → Bool} {a b : List UInt8} (ha : ∀ x ∈ a, p x = true) (hb : ∀ x r, b = x :: r → p x = false) : (a ++ b).takeWhile p = a ∧ (a ++ b).dropWhile p = b := by
  constructor
  · rw [List.takeWhile_append_of_pos ha]
    cases b with
    | nil => simp
    | cons x r => rw [List.takeWhile_cons, if_neg (by rw [hb x r rfl]; simp)]; simp
  · rw [List.dropWhile_append_of_pos ha]
    cases b with
    | nil => rfl
    | cons x r => rw [List.dropWhile_cons, if_neg (by rw [hb x r rfl]; simp)]
theorem isP_app (p r : List UInt8) : isP p (p ++ r) = some r := by
  unfold isP
  rw [if_pos (List.isPrefixOf_iff_prefix.2 (List.prefix_append p r)), List.drop_left]
theorem isP_one (c : UInt8) (r : List UInt8) : isP [c] (c :: r) = some r := isP_app [c] r
theorem isP_ne {c d : UInt8} {p r : List UInt8} (h : c ≠ d) : isP (c :: p) (d :: r) = none := by
  unfold isP
  rw [if_neg]
  intro e
  obtain ⟨t, e⟩ := List.isPrefixOf_iff_prefix.1 e
  injection e with e1 _
  exact h e1

/-! ### texts that are escaped -/
def escB (c : UInt8) : List UInt8 := if c = 38 then [38, 97, 109, 112, 59] else if c = 60 then [38, 108, 116, 59] else if c = 62 then [38, 103, 116, 59] else if c = 34 then [38, 113, 117, 111, 116, 59] else [c]
def escL (l : List UInt8) : List UInt8 := l.flatMap escB
theorem escL_cons (c : UInt8) (l : List UInt8) : escL (c :: l) = escB c ++ escL l := rfl
theorem escL_app (a b : List UInt8) : escL (a ++ b) = escL a ++ escL b := by simp [escL]
theorem esc_cases (c : UInt8) : (c = 38 ∧ escB c = [38, 97, 109, 112, 59]) ∨ (c = 60 ∧ escB c = [38, 108, 116, 59]) ∨ (c = 62 ∧ escB c = [38, 103, 116, 59]) ∨ (c = 34 ∧ escB c = [38, 113, 117, 111, 116, 59]) ∨ (c ≠ 38 ∧ c ≠ 60 ∧ c ≠ 62 ∧ c ≠ 34 ∧ escB c = [c]) := by
  unfold escB
  by_cases h1 : c = 38
  · exact .inl ⟨h1, if_pos h1⟩
  by_cases h2 : c = 60
  · exact .inr (.inl ⟨h2, by rw [if_neg h1, if_pos h2]⟩)
  by_cases h3 : c = 62
  · exact .inr (.inr (.inl ⟨h3, by rw [if_neg h1, if_neg h2, if_pos h3]⟩))
  by_cases h4 : c = 34
  · exact .inr (.inr (.inr (.inl ⟨h4, by rw [if_neg h1, if_neg h2, if_neg h3, if_pos h4]⟩)))
  · exact .inr (.inr (.inr (.inr ⟨h1, h2, h3, h4, by rw [if_neg h1, if_neg h2, if_neg h3, if_neg h4]⟩)))
theorem valV_esc (r : List UInt8) : ∀ l : List UInt8, valV (escL l ++ r) = (valV r).map (l ++ ·)
  | [] => by simp [escL]
  | c :: l => by
    have ih := valV_esc r l
    rw [escL_cons, List.append_assoc]
    have fin : ∀ o : Option (List UInt8), (o.map (l ++ ·)).map ([c] ++ ·) = o.map (c :: l ++ ·) := by
      intro o
      rw [Option.map_map]
      rfl
    rcases esc_cases c with ⟨rfl, e⟩ | ⟨rfl, e⟩ | ⟨rfl, e⟩ | ⟨rfl, e⟩ | ⟨h1, _, _, _, e⟩
    · rw [e, show [38, 97, 109, 112, 59] ++ (escL l ++ r) = 38 :: [97, 109, 112] ++ (59 :: (escL l ++ r)) from rfl, valV_ent (by decide), ih]
      exact fin _
    · rw [e, show [38, 108, 116, 59] ++ (escL l ++ r) = 38 :: [108, 116] ++ (59 :: (escL l ++ r)) from rfl, valV_ent (by decide), ih]
      exact fin _
    · rw [e, show [38, 103, 116, 59] ++ (escL l ++ r) = 38 :: [103, 116] ++ (59 :: (escL l ++ r)) from rfl, valV_ent (by decide), ih]
      exact fin _
    · rw [e, show [38, 113, 117, 111, 116, 59] ++ (escL l ++ r) = 38 :: [113, 117, 111, 116] ++ (59 :: (escL l ++ r)) from rfl, valV_ent (by decide), ih]
      exact fin _
    · rw [e, show [c] ++ (escL l ++ r) = c :: (escL l ++ r) from rfl, valV_plain (fun h => h1 (UInt8.toNat_inj.1 h)), ih]
      exact fin _
theorem valV_escL (l : List UInt8) : valV (escL l) = some l := by
  have h := valV_esc [] l
  rw [List.append_nil, valV_nil] at h
  simpa using h
theorem escB_in {c b : UInt8} (h : b ∈ escB c) : b.toNat ≠ 60 ∧ b.toNat ≠ 34 ∧ b.toNat ≠ 62 := by
  rcases esc_cases c with ⟨rfl, e⟩ | ⟨rfl, e⟩ | ⟨rfl, e⟩ | ⟨rfl, e⟩ | ⟨h1, h2, h3, h4, e⟩
  · rw [e] at h; revert b; decide
  · rw [e] at h; revert b; decide
  · rw [e] at h; revert b; decide
  · rw [e] at h; revert b; decide
  · rw [e] at h
    obtain rfl : b = c := by simpa using h
    exact ⟨fun e => h2 (UInt8.toNat_inj.1 e), fun e => h4 (UInt8.toNat_inj.1 e), fun e => h3 (UInt8.toNat_inj.1 e)⟩
theorem escL_in {l : List UInt8} {b : UInt8} (h : b ∈ escL l) : b.toNat ≠ 60 ∧ b.toNat ≠ 34 ∧ b.toNat ≠ 62 := by
  unfold escL at h
  obtain ⟨c, _, h⟩ := List.mem_flatMap.1 h
  exact escB_in h
theorem escB_len (c : UInt8) : 1 ≤ (escB c).length ∧ (escB c).length ≤ 6 := by
  rcases esc_cases c with ⟨_, e⟩ | ⟨_, e⟩ | ⟨_, e⟩ | ⟨_, e⟩ | ⟨_, _, _, _, e⟩ <;> rw [e] <;> simp
theorem escL_len : ∀ l : List UInt8, l.length ≤ (escL l).length ∧ (escL l).length ≤ 6 * l.length
  | [] => by simp [escL]
  | c :: l => by
    have ih := escL_len l
    have h := escB_len c
    rw [escL_cons, List.length_append, List.length_cons]
    omega

/-! ### escaped they are texts still -/
theorem tlB_all : ∀ (k : Nat) (r : List UInt8) (c v : Nat), tlB k r c = some v → ∀ x ∈ r.take k, 128 ≤ x.toNat
  | 0, _, _, _, _, x, hx => by simp at hx
  | k + 1, [], _, _, h, _, _ => by cases h
  | k + 1, b :: r, c, v, h, x, hx => by
    unfold tlB at h
    split at h
    · rename_i hb
      rw [List.take_succ_cons] at hx
      rcases List.mem_cons.1 hx with rfl | hx
      · unfold contB at hb
        simp at hb
        omega
      · exact tlB_all k r _ v h x hx
    · cases h
theorem size_take {l : List UInt8} (h : sizeB l ≠ 0) : sizeB (l.take (sizeB l)) = sizeB l ∧ (sizeB l = 1 ∨ ∀ x ∈ l.take (sizeB l), 128 ≤ x.toNat) := by
  cases l with
  | nil => exact absurd rfl h
  | cons b r =>
    obtain ⟨n, least, c, hl⟩ : ∃ n least c, lead b.toNat = some (n, least, c) := by
      cases hl : lead b.toNat with
      | none => rw [sizeB_cons, hl] at h; exact absurd rfl h
      | some p => exact ⟨p.1, p.2.1, p.2.2, rfl⟩
    obtain ⟨hn1, hn4, hnx⟩ := lead_some hl
    rw [sizeB_cons, hl, sizeC_some] at h
    cases ht : tlB (n - 1) r c with
    | none => rw [ht] at h; exact absurd rfl h
    | some v =>
      have hfin : finB (some v) n least = n := by
        rw [ht] at h
        rw [finB_some] at h ⊢
        split at h
        · exact absurd rfl h
        rename_i h1
        split at h
        · rename_i h2
          rw [if_neg h1, if_pos h2]
        · exact absurd rfl h
      have hsz : sizeB (b :: r) = n := by rw [sizeB_cons, hl, sizeC_some, ht, hfin]
      rw [hsz]
      have hk := tlB_len _ _ _ _ ht
      have htk : (b :: r).take n = b :: r.take (n - 1) := by
        obtain ⟨m, rfl⟩ : ∃ m, n = m + 1 := ⟨n - 1, by omega⟩
        rfl
      constructor
      · rw [htk, sizeB_cons, hl, sizeC_some]
        have h1 := tlB_append (n - 1) (r.take (n - 1)) (r.drop (n - 1)) c (by rw [List.length_take]; omega)
        rw [List.take_append_drop, ht] at h1
        rw [← h1, hfin]
      · rcases hnx with ⟨rfl, _⟩ | ⟨_, h192⟩
        · exact .inl rfl
        · refine .inr ?_
          rw [htk]
          intro x hx
          rcases List.mem_cons.1 hx with rfl | hx
          · omega
          · exact tlB_all _ _ _ _ ht x hx
theorem escL_high : ∀ {l : List UInt8}, (∀ x ∈ l, 128 ≤ x.toNat) → escL l = l
  | [], _ => rfl
  | c :: l, h => by
    have hc := h c (by simp)
    rw [escL_cons, escL_high (fun x hx => h x (by simp [hx]))]
    rcases esc_cases c with ⟨rfl, _⟩ | ⟨rfl, _⟩ | ⟨rfl, _⟩ | ⟨rfl, _⟩ | ⟨_, _, _, _, e⟩
    · exact absurd hc (by decide)
    · exact absurd hc (by decide)
    · exact absurd hc (by decide)
    · exact absurd hc (by decide)
    · rw [e]; rfl
theorem utf8_esc : ∀ (n : Nat) (l : List UInt8), l.length ≤ n → utf8B l = true → utf8B (escL l) = true
  | 0, l, hn, _ => by
    have : l = [] := List.eq_nil_of_length_eq_zero (by omega)
    subst this
    rfl
  | n + 1, l, hn, h => by
    by_cases hne : l = []
    · subst hne; rfl
    have hs := h
    unfold utf8B at hs
    rw [cnt_step hne] at hs
    by_cases h0 : sizeB l = 0
    · rw [if_pos h0] at hs; cases hs
    rw [if_neg h0] at hs
    obtain ⟨h1, h2, _⟩ := sizeB_pos h0
    have hd : utf8B (l.drop (sizeB l)) = true := by
      unfold utf8B
      cases hc : cnt (l.drop (sizeB l)) with
      | none => rw [hc] at hs; cases hs
      | some x => rfl
    have ih := utf8_esc n (l.drop (sizeB l)) (by rw [List.length_drop]; omega) hd
    obtain ⟨t1, t2⟩ := size_take h0
    have ht : utf8B (l.take (sizeB l)) = true := by
      unfold utf8B
      have hne2 : l.take (sizeB l) ≠ [] := by
        intro e
        have := congrArg List.length e
        rw [List.length_take, List.length_nil] at this
        omega
      rw [cnt_step hne2, t1, if_neg h0, List.drop_eq_nil_of_le (by rw [List.length_take]; omega)]
      rfl
    have he : utf8B (escL (l.take (sizeB l))) = true := by
      rcases t2 with t2 | t2
      · rw [t2] at ht ⊢
        obtain ⟨c, r, rfl⟩ : ∃ c r, l = c :: r := by
          cases l with
          | nil => exact absurd rfl hne
          | cons c r => exact ⟨c, r, rfl⟩
        rw [List.take_succ_cons, List.take_zero] at ht ⊢
        rw [escL_cons, show escL [] = [] from rfl, List.append_nil]
        rcases esc_cases c with ⟨rfl, e⟩ | ⟨rfl, e⟩ | ⟨rfl, e⟩ | ⟨rfl, e⟩ | ⟨_, _, _, _, e⟩
        · rw [e]; decide
        · rw [e]; decide
        · rw [e]; decide
        · rw [e]; decide
        · rw [e]; exact ht
      · rw [escL_high t2]; exact ht
    rw [← List.take_append_drop (sizeB l) l, escL_app]
    exact (runes_app he ih).1

/-! ### pieces that are written are told -/
def allBl (g : List UInt8) : Prop := ∀ x ∈ g, isBl x = true
theorem bl_not_wi {x : UInt8} (h : isBl x = true) : isWi x = false := by
  unfold isBl at h
  unfold isWi isFi
  simp at h ⊢
  omega
/-- a name, and what is behind it begins with none of a name's signs -/
theorem name_here {n r : List UInt8} (hn : nameOk n = true) (hr : ∀ x q, r = x :: q → isWi x = false) : (n ++ r).takeWhile isWi = n ∧ (n ++ r).dropWhile isWi = r := by
  refine tw_app (fun x hx => ?_) hr
  cases n with
  | nil => cases hx
  | cons c q =>
    unfold nameOk at hn
    simp only [Bool.and_eq_true, List.all_eq_true] at hn
    exact hn.2 x hx
theorem nameR_here {n r : List UInt8} (hn : nameOk n = true) (hr : ∀ x q, r = x :: q → isWi x = false) : nameR (n ++ r) = n := by
  unfold nameR
  rw [(name_here hn hr).1, hn]
  rfl
/-- blanks, and what is behind them is none -/
theorem blanks_here {g r : List UInt8} (hg : allBl g) (hr : ∀ x q, r = x :: q → isBl x = false) : (g ++ r).takeWhile isBl = g ∧ (g ++ r).dropWhile isBl = r := tw_app hg hr
theorem gap_head {g r : List UInt8} (hg : allBl g) (p : UInt8 → Prop) (hb : ∀ x, isBl x = true → p x) (hr : ∀ x q, r = x :: q → p x) : ∀ x q, g ++ r = x :: q → p x := by
  intro x q e
  cases g with
  | nil => exact hr x q e
  | cons y t =>
    injection e with e1 _
    subst e1
    exact hb _ (hg _ (by simp))
theorem name_head {n r : List UInt8} (hn : nameOk n = true) : ∀ x q, n ++ r = x :: q → isBl x = false ∧ x ≠ 47 ∧ x ≠ 62 := by
  intro x q e
  cases n with
  | nil => cases hn
  | cons c t =>
    injection e with e1 _
    subst e1
    unfold nameOk at hn
    simp only [Bool.and_eq_true] at hn
    have h := hn.1
    unfold isFi at h
    simp at h
    refine ⟨?_, fun e => ?_, fun e => ?_⟩
    · unfold isBl
      simp
      omega
    · subst e; simp at h
    · subst e; simp at h
theorem attr_here {used : List (List UInt8 × List UInt8)} {n g1 g2 s rest : List UInt8} (hn : nameOk n = true) (hu : ∀ a ∈ used, a.1 ≠ n) (h1 : allBl g1) (h2 : allBl g2) :
    attrP used (n ++ (g1 ++ (61 :: (g2 ++ (34 :: (escL s ++ (34 :: rest))))))) = some ((n, s), rest) := by
  have hh : ∀ x q, g1 ++ (61 :: (g2 ++ (34 :: (escL s ++ (34 :: rest))))) = x :: q → isWi x = false := gap_head h1 _ (fun x => bl_not_wi) (fun x q e => by injection e with e _; subst e; decide)
  have hnm := nameR_here hn hh
  obtain ⟨t1, t2⟩ := name_here hn hh
  rw [attrP_new (by rw [t1]; exact hn) (by intro j hj; rw [hnm]; exact hu _ (List.getElem_mem _)), hnm, t2, (blanks_here h1 (fun x q e => by injection e with e _; subst e; decide)).2]
  rw [attrQ_good (isP_one 61 _) (blanks_here h2 (fun x q e => by injection e with e _; subst e; decide)).2 (.inl rfl)]
  obtain ⟨v1, v2⟩ := tw_app (p := inVal 34) (a := escL s) (b := 34 :: rest) (fun x hx => by
    have := escL_in hx
    unfold inVal
    rw [decide_eq_true_iff]
    exact ⟨fun e => this.2.1 (by rw [e]; rfl), this.1⟩) (fun x q e => by injection e with e _; subst e; decide)
  rw [v2, v1, valV_escL]
  simp
theorem open_attr {name n g g1 g2 s rest : List UInt8} {attrs : List (List UInt8 × List UInt8)} (hg : allBl g) (hg0 : g ≠ []) (hn : nameOk n = true) (hu : ∀ a ∈ attrs, a.1 ≠ n) (h1 : allBl g1) (h2 : allBl g2) :
    openV name attrs (g ++ (n ++ (g1 ++ (61 :: (g2 ++ (34 :: (escL s ++ (34 :: rest)))))))) = openV name (attrs ++ [(n, s)]) rest := by
  have hh := name_head (r := g1 ++ (61 :: (g2 ++ (34 :: (escL s ++ (34 :: rest)))))) hn
  obtain ⟨t1, t2⟩ := blanks_here hg (fun x q e => (hh x q e).1)
  rw [openV_eq, t2, t1, attr_here hn hu h1 h2]
  obtain ⟨x, q, e⟩ : ∃ x q, n ++ (g1 ++ (61 :: (g2 ++ (34 :: (escL s ++ (34 :: rest)))))) = x :: q := by
    cases n with
    | nil => cases hn
    | cons c t => exact ⟨_, _, rfl⟩
  obtain ⟨_, h47, h62⟩ := hh x q e
  rw [e, isP_ne (fun e => h47 e.symm), isP_ne (fun e => h62 e.symm)]
  simp only
  rw [if_neg (by intro e; exact hg0 (List.eq_nil_of_length_eq_zero e))]
theorem open_end {name g rest : List UInt8} {attrs : List (List UInt8 × List UInt8)} (hg : allBl g) : openV name attrs (g ++ (62 :: rest)) = some (⟨1, name, [], attrs, false⟩, rest) := by
  rw [openV_eq, (blanks_here hg (fun x q e => by injection e with e _; subst e; decide)).2, isP_ne (by decide), isP_one]
theorem open_empty {name g rest : List UInt8} {attrs : List (List UInt8 × List UInt8)} (hg : allBl g) : openV name attrs (g ++ (47 :: 62 :: rest)) = some (⟨1, name, [], attrs, true⟩, rest) := by
  rw [openV_eq, (blanks_here hg (fun x q e => by injection e with e _; subst e; decide)).2, show (47 :: 62 :: rest : List UInt8) = [47, 62] ++ rest from rfl, isP_app]
theorem tok_open {n r : List UInt8} (hn : nameOk n = true) (hr : ∀ x q, r = x :: q → isWi x = false) : tokP (60 :: (n ++ r)) = openV n [] r := by
  obtain ⟨t1, t2⟩ := name_here hn hr
  have h0 : isP [60, 47] (60 :: (n ++ r)) = none := by
    cases n with
    | nil => cases hn
    | cons c t =>
      have h := (name_head (r := r) hn c (t ++ r) rfl).2.1
      unfold isP
      rw [if_neg]
      intro e
      obtain ⟨u, e⟩ := List.isPrefixOf_iff_prefix.1 e
      injection e with _ e
      injection e with e _
      exact h e.symm
  rw [tokP_open h0 (isP_one 60 _), t1, t2, hn]
  rfl
theorem tok_close {n g r : List UInt8} (hn : nameOk n = true) (hg : allBl g) : tokP (60 :: 47 :: (n ++ (g ++ (62 :: r)))) = some (⟨2, n, [], [], false⟩, r) := by
  have hh : ∀ x q, g ++ (62 :: r) = x :: q → isWi x = false := gap_head hg _ (fun x => bl_not_wi) (fun x q e => by injection e with e _; subst e; decide)
  rw [show (60 :: 47 :: (n ++ (g ++ (62 :: r))) : List UInt8) = [60, 47] ++ (n ++ (g ++ (62 :: r))) from rfl, tokP_close (isP_app [60, 47] (n ++ (g ++ (62 :: r)))), nameR_here hn hh, (name_here hn hh).2, (blanks_here hg (fun x q e => by injection e with e _; subst e; decide)).2]
  unfold closeQ
  rw [if_neg (by intro e; subst e; cases hn), isP_one]
  rfl
theorem esc_head {s r : List UInt8} (hs : s ≠ []) : ∃ x q, escL s ++ r = x :: q ∧ x ≠ 60 := by
  cases s with
  | nil => exact absurd rfl hs
  | cons c t =>
    rw [escL_cons]
    cases hb : escB c with
    | nil => have := (escB_len c).1; rw [hb] at this; simp at this
    | cons x q =>
      refine ⟨x, _, rfl, fun e => ?_⟩
      have := (escB_in (c := c) (b := x) (by rw [hb]; simp)).1
      exact this (by rw [e]; rfl)
theorem tok_text {s r : List UInt8} (hs : s ≠ []) (hr : ∀ x q, r = x :: q → x = 60) : tokP (escL s ++ r) = some (⟨3, [], s, [], false⟩, r) := by
  obtain ⟨x, q, e, hx⟩ := esc_head (r := r) hs
  obtain ⟨t1, t2⟩ := tw_app (p := notLt) (a := escL s) (b := r) (fun x hx => by
    have := escL_in hx
    unfold notLt
    rw [decide_eq_true_iff]
    exact this.1) (fun x q e => by rw [hr x q e]; decide)
  rw [tokP_text (by rw [e]; exact isP_ne (fun h => hx h.symm)) (by rw [e]; exact isP_ne (fun h => hx h.symm)), t1, t2, valV_escL]
  rfl
theorem toks_step {l rest : List UInt8} {t : Tok} (hl : l ≠ []) (h : tokP l = some (t, rest)) : toksV l = (toksV rest).map (t :: ·) := by
  cases l with
  | nil => exact absurd rfl hl
  | cons c r => rw [toksV_cons, h]
end Go.Proofs.YtdgfpjekahpggaaGreatDoor
