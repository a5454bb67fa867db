/- Texts that are escaped, and what stands here: plain functions on lists of bytes, no program. -/
import Derived.Test.YthkjmbkfcnehoaaGreatDoorTokMath
import Derived.Test.YthkjmbkfcnehoaaGreatDoorTxtM
namespace Go.Proofs.YthkjmbkfcnehoaaGreatDoor
set_option linter.unusedVariables false

theorem tw_app {p : UInt8 → Bool} {a b : List UInt8} (ha : ∀ x ∈ a, p x = true) (hb : ∀ x r, b = x :: r → p x = false) : (a ++ b).takeWhile p = a ∧ (a ++ b).dropWhile p = b := by
  constructor
  · rw [List.takeWhile_append_of_pos ha]
    cases b with
    | nil => simp
    | cons x r => rw [List.takeWhile_cons, if_neg (by rw [hb x r rfl]; simp)]; simp
  · rw [List.dropWhile_append_of_pos ha]
    cases b with
    | nil => rfl
    | cons x r => rw [List.dropWhile_cons, if_neg (by rw [hb x r rfl]; simp)]
theorem isP_app (p r : List UInt8) : isP p (p ++ r) = some r := by
  unfold isP
  rw [if_pos (List.isPrefixOf_iff_prefix.2 (List.prefix_append p r)), List.drop_left]
theorem isP_one (c : UInt8) (r : List UInt8) : isP [c] (c :: r) = some r := isP_app [c] r
theorem isP_ne {c d : UInt8} {p r : List UInt8} (h : c ≠ d) : isP (c :: p) (d :: r) = none := by
  unfold isP
  rw [if_neg]
  intro e
  obtain ⟨t, e⟩ := List.isPrefixOf_iff_prefix.1 e
  injection e with e1 _
  exact h e1

/-! ### texts that are escaped -/
def escB (c : UInt8) : List UInt8 := if c = 38 then [38, 97, 109, 112, 59] else if c = 60 then [38, 108, 116, 59] else if c = 62 then [38, 103, 116, 59] else if c = 34 then [38, 113, 117, 111, 116, 59] else [c]
def escL (l : List UInt8) : List UInt8 := l.flatMap escB
theorem escL_cons (c : UInt8) (l : List UInt8) : escL (c :: l) = escB c ++ escL l := rfl
theorem escL_app (a b : List UInt8) : escL (a ++ b) = escL a ++ escL b := by simp [escL]
theorem esc_cases (c : UInt8) : (c = 38 ∧ escB c = [38, 97, 109, 112, 59]) ∨ (c = 60 ∧ escB c = [38, 108, 116, 59]) ∨ (c = 62 ∧ escB c = [38, 103, 116, 59]) ∨ (c = 34 ∧ escB c = [38, 113, 117, 111, 116, 59]) ∨ (c ≠ 38 ∧ c ≠ 60 ∧ c ≠ 62 ∧ c ≠ 34 ∧ escB c = [c]) := by
  unfold escB
  by_cases h1 : c = 38
  · exact .inl ⟨h1, if_pos h1⟩
  by_cases h2 : c = 60
  · exact .inr (.inl ⟨h2, by rw [if_neg h1, if_pos h2]⟩)
  by_cases h3 : c = 62
  · exact .inr (.inr (.inl ⟨h3, by rw [if_neg h1, if_neg h2, if_pos h3]⟩))
  by_cases h4 : c = 34
  · exact .inr (.inr (.inr (.inl ⟨h4, by rw [if_neg h1, if_neg h2, if_neg h3, if_pos h4]⟩)))
  · exact .inr (.inr (.inr (.inr ⟨h1, h2, h3, h4, by rw [if_neg h1, if_neg h2, if_neg h3, if_neg h4]⟩)))
theorem valV_esc (r : List UInt8) : ∀ l : List UInt8, valV (escL l ++ r) = (valV r).map (l ++ ·)
  | [] => by simp [escL]
  | c :: l => by
    have ih := valV_esc r l
    rw [escL_cons, List.append_assoc]
    have fin : ∀ o : Option (List UInt8), (o.map (l ++ ·)).map ([c] ++ ·) = o.map (c :: l ++ ·) := by
      intro o
      rw [Option.map_map]
      rfl
    rcases esc_cases c with ⟨rfl, e⟩ | ⟨rfl, e⟩ | ⟨rfl, e⟩ | ⟨rfl, e⟩ | ⟨h1, _, _, _, e⟩
    · rw [e, show [38, 97, 109, 112, 59] ++ (escL l ++ r) = 38 :: [97, 109, 112] ++ (59 :: (escL l ++ r)) from rfl, valV_ent (by decide), ih]
      exact fin _
    · rw [e, show [38, 108, 116, 59] ++ (escL l ++ r) = 38 :: [108, 116] ++ (59 :: (escL l ++ r)) from rfl, valV_ent (by decide), ih]
      exact fin _
    · rw [e, show [38, 103, 116, 59] ++ (escL l ++ r) = 38 :: [103, 116] ++ (59 :: (escL l ++ r)) from rfl, valV_ent (by decide), ih]
      exact fin _
    · rw [e, show [38, 113, 117, 111, 116, 59] ++ (escL l ++ r) = 38 :: [113, 117, 111, 116] ++ (59 :: (escL l ++ r)) from rfl, valV_ent (by decide), ih]
      exact fin _
    · rw [e, show [c] ++ (escL l ++ r) = c :: (escL l ++ r) from rfl, valV_plain (fun h => h1 (UInt8.toNat_inj.1 h)), ih]
      exact fin _
theorem valV_escL (l : List UInt8) : valV (escL l) = some l := by
  have h := valV_esc [] l
  rw [List.append_nil, valV_nil] at h
  simpa using h
theorem escB_in {c b : UInt8} (h : b ∈ escB c) : b.toNat ≠ 60 ∧ b.toNat ≠ 34 ∧ b.toNat ≠ 62 := by
  rcases esc_cases c with ⟨rfl, e⟩ | ⟨rfl, e⟩ | ⟨rfl, e⟩ | ⟨rfl, e⟩ | ⟨h1, h2, h3, h4, e⟩
  · rw [e] at h; revert b; decide
  · rw [e] at h; revert b; decide
  · rw [e] at h; revert b; decide
  · rw [e] at h; revert b; decide
  · rw [e] at h
    obtain rfl : b = c := by simpa using h
    exact ⟨fun e => h2 (UInt8.toNat_inj.1 e), fun e => h4 (UInt8.toNat_inj.1 e), fun e => h3 (UInt8.toNat_inj.1 e)⟩
theorem escL_in {l : List UInt8} {b : UInt8} (h : b ∈ escL l) : b.toNat ≠ 60 ∧ b.toNat ≠ 34 ∧ b.toNat ≠ 62 := by
  unfold escL at h
  obtain ⟨c, _, h⟩ := List.mem_flatMap.1 h
  exact escB_in h
theorem escB_len (c : UInt8) : 1 ≤ (escB c).length ∧ (escB c).length ≤ 6 := by
  rcases esc_cases c with ⟨_, e⟩ | ⟨_, e⟩ | ⟨_, e⟩ | ⟨_, e⟩ | ⟨_, _, _, _, e⟩ <;> rw [e] <;> simp
theorem escL_len : ∀ l : List UInt8, l.length ≤ (escL l).length ∧ (escL l).length ≤ 6 * l.length
  | [] => by simp [escL]
  | c :: l => by
    have ih := escL_len l
    have h := escB_len c
    rw [escL_cons, List.length_append, List.length_cons]
    omega

/-! ### escaped they are texts still -/
theorem tlB_all : ∀ (k : Nat) (r : List UInt8) (c v : Nat), tlB k r c = some v → ∀ x ∈ r.take k, 128 ≤ x.toNat
  | 0, _, _, _, _, x, hx => by simp at hx
  | k + 1, [], _, _, h, _, _ => by cases h
  | k + 1, b :: r, c, v, h, x, hx => by
    unfold tlB at h
    split at h
    · rename_i hb
      rw [List.take_succ_cons] at hx
      rcases List.mem_cons.1 hx with rfl | hx
      · unfold contB at hb
        simp at hb
        omega
      · exact tlB_all k r _ v h x hx
    · cases h
theorem size_take {l : List UInt8} (h : sizeB l ≠ 0) : sizeB (l.take (sizeB l)) = sizeB l ∧ (sizeB l = 1 ∨ ∀ x ∈ l.take (sizeB l), 128 ≤ x.toNat) := by
  cases l with
  | nil => exact absurd rfl h
  | cons b r =>
    obtain ⟨n, least, c, hl⟩ : ∃ n least c, lead b.toNat = some (n, least, c) := by
      cases hl : lead b.toNat with
      | none => rw [sizeB_cons, hl] at h; exact absurd rfl h
      | some p => exact ⟨p.1, p.2.1, p.2.2, rfl⟩
    obtain ⟨hn1, hn4, hnx⟩ := lead_some hl
    rw [sizeB_cons, hl, sizeC_some] at h
    cases ht : tlB (n - 1) r c with
    | none => rw [ht] at h; exact absurd rfl h
    | some v =>
      have hfin : finB (some v) n least = n := by
        rw [ht] at h
        rw [finB_some] at h ⊢
        split at h
        · exact absurd rfl h
        rename_i h1
        split at h
        · rename_i h2
          rw [if_neg h1, if_pos h2]
        · exact absurd rfl h
      have hsz : sizeB (b :: r) = n := by rw [sizeB_cons, hl, sizeC_some, ht, hfin]
      rw [hsz]
      have hk := tlB_len _ _ _ _ ht
      have htk : (b :: r).take n = b :: r.take (n - 1) := by
        obtain ⟨m, rfl⟩ : ∃ m, n = m + 1 := ⟨n - 1, by omega⟩
        rfl
      constructor
      · rw [htk, sizeB_cons, hl, sizeC_some]
        have h1 := tlB_append (n - 1) (r.take (n - 1)) (r.drop (n - 1)) c (by rw [List.length_take]; omega)
        rw [List.take_append_drop, ht] at h1
        rw [← h1, hfin]
      · rcases hnx with ⟨rfl, _⟩ | ⟨_, h192⟩
        · exact .inl rfl
        · refine .inr ?_
          rw [htk]
          intro x hx
          rcases List.mem_cons.1 hx with rfl | hx
          · omega
          · exact tlB_all _ _ _ _ ht x hx
theorem escL_high : ∀ {l : List UInt8}, (∀ x ∈ l, 128 ≤ x.toNat) → escL l = l
  | [], _ => rfl
  | c :: l, h => by
    have hc := h c (by simp)
    rw [escL_cons, escL_high (fun x hx => h x (by simp [hx]))]
    rcases esc_cases c with ⟨rfl, _⟩ | ⟨rfl, _⟩ | ⟨rfl, _⟩ | ⟨rfl, _⟩ | ⟨_, _, _, _, e⟩
    · exact absurd hc (by decide)
    · exact absurd hc (by decide)
    · exact absurd hc (by decide)
    · exact absurd hc (by decide)
    · rw [e]; rfl
theorem utf8_esc : ∀ (n : Nat) (l : List UInt8), l.length ≤ n → utf8B l = true → utf8B (escL l) = true
  | 0, l, hn, _ => by
    have : l = [] := List.eq_nil_of_length_eq_zero (by omega)
    subst this
    rfl
  | n + 1, l, hn, h => by
    by_cases hne : l = []
    · subst hne; rfl
    have hs := h
    unfold utf8B at hs
    rw [cnt_step hne] at hs
    by_cases h0 : sizeB l = 0
    · rw [if_pos h0] at hs; cases hs
    rw [if_neg h0] at hs
    obtain ⟨h1, h2, _⟩ := sizeB_pos h0
    have hd : utf8B (l.drop (sizeB l)) = true := by
      unfold utf8B
      cases hc : cnt (l.drop (sizeB l)) with
      | none => rw [hc] at hs; cases hs
      | some x => rfl
    have ih := utf8_esc n (l.drop (sizeB l)) (by rw [List.length_drop]; omega) hd
    obtain ⟨t1, t2⟩ := size_take h0
    have ht : utf8B (l.take (sizeB l)) = true := by
      unfold utf8B
      have hne2 : l.take (sizeB l) ≠ [] := by
        intro e
        have := congrArg List.length e
        rw [List.length_take, List.length_nil] at this
        omega
      rw [cnt_step hne2, t1, if_neg h0, List.drop_eq_nil_of_le (by rw [List.length_take]; omega)]
      rfl
    have he : utf8B (escL (l.take (sizeB l))) = true := by
      rcases t2 with t2 | t2
      · rw [t2] at ht ⊢
        obtain ⟨c, r, rfl⟩ : ∃ c r, l = c :: r := by
          cases l with
          | nil => exact absurd rfl hne
          | cons c r => exact ⟨c, r, rfl⟩
        rw [List.take_succ_cons, List.take_zero] at ht ⊢
        rw [escL_cons, show escL [] = [] from rfl, List.append_nil]
        rcases esc_cases c with ⟨rfl, e⟩ | ⟨rfl, e⟩ | ⟨rfl, e⟩ | ⟨rfl, e⟩ | ⟨_, _, _, _, e⟩
        · rw [e]; decide
        · rw [e]; decide
        · rw [e]; decide
        · rw [e]; decide
        · rw [e]; exact ht
      · rw [escL_high t2]; exact ht
    rw [← List.take_append_drop (sizeB l) l, escL_app]
    exact (runes_app he ih).1
end Go.Proofs.YthkjmbkfcnehoaaGreatDoor
