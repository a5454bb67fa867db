/- Tokens are never more than their text. -/
import Derived.Test.YthkjmbkfcnehoaaGreatDoorTreeMath2
import Derived.Test.YthkjmbkfcnehoaaGreatDoorRefTokY
namespace Go.Proofs.YthkjmbkfcnehoaaGreatDoor
set_option linter.unusedVariables false

theorem enc_le4 (c : Nat) : (encL (c : Int)).length ≤ 4 := by
  by_cases h : 1114111 < c ∨ (55296 ≤ c ∧ c ≤ 57343)
  · rw [enc_bad h]; decide
  · exact (enc_size (by omega) (by omega)).2.2.1
theorem ent_len2 {s x : List UInt8} (h : entV s = some x) : x.length ≤ s.length + 2 := by
  unfold entV at h
  split at h
  · injection h with h; subst h; simp
  split at h
  · injection h with h; subst h; simp
  split at h
  · injection h with h; subst h; simp
  split at h
  · injection h with h; subst h; simp
  split at h
  · injection h with h; subst h; simp
  simp only at h
  split at h
  · cases h
  · rename_i v hv
    split at h
    · injection h with h
      subst h
      have h4 := enc_le4 v
      have : 2 ≤ s.length := by
        split at hv
        · omega
        · split at hv
          · omega
          · cases hv
      omega
    · cases h
theorem whl_len (q : UInt8 → Bool) : ∀ l : List UInt8, (l.takeWhile q).length + (l.dropWhile q).length = l.length := fun l => by
  rw [← List.length_append, List.takeWhile_append_dropWhile]
theorem vlF_len : ∀ (f : Nat) (l v : List UInt8), valF f l = some v → v.length ≤ l.length
  | f, [], v, h => by
    have : v = [] := by cases f <;> (injection h with h; exact h.symm)
    rw [this]; exact Nat.le_refl _
  | 0, _ :: _, v, h => by cases h
  | f + 1, c :: r, v, h => by
    unfold valF at h
    split at h
    · rw [Option.map_eq_some_iff] at h
      obtain ⟨u, hu, rfl⟩ := h
      have := vlF_len f r u hu
      simp only [List.length_cons]
      omega
    · split at h
      · cases h
      · rename_i x rest he
        have hw := whl_len (fun b => decide (b.toNat ≠ 59)) r
        rw [he] at hw
        split at h
        · cases h
        · rename_i y hy
          rw [Option.map_eq_some_iff] at h
          obtain ⟨u, hu, rfl⟩ := h
          have h1 := vlF_len f rest u hu
          have h2 := ent_len2 hy
          simp only [List.length_cons, List.length_append] at hw ⊢
          omega
theorem opF_len : ∀ (f : Nat) (name : List UInt8) (attrs : List (List UInt8 × List UInt8)) (l : List UInt8) (t : Tok) (rest : List UInt8), openF f name attrs l = some (t, rest) → t.text = [] ∧ t.attrs.length ≤ attrs.length + f
  | 0, _, _, _, _, _, h => by cases h
  | f + 1, name, attrs, l, t, rest, h => by
    unfold openF at h
    split at h
    · simp only [Option.some.injEq, Prod.mk.injEq] at h
      rw [← h.1]
      exact ⟨rfl, by simp only; omega⟩
    split at h
    · simp only [Option.some.injEq, Prod.mk.injEq] at h
      rw [← h.1]
      exact ⟨rfl, by simp only; omega⟩
    split at h
    · cases h
    split at h
    · cases h
    rename_i x r h1
    obtain ⟨h2, h3⟩ := opF_len f name _ r t rest h
    simp only [List.length_append, List.length_cons, List.length_nil] at h3
    exact ⟨h2, by omega⟩
theorem tkP_len {c : UInt8} {r rest : List UInt8} {t : Tok} (h : tokP (c :: r) = some (t, rest)) : t.text.length + rest.length ≤ (c :: r).length ∧ t.attrs.length ≤ (c :: r).length := by
  have hless := tokP_less h
  unfold tokP at h
  split at h
  · split at h
    · cases h
    · rw [Option.map_eq_some_iff] at h
      obtain ⟨u, _, hu⟩ := h
      simp only [Prod.mk.injEq] at hu
      rw [← hu.1]
      exact ⟨by simp only [List.length_nil]; omega, by simp⟩
  · split at h
    · rename_i l1 h1
      have e1 := (isP_len h1).2
      split at h
      · cases h
      · obtain ⟨h2, h3⟩ := opF_len _ _ _ _ _ _ h
        simp only [List.length_cons, List.length_nil] at e1 h3 hless ⊢
        rw [h2]
        exact ⟨by simp only [List.length_nil]; omega, by omega⟩
    · rw [Option.map_eq_some_iff] at h
      obtain ⟨u, hu, hh⟩ := h
      simp only [Prod.mk.injEq] at hh
      rw [← hh.1, ← hh.2]
      have h1 := vlF_len _ _ _ hu
      have h2 := whl_len (fun c : UInt8 => decide (c.toNat ≠ 60)) (c :: r)
      exact ⟨by simp only; omega, by simp⟩
theorem toks_small : ∀ (n : Nat) (l : List UInt8) (ts : List Tok), l.length ≤ n → toksV l = some ts → sumT ts ≤ l.length ∧ ts.length ≤ l.length ∧ ∀ t ∈ ts, t.attrs.length ≤ l.length
  | _, [], ts, _, h => by
    rw [toksV_nil] at h
    injection h with h
    subst h
    exact ⟨Nat.le_refl _, Nat.le_refl _, fun t ht => by cases ht⟩
  | 0, _ :: _, _, hn, _ => by simp at hn
  | n + 1, c :: r, ts, hn, h => by
    rw [toksV_cons] at h
    cases ht : tokP (c :: r) with
    | none => rw [ht] at h; cases h
    | some x =>
      obtain ⟨t, rest⟩ := x
      rw [ht] at h
      simp only [Option.map_eq_some_iff] at h
      obtain ⟨us, hu, rfl⟩ := h
      have h1 := tokP_less ht
      obtain ⟨h2, h3⟩ := tkP_len ht
      simp only [List.length_cons] at hn h1 h2 h3 ⊢
      obtain ⟨i1, i2, i3⟩ := toks_small n rest us (by omega) hu
      have e1 : sumT (t :: us) = t.text.length + sumT us := by unfold sumT; simp
      rw [e1]
      refine ⟨by omega, by omega, fun u hm => ?_⟩
      rcases List.mem_cons.1 hm with rfl | hm
      · exact h3
      · have := i3 u hm; omega
theorem bdy_len (l : List UInt8) : (bodyL l).length ≤ l.length := by
  unfold bodyL
  cases hp : isP prologL l with
  | none => exact Nat.le_refl _
  | some r => have := (isP_len hp).2; rw [Option.getD_some]; omega
theorem tokL_small (l : List UInt8) (hl : l.length ≤ 65536) : sumT (tokL l) ≤ 65536 ∧ (tokL l).length ≤ 65536 ∧ ∀ t ∈ tokL l, t.attrs.length ≤ 65536 := by
  unfold tokL
  split
  · cases h : toksV (bodyL l) with
    | none => exact ⟨by simp [sumT], by simp, fun t ht => by cases ht⟩
    | some ts =>
      have hb := bdy_len l
      obtain ⟨h1, h2, h3⟩ := toks_small _ _ _ (Nat.le_refl _) h
      rw [Option.getD_some]
      exact ⟨by omega, by omega, fun t ht => by have := h3 t ht; omega⟩
  · exact ⟨by simp [sumT], by simp, fun t ht => by cases ht⟩
end Go.Proofs.YthkjmbkfcnehoaaGreatDoor
