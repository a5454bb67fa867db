/- What is parsed is never much more than its text. -/
import Derived.Test.YthkjmbkfcnehoaaGreatDoorTreeMath3
import Derived.Test.YthkjmbkfcnehoaaGreatDoorCanWr
namespace Go.Proofs.YthkjmbkfcnehoaaGreatDoor
set_option linter.unusedVariables false

def wtT (t : Tok) : Nat := t.name.length + t.text.length + (t.attrs.map wtA).sum + 1
theorem attrP_wt {used : List (List UInt8 × List UInt8)} {l r : List UInt8} {a : List UInt8 × List UInt8} (h : attrP used l = some (a, r)) : wtA a + r.length ≤ l.length := by
  unfold attrP at h
  simp only at h
  split at h
  · cases h
  split at h
  · cases h
  rename_i l1 h1
  have e1 := (isP_len h1).2
  have e0 := whl_len isWi l
  have e2 := drop_while_le isBl (l.dropWhile isWi)
  split at h
  · cases h
  rename_i mark q h2
  have e3 := drop_while_le isBl l1
  rw [h2] at e3
  split at h
  · cases h
  split at h
  · cases h
  rename_i c rest h3
  have e4 := whl_len (fun c => decide (c ≠ mark ∧ c.toNat ≠ 60)) q
  rw [h3] at e4
  split at h
  · cases h
  rw [Option.map_eq_some_iff] at h
  obtain ⟨v, hv, hh⟩ := h
  have e5 := vlF_len _ _ _ hv
  simp only [Prod.mk.injEq] at hh
  obtain ⟨rfl, rfl⟩ := hh
  unfold wtA
  simp only [List.length_cons, List.length_nil] at *
  omega
theorem opF_wt : ∀ (f : Nat) (name : List UInt8) (attrs : List (List UInt8 × List UInt8)) (l : List UInt8) (t : Tok) (rest : List UInt8), openF f name attrs l = some (t, rest) → wtT t + rest.length ≤ name.length + (attrs.map wtA).sum + 1 + l.length
  | 0, _, _, _, _, _, h => by cases h
  | f + 1, name, attrs, l, t, rest, h => by
    have e0 := drop_while_le isBl l
    unfold openF at h
    split at h
    · rename_i r h1
      have e1 := (isP_len h1).2
      simp only [Option.some.injEq, Prod.mk.injEq] at h
      rw [← h.1, ← h.2]
      unfold wtT
      simp only [List.length_nil]
      omega
    split at h
    · rename_i r h1
      have e1 := (isP_len h1).2
      simp only [Option.some.injEq, Prod.mk.injEq] at h
      rw [← h.1, ← h.2]
      unfold wtT
      simp only [List.length_nil]
      omega
    split at h
    · cases h
    split at h
    · cases h
    rename_i x r h1
    have h2 := opF_wt f name _ r t rest h
    have h3 := attrP_wt h1
    simp only [List.map_append, List.sum_append, List.map_cons, List.map_nil, List.sum_cons, List.sum_nil] at h2
    omega
theorem tkP_wt {c : UInt8} {r rest : List UInt8} {t : Tok} (h : tokP (c :: r) = some (t, rest)) : wtT t + 2 * rest.length ≤ 2 * (c :: r).length := by
  have hless := tokP_less h
  unfold tokP at h
  split at h
  · rename_i l1 h1
    have e1 := (isP_len h1).2
    have e0 := whl_len isWi l1
    have e2 := drop_while_le isBl (l1.dropWhile isWi)
    split at h
    · cases h
    · rw [Option.map_eq_some_iff] at h
      obtain ⟨u, hu0, hu⟩ := h
      have e3 := (isP_len hu0).2
      simp only [Prod.mk.injEq] at hu
      rw [← hu.1, ← hu.2]
      unfold wtT
      simp only [List.length_nil, List.length_cons, List.map_nil, List.sum_nil] at *
      omega
  · split at h
    · rename_i l1 h1
      have e1 := (isP_len h1).2
      split at h
      · cases h
      · have h2 := opF_wt _ _ _ _ _ _ h
        have e0 := whl_len isWi l1
        simp only [List.length_cons, List.length_nil, List.map_nil, List.sum_nil] at e1 h2 hless ⊢
        omega
    · rw [Option.map_eq_some_iff] at h
      obtain ⟨u, hu, hh⟩ := h
      simp only [Prod.mk.injEq] at hh
      rw [← hh.1, ← hh.2]
      have h1 := vlF_len _ _ _ hu
      have h2 := whl_len (fun c : UInt8 => decide (c.toNat ≠ 60)) (c :: r)
      rw [← hh.2] at hless
      unfold wtT
      simp only [List.length_nil, List.length_cons, List.map_nil, List.sum_nil] at *
      omega
theorem toks_wt : ∀ (n : Nat) (l : List UInt8) (ts : List Tok), l.length ≤ n → toksV l = some ts → (ts.map wtT).sum ≤ 2 * l.length
  | _, [], ts, _, h => by
    rw [toksV_nil] at h
    injection h with h
    subst h
    exact Nat.le_refl _
  | 0, _ :: _, _, hn, _ => by simp at hn
  | n + 1, c :: r, ts, hn, h => by
    rw [toksV_cons] at h
    cases ht : tokP (c :: r) with
    | none => rw [ht] at h; cases h
    | some x =>
      obtain ⟨t, rest⟩ := x
      rw [ht] at h
      simp only [Option.map_eq_some_iff] at h
      obtain ⟨us, hu, rfl⟩ := h
      have h1 := tokP_less ht
      have h2 := tkP_wt ht
      simp only [List.length_cons] at hn h1 h2
      have i1 := toks_wt n rest us (by omega) hu
      simp only [List.map_cons, List.sum_cons, List.length_cons]
      omega
theorem tokL_wt (l : List UInt8) : ((tokL l).map wtT).sum ≤ 2 * l.length := by
  unfold tokL
  split
  · cases h : toksV (bodyL l) with
    | none => simp
    | some ts =>
      have hb := bdy_len l
      have h1 := toks_wt _ _ _ (Nat.le_refl _) h
      rw [Option.getD_some]
      omega
  · simp
def wtG (g : Gro) : Nat := (g.l.map wtN).sum + (g.txt.map List.length).sum
theorem sum_set (f : List UInt8 → Nat) : ∀ (l : List (List UInt8)) (i : Nat) (x : List UInt8), ((l.set i x).map f).sum ≤ (l.map f).sum - f ((l[i]?).getD []) + f x ∨ l.length ≤ i ∧ l.set i x = l
  | [], i, x => .inr ⟨by simp, rfl⟩
  | y :: l, 0, x => .inl (by simp; omega)
  | y :: l, i + 1, x => by
    rcases sum_set f l i x with h | ⟨h1, h2⟩
    · by_cases hi : l.length ≤ i
      · exact .inr ⟨by simpa using hi, by rw [List.set_cons_succ, List.set_eq_of_length_le hi]⟩
      · left
        have h3 : f ((l[i]?).getD []) ≤ (l.map f).sum := by
          rw [List.getElem?_eq_getElem (by omega), Option.getD_some]
          exact le_sum f (List.getElem_mem _)
        simp only [List.set_cons_succ, List.map_cons, List.sum_cons, List.getElem?_cons_succ]
        omega
    · exact .inr ⟨by simpa using h1, by rw [List.set_cons_succ, h2]⟩
theorem take_wt (g : Gro) (t : Tok) : wtG (takeS g t) ≤ wtG g + wtT t := by
  unfold takeS
  split
  · unfold wtG wtT
    simp only [List.map_append, List.sum_append, List.map_cons, List.map_nil, List.sum_cons, List.sum_nil, wtN, List.length_nil]
    omega
  split
  · unfold wtG; simp only; omega
  split
  · omega
  · unfold wtG
    simp only
    rcases sum_set List.length g.txt (topG g).toNat ((g.txt[(topG g).toNat]?).getD [] ++ t.text) with h | ⟨_, h⟩
    · rw [List.length_append] at h
      by_cases hi : (topG g).toNat < g.txt.length
      · have h3 : ((g.txt[(topG g).toNat]?).getD []).length ≤ (g.txt.map List.length).sum := by
          rw [List.getElem?_eq_getElem hi, Option.getD_some]
          exact le_sum List.length (List.getElem_mem _)
        unfold wtT
        omega
      · rw [List.set_eq_of_length_le (by omega)]
        omega
    · rw [h]; omega
theorem run_wt : ∀ (ts : List Tok) (g : Gro), wtG (runS g ts) ≤ wtG g + (ts.map wtT).sum
  | [], g => by simp [runS]
  | t :: ts, g => by
    have h1 := run_wt ts (takeS g t)
    have h2 := take_wt g t
    simp only [runS, List.map_cons, List.sum_cons]
    omega
theorem sum_drop (l : List (List UInt8)) (i : Nat) : ((l.drop i).map List.length).sum = ((l[i]?).getD []).length + ((l.drop (i + 1)).map List.length).sum := by
  by_cases hi : i < l.length
  · rw [List.drop_eq_getElem_cons hi, List.getElem?_eq_getElem hi, Option.getD_some, List.map_cons, List.sum_cons]
  · rw [List.drop_eq_nil_of_le (by omega), List.drop_eq_nil_of_le (by omega), List.getElem?_eq_none (by omega)]
    rfl
theorem end_wt (g : Gro) : ∀ (r : List Nod) (i : Nat), ((endF g i r).map wtN).sum ≤ (r.map wtN).sum + ((g.txt.drop i).map List.length).sum
  | [], i => by simp [endF]
  | n :: r, i => by
    have h1 := end_wt g r (i + 1)
    have h2 := sum_drop g.txt i
    simp only [endF, List.map_cons, List.sum_cons]
    have h3 : wtN (if kidsL g.l i = [] then { n with text := (g.txt[i]?).getD [] } else n) ≤ wtN n + ((g.txt[i]?).getD []).length := by
      split
      · unfold wtN; simp only; omega
      · omega
    omega
theorem build_wt (ts : List Tok) : ((buildL ts).map wtN).sum ≤ (ts.map wtT).sum := by
  unfold buildL
  split
  · have h1 := end_wt (runS g0 ts) (runS g0 ts).l 0
    have h2 := run_wt ts g0
    have h3 : wtG g0 = 0 := rfl
    rw [List.drop_zero] at h1
    unfold wtG at h2 h3
    omega
  · simp
theorem parse_wt (s : List UInt8) : ((parseL s).map wtN).sum ≤ 2 * s.length := by
  unfold parseL
  split
  · exact Nat.le_trans (build_wt _) (tokL_wt s)
  · simp
end Go.Proofs.YthkjmbkfcnehoaaGreatDoor
