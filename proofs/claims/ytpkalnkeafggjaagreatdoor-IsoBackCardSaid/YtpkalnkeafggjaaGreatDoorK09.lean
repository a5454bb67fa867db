/- The texts IsoMath, joined. -/
import Derived.Test.YtpkalnkeafggjaaGreatDoorK06
import Derived.Test.YtpkalnkeafggjaaGreatDoorK08
/- Messages of data elements as plain functions: what is parsed, what is packed; what is packed is parsed, what is parsed is packed as it was, what is cut is none. No program. -/
namespace Go.Proofs.YtpkalnkeafggjaaGreatDoor
set_option linter.unusedVariables false

/-! ### digits of just so many places -/
theorem digits_inj : ∀ (k : Nat) (l m : List UInt8), l.length = k → m.length = k → l.all isD = true → m.all isD = true → numV l = numV m → l = m
  | 0, l, m, hl, hm, _, _, _ => by rw [List.length_eq_zero_iff.1 hl, List.length_eq_zero_iff.1 hm]
  | k + 1, l, m, hl, hm, al, am, hv => by
    have hl0 : l ≠ [] := by intro h; rw [h] at hl; simp at hl
    have hm0 : m ≠ [] := by intro h; rw [h] at hm; simp at hm
    obtain ⟨l', c, rfl⟩ : ∃ l' c, l = l' ++ [c] := ⟨l.dropLast, l.getLast hl0, (List.dropLast_concat_getLast hl0).symm⟩
    obtain ⟨m', d, rfl⟩ : ∃ l' c, m = l' ++ [c] := ⟨m.dropLast, m.getLast hm0, (List.dropLast_concat_getLast hm0).symm⟩
    rw [List.all_append, Bool.and_eq_true] at al am
    have hc : isD c = true := by simpa using al.2
    have hd : isD d = true := by simpa using am.2
    have hc1 := half_digit hc
    have hd1 := half_digit hd
    have hc2 := isD_true.1 hc
    have hd2 := isD_true.1 hd
    rw [numV_snoc, numV_snoc] at hv
    have h1 : numV l' = numV m' := by omega
    have h2 : c = d := by
      apply UInt8.toNat_inj.1
      omega
    rw [h2, digits_inj k l' m' (by simpa using hl) (by simpa using hm) al.1 am.1 h1]
theorem text_back {l : List UInt8} (h : l.all isD = true) (h1 : 1 ≤ l.length) (h2 : l.length ≤ 20) : textR (numV l) (l.length : Int) = l := by
  have hlen : (Lib.decDigits (numV l)).length ≤ l.length := by
    have := numV_le h
    obtain ⟨k, hk⟩ : ∃ k, l.length = k + 1 := ⟨l.length - 1, by omega⟩
    rw [hk] at this ⊢
    exact dd_len k _ (by omega)
  have he : textE (numV l) (l.length : Int) = 0 := by
    unfold textE
    rw [if_neg (by omega), if_neg (by omega)]
  unfold textR
  rw [if_pos he, Int.toNat_natCast]
  refine digits_inj l.length _ _ ?_ rfl (wide_all _ _) h (numV_wide _ _)
  rw [wide_length]
  omega

theorem fst_off {α : Type} {a c : Int} {x y : α} (h : a ≠ c) : ¬ (a, x).1 = (c, y).1 := h
/-! ### one data element: what is read is written as it was -/
theorem rd_fwd {r : FRow} (hr : r ∈ elT) {b d : List UInt8} {k : Nat} (h : rdR r b = (0, d, k)) : chkR r d = 0 ∧ headEl r d.length ++ d = b.take k ∧ k ≤ b.length := by
  obtain ⟨_, _, a3, _, _⟩ := el_row hr
  unfold rdR at h
  split at h
  · rename_i h0
    exact absurd (congrArg Prod.fst h) h0
  rename_i h0
  split at h
  · exact absurd (congrArg Prod.fst h) (fst_off (by decide))
  rename_i h1
  split at h
  · exact absurd (congrArg Prod.fst h) (fst_off (by decide))
  rename_i h2
  split at h
  · exact absurd (congrArg Prod.fst h) (fst_off (by decide))
  rename_i h3
  have hd : d = (b.drop r.dig).take (sizEl r b).2 := (congrArg (fun x : Int × List UInt8 × Nat => x.2.1) h).symm
  have hk : k = r.dig + (sizEl r b).2 := (congrArg (fun x : Int × List UInt8 × Nat => x.2.2) h).symm
  have hl : d.length = (sizEl r b).2 := by rw [hd, List.length_take, List.length_drop]; omega
  have hh : headEl r d.length = b.take r.dig := by
    unfold headEl
    rw [hl]
    by_cases hz : r.dig = 0
    · rw [hz, List.take_zero]
      exact if_neg (by unfold textE; rw [if_pos (by omega)]; decide)
    · have hs : sizEl r b = (numE (b.take r.dig), numR (b.take r.dig)) := by
        unfold sizEl
        rw [if_neg hz, if_neg (by omega)]
      rw [hs] at h0
      have hR : rightB (b.take r.dig) 1 18 = true := by
        by_cases hR : rightB (b.take r.dig) 1 18 = true
        · exact hR
        · exact absurd (by dsimp only [numE]; rw [if_neg hR]; decide) h0
      have hn : numR (b.take r.dig) = numV (b.take r.dig) := if_pos hR
      obtain ⟨_, _, hall⟩ := rightB_len hR
      have ht : (b.take r.dig).length = r.dig := by rw [List.length_take]; omega
      rw [hs]
      dsimp only
      rw [hn]
      have := text_back hall (by omega) (by omega)
      rw [ht] at this
      exact this
  refine ⟨?_, ?_, by omega⟩
  · unfold chkR
    rw [hl, if_neg h1, hd, if_neg h3]
  · rw [hh, hk, hd, ← List.take_add]
theorem el_fwd {no : Int} {b : List UInt8} (h : reE no b = 0) : chkEl no (reL no b) = 0 ∧ wrtEl no (reL no b) = b.take (reN no b) ∧ reN no b ≤ b.length := by
  unfold reE rdEl at h
  cases hf : elFind no with
  | none => rw [hf] at h; exact absurd h (show (16 : Int) ≠ 0 by decide)
  | some r =>
    rw [hf] at h
    dsimp only at h
    have h1 := rd_fwd (elFind_some hf).1 (b := b) (d := reL no b) (k := reN no b) (by
      have : rdR r b = ((rdR r b).1, (rdR r b).2.1, (rdR r b).2.2) := rfl
      rw [this, h]
      unfold reL reN rdEl
      rw [hf])
    have hc : chkEl no (reL no b) = 0 := by unfold chkEl; rw [hf]; exact h1.1
    refine ⟨hc, ?_, h1.2.2⟩
    unfold wrtEl
    rw [if_pos hc]
    unfold elGet
    rw [hf]
    exact h1.2.1

/-! ### all of them -/
abbrev El := Int × List UInt8
/-- the elements of these numbers, one behind the other: the error, what is read, how many bytes -/
def elsF : List Int → List UInt8 → Int × List El × Nat
  | [], _ => (0, [], 0)
  | n :: ns, b => if reE n b ≠ 0 then (reE n b, [], 0)
    else if (elsF ns (b.drop (reN n b))).1 ≠ 0 then ((elsF ns (b.drop (reN n b))).1, [], 0)
    else (0, (n, reL n b) :: (elsF ns (b.drop (reN n b))).2.1, reN n b + (elsF ns (b.drop (reN n b))).2.2)
def wrtAll : List El → List UInt8
  | [] => []
  | e :: es => wrtEl e.1 e.2 ++ wrtAll es
def chkAll : List El → Int
  | [] => 0
  | e :: es => if chkEl e.1 e.2 ≠ 0 then chkEl e.1 e.2 else chkAll es
def nosOf (l : List El) : List Int := l.map Prod.fst
theorem els_back : ∀ (l : List El), chkAll l = 0 → ∀ more : List UInt8, elsF (nosOf l) (wrtAll l ++ more) = (0, l, (wrtAll l).length)
  | [], _, more => rfl
  | e :: es, h, more => by
    unfold chkAll at h
    have h0 : chkEl e.1 e.2 = 0 := by
      split at h
      · rename_i h1; exact absurd h h1
      · rename_i h1; exact Decidable.not_not.1 h1
    rw [if_neg (by rw [h0]; decide)] at h
    obtain ⟨a1, a2, a3⟩ := el_back h0 (wrtAll es ++ more)
    have ih := els_back es h more
    show elsF (e.1 :: nosOf es) (wrtEl e.1 e.2 ++ wrtAll es ++ more) = _
    rw [List.append_assoc]
    unfold elsF
    rw [a1, a2, a3, List.drop_left, ih]
    dsimp only
    rw [if_neg (by decide), if_neg (by decide), show wrtAll (e :: es) = wrtEl e.1 e.2 ++ wrtAll es from rfl, List.length_append]
theorem els_fwd : ∀ (ns : List Int) (b : List UInt8) (l : List El) (k : Nat), elsF ns b = (0, l, k) → nosOf l = ns ∧ chkAll l = 0 ∧ wrtAll l = b.take k ∧ k ≤ b.length
  | [], b, l, k, h => by
    cases h
    exact ⟨rfl, rfl, by rw [List.take_zero]; rfl, Nat.zero_le _⟩
  | n :: ns, b, l, k, h => by
    unfold elsF at h
    split at h
    · rename_i h1
      exact absurd (congrArg Prod.fst h) h1
    rename_i h1
    split at h
    · rename_i h2
      exact absurd (congrArg Prod.fst h) h2
    rename_i h2
    have h1 := Decidable.not_not.1 h1
    have h2 := Decidable.not_not.1 h2
    obtain ⟨i1, i2, i3, i4⟩ := els_fwd ns (b.drop (reN n b)) (elsF ns (b.drop (reN n b))).2.1 (elsF ns (b.drop (reN n b))).2.2 (by rw [← h2])
    obtain ⟨c1, c2, c3⟩ := el_fwd h1
    cases h
    rw [List.length_drop] at i4
    refine ⟨by show n :: nosOf _ = _; rw [i1], by unfold chkAll; rw [if_neg (by dsimp only; rw [c1]; decide)]; exact i2, ?_, by omega⟩
    show wrtEl n (reL n b) ++ wrtAll _ = _
    rw [c2, i3, List.take_add]
/-- what is cut is too short -/
theorem els_cut : ∀ (l : List El), chkAll l = 0 → ∀ k, k < (wrtAll l).length → (elsF (nosOf l) ((wrtAll l).take k)).1 = 3
  | [], _, k, hk => absurd hk (Nat.not_lt_zero _)
  | e :: es, h, k, hk => by
    unfold chkAll at h
    have h0 : chkEl e.1 e.2 = 0 := by
      split at h
      · rename_i h1; exact absurd h h1
      · rename_i h1; exact Decidable.not_not.1 h1
    rw [if_neg (by rw [h0]; decide)] at h
    show (elsF (e.1 :: nosOf es) ((wrtEl e.1 e.2 ++ wrtAll es).take k)).1 = 3
    have hk' : k < (wrtEl e.1 e.2).length + (wrtAll es).length := by rw [← List.length_append]; exact hk
    rcases Nat.lt_or_ge k (wrtEl e.1 e.2).length with hlt | hge
    · rw [List.take_append_of_le_length (by omega)]
      have := el_cut h0 k hlt
      unfold elsF
      rw [this, if_pos (by decide)]
    · have ht : (wrtEl e.1 e.2 ++ wrtAll es).take k = wrtEl e.1 e.2 ++ (wrtAll es).take (k - (wrtEl e.1 e.2).length) := by
        rw [List.take_append, List.take_of_length_le hge]
      rw [ht]
      obtain ⟨a1, a2, a3⟩ := el_back h0 ((wrtAll es).take (k - (wrtEl e.1 e.2).length))
      have ih := els_cut es h (k - (wrtEl e.1 e.2).length) (by omega)
      unfold elsF
      rw [a1, a2, a3, List.drop_left, ih, if_neg (by decide), if_pos (by decide)]

/-! ### messages -/
/-- what is parsed: the error, the message type, the elements -/
def parI (b : List UInt8) : Int × List UInt8 × List El :=
  if 4096 < b.length then (4, [], [])
  else if b.length < 4 then (3, [], [])
  else if rightB (b.take 4) 4 4 = false then (5, [], [])
  else if parE (b.drop 4) ≠ 0 then (parE (b.drop 4), [], [])
  else if (elsF (parL (b.drop 4)) (b.drop (4 + parN (b.drop 4)))).1 ≠ 0 then ((elsF (parL (b.drop 4)) (b.drop (4 + parN (b.drop 4)))).1, [], [])
  else if 4 + parN (b.drop 4) + (elsF (parL (b.drop 4)) (b.drop (4 + parN (b.drop 4)))).2.2 < b.length then (17, [], [])
  else (0, b.take 4, (elsF (parL (b.drop 4)) (b.drop (4 + parN (b.drop 4)))).2.1)
def wrtI (t : List UInt8) (l : List El) : List UInt8 := t ++ mapOf (nosOf l) ++ wrtAll l
/-- why a message isn't packed -/
def pacE (t : List UInt8) (l : List El) : Int :=
  if rightB t 4 4 = false then 5
  else if wmE (nosOf l) ≠ 0 then 1
  else if chkAll l ≠ 0 then chkAll l
  else if 4096 < (wrtI t l).length then 4
  else 0
def pacR (t : List UInt8) (l : List El) : List UInt8 := if pacE t l = 0 then wrtI t l else []
theorem pac_ok {t : List UInt8} {l : List El} (h : pacE t l = 0) : rightB t 4 4 = true ∧ t.length = 4 ∧ risesB (nosOf l) = true ∧ chkAll l = 0 ∧ (wrtI t l).length ≤ 4096 := by
  unfold pacE at h
  split at h
  · exact absurd h (by decide)
  rename_i h1
  split at h
  · exact absurd h (by decide)
  rename_i h2
  split at h
  · rename_i h3; exact absurd h h3
  rename_i h3
  split at h
  · exact absurd h (by decide)
  rename_i h4
  have h1 : rightB t 4 4 = true := by simpa using h1
  obtain ⟨b1, b2, _⟩ := rightB_len h1
  refine ⟨h1, by omega, ?_, Decidable.not_not.1 h3, by omega⟩
  have h2 := Decidable.not_not.1 h2
  unfold wmE at h2
  split at h2
  · assumption
  · exact absurd h2 (by decide)
theorem iso_len {t : List UInt8} {l : List El} (h : pacE t l = 0) : 12 ≤ (wrtI t l).length := by
  obtain ⟨h1, h2, h3, h4, h5⟩ := pac_ok h
  unfold wrtI
  rw [List.length_append, List.length_append]
  rcases mapOf_len h3 with h | h <;> omega
/-- what is packed, with something behind it -/
theorem iso_behind {t : List UInt8} {l : List El} (h : pacE t l = 0) (more : List UInt8) (hb : (wrtI t l).length + more.length ≤ 4096) :
    parI (wrtI t l ++ more) = if more = [] then (0, t, l) else (17, [], []) := by
  obtain ⟨h1, h2, h3, h4, h5⟩ := pac_ok h
  have hlen := iso_len h
  have hd : (wrtI t l ++ more).drop 4 = mapOf (nosOf l) ++ (wrtAll l ++ more) := by
    unfold wrtI
    rw [List.append_assoc, List.append_assoc, ← h2, List.drop_left]
  have htk : (wrtI t l ++ more).take 4 = t := by
    unfold wrtI
    rw [List.append_assoc, List.append_assoc, ← h2, List.take_left]
  obtain ⟨p1, p2, p3⟩ := par_map (nosOf l) h3 (wrtAll l ++ more)
  have hd2 : (wrtI t l ++ more).drop (4 + (mapOf (nosOf l)).length) = wrtAll l ++ more := by
    rw [← List.drop_drop, hd, List.drop_left]
  have hl2 : (wrtI t l).length = 4 + (mapOf (nosOf l)).length + (wrtAll l).length := by
    unfold wrtI
    rw [List.length_append, List.length_append, h2]
  unfold parI
  rw [if_neg (by rw [List.length_append]; omega), if_neg (by rw [List.length_append]; omega), htk, if_neg (by rw [h1]; decide), hd, p1, p2, p3, if_neg (by decide), hd2, els_back l h4 more]
  dsimp only
  rw [if_neg (by decide), List.length_append, hl2]
  by_cases hm : more = []
  · rw [if_pos hm, if_neg (by rw [hm]; simp)]
  · have : 0 < more.length := List.length_pos_iff.2 hm
    rw [if_neg hm, if_pos (by omega)]
/-- what is packed is parsed -/
theorem iso_back {t : List UInt8} {l : List El} (h : pacE t l = 0) : parI (wrtI t l) = (0, t, l) := by
  have := iso_behind h [] (by have := (pac_ok h).2.2.2.2; simpa using this)
  rw [List.append_nil, if_pos rfl] at this
  exact this
/-- a map that is cut -/
theorem map_cut (l : List Int) (h : risesB l = true) (k : Nat) (hk : k < (mapOf l).length) : parE ((mapOf l).take k) = 3 := by
  have hl := mapOf_len h
  unfold parE
  rcases Nat.lt_or_ge k 8 with h8 | h8
  · rw [if_pos (by rw [List.length_take]; omega)]
  · rw [if_neg (by rw [List.length_take]; omega)]
    obtain ⟨p1, p2, _⟩ := par_map l h []
    rw [List.append_nil] at p1 p2
    have hN : mapN (mapOf l) = (mapOf l).length := by
      unfold parN at p2
      rw [if_pos p1] at p2
      exact p2
    have h16 : (mapOf l).length = 16 := by omega
    have : mapN ((mapOf l).take k) = 16 := by
      rw [← h16, ← hN]
      unfold mapN
      rw [bitAt_take _ _ _ (by omega)]
    rw [this, if_pos (by rw [List.length_take]; omega)]
/-- what is packed, and cut, is none -/
theorem iso_cut {t : List UInt8} {l : List El} (h : pacE t l = 0) (k : Nat) (hk : k < (wrtI t l).length) : (parI ((wrtI t l).take k)).1 = 3 := by
  obtain ⟨h1, h2, h3, h4, h5⟩ := pac_ok h
  have hl2 : (wrtI t l).length = 4 + (mapOf (nosOf l)).length + (wrtAll l).length := by
    unfold wrtI
    rw [List.length_append, List.length_append, h2]
  have hlk : ((wrtI t l).take k).length = k := by rw [List.length_take]; omega
  unfold parI
  rw [hlk, if_neg (by omega)]
  rcases Nat.lt_or_ge k 4 with hlt | hge
  · rw [if_pos hlt]
  · have htk : ((wrtI t l).take k).take 4 = t := by
      rw [List.take_take, Nat.min_eq_left hge]
      unfold wrtI
      rw [List.append_assoc, ← h2, List.take_left]
    have hd : ((wrtI t l).take k).drop 4 = (mapOf (nosOf l) ++ wrtAll l).take (k - 4) := by
      rw [List.drop_take]
      unfold wrtI
      rw [List.append_assoc, ← h2, List.drop_left]
    rw [if_neg (by omega), htk, if_neg (by rw [h1]; decide)]
    rcases Nat.lt_or_ge (k - 4) (mapOf (nosOf l)).length with hm | hm
    · have hc := map_cut (nosOf l) h3 (k - 4) hm
      rw [hd, List.take_append_of_le_length (by omega), hc, if_pos (by decide)]
    · have hd' : ((wrtI t l).take k).drop 4 = mapOf (nosOf l) ++ (wrtAll l).take (k - 4 - (mapOf (nosOf l)).length) := by
        rw [hd, List.take_append, List.take_of_length_le hm]
      obtain ⟨p1, p2, p3⟩ := par_map (nosOf l) h3 ((wrtAll l).take (k - 4 - (mapOf (nosOf l)).length))
      have hd2 : ((wrtI t l).take k).drop (4 + (mapOf (nosOf l)).length) = (wrtAll l).take (k - 4 - (mapOf (nosOf l)).length) := by
        rw [← List.drop_drop, hd', List.drop_left]
      have hc := els_cut l h4 (k - 4 - (mapOf (nosOf l)).length) (by omega)
      rw [hd', p1, p2, p3, if_neg (by decide), hd2, hc, if_pos (by decide)]
/-- what is parsed is packed as it was -/
theorem iso_fwd {b t : List UInt8} {l : List El} (h : parI b = (0, t, l)) : pacE t l = 0 ∧ wrtI t l = b := by
  unfold parI at h
  split at h
  · exact absurd (congrArg Prod.fst h) (fst_off (by decide))
  rename_i h1
  split at h
  · exact absurd (congrArg Prod.fst h) (fst_off (by decide))
  rename_i h2
  split at h
  · exact absurd (congrArg Prod.fst h) (fst_off (by decide))
  rename_i h3
  split at h
  · rename_i h4; exact absurd (congrArg Prod.fst h) h4
  rename_i h4
  split at h
  · rename_i h5; exact absurd (congrArg Prod.fst h) h5
  rename_i h5
  split at h
  · exact absurd (congrArg Prod.fst h) (fst_off (by decide))
  rename_i h6
  have h4 := Decidable.not_not.1 h4
  have h5 := Decidable.not_not.1 h5
  obtain ⟨m1, m2, m3⟩ := map_par (b.drop 4) h4
  obtain ⟨e1, e2, e3, e4⟩ := els_fwd (parL (b.drop 4)) (b.drop (4 + parN (b.drop 4))) (elsF (parL (b.drop 4)) (b.drop (4 + parN (b.drop 4)))).2.1
    (elsF (parL (b.drop 4)) (b.drop (4 + parN (b.drop 4)))).2.2 (by rw [← h5])
  rw [List.length_drop] at e4 m3
  have ht : t = b.take 4 := (congrArg (fun x : Int × List UInt8 × List El => x.2.1) h).symm
  have hl : l = (elsF (parL (b.drop 4)) (b.drop (4 + parN (b.drop 4)))).2.1 := (congrArg (fun x : Int × List UInt8 × List El => x.2.2) h).symm
  have hw : wrtI t l = b := by
    unfold wrtI
    rw [hl, e1, e3, m2, ht, ← List.take_add, ← List.take_add]
    exact List.take_of_length_le (by omega)
  refine ⟨?_, hw⟩
  unfold pacE
  rw [hw, ht, if_neg h3, hl, e1]
  have : wmE (parL (b.drop 4)) = 0 := if_pos m1
  rw [this, e2, if_neg (by decide), if_neg (by decide), if_neg h1]
end Go.Proofs.YtpkalnkeafggjaaGreatDoor
