/- The texts IsoMath, FldMath, FldMath2, FldMath3, FldMath4, joined. -/
import Derived.Test.YthlgnmgjfgbffaaGreatDoorL06
import Derived.Test.YthlgnmgjfgbffaaGreatDoorL07
import Derived.Test.YthlgnmgjfgbffaaGreatDoorL02
/- Messages of data elements as plain functions: what is parsed, what is packed; what is packed is parsed, what is parsed is packed as it was, what is cut is none. No program. -/
namespace Go.Proofs.YthlgnmgjfgbffaaGreatDoor
set_option linter.unusedVariables false

/-! ### digits of just so many places -/
theorem digits_inj : ∀ (k : Nat) (l m : List UInt8), l.length = k → m.length = k → l.all isD = true → m.all isD = true → numV l = numV m → l = m
  | 0, l, m, hl, hm, _, _, _ => by rw [List.length_eq_zero_iff.1 hl, List.length_eq_zero_iff.1 hm]
  | k + 1, l, m, hl, hm, al, am, hv => by
    have hl0 : l ≠ [] := by intro h; rw [h] at hl; simp at hl
    have hm0 : m ≠ [] := by intro h; rw [h] at hm; simp at hm
    obtain ⟨l', c, rfl⟩ : ∃ l' c, l = l' ++ [c] := ⟨l.dropLast, l.getLast hl0, (List.dropLast_concat_getLast hl0).symm⟩
    obtain ⟨m', d, rfl⟩ : ∃ l' c, m = l' ++ [c] := ⟨m.dropLast, m.getLast hm0, (List.dropLast_concat_getLast hm0).symm⟩
    rw [List.all_append, Bool.and_eq_true] at al am
    have hc : isD c = true := by simpa using al.2
    have hd : isD d = true := by simpa using am.2
    have hc1 := half_digit hc
    have hd1 := half_digit hd
    have hc2 := isD_true.1 hc
    have hd2 := isD_true.1 hd
    rw [numV_snoc, numV_snoc] at hv
    have h1 : numV l' = numV m' := by omega
    have h2 : c = d := by
      apply UInt8.toNat_inj.1
      omega
    rw [h2, digits_inj k l' m' (by simpa using hl) (by simpa using hm) al.1 am.1 h1]
theorem text_back {l : List UInt8} (h : l.all isD = true) (h1 : 1 ≤ l.length) (h2 : l.length ≤ 20) : textR (numV l) (l.length : Int) = l := by
  have hlen : (Lib.decDigits (numV l)).length ≤ l.length := by
    have := numV_le h
    obtain ⟨k, hk⟩ : ∃ k, l.length = k + 1 := ⟨l.length - 1, by omega⟩
    rw [hk] at this ⊢
    exact dd_len k _ (by omega)
  have he : textE (numV l) (l.length : Int) = 0 := by
    unfold textE
    rw [if_neg (by omega), if_neg (by omega)]
  unfold textR
  rw [if_pos he, Int.toNat_natCast]
  refine digits_inj l.length _ _ ?_ rfl (wide_all _ _) h (numV_wide _ _)
  rw [wide_length]
  omega

theorem fst_off {α : Type} {a c : Int} {x y : α} (h : a ≠ c) : ¬ (a, x).1 = (c, y).1 := h
/-! ### one data element: what is read is written as it was -/
theorem rd_fwd {r : FRow} (hr : r ∈ elT) {b d : List UInt8} {k : Nat} (h : rdR r b = (0, d, k)) : chkR r d = 0 ∧ headEl r d.length ++ d = b.take k ∧ k ≤ b.length := by
  obtain ⟨_, _, a3, _, _⟩ := el_row hr
  unfold rdR at h
  split at h
  · rename_i h0
    exact absurd (congrArg Prod.fst h) h0
  rename_i h0
  split at h
  · exact absurd (congrArg Prod.fst h) (fst_off (by decide))
  rename_i h1
  split at h
  · exact absurd (congrArg Prod.fst h) (fst_off (by decide))
  rename_i h2
  split at h
  · exact absurd (congrArg Prod.fst h) (fst_off (by decide))
  rename_i h3
  have hd : d = (b.drop r.dig).take (sizEl r b).2 := (congrArg (fun x : Int × List UInt8 × Nat => x.2.1) h).symm
  have hk : k = r.dig + (sizEl r b).2 := (congrArg (fun x : Int × List UInt8 × Nat => x.2.2) h).symm
  have hl : d.length = (sizEl r b).2 := by rw [hd, List.length_take, List.length_drop]; omega
  have hh : headEl r d.length = b.take r.dig := by
    unfold headEl
    rw [hl]
    by_cases hz : r.dig = 0
    · rw [hz, List.take_zero]
      exact if_neg (by unfold textE; rw [if_pos (by omega)]; decide)
    · have hs : sizEl r b = (numE (b.take r.dig), numR (b.take r.dig)) := by
        unfold sizEl
        rw [if_neg hz, if_neg (by omega)]
      rw [hs] at h0
      have hR : rightB (b.take r.dig) 1 18 = true := by
        by_cases hR : rightB (b.take r.dig) 1 18 = true
        · exact hR
        · exact absurd (by dsimp only [numE]; rw [if_neg hR]; decide) h0
      have hn : numR (b.take r.dig) = numV (b.take r.dig) := if_pos hR
      obtain ⟨_, _, hall⟩ := rightB_len hR
      have ht : (b.take r.dig).length = r.dig := by rw [List.length_take]; omega
      rw [hs]
      dsimp only
      rw [hn]
      have := text_back hall (by omega) (by omega)
      rw [ht] at this
      exact this
  refine ⟨?_, ?_, by omega⟩
  · unfold chkR
    rw [hl, if_neg h1, hd, if_neg h3]
  · rw [hh, hk, hd, ← List.take_add]
theorem el_fwd {no : Int} {b : List UInt8} (h : reE no b = 0) : chkEl no (reL no b) = 0 ∧ wrtEl no (reL no b) = b.take (reN no b) ∧ reN no b ≤ b.length := by
  unfold reE rdEl at h
  cases hf : elFind no with
  | none => rw [hf] at h; exact absurd h (show (16 : Int) ≠ 0 by decide)
  | some r =>
    rw [hf] at h
    dsimp only at h
    have h1 := rd_fwd (elFind_some hf).1 (b := b) (d := reL no b) (k := reN no b) (by
      have : rdR r b = ((rdR r b).1, (rdR r b).2.1, (rdR r b).2.2) := rfl
      rw [this, h]
      unfold reL reN rdEl
      rw [hf])
    have hc : chkEl no (reL no b) = 0 := by unfold chkEl; rw [hf]; exact h1.1
    refine ⟨hc, ?_, h1.2.2⟩
    unfold wrtEl
    rw [if_pos hc]
    unfold elGet
    rw [hf]
    exact h1.2.1

/-! ### all of them -/
abbrev El := Int × List UInt8
/-- the elements of these numbers, one behind the other: the error, what is read, how many bytes -/
def elsF : List Int → List UInt8 → Int × List El × Nat
  | [], _ => (0, [], 0)
  | n :: ns, b => if reE n b ≠ 0 then (reE n b, [], 0)
    else if (elsF ns (b.drop (reN n b))).1 ≠ 0 then ((elsF ns (b.drop (reN n b))).1, [], 0)
    else (0, (n, reL n b) :: (elsF ns (b.drop (reN n b))).2.1, reN n b + (elsF ns (b.drop (reN n b))).2.2)
def wrtAll : List El → List UInt8
  | [] => []
  | e :: es => wrtEl e.1 e.2 ++ wrtAll es
def chkAll : List El → Int
  | [] => 0
  | e :: es => if chkEl e.1 e.2 ≠ 0 then chkEl e.1 e.2 else chkAll es
def nosOf (l : List El) : List Int := l.map Prod.fst
theorem els_back : ∀ (l : List El), chkAll l = 0 → ∀ more : List UInt8, elsF (nosOf l) (wrtAll l ++ more) = (0, l, (wrtAll l).length)
  | [], _, more => rfl
  | e :: es, h, more => by
    unfold chkAll at h
    have h0 : chkEl e.1 e.2 = 0 := by
      split at h
      · rename_i h1; exact absurd h h1
      · rename_i h1; exact Decidable.not_not.1 h1
    rw [if_neg (by rw [h0]; decide)] at h
    obtain ⟨a1, a2, a3⟩ := el_back h0 (wrtAll es ++ more)
    have ih := els_back es h more
    show elsF (e.1 :: nosOf es) (wrtEl e.1 e.2 ++ wrtAll es ++ more) = _
    rw [List.append_assoc]
    unfold elsF
    rw [a1, a2, a3, List.drop_left, ih]
    dsimp only
    rw [if_neg (by decide), if_neg (by decide), show wrtAll (e :: es) = wrtEl e.1 e.2 ++ wrtAll es from rfl, List.length_append]
theorem els_fwd : ∀ (ns : List Int) (b : List UInt8) (l : List El) (k : Nat), elsF ns b = (0, l, k) → nosOf l = ns ∧ chkAll l = 0 ∧ wrtAll l = b.take k ∧ k ≤ b.length
  | [], b, l, k, h => by
    cases h
    exact ⟨rfl, rfl, by rw [List.take_zero]; rfl, Nat.zero_le _⟩
  | n :: ns, b, l, k, h => by
    unfold elsF at h
    split at h
    · rename_i h1
      exact absurd (congrArg Prod.fst h) h1
    rename_i h1
    split at h
    · rename_i h2
      exact absurd (congrArg Prod.fst h) h2
    rename_i h2
    have h1 := Decidable.not_not.1 h1
    have h2 := Decidable.not_not.1 h2
    obtain ⟨i1, i2, i3, i4⟩ := els_fwd ns (b.drop (reN n b)) (elsF ns (b.drop (reN n b))).2.1 (elsF ns (b.drop (reN n b))).2.2 (by rw [← h2])
    obtain ⟨c1, c2, c3⟩ := el_fwd h1
    cases h
    rw [List.length_drop] at i4
    refine ⟨by show n :: nosOf _ = _; rw [i1], by unfold chkAll; rw [if_neg (by dsimp only; rw [c1]; decide)]; exact i2, ?_, by omega⟩
    show wrtEl n (reL n b) ++ wrtAll _ = _
    rw [c2, i3, List.take_add]
/-- what is cut is too short -/
theorem els_cut : ∀ (l : List El), chkAll l = 0 → ∀ k, k < (wrtAll l).length → (elsF (nosOf l) ((wrtAll l).take k)).1 = 3
  | [], _, k, hk => absurd hk (Nat.not_lt_zero _)
  | e :: es, h, k, hk => by
    unfold chkAll at h
    have h0 : chkEl e.1 e.2 = 0 := by
      split at h
      · rename_i h1; exact absurd h h1
      · rename_i h1; exact Decidable.not_not.1 h1
    rw [if_neg (by rw [h0]; decide)] at h
    show (elsF (e.1 :: nosOf es) ((wrtEl e.1 e.2 ++ wrtAll es).take k)).1 = 3
    have hk' : k < (wrtEl e.1 e.2).length + (wrtAll es).length := by rw [← List.length_append]; exact hk
    rcases Nat.lt_or_ge k (wrtEl e.1 e.2).length with hlt | hge
    · rw [List.take_append_of_le_length (by omega)]
      have := el_cut h0 k hlt
      unfold elsF
      rw [this, if_pos (by decide)]
    · have ht : (wrtEl e.1 e.2 ++ wrtAll es).take k = wrtEl e.1 e.2 ++ (wrtAll es).take (k - (wrtEl e.1 e.2).length) := by
        rw [List.take_append, List.take_of_length_le hge]
      rw [ht]
      obtain ⟨a1, a2, a3⟩ := el_back h0 ((wrtAll es).take (k - (wrtEl e.1 e.2).length))
      have ih := els_cut es h (k - (wrtEl e.1 e.2).length) (by omega)
      unfold elsF
      rw [a1, a2, a3, List.drop_left, ih, if_neg (by decide), if_pos (by decide)]

/-! ### messages -/
/-- what is parsed: the error, the message type, the elements -/
def parI (b : List UInt8) : Int × List UInt8 × List El :=
  if 4096 < b.length then (4, [], [])
  else if b.length < 4 then (3, [], [])
  else if rightB (b.take 4) 4 4 = false then (5, [], [])
  else if parE (b.drop 4) ≠ 0 then (parE (b.drop 4), [], [])
  else if (elsF (parL (b.drop 4)) (b.drop (4 + parN (b.drop 4)))).1 ≠ 0 then ((elsF (parL (b.drop 4)) (b.drop (4 + parN (b.drop 4)))).1, [], [])
  else if 4 + parN (b.drop 4) + (elsF (parL (b.drop 4)) (b.drop (4 + parN (b.drop 4)))).2.2 < b.length then (17, [], [])
  else (0, b.take 4, (elsF (parL (b.drop 4)) (b.drop (4 + parN (b.drop 4)))).2.1)
def wrtI (t : List UInt8) (l : List El) : List UInt8 := t ++ mapOf (nosOf l) ++ wrtAll l
/-- why a message isn't packed -/
def pacE (t : List UInt8) (l : List El) : Int :=
  if rightB t 4 4 = false then 5
  else if wmE (nosOf l) ≠ 0 then 1
  else if chkAll l ≠ 0 then chkAll l
  else if 4096 < (wrtI t l).length then 4
  else 0
def pacR (t : List UInt8) (l : List El) : List UInt8 := if pacE t l = 0 then wrtI t l else []
theorem pac_ok {t : List UInt8} {l : List El} (h : pacE t l = 0) : rightB t 4 4 = true ∧ t.length = 4 ∧ risesB (nosOf l) = true ∧ chkAll l = 0 ∧ (wrtI t l).length ≤ 4096 := by
  unfold pacE at h
  split at h
  · exact absurd h (by decide)
  rename_i h1
  split at h
  · exact absurd h (by decide)
  rename_i h2
  split at h
  · rename_i h3; exact absurd h h3
  rename_i h3
  split at h
  · exact absurd h (by decide)
  rename_i h4
  have h1 : rightB t 4 4 = true := by simpa using h1
  obtain ⟨b1, b2, _⟩ := rightB_len h1
  refine ⟨h1, by omega, ?_, Decidable.not_not.1 h3, by omega⟩
  have h2 := Decidable.not_not.1 h2
  unfold wmE at h2
  split at h2
  · assumption
  · exact absurd h2 (by decide)
theorem iso_len {t : List UInt8} {l : List El} (h : pacE t l = 0) : 12 ≤ (wrtI t l).length := by
  obtain ⟨h1, h2, h3, h4, h5⟩ := pac_ok h
  unfold wrtI
  rw [List.length_append, List.length_append]
  rcases mapOf_len h3 with h | h <;> omega
/-- what is packed, with something behind it -/
theorem iso_behind {t : List UInt8} {l : List El} (h : pacE t l = 0) (more : List UInt8) (hb : (wrtI t l).length + more.length ≤ 4096) :
    parI (wrtI t l ++ more) = if more = [] then (0, t, l) else (17, [], []) := by
  obtain ⟨h1, h2, h3, h4, h5⟩ := pac_ok h
  have hlen := iso_len h
  have hd : (wrtI t l ++ more).drop 4 = mapOf (nosOf l) ++ (wrtAll l ++ more) := by
    unfold wrtI
    rw [List.append_assoc, List.append_assoc, ← h2, List.drop_left]
  have htk : (wrtI t l ++ more).take 4 = t := by
    unfold wrtI
    rw [List.append_assoc, List.append_assoc, ← h2, List.take_left]
  obtain ⟨p1, p2, p3⟩ := par_map (nosOf l) h3 (wrtAll l ++ more)
  have hd2 : (wrtI t l ++ more).drop (4 + (mapOf (nosOf l)).length) = wrtAll l ++ more := by
    rw [← List.drop_drop, hd, List.drop_left]
  have hl2 : (wrtI t l).length = 4 + (mapOf (nosOf l)).length + (wrtAll l).length := by
    unfold wrtI
    rw [List.length_append, List.length_append, h2]
  unfold parI
  rw [if_neg (by rw [List.length_append]; omega), if_neg (by rw [List.length_append]; omega), htk, if_neg (by rw [h1]; decide), hd, p1, p2, p3, if_neg (by decide), hd2, els_back l h4 more]
  dsimp only
  rw [if_neg (by decide), List.length_append, hl2]
  by_cases hm : more = []
  · rw [if_pos hm, if_neg (by rw [hm]; simp)]
  · have : 0 < more.length := List.length_pos_iff.2 hm
    rw [if_neg hm, if_pos (by omega)]
/-- what is packed is parsed -/
theorem iso_back {t : List UInt8} {l : List El} (h : pacE t l = 0) : parI (wrtI t l) = (0, t, l) := by
  have := iso_behind h [] (by have := (pac_ok h).2.2.2.2; simpa using this)
  rw [List.append_nil, if_pos rfl] at this
  exact this
/-- a map that is cut -/
theorem map_cut (l : List Int) (h : risesB l = true) (k : Nat) (hk : k < (mapOf l).length) : parE ((mapOf l).take k) = 3 := by
  have hl := mapOf_len h
  unfold parE
  rcases Nat.lt_or_ge k 8 with h8 | h8
  · rw [if_pos (by rw [List.length_take]; omega)]
  · rw [if_neg (by rw [List.length_take]; omega)]
    obtain ⟨p1, p2, _⟩ := par_map l h []
    rw [List.append_nil] at p1 p2
    have hN : mapN (mapOf l) = (mapOf l).length := by
      unfold parN at p2
      rw [if_pos p1] at p2
      exact p2
    have h16 : (mapOf l).length = 16 := by omega
    have : mapN ((mapOf l).take k) = 16 := by
      rw [← h16, ← hN]
      unfold mapN
      rw [bitAt_take _ _ _ (by omega)]
    rw [this, if_pos (by rw [List.length_take]; omega)]
/-- what is packed, and cut, is none -/
theorem iso_cut {t : List UInt8} {l : List El} (h : pacE t l = 0) (k : Nat) (hk : k < (wrtI t l).length) : (parI ((wrtI t l).take k)).1 = 3 := by
  obtain ⟨h1, h2, h3, h4, h5⟩ := pac_ok h
  have hl2 : (wrtI t l).length = 4 + (mapOf (nosOf l)).length + (wrtAll l).length := by
    unfold wrtI
    rw [List.length_append, List.length_append, h2]
  have hlk : ((wrtI t l).take k).length = k := by rw [List.length_take]; omega
  unfold parI
  rw [hlk, if_neg (by omega)]
  rcases Nat.lt_or_ge k 4 with hlt | hge
  · rw [if_pos hlt]
  · have htk : ((wrtI t l).take k).take 4 = t := by
      rw [List.take_take, Nat.min_eq_left hge]
      unfold wrtI
      rw [List.append_assoc, ← h2, List.take_left]
    have hd : ((wrtI t l).take k).drop 4 = (mapOf (nosOf l) ++ wrtAll l).take (k - 4) := by
      rw [List.drop_take]
      unfold wrtI
      rw [List.append_assoc, ← h2, List.drop_left]
    rw [if_neg (by omega), htk, if_neg (by rw [h1]; decide)]
    rcases Nat.lt_or_ge (k - 4) (mapOf (nosOf l)).length with hm | hm
    · have hc := map_cut (nosOf l) h3 (k - 4) hm
      rw [hd, List.take_append_of_le_length (by omega), hc, if_pos (by decide)]
    · have hd' : ((wrtI t l).take k).drop 4 = mapOf (nosOf l) ++ (wrtAll l).take (k - 4 - (mapOf (nosOf l)).length) := by
        rw [hd, List.take_append, List.take_of_length_le hm]
      obtain ⟨p1, p2, p3⟩ := par_map (nosOf l) h3 ((wrtAll l).take (k - 4 - (mapOf (nosOf l)).length))
      have hd2 : ((wrtI t l).take k).drop (4 + (mapOf (nosOf l)).length) = (wrtAll l).take (k - 4 - (mapOf (nosOf l)).length) := by
        rw [← List.drop_drop, hd', List.drop_left]
      have hc := els_cut l h4 (k - 4 - (mapOf (nosOf l)).length) (by omega)
      rw [hd', p1, p2, p3, if_neg (by decide), hd2, hc, if_pos (by decide)]
/-- what is parsed is packed as it was -/
theorem iso_fwd {b t : List UInt8} {l : List El} (h : parI b = (0, t, l)) : pacE t l = 0 ∧ wrtI t l = b := by
  unfold parI at h
  split at h
  · exact absurd (congrArg Prod.fst h) (fst_off (by decide))
  rename_i h1
  split at h
  · exact absurd (congrArg Prod.fst h) (fst_off (by decide))
  rename_i h2
  split at h
  · exact absurd (congrArg Prod.fst h) (fst_off (by decide))
  rename_i h3
  split at h
  · rename_i h4; exact absurd (congrArg Prod.fst h) h4
  rename_i h4
  split at h
  · rename_i h5; exact absurd (congrArg Prod.fst h) h5
  rename_i h5
  split at h
  · exact absurd (congrArg Prod.fst h) (fst_off (by decide))
  rename_i h6
  have h4 := Decidable.not_not.1 h4
  have h5 := Decidable.not_not.1 h5
  obtain ⟨m1, m2, m3⟩ := map_par (b.drop 4) h4
  obtain ⟨e1, e2, e3, e4⟩ := els_fwd (parL (b.drop 4)) (b.drop (4 + parN (b.drop 4))) (elsF (parL (b.drop 4)) (b.drop (4 + parN (b.drop 4)))).2.1
    (elsF (parL (b.drop 4)) (b.drop (4 + parN (b.drop 4)))).2.2 (by rw [← h5])
  rw [List.length_drop] at e4 m3
  have ht : t = b.take 4 := (congrArg (fun x : Int × List UInt8 × List El => x.2.1) h).symm
  have hl : l = (elsF (parL (b.drop 4)) (b.drop (4 + parN (b.drop 4)))).2.1 := (congrArg (fun x : Int × List UInt8 × List El => x.2.2) h).symm
  have hw : wrtI t l = b := by
    unfold wrtI
    rw [hl, e1, e3, m2, ht, ← List.take_add, ← List.take_add]
    exact List.take_of_length_le (by omega)
  refine ⟨?_, hw⟩
  unfold pacE
  rw [hw, ht, if_neg h3, hl, e1]
  have : wmE (parL (b.drop 4)) = 0 := if_pos m1
  rw [this, e2, if_neg (by decide), if_neg (by decide), if_neg h1]
end Go.Proofs.YthlgnmgjfgbffaaGreatDoor
/- Messages as bitmaps, as plain functions: fields by their numbers; a rising list of elements is what its fields say; three elements are packed. No program. -/
namespace Go.Proofs.YthlgnmgjfgbffaaGreatDoor
set_option linter.unusedVariables false

/-! ### fields by their numbers -/
/-- an element's data, if it is there -/
def fldL (es : List El) (no : Int) : Option (List UInt8) := (es.find? (fun a => a.1 == no)).map (·.2)
theorem fld_nil (no : Int) : fldL [] no = none := rfl
theorem fld_cons (a : El) (es : List El) (no : Int) : fldL (a :: es) no = if a.1 = no then some a.2 else fldL es no := by
  unfold fldL
  rw [List.find?_cons]
  by_cases h : a.1 = no
  · rw [if_pos h]
    have : (a.1 == no) = true := by rw [beq_iff_eq]; exact h
    rw [this]
    rfl
  · rw [if_neg h]
    have : (a.1 == no) = false := by rw [beq_eq_false_iff_ne]; exact h
    rw [this]
theorem fld_none : ∀ {es : List El} {no : Int}, (∀ n ∈ nosOf es, n ≠ no) → fldL es no = none
  | [], _, _ => rfl
  | a :: es, no, h => by
    rw [fld_cons, if_neg (h a.1 (by simp [nosOf]))]
    exact fld_none (fun n hn => h n (by simp only [nosOf, List.map_cons, List.mem_cons]; exact .inr hn))
/-- the elements of these numbers of which f tells the data -/
def pickL (K : List Int) (f : Int → Option (List UInt8)) : List El := K.filterMap (fun n => (f n).map (fun d => (n, d)))
theorem pick_cons (k : Int) (K : List Int) (f : Int → Option (List UInt8)) : pickL (k :: K) f = match f k with
    | none => pickL K f
    | some d => (k, d) :: pickL K f := by
  unfold pickL
  rw [List.filterMap_cons]
  cases f k <;> rfl
theorem pick_congr : ∀ {K : List Int} {f g : Int → Option (List UInt8)}, (∀ n ∈ K, f n = g n) → pickL K f = pickL K g
  | [], _, _, _ => rfl
  | k :: K, f, g, h => by rw [pick_cons, pick_cons, h k (by simp), pick_congr (fun n hn => h n (by simp [hn]))]
theorem pick_sub : ∀ (K : List Int) (f : Int → Option (List UInt8)), (nosOf (pickL K f)).Sublist K
  | [], f => List.Sublist.refl _
  | k :: K, f => by
    rw [pick_cons]
    cases f k with
    | none => exact (pick_sub K f).cons k
    | some d => exact (pick_sub K f).cons_cons k
theorem fld_pick : ∀ {K : List Int} {f : Int → Option (List UInt8)} {no : Int}, K.Pairwise (· < ·) → fldL (pickL K f) no = if no ∈ K then f no else none
  | [], f, no, _ => by rw [if_neg (by simp)]; rfl
  | k :: K, f, no, h => by
    obtain ⟨h1, h2⟩ := List.pairwise_cons.1 h
    rw [pick_cons]
    by_cases e : k = no
    · subst e
      rw [if_pos (by simp)]
      cases hf : f k with
      | none =>
        dsimp only
        rw [fld_none (fun n hn x => by have := h1 n ((pick_sub K f).subset hn); omega)]
      | some d =>
        dsimp only
        rw [fld_cons, if_pos rfl]
    · have hm : (no ∈ k :: K) ↔ no ∈ K := by
        rw [List.mem_cons]
        exact ⟨fun h => by rcases h with h | h; exact absurd h.symm e; exact h, .inr⟩
      have ih := fld_pick (f := f) (no := no) h2
      have hi : (if no ∈ k :: K then f no else none) = if no ∈ K then f no else none := by
        by_cases hK : no ∈ K
        · rw [if_pos hK, if_pos (hm.2 hK)]
        · rw [if_neg hK, if_neg (fun x => hK (hm.1 x))]
      rw [hi]
      cases hf : f k with
      | none => exact ih
      | some d =>
        dsimp only
        rw [fld_cons, if_neg e]
        exact ih
/-- a rising list of elements of such numbers is what its fields say -/
theorem pick_fld : ∀ {K : List Int} {es : List El}, K.Pairwise (· < ·) → (nosOf es).Pairwise (· < ·) → (∀ n ∈ nosOf es, n ∈ K) → pickL K (fldL es) = es
  | [], es, _, _, h => by
    cases es with
    | nil => rfl
    | cons a es => exact absurd (h a.1 (by simp [nosOf])) (by simp)
  | k :: K, [], _, _, _ => by
    have : ∀ K : List Int, pickL K (fldL []) = [] := fun K => by
      induction K with
      | nil => rfl
      | cons k K ih => rw [pick_cons]; exact ih
    exact this _
  | k :: K, a :: es, hK, he, hm => by
    obtain ⟨k1, k2⟩ := List.pairwise_cons.1 hK
    have he' : (a.1 :: nosOf es).Pairwise (· < ·) := he
    obtain ⟨e1, e2⟩ := List.pairwise_cons.1 he'
    rw [pick_cons]
    by_cases e : a.1 = k
    · rw [fld_cons, if_pos e]
      dsimp only
      have h1 : pickL K (fldL (a :: es)) = pickL K (fldL es) := pick_congr (fun n hn => by rw [fld_cons, if_neg (fun x => by have := k1 n hn; omega)])
      rw [h1, pick_fld k2 e2 (fun n hn => by
        have h3 := hm n (by simp only [nosOf, List.map_cons, List.mem_cons]; exact .inr hn)
        rcases List.mem_cons.1 h3 with h4 | h4
        · have := e1 n hn; omega
        · exact h4), ← e]
    · have hn : fldL (a :: es) k = none := fld_none (fun n hn x => by
        have h3 := hm a.1 (by simp [nosOf])
        rcases List.mem_cons.1 h3 with h4 | h4
        · exact e h4
        · have h5 := k1 a.1 h4
          have h6 : n ∈ a.1 :: nosOf es := hn
          rcases List.mem_cons.1 h6 with h7 | h7
          · omega
          · have := e1 n h7; omega)
      rw [hn]
      dsimp only
      exact pick_fld k2 he (fun n hn => by
        have h3 := hm n hn
        rcases List.mem_cons.1 h3 with h4 | h4
        · have h5 := hm a.1 (by simp [nosOf])
          have h6 : n ∈ a.1 :: nosOf es := hn
          rcases List.mem_cons.1 h5 with h8 | h8
          · exact absurd h8 e
          · have := k1 a.1 h8
            rcases List.mem_cons.1 h6 with h7 | h7
            · omega
            · have := e1 n h7; omega
        · exact h4)
/-- those whose numbers p takes -/
theorem pick_filter : ∀ (K : List Int) (f : Int → Option (List UInt8)) (p : Int → Bool), (pickL K f).filter (fun a => p a.1) = pickL (K.filter p) f
  | [], f, p => rfl
  | k :: K, f, p => by
    rw [pick_cons, List.filter_cons]
    have ih := pick_filter K f p
    cases hf : f k with
    | none =>
      dsimp only
      cases hp : p k with
      | true => rw [if_pos rfl, pick_cons, hf]; exact ih
      | false => rw [if_neg (by simp)]; exact ih
    | some d =>
      dsimp only
      rw [List.filter_cons]
      cases hp : p k with
      | true =>
        rw [if_pos rfl, if_pos rfl, pick_cons, hf]
        dsimp only
        rw [ih]
      | false => rw [if_neg (by simp), if_neg (by simp)]; exact ih

/-! ### the table's numbers -/
def elNos : List Int := elT.map (·.no)
theorem elNos_rise : elNos.Pairwise (· < ·) := by decide +kernel
theorem elFind_mem {no : Int} {r : FRow} (h : elFind no = some r) : no ∈ elNos := by
  obtain ⟨h1, h2⟩ := elFind_some h
  rw [← h2]
  exact List.mem_map_of_mem h1
theorem chkAll_nos : ∀ {es : List El}, chkAll es = 0 → ∀ n ∈ nosOf es, n ∈ elNos
  | [], _, n, hn => by cases hn
  | a :: es, h, n, hn => by
    unfold chkAll at h
    by_cases h0 : chkEl a.1 a.2 ≠ 0
    · rw [if_pos h0] at h; exact absurd h h0
    · rw [if_neg h0] at h
      have h0 := Decidable.not_not.1 h0
      have hn' : n ∈ a.1 :: nosOf es := hn
      rcases List.mem_cons.1 hn' with e | e
      · rw [e]
        obtain ⟨r, hr, _⟩ := wrt_ok h0
        exact elFind_mem hr
      · exact chkAll_nos h n e
/-- the elements of a message that may be are what its fields say -/
theorem iso_canon {t : List UInt8} {es : List El} (h : pacE t es = 0) : pickL elNos (fldL es) = es := by
  obtain ⟨_, _, h3, h4, _⟩ := pac_ok h
  exact pick_fld elNos_rise ((risesB_iff _).1 h3).1 (chkAll_nos h4)

/-! ### one element of a known row; three elements -/
theorem chk_row {no : Int} {r : FRow} {d : List UInt8} (hf : elFind no = some r) (hb : fitB r d.length = true) (ht : typB r.kind d = true) : chkEl no d = 0 := by
  unfold chkEl
  rw [hf]
  dsimp only
  unfold chkR
  rw [hb, ht]
  rfl
theorem chk_num {no : Int} {r : FRow} {d : List UInt8} (hf : elFind no = some r) (hk : r.kind = 1) (hl : (if r.dig = 0 then r.top else 1) ≤ d.length ∧ d.length ≤ r.top) (hd : d.all isD = true) : chkEl no d = 0 :=
  chk_row hf (fitB_iff.2 hl) (by unfold typB; rw [if_pos hk]; exact hd)
theorem chk_11 {d : List UInt8} (hl : d.length = 6) (hd : d.all isD = true) : chkEl 11 d = 0 := chk_num (r := ⟨11, 1, 0, 6, false⟩) (by decide +kernel) rfl (by simp; omega) hd
theorem chk_12 {d : List UInt8} (hl : d.length = 14) (hd : d.all isD = true) : chkEl 12 d = 0 := chk_num (r := ⟨12, 1, 0, 14, false⟩) (by decide +kernel) rfl (by simp; omega) hd
theorem chk_32 {d : List UInt8} (hl : 1 ≤ d.length ∧ d.length ≤ 11) (hd : d.all isD = true) : chkEl 32 d = 0 := chk_num (r := ⟨32, 1, 2, 11, false⟩) (by decide +kernel) rfl (by simp; omega) hd
theorem wrtEl_len3 (no : Int) (d : List UInt8) : (wrtEl no d).length ≤ 1003 := wrt_len
theorem pac_small {t : List UInt8} {es : List El} (h1 : rightB t 4 4 = true) (h2 : risesB (nosOf es) = true) (h3 : chkAll es = 0) (h4 : es.length ≤ 3) : pacE t es = 0 := by
  have ht := rightB_len h1
  have hw : ∀ l : List El, (wrtAll l).length ≤ 1003 * l.length := fun l => by
    induction l with
    | nil => exact Nat.le_refl _
    | cons a l ih =>
      show (wrtEl a.1 a.2 ++ wrtAll l).length ≤ 1003 * (l.length + 1)
      rw [List.length_append]
      have := wrtEl_len3 a.1 a.2
      omega
  unfold pacE
  rw [if_neg (by rw [h1]; decide), if_neg (by unfold wmE; rw [if_pos h2]; decide), if_neg (by rw [h3]; decide), if_neg ?_]
  unfold wrtI
  rw [List.length_append, List.length_append]
  have := hw es
  rcases mapOf_len h2 with h | h <;> omega
/-- a head: a number of six digits, a time of fourteen, a party -/
theorem pac_head {t s m a : List UInt8} (h1 : rightB t 4 4 = true) (hs : s.length = 6 ∧ s.all isD = true) (hm : m.length = 14 ∧ m.all isD = true) (ha : (1 ≤ a.length ∧ a.length ≤ 11) ∧ a.all isD = true) :
    pacE t [(11, s), (12, m), (32, a)] = 0 ∧ pacE t [(11, s), (12, m)] = 0 := by
  have c1 := chk_11 hs.1 hs.2
  have c2 := chk_12 hm.1 hm.2
  have c3 := chk_32 ha.1 ha.2
  refine ⟨pac_small h1 (show risesB [11, 12, 32] = true by decide) ?_ (by simp), pac_small h1 (show risesB [11, 12] = true by decide) ?_ (by simp)⟩
  · unfold chkAll; rw [if_neg (by rw [c1]; decide)]
    unfold chkAll; rw [if_neg (by rw [c2]; decide)]
    unfold chkAll; rw [if_neg (by rw [c3]; decide)]
    rfl
  · unfold chkAll; rw [if_neg (by rw [c1]; decide)]
    unfold chkAll; rw [if_neg (by rw [c2]; decide)]
    rfl
/-! ### two rising lists, by number -/
def mergeL : List El → List El → List El
  | [], b => b
  | x :: a, [] => x :: a
  | x :: a, y :: b => if x.1 < y.1 then x :: mergeL a (y :: b) else y :: mergeL (x :: a) b
termination_by a b => a.length + b.length
theorem merge_nil (b : List El) : mergeL [] b = b := by rw [mergeL]
theorem merge_nil_r (a : List El) : mergeL a [] = a := by
  cases a with
  | nil => rw [mergeL]
  | cons x a => rw [mergeL]
theorem merge_cons (x : El) (a : List El) (y : El) (b : List El) : mergeL (x :: a) (y :: b) = if x.1 < y.1 then x :: mergeL a (y :: b) else y :: mergeL (x :: a) b := by rw [mergeL]
theorem merge_mem : ∀ (m : Nat) (a b : List El), a.length + b.length ≤ m → ∀ n, n ∈ nosOf (mergeL a b) ↔ n ∈ nosOf a ∨ n ∈ nosOf b
  | _, [], b, _, n => by rw [merge_nil]; simp [nosOf]
  | _, x :: a, [], _, n => by rw [merge_nil_r]; simp [nosOf]
  | 0, x :: a, y :: b, h, n => by simp at h
  | m + 1, x :: a, y :: b, h, n => by
    rw [merge_cons]
    have hc : ∀ (z : El) (l : List El), n ∈ nosOf (z :: l) ↔ n = z.1 ∨ n ∈ nosOf l := fun z l => by simp [nosOf]
    simp only [List.length_cons] at h
    by_cases e : x.1 < y.1
    · rw [if_pos e, hc, merge_mem m a (y :: b) (by simp only [List.length_cons]; omega) n, hc, hc, or_assoc]
    · rw [if_neg e, hc, merge_mem m (x :: a) b (by simp only [List.length_cons]; omega) n, hc, hc]
      constructor
      · rintro (h | h | h)
        · exact .inr (.inl h)
        · exact .inl h
        · exact .inr (.inr h)
      · rintro (h | h | h)
        · exact .inr (.inl h)
        · exact .inl h
        · exact .inr (.inr h)
theorem merge_rise : ∀ (m : Nat) (a b : List El), a.length + b.length ≤ m → (nosOf a).Pairwise (· < ·) → (nosOf b).Pairwise (· < ·) → (∀ n ∈ nosOf a, n ∉ nosOf b) → (nosOf (mergeL a b)).Pairwise (· < ·)
  | _, [], b, _, _, h2, _ => by rw [merge_nil]; exact h2
  | _, x :: a, [], _, h1, _, _ => by rw [merge_nil_r]; exact h1
  | 0, x :: a, y :: b, h, _, _, _ => by simp at h
  | m + 1, x :: a, y :: b, h, h1, h2, hd => by
    have hx : (x.1 :: nosOf a).Pairwise (· < ·) := h1
    have hy : (y.1 :: nosOf b).Pairwise (· < ·) := h2
    obtain ⟨x1, x2⟩ := List.pairwise_cons.1 hx
    obtain ⟨y1, y2⟩ := List.pairwise_cons.1 hy
    have hxa : ∀ n, n ∈ nosOf (x :: a) ↔ n = x.1 ∨ n ∈ nosOf a := fun n => by simp [nosOf]
    have hyb : ∀ n, n ∈ nosOf (y :: b) ↔ n = y.1 ∨ n ∈ nosOf b := fun n => by simp [nosOf]
    simp only [List.length_cons] at h
    rw [merge_cons]
    by_cases e : x.1 < y.1
    · rw [if_pos e]
      show (x.1 :: nosOf (mergeL a (y :: b))).Pairwise (· < ·)
      refine List.pairwise_cons.2 ⟨fun n hn => ?_, merge_rise m a (y :: b) (by simp only [List.length_cons]; omega) x2 h2 (fun n hn => hd n ((hxa n).2 (.inr hn)))⟩
      rcases (merge_mem m a (y :: b) (by simp only [List.length_cons]; omega) n).1 hn with h3 | h3
      · exact x1 n h3
      · rcases (hyb n).1 h3 with h4 | h4
        · omega
        · have := y1 n h4; omega
    · rw [if_neg e]
      have hne : x.1 ≠ y.1 := fun e2 => hd x.1 ((hxa x.1).2 (.inl rfl)) ((hyb x.1).2 (.inl e2))
      show (y.1 :: nosOf (mergeL (x :: a) b)).Pairwise (· < ·)
      refine List.pairwise_cons.2 ⟨fun n hn => ?_, merge_rise m (x :: a) b (by simp only [List.length_cons]; omega) h1 y2 (fun n hn h3 => hd n hn ((hyb n).2 (.inr h3)))⟩
      rcases (merge_mem m (x :: a) b (by simp only [List.length_cons]; omega) n).1 hn with h3 | h3
      · rcases (hxa n).1 h3 with h4 | h4
        · omega
        · have := x1 n h4; omega
      · exact y1 n h3
theorem fld_merge : ∀ (m : Nat) (a b : List El), a.length + b.length ≤ m → (∀ n ∈ nosOf a, n ∉ nosOf b) → ∀ no, fldL (mergeL a b) no = (fldL a no).or (fldL b no)
  | _, [], b, _, _, no => by rw [merge_nil]; rfl
  | _, x :: a, [], _, _, no => by rw [merge_nil_r, fld_nil]; cases fldL (x :: a) no <;> rfl
  | 0, x :: a, y :: b, h, _, _ => by simp at h
  | m + 1, x :: a, y :: b, h, hd, no => by
    have hxa : ∀ n, n ∈ nosOf (x :: a) ↔ n = x.1 ∨ n ∈ nosOf a := fun n => by simp [nosOf]
    have hyb : ∀ n, n ∈ nosOf (y :: b) ↔ n = y.1 ∨ n ∈ nosOf b := fun n => by simp [nosOf]
    simp only [List.length_cons] at h
    rw [merge_cons]
    by_cases e : x.1 < y.1
    · rw [if_pos e, fld_cons, fld_cons x a]
      by_cases hx : x.1 = no
      · rw [if_pos hx, if_pos hx]; rfl
      · rw [if_neg hx, if_neg hx]
        exact fld_merge m a (y :: b) (by simp only [List.length_cons]; omega) (fun n hn => hd n ((hxa n).2 (.inr hn))) no
    · rw [if_neg e, fld_cons y]
      by_cases hy : y.1 = no
      · rw [if_pos hy]
        have hn : fldL (x :: a) no = none := fld_none (fun n hn e2 => hd n hn ((hyb n).2 (.inl (by rw [e2, hy]))))
        rw [hn, fld_cons, if_pos hy]
        rfl
      · rw [if_neg hy, fld_merge m (x :: a) b (by simp only [List.length_cons]; omega) (fun n hn h3 => hd n hn ((hyb n).2 (.inr h3))) no, fld_cons y b, if_neg hy]
/-- two rising lists of apart numbers of a list, merged, are what their fields say -/
theorem merge_pick {K : List Int} {a b : List El} (hK : K.Pairwise (· < ·)) (ha : (nosOf a).Pairwise (· < ·)) (hb : (nosOf b).Pairwise (· < ·)) (hd : ∀ n ∈ nosOf a, n ∉ nosOf b) (hm : ∀ n, n ∈ nosOf a ∨ n ∈ nosOf b → n ∈ K) :
    mergeL a b = pickL K (fun no => (fldL a no).or (fldL b no)) := by
  rw [← pick_fld hK (merge_rise _ a b (Nat.le_refl _) ha hb hd) (fun n hn => hm n ((merge_mem _ a b (Nat.le_refl _) n).1 hn))]
  exact pick_congr (fun n _ => fld_merge _ a b (Nat.le_refl _) hd n)
end Go.Proofs.YthlgnmgjfgbffaaGreatDoor
/- Messages as bitmaps, as plain functions: a message's fields and the message that fields say; each undoes the other. No program. -/
namespace Go.Proofs.YthlgnmgjfgbffaaGreatDoor
set_option linter.unusedVariables false

/-! ### parts -/
def optF (s : List UInt8) : Option (List UInt8) := if s = [] then none else some s
theorem optF_get (s : List UInt8) : (optF s).getD [] = s := by
  unfold optF
  by_cases h : s = []
  · rw [if_pos h, h]; rfl
  · rw [if_neg h]; rfl
theorem optF_back {o : Option (List UInt8)} (h : o ≠ some []) : optF (o.getD []) = o := by
  cases o with
  | none => rfl
  | some s =>
    show (if s = [] then none else some s) = some s
    rw [if_neg (fun e => h (congrArg some e))]
/-- with blanks behind, up to a length -/
def padR (n : Nat) (s : List UInt8) : List UInt8 := s ++ List.replicate (n - s.length) 32
/-- without the blanks behind -/
def trimR (s : List UInt8) : List UInt8 := (s.reverse.dropWhile (· == 32)).reverse
theorem drop_blanks (k : Nat) (l : List UInt8) : (List.replicate k (32 : UInt8) ++ l).dropWhile (· == 32) = l.dropWhile (· == 32) := by
  induction k with
  | zero => rfl
  | succ k ih =>
    rw [List.replicate_succ, List.cons_append, List.dropWhile_cons]
    exact ih
theorem trim_pad (n : Nat) (s : List UInt8) : trimR (padR n s) = trimR s := by
  unfold trimR padR
  rw [List.reverse_append, List.reverse_replicate, drop_blanks]
/-- what blanks were taken off -/
theorem trim_blanks (s : List UInt8) : s = trimR s ++ List.replicate (s.length - (trimR s).length) 32 := by
  unfold trimR
  have key : ∀ l : List UInt8, l = List.replicate (l.length - (l.dropWhile (· == 32)).length) 32 ++ l.dropWhile (· == 32) := by
    intro l
    induction l with
    | nil => rfl
    | cons c l ih =>
      rw [List.dropWhile_cons]
      by_cases hc : (c == 32) = true
      · rw [if_pos hc]
        have hle : (l.dropWhile (· == 32)).length ≤ l.length := (List.dropWhile_suffix _).sublist.length_le
        have hn : (c :: l).length - (l.dropWhile (· == 32)).length = (l.length - (l.dropWhile (· == 32)).length) + 1 := by simp only [List.length_cons]; omega
        rw [hn, List.replicate_succ, List.cons_append, ← ih]
        rw [beq_iff_eq.1 hc]
      · rw [if_neg hc, Nat.sub_self]
        rfl
  have h := congrArg List.reverse (key s.reverse)
  rw [List.reverse_reverse, List.reverse_append, List.reverse_replicate] at h
  have hl : (s.reverse.dropWhile (· == 32)).reverse.length = (s.reverse.dropWhile (· == 32)).length := List.length_reverse
  have hs : s.reverse.length = s.length := List.length_reverse
  rw [hs] at h
  rw [hl]
  exact h
theorem pad_trim {n : Nat} {s : List UInt8} (h : s.length = n) : padR n (trimR s) = s := by
  unfold padR
  have := trim_blanks s
  rw [← h]
  exact this.symm
def padO (n : Nat) (s : List UInt8) : Option (List UInt8) := if s = [] then none else some (padR n s)
theorem pow_dec {v k : Nat} (h : v < 10 ^ (k + 1)) : (Lib.decDigits v).length ≤ k + 1 := dd_len k v h
/-- a number in so many digits -/
theorem dig_num {v k : Nat} (hk : k ≤ 17) (h : v < 10 ^ (k + 1)) : numV (textR v ((k + 1 : Nat) : Int)) = v ∧ (textR v ((k + 1 : Nat) : Int)).length = k + 1 ∧ (textR v ((k + 1 : Nat) : Int)).all isD = true := by
  have hl := pow_dec h
  have he : textE v ((k + 1 : Nat) : Int) = 0 := by
    unfold textE
    rw [if_neg (by omega), if_neg (by omega)]
  have hr : textR v ((k + 1 : Nat) : Int) = wide v (k + 1 - (Lib.decDigits v).length) := by
    unfold textR
    rw [if_pos he, Int.toNat_natCast]
  rw [hr]
  exact ⟨numV_wide _ _, by rw [wide_length]; omega, wide_all _ _⟩

/-! ### messages -/
structure FMsg where
  stan : Nat
  time : List UInt8
  acq : List UInt8
  pan : List UInt8
  cur : List UInt8
  amount : Nat
  rrn : List UInt8
  mer : List UInt8
  ter : List UInt8
  app : List UInt8
  entry : Nat
  act : List UInt8
  rea : List UInt8
  ostan : Nat
  otime : List UInt8
  tags : List TagL
  key : List UInt8
/-- the fields of a message -/
def msgF (m : FMsg) (no : Int) : Option (List UInt8) :=
  if no = 2 then optF m.pan
  else if no = 4 then (if m.cur = [] then none else some (textR m.amount 12))
  else if no = 11 then some (textR m.stan 6)
  else if no = 12 then optF m.time
  else if no = 22 then (if m.entry = 0 then none else some (textR m.entry 3))
  else if no = 25 then optF m.rea
  else if no = 32 then optF m.acq
  else if no = 37 then optF m.rrn
  else if no = 38 then optF m.app
  else if no = 39 then optF m.act
  else if no = 41 then padO 8 m.ter
  else if no = 42 then padO 15 m.mer
  else if no = 48 then optF m.key
  else if no = 49 then optF m.cur
  else if no = 55 then optF (wrT m.tags)
  else if no = 56 then (if m.otime = [] then none else some (textR m.ostan 6 ++ m.otime))
  else none
/-- the message that fields say -/
def decM (f : Int → Option (List UInt8)) : FMsg where
  stan := numV ((f 11).getD [])
  time := (f 12).getD []
  acq := (f 32).getD []
  pan := (f 2).getD []
  cur := (f 49).getD []
  amount := numV ((f 4).getD [])
  rrn := (f 37).getD []
  mer := trimR ((f 42).getD [])
  ter := trimR ((f 41).getD [])
  app := (f 38).getD []
  entry := numV ((f 22).getD [])
  act := (f 39).getD []
  rea := (f 25).getD []
  ostan := numV (((f 56).getD []).take 6)
  otime := ((f 56).getD []).drop 6
  tags := tlvL ((f 55).getD [])
  key := (f 48).getD []
theorem padO_get {n : Nat} {s : List UInt8} (h : trimR s = s) : trimR ((padO n s).getD []) = s := by
  unfold padO
  by_cases e : s = []
  · rw [if_pos e, e]; rfl
  · rw [if_neg e]
    show trimR (padR n s) = s
    rw [trim_pad, h]
/-- a message's fields say the message -/
theorem dec_msg (m : FMsg) (h1 : m.stan < 1000000) (h2 : m.amount < 1000000000000) (h3 : m.cur = [] → m.amount = 0) (h4 : m.entry < 1000) (h5 : m.ostan < 1000000) (h6 : m.otime = [] → m.ostan = 0) (h7 : trimR m.ter = m.ter) (h8 : trimR m.mer = m.mer) (h9 : wrE m.tags = 0) : decM (msgF m) = m := by
  have d6 : numV (textR m.stan 6) = m.stan ∧ (textR m.stan 6).length = 6 ∧ (textR m.stan 6).all isD = true := dig_num (v := m.stan) (k := 5) (by omega) (by omega)
  have d12 : numV (textR m.amount 12) = m.amount ∧ (textR m.amount 12).length = 12 ∧ (textR m.amount 12).all isD = true := dig_num (v := m.amount) (k := 11) (by omega) (by omega)
  have d3 : numV (textR m.entry 3) = m.entry ∧ (textR m.entry 3).length = 3 ∧ (textR m.entry 3).all isD = true := dig_num (v := m.entry) (k := 2) (by omega) (by omega)
  have o6 : numV (textR m.ostan 6) = m.ostan ∧ (textR m.ostan 6).length = 6 ∧ (textR m.ostan 6).all isD = true := dig_num (v := m.ostan) (k := 5) (by omega) (by omega)
  have e4 : numV ((msgF m 4).getD []) = m.amount := by
    show numV ((if m.cur = [] then none else some (textR m.amount 12)).getD []) = m.amount
    by_cases e : m.cur = []
    · rw [if_pos e, h3 e]; rfl
    · rw [if_neg e]; exact d12.1
  have e22 : numV ((msgF m 22).getD []) = m.entry := by
    show numV ((if m.entry = 0 then none else some (textR m.entry 3)).getD []) = m.entry
    by_cases e : m.entry = 0
    · rw [if_pos e, e]; rfl
    · rw [if_neg e]; exact d3.1
  have e56 : (msgF m 56) = if m.otime = [] then none else some (textR m.ostan 6 ++ m.otime) := rfl
  have e56a : numV (((msgF m 56).getD []).take 6) = m.ostan := by
    rw [e56]
    by_cases e : m.otime = []
    · rw [if_pos e, h6 e]; rfl
    · rw [if_neg e]
      show numV ((textR m.ostan 6 ++ m.otime).take 6) = m.ostan
      rw [List.take_left' o6.2.1]; exact o6.1
  have e56b : ((msgF m 56).getD []).drop 6 = m.otime := by
    rw [e56]
    by_cases e : m.otime = []
    · rw [if_pos e, e]; rfl
    · rw [if_neg e]
      show (textR m.ostan 6 ++ m.otime).drop 6 = m.otime
      rw [List.drop_left' o6.2.1]
  have e55 : tlvL ((msgF m 55).getD []) = m.tags := by
    show tlvL ((optF (wrT m.tags)).getD []) = m.tags
    rw [optF_get]
    exact (tlv_there h9).2
  have e41 : trimR ((msgF m 41).getD []) = m.ter := padO_get (n := 8) h7
  have e42 : trimR ((msgF m 42).getD []) = m.mer := padO_get (n := 15) h8
  have g : ∀ {a b : List UInt8}, (optF a).getD [] = b ↔ a = b := fun {a b} => by rw [optF_get]
  have e11 : numV ((msgF m 11).getD []) = m.stan := d6.1
  unfold decM
  rw [e11, e4, e22, e56a, e56b, e55, e41, e42]
  have p2 : (msgF m 2).getD [] = m.pan := optF_get _
  have p12 : (msgF m 12).getD [] = m.time := optF_get _
  have p25 : (msgF m 25).getD [] = m.rea := optF_get _
  have p32 : (msgF m 32).getD [] = m.acq := optF_get _
  have p37 : (msgF m 37).getD [] = m.rrn := optF_get _
  have p38 : (msgF m 38).getD [] = m.app := optF_get _
  have p39 : (msgF m 39).getD [] = m.act := optF_get _
  have p48 : (msgF m 48).getD [] = m.key := optF_get _
  have p49 : (msgF m 49).getD [] = m.cur := optF_get _
  rw [p2, p12, p25, p32, p37, p38, p39, p48, p49]
theorem optF_some {o : Option (List UInt8)} {d : List UInt8} (h : o = some d) (hd : d ≠ []) : optF (o.getD []) = o := optF_back (fun e => by rw [h] at e; injection e with e; exact hd e)
/-- digits of just so many places, read and written -/
theorem dig_back {d : List UInt8} {k : Nat} (h : d.all isD = true) (hl : d.length = k) (h1 : 1 ≤ k) (h2 : k ≤ 20) : textR (numV d) (k : Int) = d := by
  subst hl
  exact text_back h h1 h2
theorem trim_len (s : List UInt8) : (trimR s).length ≤ s.length := by
  have := congrArg List.length (trim_blanks s)
  rw [List.length_append] at this
  omega
/-- fields that may be are what their message says -/
theorem msg_dec {f : Int → Option (List UInt8)} (hne : ∀ no, f no ≠ some []) (h11 : ∃ d, f 11 = some d ∧ d.length = 6 ∧ d.all isD = true)
    (h4 : ∀ d, f 4 = some d → d.length = 12 ∧ d.all isD = true) (h449 : (f 4).isSome = (f 49).isSome) (h22 : ∀ d, f 22 = some d → d.length = 3 ∧ d.all isD = true ∧ numV d ≠ 0)
    (h41 : ∀ d, f 41 = some d → d.length = 8 ∧ trimR d ≠ []) (h42 : ∀ d, f 42 = some d → d.length = 15 ∧ trimR d ≠ []) (h55 : ∀ d, f 55 = some d → tlvE d = 0) (h56 : ∀ d, f 56 = some d → d.length = 20 ∧ d.all isD = true)
    {no : Int} (hn : no ∈ ([2, 4, 11, 12, 22, 25, 32, 37, 38, 39, 41, 42, 48, 49, 55, 56] : List Int)) : msgF (decM f) no = f no := by
  have ho : ∀ k, optF ((f k).getD []) = f k := fun k => optF_back (hne k)
  simp only [List.mem_cons, List.not_mem_nil, or_false] at hn
  rcases hn with rfl | rfl | rfl | rfl | rfl | rfl | rfl | rfl | rfl | rfl | rfl | rfl | rfl | rfl | rfl | rfl
  · exact ho 2
  · show (if (f 49).getD [] = [] then none else some (textR (numV ((f 4).getD [])) 12)) = f 4
    cases hf : f 4 with
    | none =>
      rw [hf] at h449
      cases hg : f 49 with
      | none => rfl
      | some g => rw [hg] at h449; cases h449
    | some d =>
      rw [hf] at h449
      cases hg : f 49 with
      | none => rw [hg] at h449; cases h449
      | some g =>
        have hgne : g ≠ [] := fun e => hne 49 (by rw [hg, e])
        show (if g = [] then none else some (textR (numV d) 12)) = some d
        rw [if_neg hgne]
        exact congrArg some (dig_back (k := 12) (h4 d hf).2 (h4 d hf).1 (by omega) (by omega))
  · obtain ⟨d, hd, hl, ha⟩ := h11
    show some (textR (numV ((f 11).getD [])) 6) = f 11
    rw [hd]
    exact congrArg some (dig_back (k := 6) ha hl (by omega) (by omega))
  · exact ho 12
  · show (if numV ((f 22).getD []) = 0 then none else some (textR (numV ((f 22).getD [])) 3)) = f 22
    cases hf : f 22 with
    | none => rfl
    | some d =>
      obtain ⟨q1, q2, q3⟩ := h22 d hf
      show (if numV d = 0 then none else some (textR (numV d) 3)) = some d
      rw [if_neg q3]
      exact congrArg some (dig_back (k := 3) q2 q1 (by omega) (by omega))
  · exact ho 25
  · exact ho 32
  · exact ho 37
  · exact ho 38
  · exact ho 39
  · show padO 8 (trimR ((f 41).getD [])) = f 41
    cases hf : f 41 with
    | none => rfl
    | some d =>
      show padO 8 (trimR d) = some d
      unfold padO
      rw [if_neg (h41 d hf).2, pad_trim (h41 d hf).1]
  · show padO 15 (trimR ((f 42).getD [])) = f 42
    cases hf : f 42 with
    | none => rfl
    | some d =>
      show padO 15 (trimR d) = some d
      unfold padO
      rw [if_neg (h42 d hf).2, pad_trim (h42 d hf).1]
  · exact ho 48
  · exact ho 49
  · show optF (wrT (tlvL ((f 55).getD []))) = f 55
    cases hf : f 55 with
    | none => rfl
    | some d =>
      show optF (wrT (tlvL d)) = some d
      rw [(tlv_back (h55 d hf)).2]
      unfold optF
      rw [if_neg (fun e => hne 55 (by rw [hf, e]))]
  · show (if ((f 56).getD []).drop 6 = [] then none else some (textR (numV (((f 56).getD []).take 6)) 6 ++ ((f 56).getD []).drop 6)) = f 56
    cases hf : f 56 with
    | none => rfl
    | some d =>
      obtain ⟨q1, q2⟩ := h56 d hf
      show (if d.drop 6 = [] then none else some (textR (numV (d.take 6)) 6 ++ d.drop 6)) = some d
      rw [if_neg (fun e => by have := congrArg List.length e; rw [List.length_drop] at this; simp at this; omega)]
      have := dig_back (k := 6) (dig_take q2 6) (by rw [List.length_take]; omega) (by omega) (by omega)
      have h6 : textR (numV (d.take 6)) 6 = d.take 6 := this
      rw [h6, List.take_append_drop]
end Go.Proofs.YthlgnmgjfgbffaaGreatDoor
/- Messages as bitmaps, as plain functions: a message and its spare elements as elements, and back. No program. -/
namespace Go.Proofs.YthlgnmgjfgbffaaGreatDoor
set_option linter.unusedVariables false

def fldNos : List Int := [2, 4, 11, 12, 22, 25, 32, 37, 38, 39, 41, 42, 48, 49, 55, 56]
def spareP (no : Int) : Bool := (elGet no).spare
def othNos : List Int := elNos.filter spareP
theorem fldNos_rise : fldNos.Pairwise (· < ·) := by decide +kernel
theorem othNos_rise : othNos.Pairwise (· < ·) := elNos_rise.filter _
theorem fld_in : ∀ n ∈ fldNos, n ∈ elNos := by decide +kernel
theorem fld_apart : ∀ n ∈ fldNos, n ∉ othNos := by decide +kernel
theorem el_either : ∀ n ∈ elNos, n ∈ fldNos ∨ n ∈ othNos := by decide +kernel
theorem oth_in {n : Int} (h : n ∈ othNos) : n ∈ elNos := (List.mem_filter.1 h).1
/-- the elements of a message and its spare ones -/
def encEs (m : FMsg) (other : List El) : List El := mergeL (pickL fldNos (msgF m)) other
theorem rise_pick {K : List Int} (h : K.Pairwise (· < ·)) (f : Int → Option (List UInt8)) : (nosOf (pickL K f)).Pairwise (· < ·) := h.sublist (pick_sub K f)
theorem dec_congr {f g : Int → Option (List UInt8)} (h : ∀ n ∈ fldNos, f n = g n) : decM f = decM g := by
  unfold decM
  rw [h 2 (by decide), h 4 (by decide), h 11 (by decide), h 12 (by decide), h 22 (by decide), h 25 (by decide), h 32 (by decide), h 37 (by decide), h 38 (by decide), h 39 (by decide), h 41 (by decide), h 42 (by decide), h 48 (by decide), h 49 (by decide), h 55 (by decide), h 56 (by decide)]
section
variable {m : FMsg} {other : List El}
theorem enc_apart (hs : ∀ n ∈ nosOf other, n ∈ othNos) : ∀ n ∈ nosOf (pickL fldNos (msgF m)), n ∉ nosOf other :=
  fun n hn h => fld_apart n ((pick_sub _ _).subset hn) (hs n h)
theorem enc_nos (hs : ∀ n ∈ nosOf other, n ∈ othNos) : ∀ n, n ∈ nosOf (pickL fldNos (msgF m)) ∨ n ∈ nosOf other → n ∈ elNos := fun n h => by
  rcases h with h | h
  · exact fld_in n ((pick_sub _ _).subset h)
  · exact oth_in (hs n h)
/-- of the elements: their fields, the spare ones, that they rise, that their numbers are the table's -/
theorem enc_fields (ho : (nosOf other).Pairwise (· < ·)) (hs : ∀ n ∈ nosOf other, n ∈ othNos) :
    (∀ n ∈ fldNos, fldL (encEs m other) n = msgF m n) ∧ (encEs m other).filter (fun a => spareP a.1) = other ∧ (nosOf (encEs m other)).Pairwise (· < ·) ∧ ∀ n ∈ nosOf (encEs m other), n ∈ elNos := by
  have hf : ∀ n, fldL (encEs m other) n = (fldL (pickL fldNos (msgF m)) n).or (fldL other n) := fun n => fld_merge _ _ _ (Nat.le_refl _) (enc_apart hs) n
  refine ⟨fun n hn => ?_, ?_, merge_rise _ _ _ (Nat.le_refl _) (rise_pick fldNos_rise _) ho (enc_apart hs), fun n hn => enc_nos hs n ((merge_mem _ _ _ (Nat.le_refl _) n).1 hn)⟩
  · rw [hf, fld_pick fldNos_rise, if_pos hn, fld_none (es := other) (fun k hk e => fld_apart n hn (by rw [← e]; exact hs k hk))]
    cases msgF m n <;> rfl
  · unfold encEs
    rw [merge_pick elNos_rise (rise_pick fldNos_rise _) ho (enc_apart hs) (enc_nos hs), pick_filter]
    show pickL othNos _ = other
    have h1 : pickL othNos (fun no => (fldL (pickL fldNos (msgF m)) no).or (fldL other no)) = pickL othNos (fldL other) := pick_congr (fun n hn => by
      rw [fld_pick fldNos_rise, if_neg (fun h => fld_apart n h hn)]
      rfl)
    rw [h1]
    exact pick_fld othNos_rise ho hs
/-- what is said of a message is the message -/
theorem enc_dec (ho : (nosOf other).Pairwise (· < ·)) (hs : ∀ n ∈ nosOf other, n ∈ othNos) (h1 : m.stan < 1000000) (h2 : m.amount < 1000000000000) (h3 : m.cur = [] → m.amount = 0) (h4 : m.entry < 1000) (h5 : m.ostan < 1000000) (h6 : m.otime = [] → m.ostan = 0) (h7 : trimR m.ter = m.ter) (h8 : trimR m.mer = m.mer) (h9 : wrE m.tags = 0) :
    decM (fldL (encEs m other)) = m ∧ (encEs m other).filter (fun a => spareP a.1) = other := by
  obtain ⟨q1, q2, -, -⟩ := enc_fields (m := m) ho hs
  exact ⟨by rw [dec_congr q1]; exact dec_msg m h1 h2 h3 h4 h5 h6 h7 h8 h9, q2⟩
end
/-- elements that may be are what is said of the message that they say -/
theorem dec_enc {es : List El} (hr : (nosOf es).Pairwise (· < ·)) (hk : ∀ n ∈ nosOf es, n ∈ elNos) (hm : ∀ n ∈ fldNos, msgF (decM (fldL es)) n = fldL es n) : encEs (decM (fldL es)) (es.filter (fun a => spareP a.1)) = es := by
  have hes : pickL elNos (fldL es) = es := pick_fld elNos_rise hr hk
  have ho : es.filter (fun a => spareP a.1) = pickL othNos (fldL es) := by
    conv => lhs; rw [← hes]
    exact pick_filter _ _ _
  unfold encEs
  rw [pick_congr hm, ho, merge_pick elNos_rise (rise_pick fldNos_rise _) (rise_pick othNos_rise _) (fun n hn h => fld_apart n ((pick_sub _ _).subset hn) ((pick_sub _ _).subset h)) (fun n h => by
    rcases h with h | h
    · exact fld_in n ((pick_sub _ _).subset h)
    · exact oth_in ((pick_sub _ _).subset h))]
  conv => rhs; rw [← hes]
  refine pick_congr (fun n hn => ?_)
  rw [fld_pick fldNos_rise, fld_pick othNos_rise]
  rcases el_either n hn with h | h
  · rw [if_pos h, if_neg (fld_apart n h)]
    cases fldL es n <;> rfl
  · rw [if_neg (fun x => fld_apart n x h), if_pos h]
    rfl
/-! ### no such message is too long -/
def elB (no : Int) : Nat := (elGet no).dig + (elGet no).top
theorem wrt_bound {no : Int} {d : List UInt8} (h : chkEl no d = 0) : (wrtEl no d).length ≤ elB no := by
  obtain ⟨r, hr, hm, hc, hw, _⟩ := wrt_ok h
  have h1 := (chkR_ok hc).1
  have h2 := fit_bounds hm h1
  have h3 : elGet no = r := by unfold elGet; rw [hr]; rfl
  unfold elB
  rw [hw, List.length_append, head_len hm h1, h3]
  omega
theorem chkAll_cons {a : El} {es : List El} (h : chkAll (a :: es) = 0) : chkEl a.1 a.2 = 0 ∧ chkAll es = 0 := by
  unfold chkAll at h
  by_cases h0 : chkEl a.1 a.2 ≠ 0
  · rw [if_pos h0] at h; exact absurd h h0
  · rw [if_neg h0] at h; exact ⟨Decidable.not_not.1 h0, h⟩
theorem all_bound : ∀ (K : List Int) (f : Int → Option (List UInt8)), chkAll (pickL K f) = 0 → (wrtAll (pickL K f)).length ≤ (K.map elB).sum
  | [], f, _ => Nat.le_refl _
  | k :: K, f, h => by
    rw [pick_cons] at h ⊢
    rw [List.map_cons, List.sum_cons]
    cases hf : f k with
    | none =>
      rw [hf] at h
      have := all_bound K f h
      dsimp only
      omega
    | some d =>
      rw [hf] at h
      obtain ⟨h1, h2⟩ := chkAll_cons h
      have h3 := all_bound K f h2
      have h4 := wrt_bound h1
      show (wrtEl k d ++ wrtAll (pickL K f)).length ≤ _
      rw [List.length_append]
      dsimp only at h4
      omega
theorem elB_sum : (elNos.map elB).sum ≤ 3000 := by decide +kernel
theorem elNos_may : ∀ n ∈ elNos, mayB n = true := by decide +kernel
/-- a rising list of elements that may be is packed -/
theorem pac_table {t : List UInt8} {es : List El} (h1 : rightB t 4 4 = true) (hr : (nosOf es).Pairwise (· < ·)) (h3 : chkAll es = 0) : pacE t es = 0 := by
  have ht := rightB_len h1
  have hk := chkAll_nos h3
  have h2 : risesB (nosOf es) = true := (risesB_iff _).2 ⟨hr, fun n hn => elNos_may n (hk n hn)⟩
  have hes : pickL elNos (fldL es) = es := pick_fld elNos_rise hr hk
  have hw := all_bound elNos (fldL es) (by rw [hes]; exact h3)
  rw [hes] at hw
  have hb := elB_sum
  unfold pacE
  rw [if_neg (by rw [h1]; decide), if_neg (by unfold wmE; rw [if_pos h2]; decide), if_neg (by rw [h3]; decide), if_neg ?_]
  unfold wrtI
  rw [List.length_append, List.length_append]
  rcases mapOf_len h2 with h | h <;> omega
theorem chkAll_iff : ∀ (es : List El), chkAll es = 0 ↔ ∀ a ∈ es, chkEl a.1 a.2 = 0
  | [] => by simp [chkAll]
  | a :: es => by
    constructor
    · intro h b hb
      obtain ⟨h1, h2⟩ := chkAll_cons h
      rcases List.mem_cons.1 hb with e | e
      · rw [e]; exact h1
      · exact (chkAll_iff es).1 h2 b e
    · intro h
      unfold chkAll
      rw [if_neg (by rw [h a (by simp)]; decide)]
      exact (chkAll_iff es).2 (fun b hb => h b (by simp [hb]))
theorem pick_mem {K : List Int} {f : Int → Option (List UInt8)} {a : El} (h : a ∈ pickL K f) : a.1 ∈ K ∧ f a.1 = some a.2 := by
  unfold pickL at h
  obtain ⟨n, hn, h2⟩ := List.mem_filterMap.1 h
  cases hf : f n with
  | none => rw [hf] at h2; cases h2
  | some d =>
    rw [hf] at h2
    injection h2 with h2
    subst h2
    exact ⟨hn, hf⟩
/-- what is said of a message may be said, if each field may and each spare one -/
theorem enc_chk {m : FMsg} {other : List El} (ho : (nosOf other).Pairwise (· < ·)) (hs : ∀ n ∈ nosOf other, n ∈ othNos) (hf : ∀ n ∈ fldNos, ∀ d, msgF m n = some d → chkEl n d = 0) (hc : chkAll other = 0) : chkAll (encEs m other) = 0 := by
  obtain ⟨q1, q2, q3, q4⟩ := enc_fields (m := m) ho hs
  rw [chkAll_iff]
  intro a ha
  have hes : pickL elNos (fldL (encEs m other)) = encEs m other := pick_fld elNos_rise q3 q4
  have ha2 := ha
  rw [← hes] at ha2
  obtain ⟨p1, p2⟩ := pick_mem ha2
  rcases el_either a.1 p1 with h | h
  · exact hf a.1 h a.2 (by rw [← q1 a.1 h]; exact p2)
  · have hm : a ∈ other := by
      rw [← q2]
      exact List.mem_filter.2 ⟨ha, (List.mem_filter.1 h).2⟩
    exact (chkAll_iff _).1 hc a hm
end Go.Proofs.YthlgnmgjfgbffaaGreatDoor
/- Messages as bitmaps, as plain functions: elements that decode are what is said of their message. No program. -/
namespace Go.Proofs.YthlgnmgjfgbffaaGreatDoor
set_option linter.unusedVariables false

theorem fld_mem {es : List El} {no : Int} {d : List UInt8} (h : fldL es no = some d) : (no, d) ∈ es := by
  unfold fldL at h
  obtain ⟨a, ha, hd⟩ := Option.map_eq_some_iff.1 h
  have h1 := List.mem_of_find?_eq_some ha
  have h2 : a.1 = no := by simpa using List.find?_some ha
  obtain ⟨q, x⟩ := a
  dsimp only at h2 hd
  subst h2 hd
  exact h1
theorem fld_chk {es : List El} (hc : chkAll es = 0) {no : Int} {d : List UInt8} (h : fldL es no = some d) : chkEl no d = 0 := (chkAll_iff es).1 hc _ (fld_mem h)
theorem chk_parts {no : Int} {r : FRow} {d : List UInt8} (hf : elFind no = some r) (h : chkEl no d = 0) : ((if r.dig = 0 then r.top else 1) ≤ d.length ∧ d.length ≤ r.top) ∧ typB r.kind d = true := by
  unfold chkEl at h
  rw [hf] at h
  obtain ⟨h1, h2⟩ := chkR_ok h
  exact ⟨fitB_iff.1 h1, h2⟩
theorem chk_ne {no : Int} {d : List UInt8} (h : chkEl no d = 0) : d ≠ [] := by
  obtain ⟨r, hr, hm, hc, _⟩ := wrt_ok h
  have := (fit_bounds hm (chkR_ok hc).1).1
  intro e
  rw [e] at this
  simp at this
/-- fixed rows of digits -/
theorem chk_fix {no : Int} {n : Nat} {d : List UInt8} (hf : elFind no = some ⟨no, 1, 0, n, false⟩) (h : chkEl no d = 0) : d.length = n ∧ d.all isD = true := by
  obtain ⟨h1, h2⟩ := chk_parts hf h
  dsimp only at h1
  rw [if_pos rfl] at h1
  exact ⟨by omega, by unfold typB at h2; rwa [if_pos rfl] at h2⟩
theorem chk_fixT {no : Int} {n : Nat} {d : List UInt8} (hf : elFind no = some ⟨no, 3, 0, n, false⟩) (h : chkEl no d = 0) : d.length = n := by
  obtain ⟨h1, h2⟩ := chk_parts hf h
  dsimp only at h1
  rw [if_pos rfl] at h1
  omega
theorem num_zero3 {d : List UInt8} (hl : d.length = 3) (hd : d.all isD = true) (h : numV d = 0) : d = [48, 48, 48] := by
  have := dig_back (k := 3) hd hl (by omega) (by omega)
  rw [h] at this
  rw [← this]
  decide +kernel
/-- elements that may be, with what decoding asks: each field is what is said of their message -/
theorem dec_fields {es : List El} (hc : chkAll es = 0) (h11 : (fldL es 11).isSome = true) (h449 : (fldL es 4).isSome = (fldL es 49).isSome) (h22 : fldL es 22 ≠ some [48, 48, 48])
    (h41 : ∀ d, fldL es 41 = some d → trimR d ≠ []) (h42 : ∀ d, fldL es 42 = some d → trimR d ≠ []) (h55 : ∀ d, fldL es 55 = some d → tlvE d = 0) :
    ∀ n ∈ fldNos, msgF (decM (fldL es)) n = fldL es n := by
  intro n hn
  have hk : ∀ {no d}, fldL es no = some d → chkEl no d = 0 := fun h => fld_chk hc h
  refine msg_dec (f := fldL es) (fun no e => chk_ne (hk e) rfl) ?_ (fun d h => chk_fix (n := 12) (by decide +kernel) (hk h)) h449 (fun d h => ?_) (fun d h => ⟨chk_fixT (n := 8) (by decide +kernel) (hk h), h41 d h⟩) (fun d h => ⟨chk_fixT (n := 15) (by decide +kernel) (hk h), h42 d h⟩) h55 (fun d h => chk_fix (n := 20) (by decide +kernel) (hk h)) hn
  · obtain ⟨d, hd⟩ := Option.isSome_iff_exists.1 h11
    exact ⟨d, hd, chk_fix (n := 6) (by decide +kernel) (hk hd)⟩
  · obtain ⟨q1, q2⟩ := chk_fix (n := 3) (by decide +kernel) (hk h)
    exact ⟨q1, q2, fun e => h22 (by rw [h, num_zero3 q1 q2 e])⟩
/-- what was parsed, and decodes, is what is said of its message -/
theorem dec_back {t : List UInt8} {es : List El} (hp : pacE t es = 0) (h11 : (fldL es 11).isSome = true) (h449 : (fldL es 4).isSome = (fldL es 49).isSome) (h22 : fldL es 22 ≠ some [48, 48, 48])
    (h41 : ∀ d, fldL es 41 = some d → trimR d ≠ []) (h42 : ∀ d, fldL es 42 = some d → trimR d ≠ []) (h55 : ∀ d, fldL es 55 = some d → tlvE d = 0) :
    encEs (decM (fldL es)) (es.filter (fun a => spareP a.1)) = es := by
  obtain ⟨_, _, h3, h4, _⟩ := pac_ok hp
  exact dec_enc ((risesB_iff _).1 h3).1 (chkAll_nos h4) (dec_fields h4 h11 h449 h22 h41 h42 h55)
/-- the message that such elements say: its numbers -/
theorem dec_nums {es : List El} (hc : chkAll es = 0) : (decM (fldL es)).stan < 1000000 ∧ (decM (fldL es)).amount < 1000000000000 ∧ (decM (fldL es)).entry < 1000 ∧ (decM (fldL es)).ostan < 1000000 := by
  have hk : ∀ {no d}, fldL es no = some d → chkEl no d = 0 := fun h => fld_chk hc h
  have key : ∀ (no : Int) (n : Nat), elFind no = some ⟨no, 1, 0, n, false⟩ → numV ((fldL es no).getD []) < 10 ^ n := fun no n hf => by
    cases h : fldL es no with
    | none => exact Nat.pow_pos (by omega)
    | some d =>
      obtain ⟨h1, h2⟩ := chk_fix hf (hk h)
      have := numV_le h2
      rw [h1] at this
      show numV d < 10 ^ n
      omega
  refine ⟨key 11 6 (by decide +kernel), key 4 12 (by decide +kernel), key 22 3 (by decide +kernel), ?_⟩
  show numV (((fldL es 56).getD []).take 6) < 1000000
  cases h : fldL es 56 with
  | none => decide +kernel
  | some d =>
    obtain ⟨h1, h2⟩ := chk_fix (n := 20) (by decide +kernel) (hk h)
    have h3 := numV_le (dig_take h2 6)
    have h4 : (d.take 6).length = 6 := by rw [List.length_take]; omega
    rw [h4] at h3
    show numV (d.take 6) < 1000000
    omega
end Go.Proofs.YthlgnmgjfgbffaaGreatDoor
