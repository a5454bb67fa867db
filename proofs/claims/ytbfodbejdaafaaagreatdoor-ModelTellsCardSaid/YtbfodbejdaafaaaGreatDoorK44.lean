/- The texts TreeMath2, joined. -/
import Derived.Test.YtbfodbejdaafaaaGreatDoorK14
/- The tree of tokens as the program builds it: each element with its texts, and whether there are elements in it; plain functions on lists, no program. -/
namespace Go.Proofs.YtbfodbejdaafaaaGreatDoor
set_option linter.unusedVariables false

structure Elm where
  nod : Nod
  txt : List UInt8
  fil : Bool
structure Pst where
  E : List Elm
  opn : List Int
def toG (p : Pst) : Gro := ⟨p.E.map (·.nod), p.opn, p.E.map (·.txt), p.E.map (fun e => !blankB e.txt)⟩
def p0 : Pst := ⟨[], []⟩
def topP (p : Pst) : Int := (p.opn.getLast?).getD (-1)
theorem topP_eq (p : Pst) : topP p = topG (toG p) := rfl
/-- the parent has elements in it -/
def filE (E : List Elm) (i : Int) : List Elm := if i < 0 then E else E.modify i.toNat (fun e => { e with fil := true })
def newE (i : Int) (t : Tok) : Elm := ⟨⟨i, t.name, [], t.attrs⟩, [], false⟩
def stepP (p : Pst) (t : Tok) : Pst :=
  if t.kind = 1 then ⟨filE p.E (topP p) ++ [newE (topP p) t], if t.empty then p.opn else p.opn ++ [(p.E.length : Int)]⟩
  else if t.kind = 2 then { p with opn := p.opn.dropLast }
  else if topP p < 0 then p
  else { p with E := p.E.modify (topP p).toNat (fun e => { e with txt := e.txt ++ t.text }) }
theorem fil_nod (E : List Elm) (i : Int) : (filE E i).map (·.nod) = E.map (·.nod) := by
  unfold filE
  split
  · rfl
  · apply List.ext_getElem?
    intro k
    simp only [List.getElem?_map, List.getElem?_modify]
    cases E[k]? with
    | none => rfl
    | some e => simp only [Option.map_some]; split <;> rfl
theorem fil_txt (E : List Elm) (i : Int) : (filE E i).map (·.txt) = E.map (·.txt) := by
  unfold filE
  split
  · rfl
  · apply List.ext_getElem?
    intro k
    simp only [List.getElem?_map, List.getElem?_modify]
    cases E[k]? with
    | none => rfl
    | some e => simp only [Option.map_some]; split <;> rfl
theorem fil_len (E : List Elm) (i : Int) : (filE E i).length = E.length := by
  unfold filE
  split <;> simp
theorem map_txt (E : List Elm) : E.map (fun e => !blankB e.txt) = (E.map (·.txt)).map (fun s => !blankB s) := by simp
theorem blank_app (a b : List UInt8) : blankB (a ++ b) = (blankB a && blankB b) := by unfold blankB; rw [List.all_append]
theorem toG_step (p : Pst) (t : Tok) (h : takeE (toG p) t = 0) : toG (stepP p t) = takeS (toG p) t := by
  unfold stepP takeS
  rw [← topP_eq]
  split
  · rename_i hk
    unfold toG
    simp only [List.map_append, fil_nod, map_txt, fil_txt, List.map_cons, List.map_nil, newE, List.length_map]
    rfl
  · split
    · rfl
    · split
      · rfl
      · rename_i h1 h2 h3
        have e1 : ∀ (E : List Elm) (n : Nat), (E.modify n (fun e => { e with txt := e.txt ++ t.text })).map (·.nod) = E.map (·.nod) := by
          intro E n
          apply List.ext_getElem?
          intro k
          simp only [List.getElem?_map, List.getElem?_modify]
          cases E[k]? with
          | none => rfl
          | some e => simp only [Option.map_some]; split <;> rfl
        have e2 : ∀ (E : List Elm) (n : Nat), (E.modify n (fun e => { e with txt := e.txt ++ t.text })).map (·.txt) = (E.map (·.txt)).set n (((E.map (·.txt))[n]?).getD [] ++ t.text) := by
          intro E n
          apply List.ext_getElem?
          intro k
          simp only [List.getElem?_map, List.getElem?_modify, List.getElem?_set, List.length_map]
          by_cases hk : n = k
          · subst hk
            simp only [if_true]
            by_cases hn : n < E.length
            · rw [List.getElem?_eq_getElem hn, if_pos hn]
              rfl
            · rw [List.getElem?_eq_none (by omega), if_neg hn]
              rfl
          · simp only [if_neg hk]
            cases E[k]? <;> rfl
        have e3 : ∀ (l : List (List UInt8)) (n : Nat), (l.set n ((l[n]?).getD [] ++ t.text)).map (fun s => !blankB s) = (l.map (fun s => !blankB s)).set n (((l.map (fun s => !blankB s))[n]?).getD false || !blankB t.text) := by
          intro l n
          rw [List.map_set, List.getElem?_map]
          by_cases hn : n < l.length
          · rw [List.getElem?_eq_getElem hn]
            simp only [Option.getD_some, Option.map_some, blank_app, Bool.not_and]
          · rw [List.set_eq_of_length_le (by simp; omega), List.set_eq_of_length_le (by simp; omega)]
        unfold toG
        simp only [e1, map_txt, e2, e3]

/-- fil tells whether there are kids -/
def FilOk (p : Pst) : Prop := ∀ k (h : k < p.E.length), p.E[k].fil = true ↔ kidsL (p.E.map (·.nod)) (k : Int) ≠ []
theorem kids_in (l : List Nod) (k : Nat) (hk : k < l.length) : kidsL l (k : Int) ≠ [] ↔ ∃ j, j < l.length ∧ (l[j]?).map (·.parent) = some (k : Int) := by
  unfold kidsL
  rw [if_pos (by omega)]
  constructor
  · intro h
    obtain ⟨j, hj⟩ := List.exists_mem_of_ne_nil _ h
    exact ⟨j, (kidsF_in l _ _ j).1 hj⟩
  · rintro ⟨j, hj⟩ h
    have := (kidsF_in l (k : Int) l.length j).2 hj
    rw [h] at this
    cases this
theorem fil_p0 : FilOk p0 := fun k h => by simp [p0] at h
theorem nod_parent (p : Pst) (j : Nat) : ((p.E.map (·.nod))[j]?).map (·.parent) = (p.E[j]?).map (·.nod.parent) := by
  rw [List.getElem?_map, Option.map_map]
  rfl
/-- each parent is above nothing that comes -/
def ParOk (p : Pst) : Prop := (∀ j (h : j < p.E.length), p.E[j].nod.parent < (j : Int)) ∧ (∀ k ∈ p.opn, 0 ≤ k ∧ k < (p.E.length : Int))
theorem par_p0 : ParOk p0 := ⟨fun j h => by simp [p0] at h, fun k h => by simp [p0] at h⟩
theorem topP_lt {p : Pst} (h : ParOk p) : topP p < (p.E.length : Int) ∧ -1 ≤ topP p := by
  unfold topP
  cases hl : p.opn.getLast? with
  | none => simp; omega
  | some x =>
    have := h.2 x (List.mem_of_getLast? hl)
    simp
    omega
theorem fil_at (E : List Elm) (i : Int) (k : Nat) (h : k < (filE E i).length) (h' : k < E.length) : (filE E i)[k] = if i = (k : Int) then { E[k] with fil := true } else E[k] := by
  by_cases hi : i < 0
  · have e : filE E i = E := if_pos hi
    simp only [e]
    rw [if_neg (by omega)]
  · have e : filE E i = E.modify i.toNat (fun e => { e with fil := true }) := if_neg hi
    simp only [e, List.getElem_modify]
    by_cases hk : i = (k : Int)
    · rw [if_pos hk, if_pos (by omega)]
    · rw [if_neg hk, if_neg (by omega)]
theorem mod_txt (E : List Elm) (n : Nat) (t : List UInt8) (k : Nat) (h : k < (E.modify n (fun e => { e with txt := e.txt ++ t })).length) (h' : k < E.length) : (E.modify n (fun e => { e with txt := e.txt ++ t }))[k].nod = E[k].nod ∧ (E.modify n (fun e => { e with txt := e.txt ++ t }))[k].fil = E[k].fil := by
  simp only [List.getElem_modify]
  split <;> exact ⟨rfl, rfl⟩
theorem par_step {p : Pst} {t : Tok} (h : ParOk p) : ParOk (stepP p t) := by
  have ht := topP_lt h
  unfold stepP
  split
  · refine ⟨fun j hj => ?_, fun k hk => ?_⟩
    · simp only [List.getElem_append, fil_len]
      split
      · rename_i hj'
        rw [fil_at _ _ _ (by rw [fil_len]; exact hj') hj']
        have := h.1 j hj'
        split <;> exact this
      · rename_i hj'
        simp [fil_len] at hj
        have : j = p.E.length := by omega
        subst this
        simp [newE]
        omega
    · simp only [List.length_append, fil_len, List.length_cons, List.length_nil]
      simp only at hk
      split at hk
      · have := h.2 k hk; omega
      · rcases List.mem_append.1 hk with hk | hk
        · have := h.2 k hk; omega
        · simp at hk; omega
  split
  · exact ⟨h.1, fun k hk => h.2 k (List.dropLast_subset _ hk)⟩
  split
  · exact h
  · refine ⟨fun j hj => ?_, fun k hk => ?_⟩
    · have hj' : j < p.E.length := by simpa using hj
      rw [(mod_txt _ _ _ _ hj hj').1]
      exact h.1 j hj'
    · have := h.2 k hk
      simpa using this
theorem fil_step {p : Pst} {t : Tok} (h : FilOk p) (hp : ParOk p) : FilOk (stepP p t) := by
  have ht := topP_lt hp
  have hp2 := par_step (t := t) hp
  unfold FilOk
  intro k hk
  rw [kids_in _ _ (by simpa using hk)]
  simp only [nod_parent, List.length_map]
  unfold stepP at hk hp2 ⊢
  split
  · rename_i hk1
    rw [if_pos hk1] at hk hp2
    simp only [List.length_append, fil_len, List.length_cons, List.length_nil] at hk ⊢
    have hpar : ∀ j, j < p.E.length → ((filE p.E (topP p) ++ [newE (topP p) t])[j]?).map (·.nod.parent) = (p.E[j]?).map (·.nod.parent) := by
      intro j hj
      rw [List.getElem?_append_left (by rw [fil_len]; exact hj), List.getElem?_eq_getElem (by rw [fil_len]; exact hj), List.getElem?_eq_getElem hj, fil_at _ _ _ (by rw [fil_len]; exact hj) hj]
      simp only [Option.map_some]
      split <;> rfl
    have hnew : ((filE p.E (topP p) ++ [newE (topP p) t])[p.E.length]?).map (·.nod.parent) = some (topP p) := by
      rw [List.getElem?_append_right (by rw [fil_len]; exact Nat.le_refl _), fil_len, Nat.sub_self]
      rfl
    by_cases hkl : k < p.E.length
    · have hh := h k hkl
      rw [kids_in _ _ (by simpa using hkl)] at hh
      simp only [nod_parent, List.length_map] at hh
      have e1 : (filE p.E (topP p) ++ [newE (topP p) t])[k]'(by simp [fil_len]; omega) = (filE p.E (topP p))[k]'(by rw [fil_len]; exact hkl) := List.getElem_append_left _
      rw [e1, fil_at _ _ _ (by rw [fil_len]; exact hkl) hkl]
      by_cases htk : topP p = (k : Int)
      · rw [if_pos htk]
        simp only [true_iff]
        exact ⟨p.E.length, by omega, by rw [hnew, htk]⟩
      · rw [if_neg htk, hh]
        constructor
        · rintro ⟨j, hj, e⟩
          exact ⟨j, by omega, by rw [hpar j hj, e]⟩
        · rintro ⟨j, hj, e⟩
          by_cases hj2 : j < p.E.length
          · exact ⟨j, hj2, by rw [← hpar j hj2, e]⟩
          · have : j = p.E.length := by omega
            subst this
            rw [hnew] at e
            injection e with e
            exact absurd e htk
    · have hke : k = p.E.length := by omega
      subst hke
      have e1 : (filE p.E (topP p) ++ [newE (topP p) t])[p.E.length]'(by simp [fil_len]) = newE (topP p) t := by
        rw [List.getElem_append_right (by rw [fil_len]; exact Nat.le_refl _)]
        simp [fil_len]
      rw [e1]
      have hnf : (newE (topP p) t).fil = false := rfl
      rw [hnf]
      simp only [Bool.false_eq_true, false_iff]
      rintro ⟨j, hj, e⟩
      by_cases hj2 : j < p.E.length
      · rw [hpar j hj2, List.getElem?_eq_getElem hj2] at e
        simp only [Option.map_some] at e
        injection e with e
        have := hp.1 j hj2
        omega
      · have : j = p.E.length := by omega
        subst this
        rw [hnew] at e
        injection e with e
        omega
  · rename_i hk1
    rw [if_neg hk1] at hk hp2
    split
    · rename_i hk2
      rw [if_pos hk2] at hk
      have hh := h k hk
      rw [kids_in _ _ (by simpa using hk)] at hh
      simpa only [nod_parent, List.length_map] using hh
    split
    · rename_i hk2 hk3
      rw [if_neg hk2, if_pos hk3] at hk
      have hh := h k hk
      rw [kids_in _ _ (by simpa using hk)] at hh
      simpa only [nod_parent, List.length_map] using hh
    · rename_i hk2 hk3
      rw [if_neg hk2, if_neg hk3] at hk
      simp only [List.length_modify] at hk ⊢
      have hh := h k hk
      rw [kids_in _ _ (by simpa using hk)] at hh
      simp only [nod_parent, List.length_map] at hh
      rw [(mod_txt _ _ _ _ (by simpa using hk) hk).2, hh]
      constructor
      · rintro ⟨j, hj, e⟩
        refine ⟨j, hj, ?_⟩
        rw [List.getElem?_eq_getElem (by simpa using hj), Option.map_some, (mod_txt _ _ _ _ (by simpa using hj) hj).1]
        rw [List.getElem?_eq_getElem hj] at e
        exact e
      · rintro ⟨j, hj, e⟩
        refine ⟨j, hj, ?_⟩
        rw [List.getElem?_eq_getElem (by simpa using hj), Option.map_some, (mod_txt _ _ _ _ (by simpa using hj) hj).1] at e
        rw [List.getElem?_eq_getElem hj]
        exact e

/-! ### the end -/
theorem mix_mono (g : Gro) : ∀ {k n : Nat}, k ≤ n → mixF g k = true → mixF g n = true := by
  intro k n h
  induction n with
  | zero => intro hk; rwa [show k = 0 from by omega] at hk
  | succ n ih =>
    intro hk
    rcases Nat.eq_or_lt_of_le h with e | h2
    · rwa [e] at hk
    · show (mixF g n || _) = true
      rw [ih (by omega) hk]
      rfl
theorem endF_at (g : Gro) : ∀ (l : List Nod) (i k : Nat), (endF g i l)[k]? = (l[k]?).map (fun n => if kidsL g.l ((i + k : Nat) : Int) = [] then { n with text := (g.txt[i + k]?).getD [] } else n)
  | [], _, _ => rfl
  | n :: r, i, 0 => by simp [endF]
  | n :: r, i, k + 1 => by
    unfold endF
    rw [List.getElem?_cons_succ, endF_at g r (i + 1) k, List.getElem?_cons_succ, show i + 1 + k = i + (k + 1) from by omega]
/-- a node as it comes out -/
def outN (e : Elm) : Nod := if e.fil then e.nod else { e.nod with text := e.txt }
theorem end_out {p : Pst} (hf : FilOk p) : endF (toG p) 0 (toG p).l = p.E.map outN := by
  apply List.ext_getElem?
  intro k
  rw [endF_at]
  show ((p.E.map (·.nod))[k]?).map _ = (p.E.map outN)[k]?
  rw [List.getElem?_map, List.getElem?_map]
  by_cases hk : k < p.E.length
  · rw [List.getElem?_eq_getElem hk]
    simp only [Option.map_some, Nat.zero_add]
    have h := hf k hk
    show some (if kidsL (p.E.map (·.nod)) (k : Int) = [] then { p.E[k].nod with text := ((p.E.map (·.txt))[k]?).getD [] } else p.E[k].nod) = _
    rw [List.getElem?_map, List.getElem?_eq_getElem hk]
    unfold outN
    by_cases he : kidsL (p.E.map (·.nod)) (k : Int) = []
    · have : p.E[k].fil = false := by
        cases hb : p.E[k].fil with
        | false => rfl
        | true => exact absurd he (h.1 hb)
      rw [if_pos he, this]
      rfl
    · rw [if_neg he, h.2 he]
      rfl
  · rw [List.getElem?_eq_none (l := p.E) (by omega)]
    rfl
/-- text beside elements, up to there -/
def mixP (E : List Elm) (k : Nat) : Bool := (E.take k).any (fun e => e.fil && !blankB e.txt)
theorem mix_eq {p : Pst} (hf : FilOk p) : ∀ k, k ≤ p.E.length → mixF (toG p) k = mixP p.E k
  | 0, _ => rfl
  | k + 1, hk => by
    have hkl : k < p.E.length := by omega
    show (mixF (toG p) k || _) = _
    rw [mix_eq hf k (by omega)]
    unfold mixP
    rw [List.take_succ_eq_append_getElem hkl, List.any_append, List.any_cons, List.any_nil, Bool.or_false]
    congr 1
    show (!(kidsL (p.E.map (·.nod)) (k : Int)).isEmpty && ((p.E.map (fun e => !blankB e.txt))[k]?).getD false) = _
    rw [List.getElem?_map, List.getElem?_eq_getElem hkl]
    congr 1
    have h := hf k hkl
    cases hb : p.E[k].fil with
    | true => have := h.1 hb; simpa using this
    | false =>
      have : kidsL (p.E.map (·.nod)) (k : Int) = [] := by
        by_cases he : kidsL (p.E.map (·.nod)) (k : Int) = []
        · exact he
        · rw [h.2 he] at hb; cases hb
      rw [this]; rfl

/-- how much text there is -/
def sumT (ts : List Tok) : Nat := (ts.map (fun t => t.text.length)).sum
theorem sumT_app (a b : List Tok) : sumT (a ++ b) = sumT a + sumT b := by unfold sumT; simp
theorem sumT_one (t : Tok) : sumT [t] = t.text.length := by simp [sumT]
theorem sumT_take (ts : List Tok) (k : Nat) : sumT (ts.take k) ≤ sumT ts := by
  have h := sumT_app (ts.take k) (ts.drop k)
  rw [List.take_append_drop] at h
  omega
end Go.Proofs.YtbfodbejdaafaaaGreatDoor
