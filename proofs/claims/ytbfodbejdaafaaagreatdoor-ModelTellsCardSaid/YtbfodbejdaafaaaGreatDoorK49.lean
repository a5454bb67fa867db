/- The texts TreeStd, joined. -/
import Derived.Test.YtbfodbejdaafaaaGreatDoorK14
/- How a tree stands: each node behind its parent, what has kids has no text, each but the first is the kid of just one: plain functions on lists, no program. -/
namespace Go.Proofs.YtbfodbejdaafaaaGreatDoor
set_option linter.unusedVariables false

structure StdL (l : List Nod) : Prop where
  nm : ∀ n ∈ l, n.name ≠ []
  par : ∀ k (h : k < l.length), (k = 0 → l[k].parent = -1) ∧ (0 < k → 0 ≤ l[k].parent ∧ l[k].parent < (k : Int))
structure StdG (g : Gro) : Prop where
  std : StdL g.l
  tx : ∀ n ∈ g.l, n.text = []
theorem std0 : StdG g0 := ⟨⟨fun n h => (List.not_mem_nil h).elim, fun k h => absurd h (Nat.not_lt_zero _)⟩, fun n h => (List.not_mem_nil h).elim⟩
theorem std_take {g : Gro} {t : Tok} (ho : Okg g) (h : StdG g) (he : takeE g t = 0) : StdG (takeS g t) := by
  have hc := top_cases g ho
  unfold takeE at he
  unfold takeS
  split
  · rename_i hk
    rw [if_pos hk] at he
    split at he
    · cases he
    rename_i hname
    split at he
    · cases he
    rename_i htop
    refine ⟨⟨fun n hn => ?_, fun k hkl => ?_⟩, fun n hn => ?_⟩
    · rcases List.mem_append.1 hn with hn | hn
      · exact h.std.nm n hn
      · simp at hn; subst hn; exact hname
    · simp only [List.length_append, List.length_cons, List.length_nil] at hkl
      rcases Nat.lt_or_ge k g.l.length with hlt | hge
      · rw [List.getElem_append_left hlt]
        exact h.std.par k hlt
      · have hke : k = g.l.length := by omega
        subst hke
        rw [List.getElem_append_right (Nat.le_refl _)]
        simp only [Nat.sub_self, List.getElem_cons_zero]
        rcases hc with ⟨h1, h2⟩ | ⟨j, r, h1, h2, h3⟩
        · rw [h2] at htop ⊢
          refine ⟨fun _ => rfl, fun hpos => ?_⟩
          exact absurd ⟨by decide, hpos⟩ htop
        · rw [h2]
          exact ⟨fun h0 => by omega, fun hpos => ⟨by omega, by omega⟩⟩
    · rcases List.mem_append.1 hn with hn | hn
      · exact h.tx n hn
      · simp at hn; subst hn; rfl
  split
  · exact ⟨h.std, h.tx⟩
  split
  · exact h
  · exact ⟨h.std, h.tx⟩
theorem run_std : ∀ (ts : List Tok) (g : Gro), Okg g → StdG g → runE g ts = 0 → Okg (runS g ts) ∧ StdG (runS g ts)
  | [], g, h1, h2, _ => ⟨h1, h2⟩
  | t :: r, g, h1, h2, he => by
    unfold runE at he
    split at he
    · rename_i h0
      exact run_std r (takeS g t) (ok_take h1 h0) (std_take h1 h2 h0) he
    · rename_i h0; exact absurd he h0

/-- the same parents: the same kids -/
theorem kidsF_par (i : Int) {l m : List Nod} (h : l.map (·.parent) = m.map (·.parent)) : ∀ n, kidsF l i n = kidsF m i n
  | 0 => rfl
  | n + 1 => by
    have e : (l[n]?).map (·.parent) = (m[n]?).map (·.parent) := by rw [← List.getElem?_map, ← List.getElem?_map, h]
    unfold kidsF
    rw [kidsF_par i h n, e]
theorem kidsL_par {l m : List Nod} (h : l.map (·.parent) = m.map (·.parent)) (i : Int) : kidsL l i = kidsL m i := by
  have hl : l.length = m.length := by have := congrArg List.length h; simpa using this
  unfold kidsL
  rw [hl, kidsF_par i h]
theorem endF_par (g : Gro) : ∀ (l : List Nod) (i : Nat), (endF g i l).map (·.parent) = l.map (·.parent)
  | [], _ => rfl
  | n :: r, i => by
    unfold endF
    rw [List.map_cons, List.map_cons, endF_par g r]
    split <;> rfl
theorem endF_name (g : Gro) : ∀ (l : List Nod) (i : Nat), (endF g i l).map (·.name) = l.map (·.name)
  | [], _ => rfl
  | n :: r, i => by
    unfold endF
    rw [List.map_cons, List.map_cons, endF_name g r]
    split <;> rfl
theorem endF_get (g : Gro) : ∀ (l : List Nod) (i k : Nat), (endF g i l)[k]? = (l[k]?).map (fun n => if kidsL g.l ((i + k : Nat) : Int) = [] then { n with text := (g.txt[i + k]?).getD [] } else n)
  | [], _, _ => rfl
  | n :: r, i, 0 => by simp [endF]
  | n :: r, i, k + 1 => by
    unfold endF
    rw [List.getElem?_cons_succ, endF_get g r (i + 1) k, List.getElem?_cons_succ, show i + 1 + k = i + (k + 1) from by omega]

/-! ### kids of all places -/
def allK (l : List Nod) (n m : Nat) : Nat := match n with
  | 0 => 0
  | k + 1 => allK l k m + (kidsF l (k : Int) m).length
theorem allK_step (l : List Nod) (m : Nat) (p : Int) (h : (l[m]?).map (·.parent) = some p) : ∀ n, allK l n (m + 1) = allK l n m + (if 0 ≤ p ∧ p < (n : Int) then 1 else 0)
  | 0 => by simp only [allK]; rw [if_neg (by omega)]
  | n + 1 => by
    have ih := allK_step l m p h n
    show allK l n (m + 1) + (kidsF l (n : Int) (m + 1)).length = _
    rw [ih]
    show _ + (kidsF l (n : Int) m ++ _).length = allK l n m + (kidsF l (n : Int) m).length + _
    rw [h, List.length_append]
    by_cases e : p = (n : Int)
    · subst e
      rw [if_pos rfl, if_neg (by omega), if_pos (by omega), List.length_singleton]
      omega
    · have e2 : ¬ (some p = some (n : Int)) := by intro x; injection x with x; exact e x
      rw [if_neg e2, List.length_nil]
      by_cases h2 : 0 ≤ p ∧ p < (n : Int)
      · rw [if_pos h2, if_pos (by omega)]; omega
      · rw [if_neg h2, if_neg (by omega)]; omega
theorem allK_zero (l : List Nod) : ∀ n, allK l n 0 = 0
  | 0 => rfl
  | n + 1 => by show allK l n 0 + _ = 0; rw [allK_zero l n]; rfl
theorem allK_std {l : List Nod} (h : StdL l) : ∀ m, m ≤ l.length → allK l l.length m = m - 1
  | 0, _ => allK_zero l _
  | m + 1, hm => by
    have hml : m < l.length := by omega
    have hp := h.par m hml
    rw [allK_step l m l[m].parent (by rw [List.getElem?_eq_getElem hml]; rfl), allK_std h m (by omega)]
    rcases Nat.eq_zero_or_pos m with h0 | h0
    · subst h0
      rw [if_neg (by have := hp.1 rfl; omega)]
    · have := hp.2 h0
      rw [if_pos (by omega)]
      omega
/-- so many kids there are up to there -/
def sumK (l : List Nod) : Nat → Nat
  | 0 => 0
  | k + 1 => sumK l k + (kidsL l (k : Int)).length
theorem sumK_eq (l : List Nod) : ∀ n, n ≤ l.length → sumK l n = allK l n l.length
  | 0, _ => rfl
  | n + 1, h => by
    show sumK l n + _ = allK l n l.length + _
    rw [sumK_eq l n (by omega)]
    unfold kidsL
    rw [if_pos (by omega)]
theorem sumK_all {l : List Nod} (h : StdL l) : sumK l l.length = l.length - 1 := by
  rw [sumK_eq l _ (Nat.le_refl _), allK_std h _ (Nat.le_refl _)]
theorem sumK_le (l : List Nod) : ∀ n, sumK l n ≤ n * l.length
  | 0 => by simp [sumK]
  | n + 1 => by
    show sumK l n + _ ≤ _
    have h1 := sumK_le l n
    have h2 : (kidsL l (n : Int)).length ≤ l.length := by
      unfold kidsL
      split
      · exact kidsF_len l _ _
      · simp
    rw [Nat.succ_mul]
    omega

/-- a tree that comes out -/
structure Stands (l : List Nod) : Prop where
  std : StdL l
  some : l ≠ []
  kid : ∀ k (h : k < l.length), kidsL l (k : Int) ≠ [] → l[k].text = []
  top : l.length ≤ 500
theorem build_stands {ts : List Tok} (h : buildE ts = 0) : Stands (buildL ts) := by
  have hL : buildL ts = endF (runS g0 ts) 0 (runS g0 ts).l := by unfold buildL; rw [if_pos h]
  have hr : runE g0 ts = 0 ∧ endE (runS g0 ts) = 0 := by
    unfold buildE at h
    split at h
    · rename_i h0; exact ⟨h0, h⟩
    · rename_i h0; exact absurd h h0
  obtain ⟨hok, hst⟩ := run_std ts g0 ok0 std0 hr.1
  have he := hr.2
  rw [hL]
  generalize runS g0 ts = g at *
  have hne : g.l ≠ [] := by
    unfold endE at he
    split at he
    · cases he
    · rename_i hx; exact fun e => hx (.inl e)
  have hpar := endF_par g g.l 0
  have hname := endF_name g g.l 0
  have hlen := endF_len g g.l 0
  have hget := endF_get g g.l 0
  generalize endF g 0 g.l = L at *
  refine ⟨⟨fun n hn => ?_, fun k hk => ?_⟩, fun e => ?_, fun k hk hne2 => ?_, by rw [hlen]; exact hok.top⟩
  · have h1 : n.name ∈ L.map (·.name) := List.mem_map_of_mem hn
    rw [hname] at h1
    obtain ⟨m, hm, e⟩ := List.mem_map.1 h1
    rw [← e]
    exact hst.std.nm m hm
  · have hk2 : k < g.l.length := by omega
    have e : L[k].parent = g.l[k].parent := by
      have h1 : (L.map (·.parent))[k]? = (g.l.map (·.parent))[k]? := by rw [hpar]
      rw [List.getElem?_map, List.getElem?_map, List.getElem?_eq_getElem hk, List.getElem?_eq_getElem hk2] at h1
      simpa using h1
    rw [e]
    exact hst.std.par k hk2
  · rw [e] at hlen
    exact hne (List.eq_nil_of_length_eq_zero hlen.symm)
  · have hk2 : k < g.l.length := by omega
    have h1 := hget k
    rw [List.getElem?_eq_getElem hk, List.getElem?_eq_getElem hk2, Nat.zero_add, Option.map_some, if_neg (by rw [← kidsL_par hpar]; exact hne2)] at h1
    injection h1 with h1
    rw [h1]
    exact hst.tx _ (List.getElem_mem hk2)
theorem parse_stands {s : List UInt8} (h : parseE s = 0) : Stands (parseL s) := by
  unfold parseE at h
  unfold parseL
  split at h
  · rename_i h0
    rw [if_pos h0]
    exact build_stands h
  · rename_i h0; exact absurd h h0
theorem parse_none {s : List UInt8} (h : parseE s ≠ 0) : parseL s = [] := by
  unfold parseE at h
  unfold parseL
  split at h
  · rename_i h0
    rw [if_pos h0]
    unfold buildL
    rw [if_neg h]
  · rename_i h0
    rw [if_neg h0]
end Go.Proofs.YtbfodbejdaafaaaGreatDoor
