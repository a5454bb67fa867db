/- What the tree makes of rows of Opens and Closes: plain functions on lists, no program. -/
import Derived.Test.YthkjmbkfcnehoaaGreatDoorTreeStd
namespace Go.Proofs.YthkjmbkfcnehoaaGreatDoor
set_option linter.unusedVariables false

theorem runS_app : ∀ (a b : List Tok) (g : Gro), runS g (a ++ b) = runS (runS g a) b
  | [], _, _ => rfl
  | t :: a, b, g => runS_app a b (takeS g t)
theorem runE_app : ∀ (a b : List Tok) (g : Gro), runE g a = 0 → runE g (a ++ b) = runE (runS g a) b
  | [], _, _, _ => rfl
  | t :: a, b, g, h => by
    unfold runE at h
    split at h
    · rename_i h0
      show (if takeE g t = 0 then runE (takeS g t) (a ++ b) else takeE g t) = runE (runS (takeS g t) a) b
      rw [if_pos h0]
      exact runE_app a b (takeS g t) h
    · rename_i h0; exact absurd h h0
theorem runE_bad {t : Tok} {g : Gro} (r : List Tok) (h : takeE g t ≠ 0) : runE g (t :: r) = takeE g t := if_neg h
theorem runE_one {t : Tok} {g : Gro} : runE g [t] = takeE g t := by
  show (if takeE g t = 0 then 0 else takeE g t) = _
  split
  · rename_i h; rw [h]
  · rfl
theorem run_steps {a b : List Tok} {g g1 g2 : Gro} (h1 : runE g a = 0 ∧ runS g a = g1) (h2 : runE g1 b = 0 ∧ runS g1 b = g2) : runE g (a ++ b) = 0 ∧ runS g (a ++ b) = g2 :=
  ⟨by rw [runE_app _ _ _ h1.1, h1.2]; exact h2.1, by rw [runS_app, h1.2]; exact h2.2⟩
theorem run_bad {a b : List Tok} {g g1 : Gro} {E : Int} (h1 : runE g a = 0 ∧ runS g a = g1) (h2 : runE g1 b = E) : runE g (a ++ b) = E := by
  rw [runE_app _ _ _ h1.1, h1.2]; exact h2
theorem run_one {t : Tok} {g g1 : Gro} (h : takeE g t = 0 ∧ takeS g t = g1) : runE g [t] = 0 ∧ runS g [t] = g1 := ⟨by rw [runE_one]; exact h.1, h.2⟩

def oA : Tok := ⟨1, [97], [], [], false⟩
def oB : Tok := ⟨1, [98], [], [], true⟩
def cA : Tok := ⟨2, [97], [], [], false⟩
def cB : Tok := ⟨2, [98], [], [], false⟩
def xT (t : List UInt8) : Tok := ⟨3, [], t, [], false⟩
def nodA (k : Nat) : List Nod := (List.range k).map (fun (i : Nat) => (⟨(i : Int) - 1, [97], [], []⟩ : Nod))
def ups (k : Nat) : List Int := (List.range k).map (fun (i : Nat) => (i : Int))
/-- so many are open, and so many more stand in the innermost one -/
def stM (k m : Nat) : Gro := ⟨nodA k ++ List.replicate m ⟨(k : Int) - 1, [98], [], []⟩, ups k, List.replicate (k + m) [], List.replicate (k + m) false⟩
theorem nodA_len (k : Nat) : (nodA k).length = k := by simp [nodA]
theorem ups_len (k : Nat) : (ups k).length = k := by simp [ups]
theorem ups_succ (k : Nat) : ups (k + 1) = ups k ++ [(k : Int)] := by unfold ups; rw [List.range_succ, List.map_append]; rfl
theorem nodA_succ (k : Nat) : nodA (k + 1) = nodA k ++ [⟨(k : Int) - 1, [97], [], []⟩] := by unfold nodA; rw [List.range_succ, List.map_append]; rfl
theorem nodA_get (k i : Nat) (h : i < k) : (nodA k)[i]? = some ⟨(i : Int) - 1, [97], [], []⟩ := by
  unfold nodA
  rw [List.getElem?_map, List.getElem?_range h]
  rfl
theorem top_ups (l : List Nod) (k : Nat) (x : List (List UInt8)) (y : List Bool) : topG ⟨l, ups k, x, y⟩ = (k : Int) - 1 := by
  unfold topG
  cases k with
  | zero => rfl
  | succ k =>
    simp only [ups_succ, List.getLast?_append, List.getLast?_singleton, Option.some_or, Option.getD_some]
    omega
theorem top_ups' {g : Gro} {k : Nat} (h : g.opn = ups k) : topG g = (k : Int) - 1 := by
  obtain ⟨l, o, x, y⟩ := g
  cases h
  exact top_ups l k x y
theorem opens_run : ∀ k, k ≤ 32 → runE g0 (List.replicate k oA) = 0 ∧ runS g0 (List.replicate k oA) = stM k 0
  | 0, _ => ⟨rfl, rfl⟩
  | k + 1, h => by
    rw [List.replicate_succ']
    refine run_steps (opens_run k (by omega)) (run_one ⟨?_, ?_⟩)
    · unfold takeE
      rw [top_ups' (g := stM k 0) rfl, if_pos (by rfl), if_neg (by simp [oA]), if_neg ?_, if_neg ?_, if_neg ?_]
      · show ¬ 500 ≤ (nodA k ++ _).length
        simp [nodA_len]; omega
      · show ¬ 32 ≤ (ups k).length
        rw [ups_len]; omega
      · show ¬ (_ ∧ 0 < (nodA k ++ _).length)
        simp only [List.length_append, nodA_len, List.replicate_zero, List.length_nil]
        omega
    · unfold takeS
      rw [top_ups' (g := stM k 0) rfl, if_pos (by rfl)]
      show Gro.mk _ _ _ _ = _
      unfold stM
      simp only [List.replicate_zero, List.append_nil, Nat.add_zero, nodA_succ, ups_succ, nodA_len, oA, Bool.false_eq_true, if_false, List.replicate_succ' (n := k)]
theorem opens_deep {k : Nat} (h : 32 < k) (r : List Tok) : runE g0 (List.replicate k oA ++ r) = 11 := by
  obtain ⟨j, rfl⟩ : ∃ j, k = 32 + (j + 1) := ⟨k - 33, by omega⟩
  rw [← List.replicate_append_replicate, List.append_assoc]
  refine run_bad (opens_run 32 (Nat.le_refl _)) ?_
  rw [List.replicate_succ, List.cons_append]
  have e : takeE (stM 32 0) oA = 11 := by
    unfold takeE
    rw [top_ups' (g := stM 32 0) rfl, if_pos (by rfl), if_neg (by simp [oA]), if_neg (by omega), if_pos ?_]
    show 32 ≤ (ups 32).length
    rw [ups_len]; exact Nat.le_refl _
  rw [runE_bad _ (by rw [e]; decide), e]
theorem take_b (k m : Nat) (h1 : 1 ≤ k) (h2 : k < 32) (h3 : k + m < 500) : takeE (stM k m) oB = 0 ∧ takeS (stM k m) oB = stM k (m + 1) := by
  constructor
  · unfold takeE
    rw [top_ups' (g := stM k m) rfl, if_pos (by rfl), if_neg (by simp [oB]), if_neg (by omega), if_neg ?_, if_neg ?_]
    · show ¬ 500 ≤ (nodA k ++ _).length
      simp [nodA_len]; omega
    · show ¬ 32 ≤ (ups k).length
      rw [ups_len]; omega
  · unfold takeS
    rw [top_ups' (g := stM k m) rfl, if_pos (by rfl)]
    show Gro.mk _ _ _ _ = _
    unfold stM
    simp only [oB, if_true, List.append_assoc, ← List.replicate_succ', ← Nat.add_assoc]
theorem empties_run (k : Nat) (h1 : 1 ≤ k) (h2 : k < 32) : ∀ m, k + m ≤ 500 → runE (stM k 0) (List.replicate m oB) = 0 ∧ runS (stM k 0) (List.replicate m oB) = stM k m
  | 0, _ => ⟨rfl, rfl⟩
  | m + 1, h => by
    rw [List.replicate_succ']
    exact run_steps (empties_run k h1 h2 m (by omega)) (run_one (take_b k m h1 h2 (by omega)))
theorem take_full (k m : Nat) (h1 : 1 ≤ k) (h2 : k < 32) (h3 : k + m = 500) : takeE (stM k m) oB = 4 := by
  unfold takeE
  rw [top_ups' (g := stM k m) rfl, if_pos (by rfl), if_neg (by simp [oB]), if_neg (by omega), if_neg ?_, if_pos ?_]
  · show 500 ≤ (nodA k ++ _).length
    simp [nodA_len]; omega
  · show ¬ 32 ≤ (ups k).length
    rw [ups_len]; omega
theorem take_c {g : Gro} {k : Nat} (h : g.opn = ups (k + 1)) (hn : nameAt g.l (k : Int) = [97]) : takeE g cA = 0 ∧ takeS g cA = { g with opn := ups k } := by
  have ht := top_ups' h
  have e : ((k + 1 : Nat) : Int) - 1 = (k : Int) := by omega
  rw [e] at ht
  constructor
  · unfold takeE
    rw [ht, if_neg (by simp [cA]), if_pos (by rfl), if_neg]
    rintro (h1 | h1)
    · omega
    · exact h1 (by rw [hn]; rfl)
  · unfold takeS
    rw [if_neg (by simp [cA]), if_pos (by rfl), h, ups_succ, List.dropLast_concat]
theorem closes_run {g : Gro} : ∀ (c k : Nat), g.opn = ups (k + c) → (∀ i, i < k + c → nameAt g.l (i : Int) = [97]) → runE g (List.replicate c cA) = 0 ∧ runS g (List.replicate c cA) = { g with opn := ups k }
  | 0, k, h, _ => ⟨rfl, by
      obtain ⟨l, o, x, y⟩ := g
      cases h
      rfl⟩
  | c + 1, k, h, hn => by
    have e := take_c (g := g) (k := k + c) (by rw [h]; rfl) (hn _ (by omega))
    rw [List.replicate_succ]
    have ih := closes_run (g := { g with opn := ups (k + c) }) c k rfl (fun i hi => hn i (by omega))
    exact run_steps (a := [cA]) (run_one e) ih
theorem name_stM (k m i : Nat) (h : i < k) : nameAt (stM k m).l (i : Int) = [97] := by
  unfold nameAt stM
  rw [Int.toNat_natCast, List.getElem?_append_left (by rw [nodA_len]; exact h), nodA_get _ _ h]
  rfl
theorem par_stM (k m i : Nat) : ((stM k m).l[i]?).map (·.parent) = if i < k then some ((i : Int) - 1) else if i < k + m then some ((k : Int) - 1) else none := by
  unfold stM
  by_cases h : i < k
  · rw [if_pos h, List.getElem?_append_left (by rw [nodA_len]; exact h), nodA_get _ _ h]
    rfl
  · rw [if_neg h, List.getElem?_append_right (by rw [nodA_len]; omega), nodA_len, List.getElem?_replicate]
    by_cases h2 : i < k + m
    · rw [if_pos h2, if_pos (by omega)]
      rfl
    · rw [if_neg h2, if_neg (by omega)]
      rfl
theorem len_stM (k m : Nat) : (stM k m).l.length = k + m := by simp [stM, nodA_len]

theorem mix_no {g : Gro} : ∀ (n : Nat), (∀ (j : Nat), j < n → kidsL g.l (j : Int) = [] ∨ (g.ink[j]?).getD false = false) → mixF g n = false
  | 0, _ => rfl
  | n + 1, h => by
    show (mixF g n || _) = false
    rw [mix_no n (fun j hj => h j (by omega)), Bool.false_or]
    rcases h n (by omega) with e | e
    · rw [e]; rfl
    · rw [e, Bool.and_false]
theorem mix_yes {g : Gro} {j : Nat} (h1 : kidsL g.l (j : Int) ≠ []) (h2 : (g.ink[j]?).getD false = true) : ∀ (n : Nat), j < n → mixF g n = true
  | 0, h => absurd h (Nat.not_lt_zero _)
  | n + 1, h => by
    show (mixF g n || _) = true
    rcases Nat.lt_or_ge j n with h3 | h3
    · rw [mix_yes h1 h2 n h3]; rfl
    · obtain rfl : j = n := by omega
      rw [h2, Bool.and_true]
      cases hk : kidsL g.l (j : Int) with
      | nil => exact absurd hk h1
      | cons a b => exact Bool.or_true _
/-- kids: which -/
theorem kids_mem (l : List Nod) (i k : Nat) (h : i < l.length) : k ∈ kidsL l (i : Int) ↔ (l[k]?).map (·.parent) = some (i : Int) := by
  unfold kidsL
  rw [if_pos (by omega), kidsF_in]
  constructor
  · exact fun h => h.2
  · intro h2
    refine ⟨?_, h2⟩
    rcases Nat.lt_or_ge k l.length with h3 | h3
    · exact h3
    · rw [List.getElem?_eq_none h3] at h2; cases h2
theorem kids_none (l : List Nod) (i : Nat) (h : i < l.length) (hn : ∀ (k : Nat), (l[k]?).map (fun (x : Nod) => x.parent) ≠ some (i : Int)) : kidsL l (i : Int) = [] := by
  cases hk : kidsL l (i : Int) with
  | nil => rfl
  | cons a b =>
    have := (kids_mem l i a h).1 (by rw [hk]; simp)
    exact absurd this (hn a)
theorem kids_some {l : List Nod} {i k : Nat} (h : i < l.length) (hk : (l[k]?).map (·.parent) = some (i : Int)) : kidsL l (i : Int) ≠ [] := by
  intro e
  have := (kids_mem l i k h).2 hk
  rw [e] at this
  cases this
/-- how many kids the innermost one has -/
theorem kidsF_stM (k m : Nat) (h1 : 1 ≤ k) : ∀ n, n ≤ k + m → (kidsF (stM k m).l ((k : Int) - 1) n).length = n - k
  | 0, _ => by simp [kidsF]
  | n + 1, h => by
    unfold kidsF
    rw [List.length_append, kidsF_stM k m h1 n (by omega), par_stM]
    by_cases hn : n < k
    · rw [if_pos hn, if_neg (by intro e; injection e with e; omega)]
      simp; omega
    · have h2 : n < k + m := h
      rw [if_neg hn, if_pos h2, if_pos (by rfl)]
      simp; omega
theorem kids_stM (k m : Nat) (h1 : 1 ≤ k) : (kidsL (stM k m).l ((k : Int) - 1)).length = m := by
  unfold kidsL
  rw [if_pos (by rw [len_stM]; omega), len_stM, kidsF_stM k m h1 _ (Nat.le_refl _)]
  omega
theorem buildE_of {ts : List Tok} {g : Gro} (h : runE g0 ts = 0 ∧ runS g0 ts = g) : buildE ts = endE g ∧ (endE g = 0 → buildL ts = endF g 0 g.l) := by
  have e : buildE ts = endE g := by unfold buildE; rw [if_pos h.1, h.2]
  exact ⟨e, fun h0 => by unfold buildL; rw [if_pos (by rw [e]; exact h0), h.2]⟩
theorem buildE_bad {ts : List Tok} {E : Int} (h : runE g0 ts = E) (hE : E ≠ 0) : buildE ts = E ∧ buildL ts = [] := by
  have e : buildE ts = E := by unfold buildE; rw [if_neg (by rw [h]; exact hE), h]
  exact ⟨e, by unfold buildL; rw [if_neg (by rw [e]; exact hE)]⟩

/-! ### so many, and no more -/
def manyT (d m : Nat) : List Tok := List.replicate d oA ++ List.replicate m oB ++ List.replicate d cA
theorem many_ok (d m : Nat) (h1 : 1 ≤ d) (h2 : d < 32) (h3 : d + m ≤ 500) (h4 : 1 ≤ m) :
    buildE (manyT d m) = 0 ∧ (buildL (manyT d m)).length = d + m ∧ (kidsL (buildL (manyT d m)) ((d : Int) - 1)).length = m ∧ ((buildL (manyT d m))[d + m - 1]?).map (·.parent) = some ((d : Int) - 1) := by
  have hr : runE g0 (manyT d m) = 0 ∧ runS g0 (manyT d m) = { stM d m with opn := [] } :=
    run_steps (run_steps (opens_run d (by omega)) (empties_run d h1 h2 m h3)) (closes_run (g := stM d m) d 0 (by rw [Nat.zero_add]; rfl) (fun i hi => name_stM d m i (by omega)))
  obtain ⟨e1, e2⟩ := buildE_of hr
  have he : endE { stM d m with opn := [] } = 0 := by
    unfold endE
    rw [if_neg, mix_no]
    · rfl
    · intro j hj
      right
      show ((List.replicate (d + m) false)[j]?).getD false = false
      rw [List.getElem?_replicate]
      split <;> rfl
    · rintro (h | h)
      · have := congrArg List.length h
        rw [len_stM] at this
        simp at this
        omega
      · exact h rfl
  have hL := e2 he
  have hp := endF_par { stM d m with opn := [] } (stM d m).l 0
  refine ⟨by rw [e1, he], ?_, ?_, ?_⟩
  · rw [hL, endF_len, len_stM]
  · rw [hL, kidsL_par hp, kids_stM d m h1]
  · rw [hL, ← List.getElem?_map, hp, List.getElem?_map, par_stM, if_neg (by omega), if_pos (by omega)]
theorem many_big (d m : Nat) (h1 : 1 ≤ d) (h2 : d < 32) (h3 : d + m = 501) : buildE (manyT d m) = 4 ∧ buildL (manyT d m) = [] := by
  refine buildE_bad ?_ (by decide)
  obtain ⟨j, rfl⟩ : ∃ j, m = j + 1 := ⟨m - 1, by omega⟩
  unfold manyT
  rw [List.replicate_succ', ← List.append_assoc, List.append_assoc]
  refine run_bad (run_steps (opens_run d (by omega)) (empties_run d h1 h2 j (by omega))) ?_
  have e := take_full d j h1 h2 (by omega)
  rw [List.singleton_append, runE_bad _ (by rw [e]; decide), e]

/-! ### so deep, and no deeper -/
/-- a text where k are open, m more in the innermost one -/
def stT (k m : Nat) (t : List UInt8) (b : Bool) : Gro := { stM k m with txt := (List.replicate (k + m) []).set (k - 1) t, ink := (List.replicate (k + m) false).set (k - 1) b }
theorem take_x (k m : Nat) (h1 : 1 ≤ k) (t : List UInt8) : takeE (stM k m) (xT t) = 0 ∧ takeS (stM k m) (xT t) = stT k m t (!blankB t) := by
  have ht := top_ups' (g := stM k m) (k := k) rfl
  constructor
  · unfold takeE
    rw [ht, if_neg (by simp [xT]), if_neg (by simp [xT]), if_pos (by rfl), if_neg (by omega)]
  · unfold takeS
    rw [ht, if_neg (by simp [xT]), if_neg (by simp [xT]), if_neg (by omega)]
    have e : ((k : Int) - 1).toNat = k - 1 := by omega
    rw [e]
    unfold stT
    have e1 : ((stM k m).txt[k - 1]?).getD [] = [] := by
      show ((List.replicate (k + m) [])[k - 1]?).getD [] = []
      rw [List.getElem?_replicate]
      split <;> rfl
    have e2 : ((stM k m).ink[k - 1]?).getD false = false := by
      show ((List.replicate (k + m) false)[k - 1]?).getD false = false
      rw [List.getElem?_replicate]
      split <;> rfl
    rw [e1, e2]
    rfl
theorem closes_T (k m : Nat) (t : List UInt8) (b : Bool) (c : Nat) (hc : c ≤ k) : runE (stT k m t b) (List.replicate c cA) = 0 ∧ runS (stT k m t b) (List.replicate c cA) = { stT k m t b with opn := ups (k - c) } :=
  closes_run (g := stT k m t b) c (k - c) (by rw [Nat.sub_add_cancel hc]; rfl) (fun i hi => name_stM k m i (by omega))
theorem closes_M (k m : Nat) (c : Nat) (hc : c ≤ k) : runE (stM k m) (List.replicate c cA) = 0 ∧ runS (stM k m) (List.replicate c cA) = { stM k m with opn := ups (k - c) } :=
  closes_run (g := stM k m) c (k - c) (by rw [Nat.sub_add_cancel hc]; rfl) (fun i hi => name_stM k m i (by omega))
theorem top_nil {g : Gro} (h : g.opn = []) : topG g = -1 := by unfold topG; rw [h]; rfl
theorem take_out {g : Gro} (h : g.opn = []) {t : List UInt8} (hb : blankB t = true) : takeE g (xT t) = 0 ∧ takeS g (xT t) = g := by
  have ht := top_nil h
  constructor
  · unfold takeE
    rw [ht, if_neg (by simp [xT]), if_neg (by simp [xT]), if_pos (by rfl), if_neg (fun x => x.2 hb)]
  · unfold takeS
    rw [ht, if_neg (by simp [xT]), if_neg (by simp [xT]), if_pos (by decide)]
theorem take_out_no {g : Gro} (h : g.opn = []) {t : List UInt8} (hb : blankB t = false) : takeE g (xT t) = 10 := by
  have ht := top_nil h
  unfold takeE
  rw [ht, if_neg (by simp [xT]), if_neg (by simp [xT]), if_pos (by rfl), if_pos ⟨by decide, by show ¬ blankB t = true; rw [hb]; decide⟩]
theorem end_T (k : Nat) (h1 : 1 ≤ k) (t : List UInt8) (b : Bool) : endE { stT k 0 t b with opn := [] } = 0 ∧ (endF { stT k 0 t b with opn := [] } 0 (stM k 0).l).length = k ∧ ((endF { stT k 0 t b with opn := [] } 0 (stM k 0).l)[k - 1]?).map (·.text) = some t := by
  have hlast : kidsL (stM k 0).l ((k - 1 : Nat) : Int) = [] := kids_none _ _ (by rw [len_stM]; omega) (fun i e => by
    rw [par_stM] at e
    split at e
    · injection e with e; omega
    · split at e
      · omega
      · cases e)
  refine ⟨?_, by rw [endF_len, len_stM]; rfl, ?_⟩
  · unfold endE
    rw [if_neg, mix_no]
    · rfl
    · intro j hj
      have hj2 : j < k := by
        have : (stM k 0).l.length = k := by rw [len_stM]; rfl
        have hj3 : j < (stM k 0).l.length := hj
        omega
      by_cases hk : j = k - 1
      · left
        rw [hk]
        exact hlast
      · right
        show (((List.replicate (k + 0) false).set (k - 1) b)[j]?).getD false = false
        rw [List.getElem?_set_ne (by omega), List.getElem?_replicate]
        split <;> rfl
    · rintro (h | h)
      · have h2 : (stM k 0).l = [] := h
        have := congrArg List.length h2
        rw [len_stM] at this
        simp at this
        omega
      · exact h rfl
  · rw [endF_get, Option.map_map]
    have hl : k - 1 < (stM k 0).l.length := by rw [len_stM]; omega
    rw [List.getElem?_eq_getElem hl]
    simp only [Option.map_some, Nat.zero_add, Function.comp]
    have h3 : kidsL ({ stT k 0 t b with opn := [] } : Gro).l ((k - 1 : Nat) : Int) = [] := hlast
    rw [if_pos h3]
    show some ((((List.replicate (k + 0) []).set (k - 1) t)[k - 1]?).getD []) = some t
    rw [List.getElem?_set_self (by simp; omega)]
    rfl
/-- a text in the innermost one -/
def deepT (n : Nat) (t : List UInt8) : List Tok := List.replicate n oA ++ [xT t] ++ List.replicate n cA
theorem deep_run (n : Nat) (h1 : 1 ≤ n) (h2 : n ≤ 32) (t : List UInt8) : runE g0 (deepT n t) = 0 ∧ runS g0 (deepT n t) = { stT n 0 t (!blankB t) with opn := [] } := by
  have h := run_steps (run_steps (opens_run n h2) (run_one (take_x n 0 h1 t))) (closes_T n 0 t (!blankB t) n (Nat.le_refl _))
  rw [Nat.sub_self] at h
  exact h
theorem deep_ok (n : Nat) (h1 : 1 ≤ n) (h2 : n ≤ 32) (t : List UInt8) : buildE (deepT n t) = 0 ∧ (buildL (deepT n t)).length = n ∧ ((buildL (deepT n t))[n - 1]?).map (·.text) = some t := by
  obtain ⟨e1, e2⟩ := buildE_of (deep_run n h1 h2 t)
  obtain ⟨a1, a2, a3⟩ := end_T n h1 t (!blankB t)
  refine ⟨by rw [e1, a1], ?_, ?_⟩
  · rw [e2 a1]; exact a2
  · rw [e2 a1]; exact a3
theorem blank_ok (n : Nat) (h1 : 1 ≤ n) (h2 : n ≤ 32) (t a b : List UInt8) (ha : blankB a = true) (hb : blankB b = true) :
    buildE ([xT a] ++ deepT n t ++ [xT b]) = 0 ∧ (buildL ([xT a] ++ deepT n t ++ [xT b])).length = n ∧ ((buildL ([xT a] ++ deepT n t ++ [xT b]))[n - 1]?).map (·.text) = some t := by
  have hr := run_steps (run_steps (run_one (take_out (g := g0) rfl ha)) (deep_run n h1 h2 t)) (run_one (take_out rfl hb))
  obtain ⟨e1, e2⟩ := buildE_of hr
  obtain ⟨a1, a2, a3⟩ := end_T n h1 t (!blankB t)
  refine ⟨by rw [e1, a1], ?_, ?_⟩
  · rw [e2 a1]; exact a2
  · rw [e2 a1]; exact a3
theorem deep_no (n : Nat) (h : 32 < n) (t : List UInt8) : buildE (deepT n t) = 11 ∧ buildL (deepT n t) = [] := by
  refine buildE_bad ?_ (by decide)
  unfold deepT
  rw [List.append_assoc]
  exact opens_deep h _
theorem few_no (n : Nat) (h1 : 1 ≤ n) (h2 : n ≤ 32) : buildE (List.replicate n oA ++ List.replicate (n - 1) cA) = 10 := by
  have hr := run_steps (opens_run n h2) (closes_M n 0 (n - 1) (by omega))
  rw [(buildE_of hr).1]
  unfold endE
  rw [if_pos]
  right
  show ups (n - (n - 1)) ≠ []
  rw [show n - (n - 1) = 1 from by omega]
  decide
theorem full_run (n : Nat) (h2 : n ≤ 32) : runE g0 (List.replicate n oA ++ List.replicate n cA) = 0 ∧ runS g0 (List.replicate n oA ++ List.replicate n cA) = { stM n 0 with opn := [] } := by
  have h := run_steps (opens_run n h2) (closes_M n 0 n (Nat.le_refl _))
  rw [Nat.sub_self] at h
  exact h
theorem more_no (n : Nat) (h2 : n ≤ 32) : buildE (List.replicate n oA ++ List.replicate n cA ++ [cA]) = 10 := by
  refine (buildE_bad (run_bad (full_run n h2) ?_) (by decide)).1
  rw [runE_one]
  unfold takeE
  rw [top_nil rfl, if_neg (by simp [cA]), if_pos (by rfl), if_pos (.inl (by decide))]
theorem second_no (n : Nat) (h1 : 1 ≤ n) (h2 : n ≤ 32) : buildE (List.replicate n oA ++ List.replicate n cA ++ [oB]) = 10 := by
  refine (buildE_bad (run_bad (full_run n h2) ?_) (by decide)).1
  rw [runE_one]
  unfold takeE
  rw [top_nil rfl, if_pos (by rfl), if_neg (by simp [oB]), if_pos]
  refine ⟨by decide, ?_⟩
  show 0 < (stM n 0).l.length
  rw [len_stM]; omega
theorem text_no (n : Nat) (h2 : n ≤ 32) : buildE (List.replicate n oA ++ List.replicate n cA ++ [xT [120]]) = 10 := by
  refine (buildE_bad (run_bad (full_run n h2) ?_) (by decide)).1
  rw [runE_one]
  exact take_out_no rfl (by decide)
theorem other_no (n : Nat) (h1 : 1 ≤ n) (h2 : n ≤ 32) : buildE (List.replicate n oA ++ List.replicate (n - 1) cA ++ [cB]) = 10 := by
  refine (buildE_bad (run_bad (run_steps (opens_run n h2) (closes_M n 0 (n - 1) (by omega))) ?_) (by decide)).1
  rw [runE_one]
  unfold takeE
  rw [top_ups' (k := 1) (by show ups (n - (n - 1)) = ups 1; rw [show n - (n - 1) = 1 from by omega]), if_neg (by simp [cB]), if_pos (by rfl), if_pos]
  right
  have := name_stM n 0 0 (by omega)
  show nameAt (stM n 0).l (((1 : Nat) : Int) - 1) ≠ [98]
  rw [show (((1 : Nat) : Int) - 1) = ((0 : Nat) : Int) from rfl, this]
  decide
theorem mixed_no (n : Nat) (h1 : 1 ≤ n) (h2 : n < 32) : buildE (List.replicate n oA ++ [oB] ++ [xT [120]] ++ List.replicate n cA) = 12 := by
  have hr := run_steps (run_steps (run_steps (opens_run n (by omega)) (run_one (take_b n 0 h1 h2 (by omega)))) (run_one (take_x n 1 h1 [120]))) (closes_T n 1 [120] (!blankB [120]) n (Nat.le_refl _))
  rw [(buildE_of hr).1]
  unfold endE
  rw [if_neg, if_pos]
  · refine mix_yes (j := n - 1) ?_ ?_ _ ?_
    · refine kids_some (k := n) (by show n - 1 < (stM n 1).l.length; rw [len_stM]; omega) ?_
      show ((stM n 1).l[n]?).map (·.parent) = _
      rw [par_stM, if_neg (by omega), if_pos (by omega)]
      congr 1
      omega
    · show (((List.replicate (n + 1) false).set (n - 1) (!blankB [120]))[n - 1]?).getD false = true
      rw [List.getElem?_set_self (by simp; omega)]
      rfl
    · show n - 1 < (stM n 1).l.length
      rw [len_stM]; omega
  · rintro (h | h)
    · have h3 : (stM n 1).l = [] := h
      have := congrArg List.length h3
      rw [len_stM] at this
      simp at this
    · apply h
      show ups (n - n) = []
      rw [Nat.sub_self]
      rfl
end Go.Proofs.YthkjmbkfcnehoaaGreatDoor
