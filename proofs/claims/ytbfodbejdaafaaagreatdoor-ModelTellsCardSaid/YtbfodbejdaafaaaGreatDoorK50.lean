/- The texts TreeRuns, RefBuild, RefParse, NodWt, CanSize, ModTells, OpenW, NodOpenW, joined. -/
import Derived.Test.YtbfodbejdaafaaaGreatDoorK49
import Derived.Test.YtbfodbejdaafaaaGreatDoorK43
import Derived.Test.YtbfodbejdaafaaaGreatDoorK48
import Derived.Test.YtbfodbejdaafaaaGreatDoorK20
import Derived.Test.YtbfodbejdaafaaaGreatDoorK21
import Derived.LoopTactic
import Derived.Test.YtbfodbejdaafaaaGreatDoorK14
import Derived.Test.YtbfodbejdaafaaaGreatDoorK38
import Derived.Test.YtbfodbejdaafaaaGreatDoorK17
import Derived.Deep.Grids
import Derived.Test.YtbfodbejdaafaaaGreatDoorK28
/- What the tree makes of rows of Opens and Closes: plain functions on lists, no program. -/
namespace Go.Proofs.YtbfodbejdaafaaaGreatDoor
set_option linter.unusedVariables false

theorem runS_app : ∀ (a b : List Tok) (g : Gro), runS g (a ++ b) = runS (runS g a) b
  | [], _, _ => rfl
  | t :: a, b, g => runS_app a b (takeS g t)
theorem runE_app : ∀ (a b : List Tok) (g : Gro), runE g a = 0 → runE g (a ++ b) = runE (runS g a) b
  | [], _, _, _ => rfl
  | t :: a, b, g, h => by
    unfold runE at h
    split at h
    · rename_i h0
      show (if takeE g t = 0 then runE (takeS g t) (a ++ b) else takeE g t) = runE (runS (takeS g t) a) b
      rw [if_pos h0]
      exact runE_app a b (takeS g t) h
    · rename_i h0; exact absurd h h0
theorem runE_bad {t : Tok} {g : Gro} (r : List Tok) (h : takeE g t ≠ 0) : runE g (t :: r) = takeE g t := if_neg h
theorem runE_one {t : Tok} {g : Gro} : runE g [t] = takeE g t := by
  show (if takeE g t = 0 then 0 else takeE g t) = _
  split
  · rename_i h; rw [h]
  · rfl
theorem run_steps {a b : List Tok} {g g1 g2 : Gro} (h1 : runE g a = 0 ∧ runS g a = g1) (h2 : runE g1 b = 0 ∧ runS g1 b = g2) : runE g (a ++ b) = 0 ∧ runS g (a ++ b) = g2 :=
  ⟨by rw [runE_app _ _ _ h1.1, h1.2]; exact h2.1, by rw [runS_app, h1.2]; exact h2.2⟩
theorem run_bad {a b : List Tok} {g g1 : Gro} {E : Int} (h1 : runE g a = 0 ∧ runS g a = g1) (h2 : runE g1 b = E) : runE g (a ++ b) = E := by
  rw [runE_app _ _ _ h1.1, h1.2]; exact h2
theorem run_one {t : Tok} {g g1 : Gro} (h : takeE g t = 0 ∧ takeS g t = g1) : runE g [t] = 0 ∧ runS g [t] = g1 := ⟨by rw [runE_one]; exact h.1, h.2⟩

def oA : Tok := ⟨1, [97], [], [], false⟩
def oB : Tok := ⟨1, [98], [], [], true⟩
def cA : Tok := ⟨2, [97], [], [], false⟩
def cB : Tok := ⟨2, [98], [], [], false⟩
def xT (t : List UInt8) : Tok := ⟨3, [], t, [], false⟩
def nodA (k : Nat) : List Nod := (List.range k).map (fun (i : Nat) => (⟨(i : Int) - 1, [97], [], []⟩ : Nod))
def ups (k : Nat) : List Int := (List.range k).map (fun (i : Nat) => (i : Int))
/-- so many are open, and so many more stand in the innermost one -/
def stM (k m : Nat) : Gro := ⟨nodA k ++ List.replicate m ⟨(k : Int) - 1, [98], [], []⟩, ups k, List.replicate (k + m) [], List.replicate (k + m) false⟩
theorem nodA_len (k : Nat) : (nodA k).length = k := by simp [nodA]
theorem ups_len (k : Nat) : (ups k).length = k := by simp [ups]
theorem ups_succ (k : Nat) : ups (k + 1) = ups k ++ [(k : Int)] := by unfold ups; rw [List.range_succ, List.map_append]; rfl
theorem nodA_succ (k : Nat) : nodA (k + 1) = nodA k ++ [⟨(k : Int) - 1, [97], [], []⟩] := by unfold nodA; rw [List.range_succ, List.map_append]; rfl
theorem nodA_get (k i : Nat) (h : i < k) : (nodA k)[i]? = some ⟨(i : Int) - 1, [97], [], []⟩ := by
  unfold nodA
  rw [List.getElem?_map, List.getElem?_range h]
  rfl
theorem top_ups (l : List Nod) (k : Nat) (x : List (List UInt8)) (y : List Bool) : topG ⟨l, ups k, x, y⟩ = (k : Int) - 1 := by
  unfold topG
  cases k with
  | zero => rfl
  | succ k =>
    simp only [ups_succ, List.getLast?_append, List.getLast?_singleton, Option.some_or, Option.getD_some]
    omega
theorem top_ups' {g : Gro} {k : Nat} (h : g.opn = ups k) : topG g = (k : Int) - 1 := by
  obtain ⟨l, o, x, y⟩ := g
  cases h
  exact top_ups l k x y
theorem opens_run : ∀ k, k ≤ 32 → runE g0 (List.replicate k oA) = 0 ∧ runS g0 (List.replicate k oA) = stM k 0
  | 0, _ => ⟨rfl, rfl⟩
  | k + 1, h => by
    rw [List.replicate_succ']
    refine run_steps (opens_run k (by omega)) (run_one ⟨?_, ?_⟩)
    · unfold takeE
      rw [top_ups' (g := stM k 0) rfl, if_pos (by rfl), if_neg (by simp [oA]), if_neg ?_, if_neg ?_, if_neg ?_]
      · show ¬ 500 ≤ (nodA k ++ _).length
        simp [nodA_len]; omega
      · show ¬ 32 ≤ (ups k).length
        rw [ups_len]; omega
      · show ¬ (_ ∧ 0 < (nodA k ++ _).length)
        simp only [List.length_append, nodA_len, List.replicate_zero, List.length_nil]
        omega
    · unfold takeS
      rw [top_ups' (g := stM k 0) rfl, if_pos (by rfl)]
      show Gro.mk _ _ _ _ = _
      unfold stM
      simp only [List.replicate_zero, List.append_nil, Nat.add_zero, nodA_succ, ups_succ, nodA_len, oA, Bool.false_eq_true, if_false, List.replicate_succ' (n := k)]
theorem opens_deep {k : Nat} (h : 32 < k) (r : List Tok) : runE g0 (List.replicate k oA ++ r) = 11 := by
  obtain ⟨j, rfl⟩ : ∃ j, k = 32 + (j + 1) := ⟨k - 33, by omega⟩
  rw [← List.replicate_append_replicate, List.append_assoc]
  refine run_bad (opens_run 32 (Nat.le_refl _)) ?_
  rw [List.replicate_succ, List.cons_append]
  have e : takeE (stM 32 0) oA = 11 := by
    unfold takeE
    rw [top_ups' (g := stM 32 0) rfl, if_pos (by rfl), if_neg (by simp [oA]), if_neg (by omega), if_pos ?_]
    show 32 ≤ (ups 32).length
    rw [ups_len]; exact Nat.le_refl _
  rw [runE_bad _ (by rw [e]; decide), e]
theorem take_b (k m : Nat) (h1 : 1 ≤ k) (h2 : k < 32) (h3 : k + m < 500) : takeE (stM k m) oB = 0 ∧ takeS (stM k m) oB = stM k (m + 1) := by
  constructor
  · unfold takeE
    rw [top_ups' (g := stM k m) rfl, if_pos (by rfl), if_neg (by simp [oB]), if_neg (by omega), if_neg ?_, if_neg ?_]
    · show ¬ 500 ≤ (nodA k ++ _).length
      simp [nodA_len]; omega
    · show ¬ 32 ≤ (ups k).length
      rw [ups_len]; omega
  · unfold takeS
    rw [top_ups' (g := stM k m) rfl, if_pos (by rfl)]
    show Gro.mk _ _ _ _ = _
    unfold stM
    simp only [oB, if_true, List.append_assoc, ← List.replicate_succ', ← Nat.add_assoc]
theorem empties_run (k : Nat) (h1 : 1 ≤ k) (h2 : k < 32) : ∀ m, k + m ≤ 500 → runE (stM k 0) (List.replicate m oB) = 0 ∧ runS (stM k 0) (List.replicate m oB) = stM k m
  | 0, _ => ⟨rfl, rfl⟩
  | m + 1, h => by
    rw [List.replicate_succ']
    exact run_steps (empties_run k h1 h2 m (by omega)) (run_one (take_b k m h1 h2 (by omega)))
theorem take_full (k m : Nat) (h1 : 1 ≤ k) (h2 : k < 32) (h3 : k + m = 500) : takeE (stM k m) oB = 4 := by
  unfold takeE
  rw [top_ups' (g := stM k m) rfl, if_pos (by rfl), if_neg (by simp [oB]), if_neg (by omega), if_neg ?_, if_pos ?_]
  · show 500 ≤ (nodA k ++ _).length
    simp [nodA_len]; omega
  · show ¬ 32 ≤ (ups k).length
    rw [ups_len]; omega
theorem take_c {g : Gro} {k : Nat} (h : g.opn = ups (k + 1)) (hn : nameAt g.l (k : Int) = [97]) : takeE g cA = 0 ∧ takeS g cA = { g with opn := ups k } := by
  have ht := top_ups' h
  have e : ((k + 1 : Nat) : Int) - 1 = (k : Int) := by omega
  rw [e] at ht
  constructor
  · unfold takeE
    rw [ht, if_neg (by simp [cA]), if_pos (by rfl), if_neg]
    rintro (h1 | h1)
    · omega
    · exact h1 (by rw [hn]; rfl)
  · unfold takeS
    rw [if_neg (by simp [cA]), if_pos (by rfl), h, ups_succ, List.dropLast_concat]
theorem closes_run {g : Gro} : ∀ (c k : Nat), g.opn = ups (k + c) → (∀ i, i < k + c → nameAt g.l (i : Int) = [97]) → runE g (List.replicate c cA) = 0 ∧ runS g (List.replicate c cA) = { g with opn := ups k }
  | 0, k, h, _ => ⟨rfl, by
      obtain ⟨l, o, x, y⟩ := g
      cases h
      rfl⟩
  | c + 1, k, h, hn => by
    have e := take_c (g := g) (k := k + c) (by rw [h]; rfl) (hn _ (by omega))
    rw [List.replicate_succ]
    have ih := closes_run (g := { g with opn := ups (k + c) }) c k rfl (fun i hi => hn i (by omega))
    exact run_steps (a := [cA]) (run_one e) ih
theorem name_stM (k m i : Nat) (h : i < k) : nameAt (stM k m).l (i : Int) = [97] := by
  unfold nameAt stM
  rw [Int.toNat_natCast, List.getElem?_append_left (by rw [nodA_len]; exact h), nodA_get _ _ h]
  rfl
theorem par_stM (k m i : Nat) : ((stM k m).l[i]?).map (·.parent) = if i < k then some ((i : Int) - 1) else if i < k + m then some ((k : Int) - 1) else none := by
  unfold stM
  by_cases h : i < k
  · rw [if_pos h, List.getElem?_append_left (by rw [nodA_len]; exact h), nodA_get _ _ h]
    rfl
  · rw [if_neg h, List.getElem?_append_right (by rw [nodA_len]; omega), nodA_len, List.getElem?_replicate]
    by_cases h2 : i < k + m
    · rw [if_pos h2, if_pos (by omega)]
      rfl
    · rw [if_neg h2, if_neg (by omega)]
      rfl
theorem len_stM (k m : Nat) : (stM k m).l.length = k + m := by simp [stM, nodA_len]

theorem mix_no {g : Gro} : ∀ (n : Nat), (∀ (j : Nat), j < n → kidsL g.l (j : Int) = [] ∨ (g.ink[j]?).getD false = false) → mixF g n = false
  | 0, _ => rfl
  | n + 1, h => by
    show (mixF g n || _) = false
    rw [mix_no n (fun j hj => h j (by omega)), Bool.false_or]
    rcases h n (by omega) with e | e
    · rw [e]; rfl
    · rw [e, Bool.and_false]
theorem mix_yes {g : Gro} {j : Nat} (h1 : kidsL g.l (j : Int) ≠ []) (h2 : (g.ink[j]?).getD false = true) : ∀ (n : Nat), j < n → mixF g n = true
  | 0, h => absurd h (Nat.not_lt_zero _)
  | n + 1, h => by
    show (mixF g n || _) = true
    rcases Nat.lt_or_ge j n with h3 | h3
    · rw [mix_yes h1 h2 n h3]; rfl
    · obtain rfl : j = n := by omega
      rw [h2, Bool.and_true]
      cases hk : kidsL g.l (j : Int) with
      | nil => exact absurd hk h1
      | cons a b => exact Bool.or_true _
/-- kids: which -/
theorem kids_mem (l : List Nod) (i k : Nat) (h : i < l.length) : k ∈ kidsL l (i : Int) ↔ (l[k]?).map (·.parent) = some (i : Int) := by
  unfold kidsL
  rw [if_pos (by omega), kidsF_in]
  constructor
  · exact fun h => h.2
  · intro h2
    refine ⟨?_, h2⟩
    rcases Nat.lt_or_ge k l.length with h3 | h3
    · exact h3
    · rw [List.getElem?_eq_none h3] at h2; cases h2
theorem kids_none (l : List Nod) (i : Nat) (h : i < l.length) (hn : ∀ (k : Nat), (l[k]?).map (fun (x : Nod) => x.parent) ≠ some (i : Int)) : kidsL l (i : Int) = [] := by
  cases hk : kidsL l (i : Int) with
  | nil => rfl
  | cons a b =>
    have := (kids_mem l i a h).1 (by rw [hk]; simp)
    exact absurd this (hn a)
theorem kids_some {l : List Nod} {i k : Nat} (h : i < l.length) (hk : (l[k]?).map (·.parent) = some (i : Int)) : kidsL l (i : Int) ≠ [] := by
  intro e
  have := (kids_mem l i k h).2 hk
  rw [e] at this
  cases this
/-- how many kids the innermost one has -/
theorem kidsF_stM (k m : Nat) (h1 : 1 ≤ k) : ∀ n, n ≤ k + m → (kidsF (stM k m).l ((k : Int) - 1) n).length = n - k
  | 0, _ => by simp [kidsF]
  | n + 1, h => by
    unfold kidsF
    rw [List.length_append, kidsF_stM k m h1 n (by omega), par_stM]
    by_cases hn : n < k
    · rw [if_pos hn, if_neg (by intro e; injection e with e; omega)]
      simp; omega
    · have h2 : n < k + m := h
      rw [if_neg hn, if_pos h2, if_pos (by rfl)]
      simp; omega
theorem kids_stM (k m : Nat) (h1 : 1 ≤ k) : (kidsL (stM k m).l ((k : Int) - 1)).length = m := by
  unfold kidsL
  rw [if_pos (by rw [len_stM]; omega), len_stM, kidsF_stM k m h1 _ (Nat.le_refl _)]
  omega
theorem buildE_of {ts : List Tok} {g : Gro} (h : runE g0 ts = 0 ∧ runS g0 ts = g) : buildE ts = endE g ∧ (endE g = 0 → buildL ts = endF g 0 g.l) := by
  have e : buildE ts = endE g := by unfold buildE; rw [if_pos h.1, h.2]
  exact ⟨e, fun h0 => by unfold buildL; rw [if_pos (by rw [e]; exact h0), h.2]⟩
theorem buildE_bad {ts : List Tok} {E : Int} (h : runE g0 ts = E) (hE : E ≠ 0) : buildE ts = E ∧ buildL ts = [] := by
  have e : buildE ts = E := by unfold buildE; rw [if_neg (by rw [h]; exact hE), h]
  exact ⟨e, by unfold buildL; rw [if_neg (by rw [e]; exact hE)]⟩

/-! ### so many, and no more -/
def manyT (d m : Nat) : List Tok := List.replicate d oA ++ List.replicate m oB ++ List.replicate d cA
theorem many_ok (d m : Nat) (h1 : 1 ≤ d) (h2 : d < 32) (h3 : d + m ≤ 500) (h4 : 1 ≤ m) :
    buildE (manyT d m) = 0 ∧ (buildL (manyT d m)).length = d + m ∧ (kidsL (buildL (manyT d m)) ((d : Int) - 1)).length = m ∧ ((buildL (manyT d m))[d + m - 1]?).map (·.parent) = some ((d : Int) - 1) := by
  have hr : runE g0 (manyT d m) = 0 ∧ runS g0 (manyT d m) = { stM d m with opn := [] } :=
    run_steps (run_steps (opens_run d (by omega)) (empties_run d h1 h2 m h3)) (closes_run (g := stM d m) d 0 (by rw [Nat.zero_add]; rfl) (fun i hi => name_stM d m i (by omega)))
  obtain ⟨e1, e2⟩ := buildE_of hr
  have he : endE { stM d m with opn := [] } = 0 := by
    unfold endE
    rw [if_neg, mix_no]
    · rfl
    · intro j hj
      right
      show ((List.replicate (d + m) false)[j]?).getD false = false
      rw [List.getElem?_replicate]
      split <;> rfl
    · rintro (h | h)
      · have := congrArg List.length h
        rw [len_stM] at this
        simp at this
        omega
      · exact h rfl
  have hL := e2 he
  have hp := endF_par { stM d m with opn := [] } (stM d m).l 0
  refine ⟨by rw [e1, he], ?_, ?_, ?_⟩
  · rw [hL, endF_len, len_stM]
  · rw [hL, kidsL_par hp, kids_stM d m h1]
  · rw [hL, ← List.getElem?_map, hp, List.getElem?_map, par_stM, if_neg (by omega), if_pos (by omega)]
theorem many_big (d m : Nat) (h1 : 1 ≤ d) (h2 : d < 32) (h3 : d + m = 501) : buildE (manyT d m) = 4 ∧ buildL (manyT d m) = [] := by
  refine buildE_bad ?_ (by decide)
  obtain ⟨j, rfl⟩ : ∃ j, m = j + 1 := ⟨m - 1, by omega⟩
  unfold manyT
  rw [List.replicate_succ', ← List.append_assoc, List.append_assoc]
  refine run_bad (run_steps (opens_run d (by omega)) (empties_run d h1 h2 j (by omega))) ?_
  have e := take_full d j h1 h2 (by omega)
  rw [List.singleton_append, runE_bad _ (by rw [e]; decide), e]

/-! ### so deep, and no deeper -/
/-- a text where k are open, m more in the innermost one -/
def stT (k m : Nat) (t : List UInt8) (b : Bool) : Gro := { stM k m with txt := (List.replicate (k + m) []).set (k - 1) t, ink := (List.replicate (k + m) false).set (k - 1) b }
theorem take_x (k m : Nat) (h1 : 1 ≤ k) (t : List UInt8) : takeE (stM k m) (xT t) = 0 ∧ takeS (stM k m) (xT t) = stT k m t (!blankB t) := by
  have ht := top_ups' (g := stM k m) (k := k) rfl
  constructor
  · unfold takeE
    rw [ht, if_neg (by simp [xT]), if_neg (by simp [xT]), if_pos (by rfl), if_neg (by omega)]
  · unfold takeS
    rw [ht, if_neg (by simp [xT]), if_neg (by simp [xT]), if_neg (by omega)]
    have e : ((k : Int) - 1).toNat = k - 1 := by omega
    rw [e]
    unfold stT
    have e1 : ((stM k m).txt[k - 1]?).getD [] = [] := by
      show ((List.replicate (k + m) [])[k - 1]?).getD [] = []
      rw [List.getElem?_replicate]
      split <;> rfl
    have e2 : ((stM k m).ink[k - 1]?).getD false = false := by
      show ((List.replicate (k + m) false)[k - 1]?).getD false = false
      rw [List.getElem?_replicate]
      split <;> rfl
    rw [e1, e2]
    rfl
theorem closes_T (k m : Nat) (t : List UInt8) (b : Bool) (c : Nat) (hc : c ≤ k) : runE (stT k m t b) (List.replicate c cA) = 0 ∧ runS (stT k m t b) (List.replicate c cA) = { stT k m t b with opn := ups (k - c) } :=
  closes_run (g := stT k m t b) c (k - c) (by rw [Nat.sub_add_cancel hc]; rfl) (fun i hi => name_stM k m i (by omega))
theorem closes_M (k m : Nat) (c : Nat) (hc : c ≤ k) : runE (stM k m) (List.replicate c cA) = 0 ∧ runS (stM k m) (List.replicate c cA) = { stM k m with opn := ups (k - c) } :=
  closes_run (g := stM k m) c (k - c) (by rw [Nat.sub_add_cancel hc]; rfl) (fun i hi => name_stM k m i (by omega))
theorem top_nil {g : Gro} (h : g.opn = []) : topG g = -1 := by unfold topG; rw [h]; rfl
theorem take_out {g : Gro} (h : g.opn = []) {t : List UInt8} (hb : blankB t = true) : takeE g (xT t) = 0 ∧ takeS g (xT t) = g := by
  have ht := top_nil h
  constructor
  · unfold takeE
    rw [ht, if_neg (by simp [xT]), if_neg (by simp [xT]), if_pos (by rfl), if_neg (fun x => x.2 hb)]
  · unfold takeS
    rw [ht, if_neg (by simp [xT]), if_neg (by simp [xT]), if_pos (by decide)]
theorem take_out_no {g : Gro} (h : g.opn = []) {t : List UInt8} (hb : blankB t = false) : takeE g (xT t) = 10 := by
  have ht := top_nil h
  unfold takeE
  rw [ht, if_neg (by simp [xT]), if_neg (by simp [xT]), if_pos (by rfl), if_pos ⟨by decide, by show ¬ blankB t = true; rw [hb]; decide⟩]
theorem end_T (k : Nat) (h1 : 1 ≤ k) (t : List UInt8) (b : Bool) : endE { stT k 0 t b with opn := [] } = 0 ∧ (endF { stT k 0 t b with opn := [] } 0 (stM k 0).l).length = k ∧ ((endF { stT k 0 t b with opn := [] } 0 (stM k 0).l)[k - 1]?).map (·.text) = some t := by
  have hlast : kidsL (stM k 0).l ((k - 1 : Nat) : Int) = [] := kids_none _ _ (by rw [len_stM]; omega) (fun i e => by
    rw [par_stM] at e
    split at e
    · injection e with e; omega
    · split at e
      · omega
      · cases e)
  refine ⟨?_, by rw [endF_len, len_stM]; rfl, ?_⟩
  · unfold endE
    rw [if_neg, mix_no]
    · rfl
    · intro j hj
      have hj2 : j < k := by
        have : (stM k 0).l.length = k := by rw [len_stM]; rfl
        have hj3 : j < (stM k 0).l.length := hj
        omega
      by_cases hk : j = k - 1
      · left
        rw [hk]
        exact hlast
      · right
        show (((List.replicate (k + 0) false).set (k - 1) b)[j]?).getD false = false
        rw [List.getElem?_set_ne (by omega), List.getElem?_replicate]
        split <;> rfl
    · rintro (h | h)
      · have h2 : (stM k 0).l = [] := h
        have := congrArg List.length h2
        rw [len_stM] at this
        simp at this
        omega
      · exact h rfl
  · rw [endF_get, Option.map_map]
    have hl : k - 1 < (stM k 0).l.length := by rw [len_stM]; omega
    rw [List.getElem?_eq_getElem hl]
    simp only [Option.map_some, Nat.zero_add, Function.comp]
    have h3 : kidsL ({ stT k 0 t b with opn := [] } : Gro).l ((k - 1 : Nat) : Int) = [] := hlast
    rw [if_pos h3]
    show some ((((List.replicate (k + 0) []).set (k - 1) t)[k - 1]?).getD []) = some t
    rw [List.getElem?_set_self (by simp; omega)]
    rfl
/-- a text in the innermost one -/
def deepT (n : Nat) (t : List UInt8) : List Tok := List.replicate n oA ++ [xT t] ++ List.replicate n cA
theorem deep_run (n : Nat) (h1 : 1 ≤ n) (h2 : n ≤ 32) (t : List UInt8) : runE g0 (deepT n t) = 0 ∧ runS g0 (deepT n t) = { stT n 0 t (!blankB t) with opn := [] } := by
  have h := run_steps (run_steps (opens_run n h2) (run_one (take_x n 0 h1 t))) (closes_T n 0 t (!blankB t) n (Nat.le_refl _))
  rw [Nat.sub_self] at h
  exact h
theorem deep_ok (n : Nat) (h1 : 1 ≤ n) (h2 : n ≤ 32) (t : List UInt8) : buildE (deepT n t) = 0 ∧ (buildL (deepT n t)).length = n ∧ ((buildL (deepT n t))[n - 1]?).map (·.text) = some t := by
  obtain ⟨e1, e2⟩ := buildE_of (deep_run n h1 h2 t)
  obtain ⟨a1, a2, a3⟩ := end_T n h1 t (!blankB t)
  refine ⟨by rw [e1, a1], ?_, ?_⟩
  · rw [e2 a1]; exact a2
  · rw [e2 a1]; exact a3
theorem blank_ok (n : Nat) (h1 : 1 ≤ n) (h2 : n ≤ 32) (t a b : List UInt8) (ha : blankB a = true) (hb : blankB b = true) :
    buildE ([xT a] ++ deepT n t ++ [xT b]) = 0 ∧ (buildL ([xT a] ++ deepT n t ++ [xT b])).length = n ∧ ((buildL ([xT a] ++ deepT n t ++ [xT b]))[n - 1]?).map (·.text) = some t := by
  have hr := run_steps (run_steps (run_one (take_out (g := g0) rfl ha)) (deep_run n h1 h2 t)) (run_one (take_out rfl hb))
  obtain ⟨e1, e2⟩ := buildE_of hr
  obtain ⟨a1, a2, a3⟩ := end_T n h1 t (!blankB t)
  refine ⟨by rw [e1, a1], ?_, ?_⟩
  · rw [e2 a1]; exact a2
  · rw [e2 a1]; exact a3
theorem deep_no (n : Nat) (h : 32 < n) (t : List UInt8) : buildE (deepT n t) = 11 ∧ buildL (deepT n t) = [] := by
  refine buildE_bad ?_ (by decide)
  unfold deepT
  rw [List.append_assoc]
  exact opens_deep h _
theorem few_no (n : Nat) (h1 : 1 ≤ n) (h2 : n ≤ 32) : buildE (List.replicate n oA ++ List.replicate (n - 1) cA) = 10 := by
  have hr := run_steps (opens_run n h2) (closes_M n 0 (n - 1) (by omega))
  rw [(buildE_of hr).1]
  unfold endE
  rw [if_pos]
  right
  show ups (n - (n - 1)) ≠ []
  rw [show n - (n - 1) = 1 from by omega]
  decide
theorem full_run (n : Nat) (h2 : n ≤ 32) : runE g0 (List.replicate n oA ++ List.replicate n cA) = 0 ∧ runS g0 (List.replicate n oA ++ List.replicate n cA) = { stM n 0 with opn := [] } := by
  have h := run_steps (opens_run n h2) (closes_M n 0 n (Nat.le_refl _))
  rw [Nat.sub_self] at h
  exact h
theorem more_no (n : Nat) (h2 : n ≤ 32) : buildE (List.replicate n oA ++ List.replicate n cA ++ [cA]) = 10 := by
  refine (buildE_bad (run_bad (full_run n h2) ?_) (by decide)).1
  rw [runE_one]
  unfold takeE
  rw [top_nil rfl, if_neg (by simp [cA]), if_pos (by rfl), if_pos (.inl (by decide))]
theorem second_no (n : Nat) (h1 : 1 ≤ n) (h2 : n ≤ 32) : buildE (List.replicate n oA ++ List.replicate n cA ++ [oB]) = 10 := by
  refine (buildE_bad (run_bad (full_run n h2) ?_) (by decide)).1
  rw [runE_one]
  unfold takeE
  rw [top_nil rfl, if_pos (by rfl), if_neg (by simp [oB]), if_pos]
  refine ⟨by decide, ?_⟩
  show 0 < (stM n 0).l.length
  rw [len_stM]; omega
theorem text_no (n : Nat) (h2 : n ≤ 32) : buildE (List.replicate n oA ++ List.replicate n cA ++ [xT [120]]) = 10 := by
  refine (buildE_bad (run_bad (full_run n h2) ?_) (by decide)).1
  rw [runE_one]
  exact take_out_no rfl (by decide)
theorem other_no (n : Nat) (h1 : 1 ≤ n) (h2 : n ≤ 32) : buildE (List.replicate n oA ++ List.replicate (n - 1) cA ++ [cB]) = 10 := by
  refine (buildE_bad (run_bad (run_steps (opens_run n h2) (closes_M n 0 (n - 1) (by omega))) ?_) (by decide)).1
  rw [runE_one]
  unfold takeE
  rw [top_ups' (k := 1) (by show ups (n - (n - 1)) = ups 1; rw [show n - (n - 1) = 1 from by omega]), if_neg (by simp [cB]), if_pos (by rfl), if_pos]
  right
  have := name_stM n 0 0 (by omega)
  show nameAt (stM n 0).l (((1 : Nat) : Int) - 1) ≠ [98]
  rw [show (((1 : Nat) : Int) - 1) = ((0 : Nat) : Int) from rfl, this]
  decide
theorem mixed_no (n : Nat) (h1 : 1 ≤ n) (h2 : n < 32) : buildE (List.replicate n oA ++ [oB] ++ [xT [120]] ++ List.replicate n cA) = 12 := by
  have hr := run_steps (run_steps (run_steps (opens_run n (by omega)) (run_one (take_b n 0 h1 h2 (by omega)))) (run_one (take_x n 1 h1 [120]))) (closes_T n 1 [120] (!blankB [120]) n (Nat.le_refl _))
  rw [(buildE_of hr).1]
  unfold endE
  rw [if_neg, if_pos]
  · refine mix_yes (j := n - 1) ?_ ?_ _ ?_
    · refine kids_some (k := n) (by show n - 1 < (stM n 1).l.length; rw [len_stM]; omega) ?_
      show ((stM n 1).l[n]?).map (·.parent) = _
      rw [par_stM, if_neg (by omega), if_pos (by omega)]
      congr 1
      omega
    · show (((List.replicate (n + 1) false).set (n - 1) (!blankB [120]))[n - 1]?).getD false = true
      rw [List.getElem?_set_self (by simp; omega)]
      rfl
    · show n - 1 < (stM n 1).l.length
      rw [len_stM]; omega
  · rintro (h | h)
    · have h3 : (stM n 1).l = [] := h
      have := congrArg List.length h3
      rw [len_stM] at this
      simp at this
    · apply h
      show ups (n - n) = []
      rw [Nat.sub_self]
      rfl
end Go.Proofs.YtbfodbejdaafaaaGreatDoor
/- The statements' own Build and Parse. -/
namespace Go.Proofs.YtbfodbejdaafaaaGreatDoor
open Go.RowKit
set_option maxHeartbeats 1000000
set_option linter.unusedVariables false

theorem gr_set_sum : ∀ (l : List (List UInt8)) (i : Nat) (y : List UInt8), ((l.set i ((l[i]?).getD [] ++ y)).map List.length).sum ≤ (l.map List.length).sum + y.length
  | [], i, y => by simp
  | x :: l, 0, y => by simp; omega
  | x :: l, i + 1, y => by
    have := gr_set_sum l i y
    simp only [List.getElem?_cons_succ, List.set_cons_succ, List.map_cons, List.sum_cons]
    omega
theorem take_txt (g : Gro) (t : Tok) : ((takeS g t).txt.map List.length).sum ≤ (g.txt.map List.length).sum + t.text.length := by
  unfold takeS
  split
  · simp
  split
  · simp only; omega
  split
  · omega
  · exact gr_set_sum _ _ _
theorem gr_run_one (g : Gro) (t : Tok) : runS g [t] = takeS g t := rfl
theorem gr_runE_one (g : Gro) (t : Tok) : runE g [t] = takeE g t := by
  show (if takeE g t = 0 then 0 else takeE g t) = _
  split <;> simp_all
/-- where two lists meet -/
theorem mid_at (E l : List Nod) (k : Nat) (hk : k < l.length) (hE : E.length = l.length) : (E.take k ++ l.drop k)[k]? = some l[k] := by
  rw [List.getElem?_append_right (by rw [List.length_take]; omega), List.length_take, show k - min k E.length = 0 by omega, List.getElem?_drop, Nat.add_zero, List.getElem?_eq_getElem hk]
theorem mid_step (E l : List Nod) (k : Nat) (hk : k < l.length) (hE : E.length = l.length) (x : Nod) (hx : E[k]? = some x) : (E.take k ++ l.drop k).set k x = E.take (k + 1) ++ l.drop (k + 1) := by
  have h1 : (E.take k).length = k := by rw [List.length_take]; omega
  have h2 : k < E.length := by omega
  rw [List.set_append_right _ _ (by omega), h1, Nat.sub_self, List.drop_eq_getElem_cons hk, List.set_cons_zero, List.take_succ_eq_append_getElem h2, List.append_assoc, List.singleton_append]
  rw [List.getElem?_eq_getElem h2] at hx
  injection hx with hx
  rw [hx]
theorem mid_same (E l : List Nod) (k : Nat) (hk : k < l.length) (hE : E.length = l.length) (hx : E[k]? = l[k]?) : E.take k ++ l.drop k = E.take (k + 1) ++ l.drop (k + 1) := by
  have h2 : k < E.length := by omega
  rw [List.getElem?_eq_getElem h2, List.getElem?_eq_getElem hk] at hx
  injection hx with hx
  rw [List.drop_eq_getElem_cons hk, List.take_succ_eq_append_getElem h2, List.append_assoc, List.singleton_append, hx]
theorem mid_par (g : Gro) (k : Nat) : ((endF g 0 g.l).take k ++ g.l.drop k).map (·.parent) = g.l.map (·.parent) := by
  rw [List.map_append, List.map_take, endF_par, ← List.map_take, ← List.map_append, List.take_append_drop]
theorem mid_len (g : Gro) (k : Nat) : ((endF g 0 g.l).take k ++ g.l.drop k).length = g.l.length := by
  have := congrArg List.length (mid_par g k)
  simpa using this
theorem mix_le (g : Gro) {k n : Nat} (h : mixF g k = true) (hk : k ≤ n) : mixF g n = true := by
  induction hk with
  | refl => exact h
  | step _ ih => show (mixF g _ || _) = true; rw [ih, Bool.true_or]
/-- a node's text: how the walk reads it, and stores into it -/
theorem GrV.textAt {w : World} {base g : Nat} {v1 v2 v3 v4 : Value} {xs : List ByteArray} {G : Gro} (h : GrV w base g v1 v2 v3 v4 xs G) {k : Nat} (hk : k < G.l.length) : ∃ b1 c1 X, v1 = .slice (some ⟨b1, 0, none⟩) G.l.length c1 ∧ w.cell? ⟨b1, k * 4 + 2, none⟩ = some (.string X) ∧ w.frozen? ⟨b1, k * 4 + 2, none⟩ = false := by
  obtain ⟨ys, ho, hi⟩ := h.o1.xs
  have hat := ItemsF.at_ nod_ok hi k hk
  obtain ⟨X, Y, A, n, c, hcs, hX, _⟩ := hat
  have hlen := ItemsF.len nod_ok hi
  rcases ho.2 with ⟨_, e⟩ | ⟨b1, cap, cur, e1, _, hg, hn, hm, hc, ht⟩
  · rw [e] at hlen
    simp at hlen
    omega
  · have hbk : Bk w b1 54 cur.toList := hg
    refine ⟨b1, cap, Y, e1, ?_, hbk.frozen _⟩
    obtain ⟨A', c', e2, hr, _⟩ := RdS.of_own ho
    rw [e1] at e2
    injection e2 with e2 e3 e4
    have h1 : ((ys.drop (k * 4)).take 4)[2]? = some (.string Y) := by rw [hcs]; rfl
    rw [List.getElem?_take, if_pos (by omega), List.getElem?_drop] at h1
    have h2 := hr.cells _ e2.symm _ _ h1
    rwa [show (⟨b1, 0, none⟩ : Addr).add (k * 4 + 2) = ⟨b1, k * 4 + 2, none⟩ from by simp [Addr.add]] at h2
theorem gr_start (w : World) (ty : TypeId) (hty : ty = 75) : GrV (w.alloc (.cells #[.slice none 0 0, .slice none 0 0, .slice none 0 0, .slice none 0 0] ty)) w.heap.size w.heap.size (.slice none 0 0) (.slice none 0 0) (.slice none 0 0) (.slice none 0 0) [] g0 := by
  subst hty
  exact ⟨Bk.new w _ _, Nat.le_refl _, OwnI.nil_ _ _ _ _ _ _, World.ownsRow_nil _ _ _ _, rfl, World.ownsRow_nil _ _ _ _, World.ownsRow_nil _ _ _ _,
    ⟨by simp [Value.ownBlock], by simp [Value.ownBlock], by simp [Value.ownBlock], by simp [Value.ownBlock], by simp [Value.ownBlock], by simp [Value.ownBlock], by simp [Value.ownBlock], by simp [Value.ownBlock], by simp [Value.ownBlock], by simp [Value.ownBlock]⟩⟩
set_option maxRecDepth 20000 in
theorem r_Build_any (ts : List Tok) (A : Option Addr) (n c : Nat) (N : Nat → Prop) (w : World) (hts : RdI 5 TokI w N A n c ts) (hn : n ≤ 100000000) (hsum : sumT ts ≤ 500000000) (hat : ∀ t ∈ ts, t.attrs.length ≤ 1000000) :
    Calls Tryz.prog 17 #[.slice A n c] w (NodesTo (buildL ts) (buildE ts) w) := by
  have hlen := hts.len tok_ok (by omega)
  have HTS := Lib.hid hts; have HAT := Lib.hid hat; have HSUM := Lib.hid hsum
  clear hts hat hsum
  go_enter Tryz.func17, Tryz.ntmps17
  go_wp2
  go_name_world w1 hw1
  have hb0 := gr_start w 75 rfl
  rw [hw1] at hb0
  have hf1 : Fr No w w1 := by rw [← hw1]; exact (Fr.refl No w).alloc _
  have HB0 := Lib.hid hb0
  clear hb0 hw1
  go_loopw [5] (fun iv wr => ∃ k : Nat, iv = .int .i64 (k : Int) ∧ k ≤ n ∧ GrT wr w.heap.size w.heap.size (runS g0 (ts.take k)) ∧ Fr No w wr ∧ Okg (runS g0 (ts.take k)) ∧ runE g0 (ts.take k) = 0 ∧ ((runS g0 (ts.take k)).txt.map List.length).sum ≤ sumT (ts.take k)) (fun iv _ => n - (intOf iv).toNat)
  case atStart => exact ⟨0, rfl, Nat.zero_le _, ⟨_, _, _, _, _, HB0.out⟩, hf1, ok0, rfl, by simp [runS, g0]⟩
  case round =>
    obtain ⟨k, rfl, hk, hGT, hfr, hok, hrun, htx⟩ := hrel
    rcases Nat.lt_or_ge k n with hlt | hge
    · have hltI : (k : Int) < (n : Int) := by omega
      have hkl : k < ts.length := by omega
      obtain ⟨ad, cs, rfl, ⟨X, Y, A1, n1, c1, rfl, hX, hY, hA1⟩, hc⟩ := (HTS.out.no tok_ok hfr).at_ tok_ok (by omega) (i := k) hkl
      have x0 := hc 0 _ rfl
      have x1 := hc 1 _ rfl
      have x2 := hc 2 _ rfl
      have x3 := hc 3 _ rfl
      have x4 := hc 4 _ rfl
      rw [add_next ad] at x1 x2 x3 x4
      obtain ⟨P, hP⟩ : ∃ P, ad.add (k * 5) = P := ⟨_, rfl⟩
      rw [Nat.add_zero, hP] at x0
      rw [hP] at x1 x2 x3 x4
      have htake : ts.take (k + 1) = ts.take k ++ [ts[k]] := List.take_succ_eq_append_getElem hkl
      have hsplit : ts = ts.take k ++ ts[k] :: ts.drop (k + 1) := by rw [← List.drop_eq_getElem_cons hkl, List.take_append_drop]
      have hsum1 : sumT (ts.take (k + 1)) = sumT (ts.take k) + ts[k].text.length := by rw [htake, sumT_app, sumT_one]
      have hsum2 : sumT (ts.take k) + ts[k].text.length ≤ 500000000 := by rw [← hsum1]; exact Nat.le_trans (sumT_take _ _) HSUM.out
      have han := hA1.len attr_ok (by omega)
      have hat1 := HAT.out _ (List.getElem_mem hkl)
      have hRS : runS g0 (ts.take (k + 1)) = takeS (runS g0 (ts.take k)) ts[k] := by rw [htake, runS_app, gr_run_one]
      have hRE : runE g0 (ts.take (k + 1)) = takeE (runS g0 (ts.take k)) ts[k] := by rw [htake, runE_app _ _ _ hrun, gr_runE_one]
      have hAll : takeE (runS g0 (ts.take k)) ts[k] ≠ 0 → runE g0 ts = takeE (runS g0 (ts.take k)) ts[k] := by
        intro h
        have h2 : runE g0 (ts.take k ++ ts[k] :: ts.drop (k + 1)) = takeE (runS g0 (ts.take k)) ts[k] := by
          rw [runE_app _ _ _ hrun]
          show (if takeE (runS g0 (ts.take k)) ts[k] = 0 then _ else _) = _
          rw [if_neg h]
        rwa [← hsplit] at h2
      have hTX := take_txt (runS g0 (ts.take k)) ts[k]
      have hoks : takeE (runS g0 (ts.take k)) ts[k] = 0 → Okg (takeS (runS g0 (ts.take k)) ts[k]) := fun h => ok_take hok h
      have hYs : Y.size = ts[k].text.length := by rw [← size_list, hY]
      have HTK := Lib.hid (r_take_any X Y A1 n1 c1 ts[k] wr _ hGT hok hX hY hA1 (by omega) (by omega) (by omega))
      rw [← hsum1] at hsum2
      have hT2 : ((takeS (runS g0 (ts.take k)) ts[k]).txt.map List.length).sum ≤ sumT (ts.take (k + 1)) := by omega
      clear hsplit htake hsum1 hsum2 hTX hYs han hat1 hX hY hA1 hc hrun htx hGT hok
      generalize takeS (runS g0 (ts.take k)) ts[k] = G2 at *
      generalize takeE (runS g0 (ts.take k)) ts[k] = E at *
      generalize ts[k] = t at *
      have hz := hfr.size
      have HFR := Lib.hid hfr; have HRS := Lib.hid hRS; have HRE := Lib.hid hRE; have HALL := Lib.hid hAll; have HOK := Lib.hid hoks; have HT2 := Lib.hid hT2
      clear hfr hRS hRE hAll hoks hT2
      by_cases hE : E = 0
      · have hEb : (E != 0) = false := by rw [hE]; rfl
        have HE := Lib.hid hE
        clear hE
        go_wp2_with (go_at_call 32; refine HTK.out.mono ?_; rintro e w2 ⟨rfl, f2, g2⟩)
        go_roundw
        case rel => exact ⟨k + 1, by go_num, by omega, by rw [HRS.out]; exact g2 HE.out, HFR.out.trans_new f2 (fun i hi => .inr hi), by rw [HRS.out]; exact HOK.out HE.out, by rw [HRE.out]; exact HE.out, by rw [HRS.out]; exact HT2.out⟩
        case measure => simp [intOf]; omega
      · have hEb : (E != 0) = true := by rw [bne_iff_ne]; exact hE
        have HE := Lib.hid hE
        clear hE
        go_wp2_with (go_at_call 32; refine HTK.out.mono ?_; rintro e w2 ⟨rfl, f2, g2⟩)
        go_ret2
        have hr := HALL.out HE.out
        have e1 : buildE ts = E := by unfold buildE; rw [hr, if_neg HE.out]
        have e2 : buildL ts = [] := by unfold buildL; rw [e1, if_neg HE.out]
        rw [e1, e2]
        exact ⟨_, rfl, OwnI.nil_ _ _ _ _ _ _, HFR.out.trans_new f2 (fun i hi => .inr hi)⟩
    · obtain rfl : k = n := by omega
      have hall : ts.take ts.length = ts := List.take_length
      subst hlen
      rw [hall] at hGT hok hrun
      clear htx hall
      obtain ⟨v1, v2, v3, v4, xs, hV⟩ := hGT
      obtain ⟨A1, c1, rfl, hd1⟩ := hV.len1
      obtain ⟨A2, c2, rfl, hr2, -⟩ := Rd.of_own hV.o2
      have e0 : wr.cell? ⟨w.heap.size, 0, none⟩ = some _ := hV.bk.cell 0
      have e1 : wr.cell? ⟨w.heap.size, 1, none⟩ = some _ := hV.bk.cell 1
      have hbE : buildE ts = endE (runS g0 ts) := by unfold buildE; rw [if_pos hrun]
      have hbL : endE (runS g0 ts) = 0 → buildL ts = endF (runS g0 ts) 0 (runS g0 ts).l := by intro h; unfold buildL; rw [hbE, if_pos h]
      have hbN : endE (runS g0 ts) ≠ 0 → buildL ts = [] := by intro h; unfold buildL; rw [hbE, if_neg h]
      generalize runS g0 ts = G at *
      have htop := hok.top
      have hdeep := hok.deep
      have HV := Lib.hid hV; have HOK := Lib.hid hok; have HFR := Lib.hid hfr; have HBL := Lib.hid hbL; have HBN := Lib.hid hbN; have HBE := Lib.hid hbE
      clear hV hok hrun hbE hfr hr2 hbL hbN
      by_cases hl : G.l.length = 0
      · have hlb : ((G.l.length : Int) == 0) = true := by rw [hl]; rfl
        have hE : endE G = 10 := by unfold endE; rw [if_pos (.inl (List.eq_nil_of_length_eq_zero hl))]
        have HE := Lib.hid hE
        clear hl hE
        go_wp2
        go_ret2
        rw [HBE.out, HBN.out (by rw [HE.out]; decide), HE.out]
        exact ⟨_, rfl, OwnI.nil_ _ _ _ _ _ _, HFR.out⟩
      have hlb : ((G.l.length : Int) == 0) = false := by rw [beq_eq_false_iff_ne]; omega
      by_cases hop : G.opn.length = 0
      · have hob : ¬ (0 : Int) < (G.opn.length : Int) := by omega
        have hne : ¬ (G.l = [] ∨ G.opn ≠ []) := by
          rintro (h | h)
          · rw [h] at hl; exact hl rfl
          · exact h (List.eq_nil_of_length_eq_zero hop)
        have hmix : endE G = if mixF G G.l.length then 12 else 0 := by unfold endE; rw [if_neg hne]
        have hEl := endF_len G G.l 0
        have HMX := Lib.hid hmix; have HEL := Lib.hid hEl
        clear hne hmix hEl hl hop
        go_wp2
        go_loopw [7] (fun iv wx => ∃ k : Nat, iv = .int .i64 (k : Int) ∧ k ≤ G.l.length ∧ GrT wx w.heap.size w.heap.size { G with l := (endF G 0 G.l).take k ++ G.l.drop k } ∧ Fr No w wx ∧ mixF G k = false) (fun iv _ => G.l.length - (intOf iv).toNat)
        case atStart => exact ⟨0, rfl, Nat.zero_le _, ⟨_, _, _, _, _, HV.out⟩, HFR.out, rfl⟩
        case round =>
          clear e0 e1 HV
          obtain ⟨k, rfl, hk, ⟨v1, v2, v3, v4, xs, hV⟩, hfr, hmx⟩ := hrel
          have hml := mid_len G k
          obtain ⟨A1, c1, rfl, hd1⟩ := hV.len1
          have e0 : wr.cell? ⟨w.heap.size, 0, none⟩ = some (.slice A1 (((endF G 0 G.l).take k ++ G.l.drop k).length) c1) := hV.bk.cell 0
          rw [hml] at e0
          rcases Nat.lt_or_ge k G.l.length with hlt | hge
          · have hltI : (k : Int) < (G.l.length : Int) := by omega
            obtain ⟨A', c', e', hrd⟩ := hV.o1.rd' (M := fun _ => True) (fun _ _ => trivial) nod_ok (fun _ _ => trivial)
            obtain ⟨e1, -, e3⟩ := Value.slice.inj e'
            subst e1 e3
            have hkids : ∀ m, (kidsL G.l (k : Int)).length = m → Calls Tryz.prog 25 #[.slice A1 G.l.length c1, .int .i64 (k : Int)] wr fun e w' => ∃ A' c', e = .returned (.slice A' m c') ∧ Fr No wr w' := by
              intro m hm
              have h1 := r_Kids_any _ A1 _ c1 (k : Int) _ wr hrd (by show ((endF G 0 G.l).take k ++ G.l.drop k).length ≤ _; rw [hml]; omega)
              rw [show ({ G with l := (endF G 0 G.l).take k ++ G.l.drop k } : Gro).l.length = G.l.length from hml, show kidsL ({ G with l := (endF G 0 G.l).take k ++ G.l.drop k } : Gro).l (k : Int) = kidsL G.l (k : Int) from kidsL_par (mid_par G k) _] at h1
              refine h1.mono fun e w' ⟨v, e1, h1, h2⟩ => ?_
              obtain ⟨A', c', e2, _⟩ := Rd.of_own h1
              subst hm
              exact ⟨A', c', by rw [e1, e2], h2⟩
            have hEk : (endF G 0 G.l)[k]? = some (if kidsL G.l (k : Int) = [] then { G.l[k] with text := (G.txt[k]?).getD [] } else G.l[k]) := by
              rw [endF_get, List.getElem?_eq_getElem hlt]; simp
            have hmid := mid_at (endF G 0 G.l) G.l k hlt HEL.out
            have hxl : xs.length = G.l.length := by
              have h1 := congrArg List.length hV.ex
              have h2 := HOK.out.txt
              simp at h1
              omega
            have hil : G.ink.length = G.l.length := HOK.out.ink
            have hmxs : mixF G (k + 1) = (mixF G k || (!(kidsL G.l (k : Int)).isEmpty && (G.ink[k]?).getD false)) := rfl
            rw [hmx, Bool.false_or] at hmxs
            by_cases hkz : kidsL G.l (k : Int) = []
            · have HKD := Lib.hid (hkids 0 (by rw [hkz]; rfl))
              rw [if_pos hkz] at hEk
              rw [hkz] at hmxs
              obtain ⟨b3, c3, rfl, hc3, -⟩ := hV.at3 (k := k) (by omega)
              have htk : (G.txt[k]?).getD [] = xs[k].data.toList := by
                rw [← hV.ex, List.getElem?_map, List.getElem?_eq_getElem (by omega)]; rfl
              rw [htk] at hEk
              have hst := mid_step (endF G 0 G.l) G.l k hlt HEL.out _ hEk
              obtain ⟨b1, c1', X1, ev, hc1, hz1⟩ := hV.textAt (k := k) (by show k < ((endF G 0 G.l).take k ++ G.l.drop k).length; rw [hml]; exact hlt)
              obtain ⟨e1, -, e3⟩ := Value.slice.inj ev
              subst e1 e3
              have hxk : k < xs.length := by omega
              have hsT : ∀ u : World, GrV u w.heap.size w.heap.size (.slice (some ⟨b1, 0, none⟩) ((endF G 0 G.l).take k ++ G.l.drop k).length c1) v2 (.slice (some ⟨b3, 0, none⟩) xs.length c3) v4 xs { G with l := (endF G 0 G.l).take k ++ G.l.drop k } →
                  GrV (u.setCell ⟨b1, k * 4 + 2, none⟩ (.string xs[k])) w.heap.size w.heap.size (.slice (some ⟨b1, 0, none⟩) ((endF G 0 G.l).take k ++ G.l.drop k).length c1) v2 (.slice (some ⟨b3, 0, none⟩) xs.length c3) v4 xs { G with l := (endF G 0 G.l).take (k + 1) ++ G.l.drop (k + 1) } := by
                intro u hu
                have h := GrV.setT (G := { G with l := (endF G 0 G.l).take k ++ G.l.drop k }) (Y := xs[k]) (nd := G.l[k]) (k := k) hu hmid
                rw [show (({ G with l := (endF G 0 G.l).take k ++ G.l.drop k } : Gro).l.set k { G.l[k] with text := xs[k].data.toList }) = (endF G 0 G.l).take (k + 1) ++ G.l.drop (k + 1) from hst] at h
                exact h
              have hc2 : wr.cell? ⟨w.heap.size, 2, none⟩ = some (.slice (some ⟨b3, 0, none⟩) xs.length c3) := hV.bk.cell 2
              generalize xs[k] = Y at *
              have HC1 := Lib.hid hc1; have HC2 := Lib.hid hc2; have HC3 := Lib.hid hc3; have HV := Lib.hid hV; have HFR2 := Lib.hid hfr; have HSETT := Lib.hid hsT; have HMXS := Lib.hid hmxs
              clear hV hfr hst hsT hmxs hEk hmid htk hkids hkz hmx hrd e' ev hc1 hc2 hc3 hz1 e0
              have hxI : (k : Int) < (xs.length : Int) := by omega
              have hk0 : (0 : Int) ≤ (k : Int) := by omega
              have e0 : wr.cell? ⟨w.heap.size, 0, none⟩ = some (.slice (some ⟨b1, 0, none⟩) G.l.length c1) := by have h := HV.out.bk.cell 0; rw [hml] at h; exact h
              go_wp2_with (go_at_call 25; refine HKD.out.mono ?_; rintro e w2 ⟨A8, c8, rfl, f2⟩; have F2 := Lib.hid f2; clear f2)
              refine wp_region_reads 12 (by kernel_rfl) (by kernel_rfl) ?_
              intro u4 hd4
              simp only [List.take_succ_cons, List.take_zero, List.drop_succ_cons, List.drop_zero]
              have hV4 := (HV.out.no F2.out).no hd4.fr
              have d0 : u4.cell? ⟨w.heap.size, 0, none⟩ = some (.slice (some ⟨b1, 0, none⟩) G.l.length c1) := by have h := hV4.bk.cell 0; rw [hml] at h; exact h
              have d2 : u4.cell? ⟨w.heap.size, 2, none⟩ = some (.slice (some ⟨b3, 0, none⟩) xs.length c3) := hV4.bk.cell 2
              have d3 : u4.cell? ⟨b3, k, none⟩ = some (.string Y) := (F2.out.trans hd4.fr).cell HC3.out (fun x => x)
              have d1 : u4.cell? ⟨b1, k * 4 + 2, none⟩ = some (.string X1) := (F2.out.trans hd4.fr).cell HC1.out (fun x => x)
              obtain ⟨b1', c1', X1', ev, -, z1⟩ := hV4.textAt (k := k) (by show k < ((endF G 0 G.l).take k ++ G.l.drop k).length; rw [hml]; exact hlt)
              obtain ⟨e1, -, e3⟩ := Value.slice.inj ev
              injection e1 with e1
              injection e1 with e1
              subst e1 e3
              have HV4 := Lib.hid hV4
              clear hV4 ev
              repeat still_step
              refine wpStill_nil ?_
              go_wp2
              go_roundw
              case rel => exact ⟨k + 1, by go_num, by omega, ⟨_, _, _, _, _, HSETT.out _ HV4.out⟩, ((HFR2.out.trans F2.out).trans hd4.fr).setCell (p := ⟨b1, k * 4 + 2, none⟩) (.inr (HV4.out.o1.lt b1 rfl).1) _, by rw [HMXS.out]; rfl⟩
              case measure => simp [intOf]; omega
            · obtain ⟨q, hq⟩ : ∃ q, (kidsL G.l (k : Int)).length = q + 1 := by
                cases hh : kidsL G.l (k : Int) with
                | nil => exact absurd hh hkz
                | cons a r => exact ⟨r.length, rfl⟩
              have HKD := Lib.hid (hkids (q + 1) hq)
              rw [if_neg hkz] at hEk
              have hie : (kidsL G.l (k : Int)).isEmpty = false := by
                cases hh : kidsL G.l (k : Int) with
                | nil => exact absurd hh hkz
                | cons a r => rfl
              rw [hie, List.getElem?_eq_getElem (by omega), Option.getD_some] at hmxs
              obtain ⟨b4, c4, rfl, hc4, -⟩ := hV.at4 (k := k) (by show k < G.ink.length; omega)
              have hsame := mid_same (endF G 0 G.l) G.l k hlt HEL.out (by rw [hEk, List.getElem?_eq_getElem hlt])
              have hik : k < G.ink.length := by omega
              have hc4 : wr.cell? ⟨b4, k, none⟩ = some (.bool G.ink[k]) := hc4
              have e3 : wr.cell? ⟨w.heap.size, 3, none⟩ = some (.slice (some ⟨b4, 0, none⟩) G.ink.length c4) := hV.bk.cell 3
              generalize G.ink[k] = z at hc4 hmxs
              have HV := Lib.hid hV; have HFR2 := Lib.hid hfr; have HMXS := Lib.hid hmxs; have HSM := Lib.hid hsame; have HC4 := Lib.hid hc4; have E3 := Lib.hid e3
              clear hV hfr hmxs hEk hmid hkids hkz hmx hrd e' hie hq hsame hc4 e3
              have hxI : (k : Int) < (G.ink.length : Int) := by omega
              have hk0 : (0 : Int) ≤ (k : Int) := by omega
              have hq1 : ((q : Int) + 1 == 0) = false := by rw [beq_eq_false_iff_ne]; omega
              cases z
              · go_wp2_with (go_at_call 25; refine HKD.out.mono ?_; rintro e w2 ⟨A8, c8, rfl, f2⟩; have F2 := Lib.hid f2; have c3' := f2.cell E3.out (fun x => x); have c4' := f2.cell HC4.out (fun x => x))
                go_roundw
                case rel => exact ⟨k + 1, by go_num, by omega, by rw [← HSM.out]; exact ⟨_, _, _, _, _, HV.out.no F2.out⟩, HFR2.out.trans F2.out, by rw [HMXS.out]; rfl⟩
                case measure => simp [intOf]; omega
              · go_wp2_with (go_at_call 25; refine HKD.out.mono ?_; rintro e w2 ⟨A8, c8, rfl, f2⟩; have F2 := Lib.hid f2; have c3' := f2.cell E3.out (fun x => x); have c4' := f2.cell HC4.out (fun x => x))
                go_ret2
                have hE : endE G = 12 := by rw [HMX.out, if_pos (mix_le G (by rw [HMXS.out]; rfl) hlt)]
                rw [HBE.out, HBN.out (by rw [hE]; decide), hE]
                exact ⟨_, rfl, OwnI.nil_ _ _ _ _ _ _, HFR2.out.trans F2.out⟩
          · obtain rfl : k = G.l.length := by omega
            have hE : endE G = 0 := by rw [HMX.out, hmx]; rfl
            have hfin : (endF G 0 G.l).take G.l.length ++ G.l.drop G.l.length = endF G 0 G.l := by
              rw [List.drop_length, List.append_nil, List.take_of_length_le (by rw [HEL.out]; exact Nat.le_refl _)]
            have HV := Lib.hid hV; have HFR2 := Lib.hid hfr; have HE := Lib.hid hE; have HFIN := Lib.hid hfin
            clear hV hfr hE hfin hmx hml
            go_wp2
            go_ret2
            rw [HBE.out, HBL.out HE.out, HE.out]
            have ho := HV.out.o1
            have hL : (endF G 0 G.l).length = G.l.length := HEL.out
            refine ⟨_, rfl, ?_, HFR2.out⟩
            rw [show ({ G with l := (endF G 0 G.l).take G.l.length ++ G.l.drop G.l.length } : Gro).l = endF G 0 G.l from HFIN.out, hL] at ho
            have ho2 := ho.mono nod_ok (M := fun i => w.heap.size ≤ i ∧ i < wr.heap.size) (fun i hi => ⟨hi.1, hi.2.1⟩)
            rw [show ((endF G 0 G.l).take G.l.length ++ G.l.drop G.l.length).length = G.l.length from mid_len G _] at ho2
            rw [hL]
            exact ho2
      · have hob : (0 : Int) < (G.opn.length : Int) := by omega
        have hE : endE G = 10 := by unfold endE; rw [if_pos (.inr (fun h => hop (by rw [h]; rfl)))]
        have HE := Lib.hid hE
        clear hl hE hop
        go_wp2
        go_ret2
        rw [HBE.out, HBN.out (by rw [HE.out]; decide), HE.out]
        exact ⟨_, rfl, OwnI.nil_ _ _ _ _ _ _, HFR.out⟩
end Go.Proofs.YtbfodbejdaafaaaGreatDoor
/- The statements' own Parse: a file's nodes. -/
namespace Go.Proofs.YtbfodbejdaafaaaGreatDoor
open Go.RowKit
set_option maxHeartbeats 1000000
set_option linter.unusedVariables false

theorem r_Parse_any (S : ByteArray) (w : World) (hs : S.size ≤ 65536) :
    Calls Tryz.prog 7 #[.string S] w (NodesTo (parseL S.data.toList) (parseE S.data.toList) w) := by
  have htk := r_Tokens_any S w hs
  obtain ⟨h1, h2, h3⟩ := tokL_small S.data.toList (by rw [size_list]; exact hs)
  have hE : parseE S.data.toList = if tokE S.data.toList = 0 then buildE (tokL S.data.toList) else tokE S.data.toList := rfl
  have hL : parseL S.data.toList = if tokE S.data.toList = 0 then buildL (tokL S.data.toList) else [] := rfl
  rw [hE, hL]
  generalize tokE S.data.toList = E at *
  generalize tokL S.data.toList = L at *
  have HT := Lib.hid htk; have H3 := Lib.hid h3; have H1 := Lib.hid h1
  clear htk h3 hE hL h1
  by_cases he : E = 0
  · have hev : (E != 0) = false := by rw [he]; rfl
    have hbu := fun u A c N (hr : RdI 5 TokI u N A L.length c L) => r_Build_any L A L.length c N u hr (by omega) (Nat.le_trans H1.out (by omega)) (fun t ht => Nat.le_trans (H3.out t ht) (by omega))
    have HBU := Lib.hid hbu
    rw [if_pos he, if_pos he]
    clear hbu
    go_enter Tryz.func7, Tryz.ntmps7
    go_wp2_with (first
      | (go_at_call 16; refine HT.out.mono ?_; rintro e w1 ⟨v, rfl, ho1, hf1⟩; obtain ⟨A1, c1, rfl, hr1⟩ := toks_rd' ho1)
      | (go_at_call 17; refine (HBU.out _ _ _ _ hr1).mono ?_; rintro e w2 ⟨v2, rfl, ho2, hf2⟩))
    go_ret2
    have hz := hf1.size
    exact ⟨v2, rfl, (ho2.low nod_ok hz).mono nod_ok (fun i hi => ⟨Nat.le_trans hz hi.1, hi.2⟩), hf1.trans hf2⟩
  · have hev : (E != 0) = true := by rw [bne_iff_ne]; exact he
    rw [if_neg he, if_neg he]
    go_enter Tryz.func7, Tryz.ntmps7
    go_wp2_with (go_at_call 16; refine HT.out.mono ?_; rintro e w1 ⟨v, rfl, ho1, hf1⟩; obtain ⟨A1, c1, rfl, hr1⟩ := toks_rd' ho1)
    go_ret2
    exact ⟨_, rfl, OwnI.nil_ _ _ _ _ _ _, hf1⟩
end Go.Proofs.YtbfodbejdaafaaaGreatDoor
/- How much nodes are. No program. -/
namespace Go.Proofs.YtbfodbejdaafaaaGreatDoor
set_option linter.unusedVariables false

/-- how much an attribute, a node is -/
def wtA (x : List UInt8 × List UInt8) : Nat := x.1.length + x.2.length + 1
def wtN (n : Nod) : Nat := n.name.length + n.text.length + (n.attrs.map wtA).sum + 1
theorem le_sum {α : Type} (f : α → Nat) : ∀ {l : List α} {x : α}, x ∈ l → f x ≤ (l.map f).sum
  | y :: l, x, h => by
    simp only [List.map_cons, List.sum_cons]
    rcases List.mem_cons.1 h with rfl | h
    · omega
    · have := le_sum f h; omega
theorem len_sum {α : Type} (f : α → Nat) (h1 : ∀ x, 1 ≤ f x) : ∀ l : List α, l.length ≤ (l.map f).sum
  | [] => by simp
  | x :: l => by
    have := len_sum f h1 l
    have := h1 x
    simp only [List.map_cons, List.sum_cons, List.length_cons]
    omega
end Go.Proofs.YtbfodbejdaafaaaGreatDoor
/- What is parsed is never much more than its text. -/
namespace Go.Proofs.YtbfodbejdaafaaaGreatDoor
set_option linter.unusedVariables false

def wtT (t : Tok) : Nat := t.name.length + t.text.length + (t.attrs.map wtA).sum + 1
theorem attrP_wt {used : List (List UInt8 × List UInt8)} {l r : List UInt8} {a : List UInt8 × List UInt8} (h : attrP used l = some (a, r)) : wtA a + r.length ≤ l.length := by
  unfold attrP at h
  simp only at h
  split at h
  · cases h
  split at h
  · cases h
  rename_i l1 h1
  have e1 := (isP_len h1).2
  have e0 := whl_len isWi l
  have e2 := drop_while_le isBl (l.dropWhile isWi)
  split at h
  · cases h
  rename_i mark q h2
  have e3 := drop_while_le isBl l1
  rw [h2] at e3
  split at h
  · cases h
  split at h
  · cases h
  rename_i c rest h3
  have e4 := whl_len (fun c => decide (c ≠ mark ∧ c.toNat ≠ 60)) q
  rw [h3] at e4
  split at h
  · cases h
  rw [Option.map_eq_some_iff] at h
  obtain ⟨v, hv, hh⟩ := h
  have e5 := vlF_len _ _ _ hv
  simp only [Prod.mk.injEq] at hh
  obtain ⟨rfl, rfl⟩ := hh
  unfold wtA
  simp only [List.length_cons, List.length_nil] at *
  omega
theorem opF_wt : ∀ (f : Nat) (name : List UInt8) (attrs : List (List UInt8 × List UInt8)) (l : List UInt8) (t : Tok) (rest : List UInt8), openF f name attrs l = some (t, rest) → wtT t + rest.length ≤ name.length + (attrs.map wtA).sum + 1 + l.length
  | 0, _, _, _, _, _, h => by cases h
  | f + 1, name, attrs, l, t, rest, h => by
    have e0 := drop_while_le isBl l
    unfold openF at h
    split at h
    · rename_i r h1
      have e1 := (isP_len h1).2
      simp only [Option.some.injEq, Prod.mk.injEq] at h
      rw [← h.1, ← h.2]
      unfold wtT
      simp only [List.length_nil]
      omega
    split at h
    · rename_i r h1
      have e1 := (isP_len h1).2
      simp only [Option.some.injEq, Prod.mk.injEq] at h
      rw [← h.1, ← h.2]
      unfold wtT
      simp only [List.length_nil]
      omega
    split at h
    · cases h
    split at h
    · cases h
    rename_i x r h1
    have h2 := opF_wt f name _ r t rest h
    have h3 := attrP_wt h1
    simp only [List.map_append, List.sum_append, List.map_cons, List.map_nil, List.sum_cons, List.sum_nil] at h2
    omega
theorem tkP_wt {c : UInt8} {r rest : List UInt8} {t : Tok} (h : tokP (c :: r) = some (t, rest)) : wtT t + 2 * rest.length ≤ 2 * (c :: r).length := by
  have hless := tokP_less h
  unfold tokP at h
  split at h
  · rename_i l1 h1
    have e1 := (isP_len h1).2
    have e0 := whl_len isWi l1
    have e2 := drop_while_le isBl (l1.dropWhile isWi)
    split at h
    · cases h
    · rw [Option.map_eq_some_iff] at h
      obtain ⟨u, hu0, hu⟩ := h
      have e3 := (isP_len hu0).2
      simp only [Prod.mk.injEq] at hu
      rw [← hu.1, ← hu.2]
      unfold wtT
      simp only [List.length_nil, List.length_cons, List.map_nil, List.sum_nil] at *
      omega
  · split at h
    · rename_i l1 h1
      have e1 := (isP_len h1).2
      split at h
      · cases h
      · have h2 := opF_wt _ _ _ _ _ _ h
        have e0 := whl_len isWi l1
        simp only [List.length_cons, List.length_nil, List.map_nil, List.sum_nil] at e1 h2 hless ⊢
        omega
    · rw [Option.map_eq_some_iff] at h
      obtain ⟨u, hu, hh⟩ := h
      simp only [Prod.mk.injEq] at hh
      rw [← hh.1, ← hh.2]
      have h1 := vlF_len _ _ _ hu
      have h2 := whl_len (fun c : UInt8 => decide (c.toNat ≠ 60)) (c :: r)
      rw [← hh.2] at hless
      unfold wtT
      simp only [List.length_nil, List.length_cons, List.map_nil, List.sum_nil] at *
      omega
theorem toks_wt : ∀ (n : Nat) (l : List UInt8) (ts : List Tok), l.length ≤ n → toksV l = some ts → (ts.map wtT).sum ≤ 2 * l.length
  | _, [], ts, _, h => by
    rw [toksV_nil] at h
    injection h with h
    subst h
    exact Nat.le_refl _
  | 0, _ :: _, _, hn, _ => by simp at hn
  | n + 1, c :: r, ts, hn, h => by
    rw [toksV_cons] at h
    cases ht : tokP (c :: r) with
    | none => rw [ht] at h; cases h
    | some x =>
      obtain ⟨t, rest⟩ := x
      rw [ht] at h
      simp only [Option.map_eq_some_iff] at h
      obtain ⟨us, hu, rfl⟩ := h
      have h1 := tokP_less ht
      have h2 := tkP_wt ht
      simp only [List.length_cons] at hn h1 h2
      have i1 := toks_wt n rest us (by omega) hu
      simp only [List.map_cons, List.sum_cons, List.length_cons]
      omega
theorem tokL_wt (l : List UInt8) : ((tokL l).map wtT).sum ≤ 2 * l.length := by
  unfold tokL
  split
  · cases h : toksV (bodyL l) with
    | none => simp
    | some ts =>
      have hb := bdy_len l
      have h1 := toks_wt _ _ _ (Nat.le_refl _) h
      rw [Option.getD_some]
      omega
  · simp
def wtG (g : Gro) : Nat := (g.l.map wtN).sum + (g.txt.map List.length).sum
theorem sum_set (f : List UInt8 → Nat) : ∀ (l : List (List UInt8)) (i : Nat) (x : List UInt8), ((l.set i x).map f).sum ≤ (l.map f).sum - f ((l[i]?).getD []) + f x ∨ l.length ≤ i ∧ l.set i x = l
  | [], i, x => .inr ⟨by simp, rfl⟩
  | y :: l, 0, x => .inl (by simp; omega)
  | y :: l, i + 1, x => by
    rcases sum_set f l i x with h | ⟨h1, h2⟩
    · by_cases hi : l.length ≤ i
      · exact .inr ⟨by simpa using hi, by rw [List.set_cons_succ, List.set_eq_of_length_le hi]⟩
      · left
        have h3 : f ((l[i]?).getD []) ≤ (l.map f).sum := by
          rw [List.getElem?_eq_getElem (by omega), Option.getD_some]
          exact le_sum f (List.getElem_mem _)
        simp only [List.set_cons_succ, List.map_cons, List.sum_cons, List.getElem?_cons_succ]
        omega
    · exact .inr ⟨by simpa using h1, by rw [List.set_cons_succ, h2]⟩
theorem take_wt (g : Gro) (t : Tok) : wtG (takeS g t) ≤ wtG g + wtT t := by
  unfold takeS
  split
  · unfold wtG wtT
    simp only [List.map_append, List.sum_append, List.map_cons, List.map_nil, List.sum_cons, List.sum_nil, wtN, List.length_nil]
    omega
  split
  · unfold wtG; simp only; omega
  split
  · omega
  · unfold wtG
    simp only
    rcases sum_set List.length g.txt (topG g).toNat ((g.txt[(topG g).toNat]?).getD [] ++ t.text) with h | ⟨_, h⟩
    · rw [List.length_append] at h
      by_cases hi : (topG g).toNat < g.txt.length
      · have h3 : ((g.txt[(topG g).toNat]?).getD []).length ≤ (g.txt.map List.length).sum := by
          rw [List.getElem?_eq_getElem hi, Option.getD_some]
          exact le_sum List.length (List.getElem_mem _)
        unfold wtT
        omega
      · rw [List.set_eq_of_length_le (by omega)]
        omega
    · rw [h]; omega
theorem run_wt : ∀ (ts : List Tok) (g : Gro), wtG (runS g ts) ≤ wtG g + (ts.map wtT).sum
  | [], g => by simp [runS]
  | t :: ts, g => by
    have h1 := run_wt ts (takeS g t)
    have h2 := take_wt g t
    simp only [runS, List.map_cons, List.sum_cons]
    omega
theorem sum_drop (l : List (List UInt8)) (i : Nat) : ((l.drop i).map List.length).sum = ((l[i]?).getD []).length + ((l.drop (i + 1)).map List.length).sum := by
  by_cases hi : i < l.length
  · rw [List.drop_eq_getElem_cons hi, List.getElem?_eq_getElem hi, Option.getD_some, List.map_cons, List.sum_cons]
  · rw [List.drop_eq_nil_of_le (by omega), List.drop_eq_nil_of_le (by omega), List.getElem?_eq_none (by omega)]
    rfl
theorem end_wt (g : Gro) : ∀ (r : List Nod) (i : Nat), ((endF g i r).map wtN).sum ≤ (r.map wtN).sum + ((g.txt.drop i).map List.length).sum
  | [], i => by simp [endF]
  | n :: r, i => by
    have h1 := end_wt g r (i + 1)
    have h2 := sum_drop g.txt i
    simp only [endF, List.map_cons, List.sum_cons]
    have h3 : wtN (if kidsL g.l i = [] then { n with text := (g.txt[i]?).getD [] } else n) ≤ wtN n + ((g.txt[i]?).getD []).length := by
      split
      · unfold wtN; simp only; omega
      · omega
    omega
theorem build_wt (ts : List Tok) : ((buildL ts).map wtN).sum ≤ (ts.map wtT).sum := by
  unfold buildL
  split
  · have h1 := end_wt (runS g0 ts) (runS g0 ts).l 0
    have h2 := run_wt ts g0
    have h3 : wtG g0 = 0 := rfl
    rw [List.drop_zero] at h1
    unfold wtG at h2 h3
    omega
  · simp
theorem parse_wt (s : List UInt8) : ((parseL s).map wtN).sum ≤ 2 * s.length := by
  unfold parseL
  split
  · exact Nat.le_trans (build_wt _) (tokL_wt s)
  · simp
end Go.Proofs.YtbfodbejdaafaaaGreatDoor
/- ModelTells: the walk. -/
namespace Go.Proofs.YtbfodbejdaafaaaGreatDoor
open Go.RowKit
set_option maxHeartbeats 1000000
set_option linter.unusedVariables false

theorem eqC_any (d : Chd) (w : World) :
    Calls Tryz.prog 19 #[d.val, d.val] w fun e w' => e = .returned (.bool true) ∧ Below w.heap.size w w' := by
  obtain ⟨a, b, c, d, e, f⟩ := d
  unfold Chd.val
  go_enter Tryz.func19, Tryz.ntmps19
  go_wp2
  go_ret
  exact ⟨rfl, (((Fr.refl No w).alloc _).alloc _).toBelow⟩
theorem sameC_any (A B : Option Addr) (n c d : Nat) (l : List Chd) (N M : Nat → Prop) (w : World) (ha : RdI 6 ChdI w N A n c l) (hb : RdI 6 ChdI w M B n d l) :
    Calls Tryz.prog 18 #[.slice A n c, .slice B n d, .func (.func 19) #[] #[]] w fun e w' => e = .returned (.bool true) ∧ Fr No w w' := by
  have hn := ha.len chd_ok (by omega)
  have hm := ha.top
  have HA := Lib.hid ha; have HB := Lib.hid hb
  clear ha hb
  go_enter Tryz.func18, Tryz.ntmps18
  go_wp2
  go_loopw [7] (fun v wr => ∃ k : Nat, k ≤ n ∧ v = .int .i64 (k : Int) ∧ Fr No w wr) (fun v _ => n - (intOf v).toNat)
  case atStart => exact ⟨0, by omega, rfl, Fr.refl _ _⟩
  case round =>
    obtain ⟨k, hk, rfl, hdr⟩ := hrel
    rcases Nat.lt_or_ge k n with hlt | hge
    · have hltI : (k : Int) < (n : Int) := by omega
      have hkl : k < l.length := by omega
      obtain ⟨ad, rfl, P, hP, c0, c1, c2, c3, c4, c5, -⟩ := chd_cells (HA.out.no chd_ok hdr) hkl
      obtain ⟨bd, rfl, Q, hQ, d0, d1, d2, d3, d4, d5, -⟩ := chd_cells (HB.out.no chd_ok hdr) hkl
      generalize l[k] = D at *
      have q0 := cell_regrown c0; have q1 := cell_regrown c1; have q2 := cell_regrown c2; have q3 := cell_regrown c3; have q4 := cell_regrown c4; have q5 := cell_regrown c5
      have r0 := cell_regrown d0; have r1 := cell_regrown d1; have r2 := cell_regrown d2; have r3 := cell_regrown d3; have r4 := cell_regrown d4; have r5 := cell_regrown d5
      have heq := fun u => eqC_any D u
      unfold Chd.val at heq
      have HEQ := Lib.hid heq
      clear heq c0 c1 c2 c3 c4 c5 d0 d1 d2 d3 d4 d5
      go_wp2
      refine wp_region_quiet_below (by kernel_rfl) (by kernel_rfl) ?_
      repeat (quiet_step ((go_at_call 19; exact Calls.regrown_of (HEQ.out _))))
      refine wpQuiet_nil ?_
      intro w7 hw7r
      obtain ⟨⟨nr, osr⟩, hw7r⟩ := hw7r
      have hf7 : Fr No wr w7 := by rw [hw7r]; exact Fr.of_below (below_regrown wr nr osr)
      clear hw7r
      go_wp2
      go_roundw
      case rel => exact ⟨k + 1, by omega, by go_num, hdr.trans hf7⟩
      case measure => simp [intOf]; omega
    · obtain rfl : k = n := by omega
      go_wp2
      go_ret
      exact ⟨rfl, hdr⟩
theorem plainC_any (A B : Option Addr) (n m c d : Nat) (l : List Chd) (N M : Nat → Prop) (w : World) (ha : RdI 6 ChdI w N A n c l) (hb : RdI 6 ChdI w M B m d l) :
    Calls Tryz.prog 8 #[.slice A n c, .slice B m d] w fun e w' => e = .returned (.bool true) ∧ Fr No w w' := by
  have h1 := ha.len chd_ok (by omega)
  have h2 := hb.len chd_ok (by omega)
  obtain rfl : n = m := by omega
  go_enter Tryz.func8, Tryz.ntmps8
  go_wp2_with (go_at_call 18; refine (sameC_any _ _ _ _ _ _ _ _ _ ha hb).mono ?_; rintro e w' ⟨rfl, hdr⟩)
  go_ret
  exact ⟨rfl, hdr⟩
theorem doc_row {w : World} {N : Nat → Prop} {A : Option Addr} {n c : Nat} (h : RdI 6 ChdI w N A n c docC) : n = 2 ∧ ∃ ad, A = some ad ∧ w.cell? ad = some (.string ⟨#[72, 100, 114]⟩) := by
  have h1 := h.len chd_ok (by omega)
  obtain ⟨ad, e1, P, hP, x0, -⟩ := chd_cells h (show 0 < docC.length by decide)
  refine ⟨h1.symm, ad, e1, ?_⟩
  have hPe : ad = P := by rw [← hP, Nat.zero_mul]; unfold Addr.add; simp
  rw [hPe]
  exact x0
theorem mod_awake (w : World) (hT : Tabs w) : Calls Tryz.prog 4 #[] w fun e w' => e = .returned (.bool true) ∧ Fr No w w' := by
  have hof := m_Of_doc
  unfold docS at hof
  have hnil := fun u (hu : Tabs u) => m_check_any [] none 0 0 (fun _ => False) u (RdI.nil_ _ _ _ _) (fun _ h => by cases h) (by omega) (fun _ h => h.elim) hu
  rw [show chkN [] = 10 from rfl] at hnil
  have HOF := Lib.hid hof; have HN := Lib.hid hnil
  clear hof hnil
  go_enter Tryz.func4, Tryz.ntmps4
  go_wp2_with (first
    | (go_at_call 5; refine (HOF.out _).mono ?_; rintro e w2 ⟨A, n, c, rfl, hR, hf2⟩; obtain ⟨rfl, ad, rfl, c0⟩ := doc_row hR)
    | (go_at_call 9; refine (HN.out _ (hT.fr hf2)).mono ?_; rintro e w3 ⟨rfl, hf3⟩))
  go_ret
  exact ⟨rfl, hf2.trans hf3⟩
theorem small_wt {L : List Nod} {k : Nat} (h : (L.map wtN).sum ≤ k) (hk : k ≤ 140737488355328) : ∀ x ∈ L, NodW x := by
  intro x hx
  have h1 := le_sum wtN hx
  have h2 : wtN x = x.name.length + x.text.length + (x.attrs.map wtA).sum + 1 := rfl
  refine ⟨by omega, by omega, ?_, fun a ha => ?_⟩
  · have h3 := len_sum wtA (fun a => by unfold wtA; omega) x.attrs
    omega
  · have h3 := le_sum wtA ha
    have h4 : wtA a = a.1.length + a.2.length + 1 := rfl
    exact ⟨by omega, by omega⟩
theorem parse_small {s : List UInt8} (h : s.length ≤ 65536) : ∀ x ∈ parseL s, NodW x := small_wt (parse_wt s) (by omega)
theorem parse_len (s : List UInt8) : (parseL s).length ≤ 500 := by
  by_cases h : parseE s = 0
  · exact (parse_stands h).top
  · rw [parse_none h]; simp
set_option maxRecDepth 20000 in
theorem tells_mod {T S : ByteArray} {ns : List Nod} {A : Option Addr} {n c : Nat} (w : World) (hTb : Tabs w) (hT63 : T.size ≤ maxLen) (hR : RdI 4 NodI w (fun i => i < w.heap.size) A n c ns) (hs : ∀ a ∈ ns, NodW a) (hS63 : S.size ≤ maxLen) :
    Calls Tryz.prog 3 #[.string T, .slice A n c, .string S] w fun e w' => e = .returned (.bool true) ∧ Fr No w w' := by
  have HAW := Lib.hid mod_awake
  have HT := Lib.hid hTb
  have HR := Lib.hid hR; have HS := Lib.hid hs
  clear hTb hR hs
  by_cases h1 : n ≤ 100
  case neg =>
    have h1I : (n : Int) > 100 := by omega
    go_enter Tryz.func3, Tryz.ntmps3
    go_wp2_with (go_at_call 4; refine (HAW.out _ HT.out).mono ?_; rintro e w2 ⟨rfl, hf2⟩)
    go_ret
    exact ⟨rfl, hf2⟩
  have h1I : ¬ (n : Int) > 100 := by omega
  by_cases h2 : S.size ≤ 4000
  case neg =>
    have h2I : (S.size : Int) > 4000 := by omega
    go_enter Tryz.func3, Tryz.ntmps3
    go_wp2_with (go_at_call 4; refine (HAW.out _ HT.out).mono ?_; rintro e w2 ⟨rfl, hf2⟩)
    go_ret
    exact ⟨rfl, hf2⟩
  have h2I : ¬ (S.size : Int) > 4000 := by omega
  have hp := fun u => r_Parse_any S u (by omega)
  have hps := parse_small (s := S.data.toList) (by rw [size_list]; omega)
  have hpl := parse_len S.data.toList
  have hof := fun u => m_Of_any T u
  have hmd := fun u => r_Model_any T u
  have hc1 := fun u (hf : Fr No w u) => m_check_any ns A n c _ u (HR.out.no nod_ok hf) HS.out (by omega) (fun i hi => Nat.lt_of_lt_of_le hi hf.size) (HT.out.fr hf)
  have hr1 := fun u (hf : Fr No w u) => r_chk_any ns A n c _ u (HR.out.no nod_ok hf) HS.out (by omega)
  generalize parseL S.data.toList = L at *
  generalize parseE S.data.toList = PE at *
  generalize modelL T.data.toList = O at *
  have hc2 := fun u B d M (hf : Fr No w u) (hB : RdI 4 NodI u M B L.length d L) (hM : ∀ i, M i → i < u.heap.size) => m_check_any L B L.length d M u hB hps (by omega) hM (HT.out.fr hf)
  have hr2 := fun u B d M (hB : RdI 4 NodI u M B L.length d L) => r_chk_any L B L.length d M u hB hps (by omega)
  generalize chkN ns = E1 at *
  generalize chkN L = E2 at *
  have HP := Lib.hid hp; have HOF := Lib.hid hof; have HMD := Lib.hid hmd; have HC1 := Lib.hid hc1; have HR1 := Lib.hid hr1; have HC2 := Lib.hid hc2; have HR2 := Lib.hid hr2
  clear hp hof hmd hc1 hr1 hc2 hr2 hps h1 h2 hS63 hT63
  have tok1 := True.intro
  have tok2 := True.intro
  cases hO : O.isSome
  all_goals
    go_enter Tryz.func3, Tryz.ntmps3
    go_wp2_with (first
      | (go_at_call 5; refine (HOF.out _).mono ?_; rintro e w2 ⟨A2, n2, c2, rfl, hR2, hf2⟩; have Q2 := Lib.hid hR2; have F2 := Lib.hid hf2; clear hR2 hf2)
      | (go_at_call 6; refine (HMD.out _).mono ?_; rintro e w3 ⟨A3, n3, c3, rfl, hR3, hf3⟩; have Q3 := Lib.hid hR3; have Q2 := Lib.hid (Q2.out.no chd_ok hf3); have F3 := Lib.hid (F2.out.trans hf3); clear hR3 hf3)
      | (go_at_call 7; refine (HP.out _).mono ?_; rintro e w4 ⟨v, rfl, ho4, hf4⟩; obtain ⟨B, d, rfl, hr4⟩ := nodes_rd ho4; have Q4 := Lib.hid hr4; have G4 := Lib.hid (Fr.refl No w4); have hw34 := F3.out.size; have Q2 := Lib.hid (Q2.out.no chd_ok hf4); have Q3 := Lib.hid (Q3.out.no chd_ok hf4); have F4 := Lib.hid (F3.out.trans hf4); clear ho4 hr4 hf4)
      | (go_at_call 4; refine (HAW.out _ (HT.out.fr F4.out)).mono ?_; rintro e w5 ⟨rfl, hf5⟩; have F5 := Lib.hid (F4.out.trans hf5); have Q2 := Lib.hid (Q2.out.no chd_ok hf5); have Q3 := Lib.hid (Q3.out.no chd_ok hf5); have Q4 := Lib.hid (Q4.out.no nod_ok hf5); have G4 := Lib.hid (G4.out.trans hf5); clear hf5)
      | (go_at_call 8; refine (plainC_any _ _ _ _ _ _ _ _ _ _ Q2.out Q3.out).mono ?_; rintro e w6 ⟨rfl, hf6⟩; have F6 := Lib.hid (F5.out.trans hf6); have Q4 := Lib.hid (Q4.out.no nod_ok hf6); have G4 := Lib.hid (G4.out.trans hf6); clear hf6)
      | (go_at_call 9; clear tok1; (with_reducible refine (HC1.out _ F6.out).mono ?_); rintro e w7 ⟨rfl, hf7⟩; have F7 := Lib.hid (F6.out.trans hf7); have Q4 := Lib.hid (Q4.out.no nod_ok hf7); have G4 := Lib.hid (G4.out.trans hf7); clear hf7)
      | (go_at_call 10; clear tok2; (with_reducible refine (HR1.out _ F7.out).mono ?_); rintro e w8 ⟨rfl, hf8⟩; have F8 := Lib.hid (F7.out.trans hf8); have Q4 := Lib.hid (Q4.out.no nod_ok hf8); have G4 := Lib.hid (G4.out.trans hf8); clear hf8)
      | (go_at_call 9; (with_reducible refine (HC2.out _ _ _ _ F8.out Q4.out (fun i hi => by have h1 := G4.out.size; omega)).mono ?_); rintro e w9 ⟨rfl, hf9⟩; have F9 := Lib.hid (F8.out.trans hf9); have Q4 := Lib.hid (Q4.out.no nod_ok hf9); clear hf9)
      | (go_at_call 10; (with_reducible refine (HR2.out _ _ _ _ Q4.out).mono ?_); rintro e wa ⟨rfl, hfa⟩; have FA := Lib.hid (F9.out.trans hfa); clear hfa))
    go_ret
    exact ⟨rfl, FA.out⟩
end Go.Proofs.YtbfodbejdaafaaaGreatDoor
/- What comes in, and how much it is: fields, texts, slices, out of the row's weights. No program. -/
namespace Go.Proofs.YtbfodbejdaafaaaGreatDoor
open Go.RowKit Go.WideShapes Go.ChangeShapes
set_option maxHeartbeats 400000
set_option linter.unusedVariables false

section
variable {H : Type} {enc : TypeId × Value → H} {P : Program} {W : World} {base : Nat} {sp : Nat → Bool} {held : Bool}
theorem each_w (q : Nat → Bool) : ∀ (ts : List TypeId) (ds : List (DataW H)), (DataW.weightsEach P ts ds).all q = true → ∀ (i : Nat) (t : TypeId) (d : DataW H), ts[i]? = some t → ds[i]? = some d → (d.weights P t).all q = true
  | [], _, _, i, t, d, ht, _ => by simp at ht
  | _ :: _, [], _, i, t, d, _, hd => by simp at hd
  | t0 :: ts, d0 :: ds, h, 0, t, d, ht, hd => by
    simp only [List.getElem?_cons_zero, Option.some.injEq] at ht hd
    subst ht hd
    unfold DataW.weightsEach at h
    rw [List.all_append, Bool.and_eq_true] at h
    exact h.1
  | t0 :: ts, d0 :: ds, h, i + 1, t, d, ht, hd => by
    simp only [List.getElem?_cons_succ] at ht hd
    unfold DataW.weightsEach at h
    rw [List.all_append, Bool.and_eq_true] at h
    exact each_w q ts ds h.2 i t d ht hd
theorem all_w (q : Nat → Bool) (e : TypeId) : ∀ (ds : List (DataW H)), (DataW.weightsAll P e ds).all q = true → ∀ (i : Nat) (d : DataW H), ds[i]? = some d → (d.weights P e).all q = true
  | [], _, i, d, hd => by simp at hd
  | d0 :: ds, h, 0, d, hd => by
    simp only [List.getElem?_cons_zero, Option.some.injEq] at hd
    subst hd
    unfold DataW.weightsAll at h
    rw [List.all_append, Bool.and_eq_true] at h
    exact h.1
  | d0 :: ds, h, i + 1, d, hd => by
    simp only [List.getElem?_cons_succ] at hd
    unfold DataW.weightsAll at h
    rw [List.all_append, Bool.and_eq_true] at h
    exact all_w q e ds h.2 i d hd
/-- a field of a struct that came in -/
theorem fld_w {t : TypeId} {fs : Array Field} {fuel : Nat} {cs : List Value} {x : DataW H × List MemPlace} (ht : P.underlying t = some (.struct fs)) (h : DataW.trod enc P W base sp held fuel t cs = some x) (hw : (x.1.weights P t).all (fun k => decide (k ≤ reachBytes)) = true) (i : Nat) (ty : TypeId) (off : Nat) (hf0 : (fs[i]?).map (fun f => (f.type, f.offset)) = some (ty, off)) :
    ∃ y n, DataW.trod enc P W base sp held n ty ((cs.drop off).take (P.cellsOf ty)) = some y ∧ (y.1.weights P ty).all (fun k => decide (k ≤ reachBytes)) = true := by
  obtain ⟨f, hi, hfe⟩ := Option.map_eq_some_iff.1 hf0
  injection hfe with hfe1 hfe2
  subst hfe1 hfe2
  obtain ⟨xs, n, _, rfl, hl, hlen, hf⟩ := DataW.trod_struct ht h
  have hix : i < xs.length := by rw [hlen]; exact (Array.getElem?_eq_some_iff.1 hi).1
  have h1 := hf i f hi
  rw [List.getElem?_eq_getElem hix] at h1
  refine ⟨xs[i], n, h1, ?_⟩
  unfold DataW.weights at hw
  rw [ht] at hw
  refine each_w _ _ _ hw i f.type _ ?_ ?_
  · rw [List.getElem?_map, Array.getElem?_toList, hi]; rfl
  · rw [List.getElem?_map, List.getElem?_eq_getElem hix]; rfl
theorem str_w {t : TypeId} {fuel : Nat} {cs : List Value} {y : DataW H × List MemPlace} (ht : P.underlying t = some .string) (h : DataW.trod enc P W base sp held fuel t cs = some y) (hw : (y.1.weights P t).all (fun k => decide (k ≤ reachBytes)) = true) (x : ByteArray) (hx : cs = [.string x]) : x.size ≤ 140737488355328 := by
  obtain ⟨s, e, rfl, _⟩ := DataW.trod_string ht h
  rw [hx] at e
  injection e with e _
  injection e with e
  subst e
  unfold DataW.weights at hw
  simp only [List.all_cons, List.all_nil, Bool.and_true, decide_eq_true_iff] at hw
  have h2 : x.data.toList.length = x.size := by simp
  rw [h2] at hw
  simp only [reachBytes] at hw
  omega
theorem int_w {t : TypeId} {k : IntKind} {fuel : Nat} {cs : List Value} {y : DataW H × List MemPlace} (ht : P.underlying t = some (.int k)) (h : DataW.trod enc P W base sp held fuel t cs = some y) (x : Int) (hx : cs = [.int k x]) : (Lit.int k x).wf = true := by
  obtain ⟨n, e, rfl, hw⟩ := DataW.trod_int ht h
  rw [hx] at e
  injection e with e _
  injection e with _ e
  subst e
  exact hw
/-- a slice of things that came in, and how much it is -/
theorem slice_wk {α : Type} {K : α → Prop} {I : World → (Nat → Prop) → List Value → α → Prop} {s bb : Nat} {N : Nat → Prop} {t e : TypeId} {fuel : Nat} {cs : List Value} {x : DataW H × List MemPlace}
    (ht : P.underlying t = some (.slice e)) (hc : P.cellsOf e = s) (hs : 0 < s) (hb : P.bytesOf e = bb) (hb0 : 0 < bb) (hN : ∀ i, i < W.heap.size → N i)
    (hel : ∀ (m : Nat) (zs : List Value) (y : DataW H × List MemPlace), DataW.trod enc P W 0 sp held m e zs = some y → (y.1.weights P e).all (fun k => decide (k ≤ reachBytes)) = true → ∃ a, I W N zs a ∧ K a)
    (h : DataW.trod enc P W 0 sp held fuel t cs = some x) (hw : (x.1.weights P t).all (fun k => decide (k ≤ reachBytes)) = true) (A : Option Addr) (n c : Nat) (hx : cs = [.slice A n c]) :
    ∃ (ls : List α), RdI s I W N A n c ls ∧ n ≤ 140737488355328 ∧ ∀ a ∈ ls, K a := by
  rcases DataW.trod_slice ht h with ⟨e1, rfl⟩ | ⟨a, len, cap, elems, rest, m, _, e1, rfl, _, hl, hm, hle, hat, _, _⟩
  · rw [hx] at e1
    injection e1 with e1 _
    injection e1 with e1 e2 e3
    subst e1 e2 e3
    exact ⟨[], RdI.nil_ s I W N, by omega, fun _ ha => by cases ha⟩
  · rw [hx] at e1
    injection e1 with e1 _
    injection e1 with e1 e2 e3
    subst e1 e2 e3
    unfold DataW.weights at hw
    rw [ht] at hw
    simp only [List.all_cons, List.all_append, Bool.and_eq_true, decide_eq_true_iff] at hw
    obtain ⟨hw0, hw1, _⟩ := hw
    rw [hc] at hat
    have key : ∀ k, k ≤ n → ∃ (xs : List Value) (ls : List α), xs.length = k * s ∧ ItemsF I W N xs ls ∧ (∀ j u, xs[j]? = some u → W.cell? (a.add j) = some u) ∧ ∀ a ∈ ls, K a := by
      intro k
      induction k with
      | zero => exact fun _ => ⟨[], [], by simp, rfl, by simp, fun _ ha => by cases ha⟩
      | succ k ih =>
        intro hk
        obtain ⟨xs, ls, h1, h2, h3, hk3⟩ := ih (by omega)
        have hk2 := hat k (by omega)
        have hkl : k < elems.length := by omega
        rw [List.getElem?_eq_getElem hkl, Option.bind_eq_some_iff] at hk2
        obtain ⟨zs, hz1, hz2⟩ := hk2
        obtain ⟨_, hzl, hza⟩ := World.cells?_some hz1
        obtain ⟨b, hb1, hb2⟩ := hel m zs _ hz2 (all_w _ e _ hw1 k _ (by rw [List.getElem?_map, List.getElem?_eq_getElem hkl]; rfl))
        refine ⟨xs ++ zs, ls ++ [b], by rw [List.length_append, h1, hzl, Nat.add_mul]; omega, ItemsF.app h2 (ItemsF.single hb1), ?_, fun x hx => by
          rcases List.mem_append.1 hx with hx | hx
          · exact hk3 x hx
          · rw [List.mem_singleton.1 hx]; exact hb2⟩
        intro j u hu
        rw [List.getElem?_append] at hu
        split at hu
        · exact h3 j u hu
        · rename_i hj
          rw [h1] at hu hj
          have hjl := (List.getElem?_eq_some_iff.1 hu).1
          have := hza (j - k * s) (by omega)
          rw [add_add, show k * s + (j - k * s) = j from by omega] at this
          rw [this, hu]
    obtain ⟨xs, ls, h1, h2, h3, hk3⟩ := key n (Nat.le_refl _)
    refine ⟨ls, ⟨⟨xs, ⟨h1, hl, hm, (fun e => nomatch e), fun ad e j u hu => by injection e with e; subst e; exact h3 j u hu⟩, h2⟩, fun ad e h0 => ?_⟩, ?_, hk3⟩
    · injection e with e
      subst e
      refine hN _ ?_
      have h5 : 0 < xs.length := by rw [h1]; exact Nat.mul_pos h0 hs
      have := World.block_lt_of_cell? _ _ (h3 0 _ (List.getElem?_eq_getElem h5))
      rwa [blk_add] at this
    · have h6 : n ≤ (elems.map (·.1)).length + (rest.map (·.1)).length := by rw [List.length_map]; omega
      rw [hb] at hw0
      have h7 : (elems.map (·.1)).length + (rest.map (·.1)).length ≤ ((elems.map (·.1)).length + (rest.map (·.1)).length) * bb := Nat.le_mul_of_pos_right _ hb0
      simp only [reachBytes] at hw0
      omega
theorem slice_w {α : Type} {I : World → (Nat → Prop) → List Value → α → Prop} {s bb : Nat} {N : Nat → Prop} {t e : TypeId} {fuel : Nat} {cs : List Value} {x : DataW H × List MemPlace}
    (ht : P.underlying t = some (.slice e)) (hc : P.cellsOf e = s) (hs : 0 < s) (hb : P.bytesOf e = bb) (hb0 : 0 < bb) (hN : ∀ i, i < W.heap.size → N i)
    (hel : ∀ (m : Nat) (zs : List Value) (y : DataW H × List MemPlace), DataW.trod enc P W 0 sp held m e zs = some y → (y.1.weights P e).all (fun k => decide (k ≤ reachBytes)) = true → ∃ a, I W N zs a)
    (h : DataW.trod enc P W 0 sp held fuel t cs = some x) (hw : (x.1.weights P t).all (fun k => decide (k ≤ reachBytes)) = true) (A : Option Addr) (n c : Nat) (hx : cs = [.slice A n c]) :
    ∃ (ls : List α), RdI s I W N A n c ls ∧ n ≤ 140737488355328 := by
  obtain ⟨ls, h1, h2, _⟩ := slice_wk (K := fun _ => True) ht hc hs hb hb0 hN (fun m zs y h3 h4 => (hel m zs y h3 h4).imp fun a ha => ⟨ha, trivial⟩) h hw A n c hx
  exact ⟨ls, h1, h2⟩
end
end Go.Proofs.YtbfodbejdaafaaaGreatDoor
/- Nodes that come in, of whatever size a machine may hold. -/
namespace Go.Proofs.YtbfodbejdaafaaaGreatDoor
open Go.RowKit Go.WideShapes Go.ChangeShapes
set_option maxHeartbeats 400000
set_option linter.unusedVariables false

theorem nw_str : Tryz.prog.cellsOf 9 = 1 := by kernel_rfl
theorem nw_int : Tryz.prog.cellsOf 3 = 1 := by kernel_rfl
theorem nw_ats : Tryz.prog.cellsOf 52 = 1 := by kernel_rfl
section
variable {H : Type} {enc : TypeId × Value → H} {W : World}
set_option maxRecDepth 20000 in
theorem nw_attr {m : Nat} {zs : List Value} {y : DataW H × List MemPlace} (h : DataW.trod enc Tryz.prog W 0 (fun _ => true) true m 56 zs = some y) (hw : (y.1.weights Tryz.prog 56).all (fun k => decide (k ≤ reachBytes)) = true) : ∃ a, AttrI W (fun i => i < W.heap.size) zs a ∧ AttrW a := by
  have hl : zs.length = 2 := by
    obtain ⟨_, _, _, _, hl, _⟩ := DataW.trod_struct Tryz.underlying56 h
    rw [hl]; kernel_rfl
  obtain ⟨y0, n0, f0, w0⟩ := fld_w Tryz.underlying56 h hw 0 9 0 rfl
  obtain ⟨y1, n1, f1, w1⟩ := fld_w Tryz.underlying56 h hw 1 9 1 rfl
  obtain ⟨s0, e0, _⟩ := DataW.trod_string Tryz.underlying9 f0
  obtain ⟨s1, e1, _⟩ := DataW.trod_string Tryz.underlying9 f1
  have k0 := str_w Tryz.underlying9 f0 w0 s0 e0
  have k1 := str_w Tryz.underlying9 f1 w1 s1 e1
  match zs, hl with
  | [z0, z1], _ =>
    simp only [nw_str, List.drop_zero, List.drop_succ_cons, List.take_succ_cons, List.take_zero, List.cons.injEq, and_true] at e0 e1
    subst e0 e1
    exact ⟨(s0.data.toList, s1.data.toList), ⟨s0, s1, rfl, rfl, rfl⟩, by show s0.data.toList.length ≤ _; simpa using k0, by show s1.data.toList.length ≤ _; simpa using k1⟩
set_option maxRecDepth 20000 in
theorem nw_nod {m : Nat} {zs : List Value} {y : DataW H × List MemPlace} (h : DataW.trod enc Tryz.prog W 0 (fun _ => true) true m 54 zs = some y) (hw : (y.1.weights Tryz.prog 54).all (fun k => decide (k ≤ reachBytes)) = true) : ∃ a, NodI W (fun i => i < W.heap.size) zs a ∧ NodW a := by
  have hl : zs.length = 4 := by
    obtain ⟨_, _, _, _, hl, _⟩ := DataW.trod_struct Tryz.underlying54 h
    rw [hl]; kernel_rfl
  obtain ⟨y0, n0, f0, w0⟩ := fld_w Tryz.underlying54 h hw 0 3 0 rfl
  obtain ⟨y1, n1, f1, w1⟩ := fld_w Tryz.underlying54 h hw 1 9 1 rfl
  obtain ⟨y2, n2, f2, w2⟩ := fld_w Tryz.underlying54 h hw 2 9 2 rfl
  obtain ⟨y3, n3, f3, w3⟩ := fld_w Tryz.underlying54 h hw 3 52 3 rfl
  obtain ⟨p, e0, _⟩ := DataW.trod_int Tryz.underlying3 f0
  obtain ⟨s1, e1, _⟩ := DataW.trod_string Tryz.underlying9 f1
  obtain ⟨s2, e2, _⟩ := DataW.trod_string Tryz.underlying9 f2
  have k1 := str_w Tryz.underlying9 f1 w1 s1 e1
  have k2 := str_w Tryz.underlying9 f2 w2 s2 e2
  match zs, hl with
  | [z0, z1, z2, z3], _ =>
    simp only [nw_str, nw_int, List.drop_zero, List.drop_succ_cons, List.take_succ_cons, List.take_zero, List.cons.injEq, and_true] at e0 e1 e2
    subst e0 e1 e2
    have e3 : ∃ (A : Option Addr) (n c : Nat), z3 = .slice A n c := by
      rcases DataW.trod_slice Tryz.underlying52 f3 with ⟨e, _⟩ | ⟨a, len, cap, _, _, _, _, e, _⟩
      · simp only [nw_ats, List.drop_zero, List.drop_succ_cons, List.take_succ_cons, List.take_zero, List.cons.injEq, and_true] at e
        exact ⟨none, 0, 0, e⟩
      · simp only [nw_ats, List.drop_zero, List.drop_succ_cons, List.take_succ_cons, List.take_zero, List.cons.injEq, and_true] at e
        exact ⟨some a, len, cap, e⟩
    obtain ⟨A, n, c, rfl⟩ := e3
    obtain ⟨ats, hr, hn, hk⟩ := slice_wk (K := AttrW) (I := AttrI) (s := 2) (N := fun i => i < W.heap.size) Tryz.underlying52 (by kernel_rfl) (by omega) (bb := 32) (by kernel_rfl) (by omega) (fun _ hi => hi) (fun _ _ _ => nw_attr) f3 w3 A n c (by rw [nw_ats]; rfl)
    exact ⟨⟨p, s1.data.toList, s2.data.toList, ats⟩, ⟨s1, s2, A, n, c, rfl, rfl, rfl, hr⟩, ⟨by show s1.data.toList.length ≤ _; simpa using k1, by show s2.data.toList.length ≤ _; simpa using k2, by show ats.length ≤ _; rw [hr.len attr_ok (by omega)]; exact hn, hk⟩⟩
set_option maxRecDepth 20000 in
/-- a list of nodes that came in -/
theorem open_nodsW {v : Value} {d : DataW H} {p : List MemPlace} {b0 : Nat} (hval : Value.okWide Tryz.prog W .any b0 22 v) (h : DataW.Trod enc Tryz.prog W 0 (fun _ => true) true 22 v d p) (hw : (d.weights Tryz.prog 22).all (fun k => decide (k ≤ reachBytes)) = true) :
    ∃ A n c ls, v = .slice A n c ∧ RdI 4 NodI W (fun i => i < W.heap.size) A n c ls ∧ ∀ a ∈ ls, NodW a := by
  obtain ⟨a0, len, cap, rfl⟩ := okWide_slice Tryz.underlying22 hval
  obtain ⟨fuel, hf⟩ := h
  obtain ⟨ls, hr, _, hk⟩ := slice_wk (K := NodW) (I := NodI) (s := 4) (N := fun i => i < W.heap.size) Tryz.underlying22 (by kernel_rfl) (by omega) (bb := 64) (by kernel_rfl) (by omega) (fun _ hi => hi) (fun _ _ _ => nw_nod) hf hw a0 len cap rfl
  exact ⟨_, _, _, ls, rfl, hr, hk⟩
end
end Go.Proofs.YtbfodbejdaafaaaGreatDoor
