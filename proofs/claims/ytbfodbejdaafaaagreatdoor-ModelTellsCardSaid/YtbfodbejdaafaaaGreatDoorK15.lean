/- The texts CanMath2, CanMath5, joined. -/
import Derived.Test.YtbfodbejdaafaaaGreatDoorK14
/- Rows of nodes that are right are forests, and forests are such rows: plain functions, no program. -/
namespace Go.Proofs.YtbfodbejdaafaaaGreatDoor
set_option linter.unusedVariables false

/-- each node stands in one that is still open (opn: these, the innermost last), from a place on, and not too deep -/
def nestF : List Int → Nat → List Nod → Bool
  | _, _, [] => true
  | o, k, n :: r => o.contains n.parent && (decide ((o.takeWhile (fun x => decide (x ≠ n.parent)) ++ [n.parent, (k : Int)]).length ≤ 32) && nestF (o.takeWhile (fun x => decide (x ≠ n.parent)) ++ [n.parent, (k : Int)]) (k + 1) r)
/-- what a node has by itself may be written -/
def SoundN (n : Nod) : Prop := nameOk n.name = true ∧ utf8B n.text = true ∧ (∀ x ∈ n.attrs, nameOk x.1 = true ∧ utf8B x.2 = true) ∧ (n.attrs.map (·.1)).Nodup

theorem nest_cons (o : List Int) (k : Nat) (n : Nod) (r : List Nod) : nestF o k (n :: r) = (o.contains n.parent && (decide ((o.takeWhile (fun x => decide (x ≠ n.parent)) ++ [n.parent, (k : Int)]).length ≤ 32) && nestF (o.takeWhile (fun x => decide (x ≠ n.parent)) ++ [n.parent, (k : Int)]) (k + 1) r)) := rfl
theorem tw_at {q : List Int} {p : Int} (h : p ∉ q) (s : List Int) : (q ++ p :: s).takeWhile (fun x => decide (x ≠ p)) = q := by
  induction q with
  | nil => simp
  | cons x q ih =>
    have hx : x ≠ p := fun e => h (by simp [e])
    have hq : p ∉ q := fun e => h (by simp [e])
    rw [List.cons_append, List.takeWhile_cons, if_pos (by simpa using hx), ih hq]
theorem first_at {x : Int} : ∀ {o : List Int}, x ∈ o → ∃ a b, o = a ++ x :: b ∧ x ∉ a
  | [], h => by cases h
  | y :: o, h => by
    by_cases hy : y = x
    · exact ⟨[], o, by rw [hy]; rfl, by simp⟩
    · rcases List.mem_cons.1 h with e | e
      · exact absurd e.symm hy
      · obtain ⟨a, b, e2, h2⟩ := first_at e
        exact ⟨y :: a, b, by rw [e2]; rfl, by simp [h2]; exact fun e => hy e.symm⟩
/-- who is not asked for plays no part -/
theorem nest_drop {o : List Int} {x : Int} {k : Nat} {l : List Nod} (h : ∀ n r, l = n :: r → n.parent ≠ x) : nestF (o ++ [x]) k l = nestF o k l := by
  cases l with
  | nil => rfl
  | cons n r =>
    have hn := h n r rfl
    rw [nest_cons, nest_cons]
    by_cases hc : n.parent ∈ o
    · have e : (o ++ [x]).takeWhile (fun y => decide (y ≠ n.parent)) = o.takeWhile (fun y => decide (y ≠ n.parent)) := by
        obtain ⟨a, b, e, hna⟩ := first_at hc
        rw [e, List.append_assoc, List.cons_append, tw_at hna, tw_at hna]
      rw [e]
      have c1 : (o ++ [x]).contains n.parent = true := by simp [hc]
      have c2 : o.contains n.parent = true := by simp [hc]
      rw [c1, c2]
    · have c1 : (o ++ [x]).contains n.parent = false := by
        rw [← Bool.not_eq_true]
        simp [hc]
        exact hn
      have c2 : o.contains n.parent = false := by
        rw [← Bool.not_eq_true]
        simp [hc]
      rw [c1, c2]
      rfl
/-- those in the innermost one, as a forest, and what is behind them -/
theorem nest_forest (T : Int → List UInt8) : ∀ (m : Nat) (l : List Nod), l.length ≤ m → ∀ (q : List Int) (p : Int) (k : Nat), (q ++ [p]).Nodup → (∀ x ∈ q ++ [p], x < (k : Int)) → nestF (q ++ [p]) k l = true →
    (∀ n ∈ l, SoundN n) → (∀ (i : Nat) (x : Nod), l[i]? = some x → T ((k + i : Nat) : Int) = x.text) → (∀ x ∈ l, T x.parent = []) → q.length + 1 ≤ 32 →
    ∃ (f : Fo) (r : List Nod), l = f.flat p k ++ r ∧ nestF (q ++ [p]) (k + f.size) r = true ∧ (∀ n s, r = n :: s → n.parent ≠ p) ∧ f.ok ∧ f.deep + (q.length + 1) ≤ 32 := by
  intro m
  induction m with
  | zero =>
    intro l hl q p k _ _ hn _ _ _ h32
    obtain rfl := List.eq_nil_of_length_eq_zero (by omega : l.length = 0)
    exact ⟨.nil, [], rfl, hn, fun n s e => by (cases e), trivial, by simp only [Fo.deep]; omega⟩
  | succ m ih =>
    intro l hl q p k hd hlt hn hs hT hP h32
    cases l with
    | nil => exact ⟨.nil, [], rfl, hn, fun n s e => by (cases e), trivial, by simp only [Fo.deep]; omega⟩
    | cons n l =>
      by_cases hp : n.parent = p
      · have hpq : p ∉ q := by
          have := (List.nodup_append.1 hd).2.2
          intro hin
          exact this p hin p (by simp) rfl
        rw [nest_cons, hp, tw_at hpq [], Bool.and_eq_true, Bool.and_eq_true, decide_eq_true_eq] at hn
        obtain ⟨_, h32', hn2⟩ := hn
        have eo : q ++ [p, (k : Int)] = (q ++ [p]) ++ [(k : Int)] := by simp
        rw [eo] at hn2 h32'
        have hd2 : ((q ++ [p]) ++ [(k : Int)]).Nodup := by
          rw [List.nodup_append]
          refine ⟨hd, by simp, ?_⟩
          intro a ha b hb e
          simp at hb
          have := hlt a ha
          omega
        obtain ⟨kf, r1, e1, n1, h1, o1, d1⟩ := ih l (by simp at hl; omega) (q ++ [p]) (k : Int) (k + 1) hd2 (by
            intro x hx
            rcases List.mem_append.1 hx with hx | hx
            · have := hlt x hx; omega
            · simp at hx; omega) hn2 (fun y hy => hs y (by simp [hy])) (fun i x hx => by
              have := hT (i + 1) x (by simpa using hx)
              rw [← this]; congr 1; omega) (fun x hx => hP x (by simp [hx])) (by simp at h32' ⊢; omega)
        rw [nest_drop h1] at n1
        have hlen1 : l.length = kf.size + r1.length := by rw [e1, List.length_append, Fo.flat_len]
        obtain ⟨rf, r2, e2, n2, h2, o2, d2⟩ := ih r1 (by simp at hl; omega) q p (k + 1 + kf.size) hd (fun x hx => by have := hlt x hx; omega) n1 (fun y hy => hs y (by rw [e1]; simp [hy])) (fun i x hx => by
            have := hT (1 + kf.size + i) x (by
              rw [show 1 + kf.size + i = (kf.size + i) + 1 from by omega, List.getElem?_cons_succ, e1, List.getElem?_append_right (by rw [Fo.flat_len]; omega), Fo.flat_len]
              rw [Nat.add_sub_cancel_left]
              exact hx)
            rw [← this]; congr 1; omega) (fun x hx => hP x (by rw [e1]; simp [hx])) h32
        obtain ⟨s1, s2, s3, s4⟩ := hs n (by simp)
        refine ⟨.cons n.name n.text n.attrs kf rf, r2, ?_, ?_, h2, ⟨s1, s2, ⟨s3, s4⟩, ?_, o1, o2⟩, ?_⟩
        · rw [Fo.flat_cons, List.cons_append, List.append_assoc, ← e2, ← e1, ← hp]
        · simp only [Fo.size]
          rw [show k + (1 + kf.size + rf.size) = k + 1 + kf.size + rf.size from by omega]
          exact n2
        · intro hk
          cases kf with
          | nil => cases hk
          | cons kn kt ka kk kr =>
            have hmem : (⟨(k : Int), kn, kt, ka⟩ : Nod) ∈ n :: l := by rw [e1, Fo.flat_cons]; simp
            have h3 := hP _ hmem
            have h4 := hT 0 n rfl
            rw [Nat.add_zero] at h4
            rw [← h4]
            exact h3
        · simp only [Fo.deep]
          simp at d1 ⊢
          omega
      · refine ⟨.nil, n :: l, rfl, hn, ?_, trivial, by simp only [Fo.deep]; omega⟩
        intro a b e
        injection e with e _
        rw [← e]
        exact hp
/-- which rows may be written -/
def RightL (l : List Nod) : Prop := l ≠ [] ∧ l.length ≤ 500 ∧ (l.head?.map (·.parent)) = some (-1) ∧ nestF [0] 1 l.tail = true ∧ (∀ n ∈ l, SoundN n) ∧ ∀ x ∈ l.tail, ((l[x.parent.toNat]?).map (·.text)).getD [] = []
theorem right_forest {l : List Nod} (h : RightL l) : ∃ f : Fo, l = f.flat (-1) 0 ∧ f.ok ∧ f.single = true ∧ f.isNil = false ∧ f.deep ≤ 32 ∧ f.size ≤ 500 := by
  obtain ⟨h0, h1, h2, h3, h4, h5⟩ := h
  cases l with
  | nil => exact absurd rfl h0
  | cons n l =>
    simp only [List.head?_cons, Option.map_some, Option.some.injEq] at h2
    simp only [List.tail_cons] at h3 h5
    obtain ⟨kf, r, e, nr, hr, ok, dp⟩ := nest_forest (fun i => (((n :: l)[i.toNat]?).map (·.text)).getD []) l.length l (Nat.le_refl _) [] 0 1 (by simp) (by intro x hx; simp at hx; omega) h3 (fun y hy => h4 y (by simp [hy])) (fun i x hx => by
        simp only [Int.toNat_natCast]
        rw [Nat.add_comm, List.getElem?_cons_succ, hx]
        rfl) h5 (by decide)
    have hre : r = [] := by
      cases r with
      | nil => rfl
      | cons a b =>
        have h6 := hr a b rfl
        rw [List.nil_append, nest_cons] at nr
        simp at nr
        exact absurd nr.1 h6
    subst hre
    rw [List.append_nil] at e
    obtain ⟨s1, s2, s3, s4⟩ := h4 n (by simp)
    refine ⟨.cons n.name n.text n.attrs kf .nil, ?_, ⟨s1, s2, ⟨s3, s4⟩, ?_, ok, trivial⟩, rfl, rfl, ?_, ?_⟩
    · rw [Fo.flat_cons, ← h2]
      show n :: l = n :: (kf.flat ((0 : Nat) : Int) (0 + 1) ++ [])
      rw [List.append_nil]
      exact congrArg (n :: ·) e
    · intro hk
      cases kf with
      | nil => cases hk
      | cons kn kt ka kk kr =>
        have := h5 ⟨0, kn, kt, ka⟩ (by rw [e, Fo.flat_cons]; simp)
        simpa using this
    · simp only [Fo.deep]
      simp at dp
      omega
    · have := congrArg List.length e
      rw [Fo.flat_len] at this
      simp only [Fo.size]
      simp at h1
      omega
/-- those that are open behind the last one -/
def endO : List Int → Nat → List Nod → List Int
  | o, _, [] => o
  | o, k, n :: r => endO (o.takeWhile (fun x => decide (x ≠ n.parent)) ++ [n.parent, (k : Int)]) (k + 1) r
theorem nest_app : ∀ (a b : List Nod) (o : List Int) (k : Nat), nestF o k (a ++ b) = (nestF o k a && nestF (endO o k a) (k + a.length) b)
  | [], b, o, k => by simp [nestF, endO]
  | n :: a, b, o, k => by
    rw [List.cons_append, nest_cons, nest_app a b, nest_cons]
    simp only [endO, List.length_cons]
    rw [show k + 1 + a.length = k + (a.length + 1) from by omega]
    simp [Bool.and_assoc]
theorem endO_app : ∀ (a b : List Nod) (o : List Int) (k : Nat), endO o k (a ++ b) = endO (endO o k a) (k + a.length) b
  | [], b, o, k => by simp [endO]
  | n :: a, b, o, k => by
    rw [List.cons_append]
    simp only [endO, List.length_cons]
    rw [endO_app a b, show k + 1 + a.length = k + (a.length + 1) from by omega]
end Go.Proofs.YtbfodbejdaafaaaGreatDoor
/- Right rows as the statements' own answer asks for them: by chains of parents: plain functions, no program. -/
namespace Go.Proofs.YtbfodbejdaafaaaGreatDoor
set_option linter.unusedVariables false

/-- a node, the one that it stands in, and so on -/
def chainF (l : List Nod) : Nat → Int → List Int
  | 0, _ => []
  | f + 1, k => if k < 0 then [] else match l[k.toNat]? with
    | none => []
    | some n => k :: chainF l f n.parent
/-- the first one stands in none, each other one in one ahead of it -/
def Valid (l : List Nod) (j : Nat) : Prop := ∀ (i : Nat) (n : Nod), i ≤ j → l[i]? = some n → (i = 0 → n.parent < 0) ∧ (0 < i → 0 ≤ n.parent ∧ n.parent < (i : Int))
theorem chain_neg (l : List Nod) (f : Nat) {k : Int} (h : k < 0) : chainF l f k = [] := by
  cases f with
  | zero => rfl
  | succ f => unfold chainF; rw [if_pos h]
theorem chain_out {l : List Nod} {k : Nat} (h : l[k]? = none) (g : Nat) : chainF l g (k : Int) = [] := by
  cases g with
  | zero => rfl
  | succ g => unfold chainF; rw [if_neg (by omega), Int.toNat_natCast, h]
theorem chain_at {l : List Nod} (f : Nat) {k : Nat} {n : Nod} (h : l[k]? = some n) : chainF l (f + 1) (k : Int) = (k : Int) :: chainF l f n.parent := by
  conv => lhs; unfold chainF
  rw [if_neg (by omega), Int.toNat_natCast, h]
/-- with fuel enough it is whole -/
theorem chain_enough {l : List Nod} : ∀ (k : Nat) (f g : Nat), Valid l k → k < f → k < g → chainF l f (k : Int) = chainF l g (k : Int) := by
  intro k
  induction k using Nat.strongRecOn with
  | _ k ih =>
    intro f g hv hf hg
    obtain ⟨f, rfl⟩ : ∃ m, f = m + 1 := ⟨f - 1, by omega⟩
    obtain ⟨g, rfl⟩ : ∃ m, g = m + 1 := ⟨g - 1, by omega⟩
    cases hn : l[k]? with
    | none => rw [chain_out hn, chain_out hn]
    | some n =>
      rw [chain_at f hn, chain_at g hn]
      congr 1
      obtain ⟨v1, v2⟩ := hv k n (Nat.le_refl _) hn
      rcases Nat.eq_zero_or_pos k with h0 | h0
      · rw [chain_neg _ _ (v1 h0), chain_neg _ _ (v1 h0)]
      · obtain ⟨p, hp⟩ := Int.eq_ofNat_of_zero_le (v2 h0).1
        have := (v2 h0).2
        rw [hp] at this ⊢
        exact ih p (by omega) f g (fun i m hi hm => hv i m (by omega) hm) (by omega) (by omega)
/-- the whole of it -/
def chainL (l : List Nod) (k : Nat) : List Int := chainF l (k + 1) (k : Int)
theorem chain_zero {l : List Nod} {n : Nod} (h : l[0]? = some n) (hp : n.parent < 0) : chainL l 0 = [0] := by
  have := chain_at 0 h
  unfold chainL
  rw [this]
  rfl
theorem chain_succ {l : List Nod} {k p : Nat} {n : Nod} (hv : Valid l k) (h : l[k]? = some n) (hp : n.parent = (p : Int)) (hk : 0 < k) : chainL l k = (k : Int) :: chainL l p := by
  unfold chainL
  have hlt := ((hv k n (Nat.le_refl _) h).2 hk).2
  rw [hp] at hlt
  rw [chain_at k h, hp, chain_enough p k (p + 1) (fun i m hi hm => hv i m (by omega) hm) (by omega) (by omega)]
theorem valid_le {l : List Nod} {j k : Nat} (h : Valid l j) (hk : k ≤ j) : Valid l k := fun i m hi hm => h i m (by omega) hm
/-- it falls -/
theorem chain_le {l : List Nod} : ∀ (k : Nat), Valid l k → k < l.length → ∀ x ∈ chainL l k, 0 ≤ x ∧ x ≤ (k : Int) := by
  intro k
  induction k using Nat.strongRecOn with
  | _ k ih =>
    intro hv hl x hx
    obtain ⟨n, hn⟩ : ∃ n, l[k]? = some n := ⟨_, List.getElem?_eq_getElem hl⟩
    obtain ⟨v1, v2⟩ := hv k n (Nat.le_refl _) hn
    rcases Nat.eq_zero_or_pos k with h0 | h0
    · subst h0
      rw [chain_zero hn (v1 rfl)] at hx
      simp at hx
      omega
    · obtain ⟨p, hp⟩ := Int.eq_ofNat_of_zero_le (v2 h0).1
      have hlt := (v2 h0).2
      rw [hp] at hlt
      rw [chain_succ hv hn hp h0] at hx
      rcases List.mem_cons.1 hx with rfl | hx
      · omega
      · have := ih p (by omega) (valid_le hv (by omega)) (by omega) x hx
        omega
/-- who is in it, with all behind him -/
theorem chain_mem {l : List Nod} : ∀ (k : Nat), Valid l k → k < l.length → ∀ (p : Nat), (p : Int) ∈ chainL l k → ∃ a, chainL l k = a ++ chainL l p ∧ (∀ x ∈ a, (p : Int) < x) := by
  intro k
  induction k using Nat.strongRecOn with
  | _ k ih =>
    intro hv hl p hp
    obtain ⟨n, hn⟩ : ∃ n, l[k]? = some n := ⟨_, List.getElem?_eq_getElem hl⟩
    obtain ⟨v1, v2⟩ := hv k n (Nat.le_refl _) hn
    by_cases hkp : p = k
    · subst hkp
      exact ⟨[], rfl, fun x hx => by cases hx⟩
    rcases Nat.eq_zero_or_pos k with h0 | h0
    · subst h0
      rw [chain_zero hn (v1 rfl)] at hp
      simp at hp
      exact absurd hp hkp
    · obtain ⟨q, hq⟩ := Int.eq_ofNat_of_zero_le (v2 h0).1
      have hlt := (v2 h0).2
      rw [hq] at hlt
      rw [chain_succ hv hn hq h0] at hp ⊢
      rcases List.mem_cons.1 hp with hp | hp
      · omega
      · have hq2 := chain_le q (valid_le hv (by omega)) (by omega) _ hp
        obtain ⟨a, e, ha⟩ := ih q (by omega) (valid_le hv (by omega)) (by omega) p hp
        refine ⟨(k : Int) :: a, by rw [e]; rfl, fun x hx => ?_⟩
        rcases List.mem_cons.1 hx with rfl | hx
        · omega
        · exact ha x hx
theorem chain_head {l : List Nod} {p : Nat} (hl : p < l.length) : ∃ t, chainL l p = (p : Int) :: t := by
  unfold chainL
  obtain ⟨n, hn⟩ : ∃ n, l[p]? = some n := ⟨_, List.getElem?_eq_getElem hl⟩
  exact ⟨_, chain_at p hn⟩
/-- what is open behind a node is its chain -/
theorem path_chain {l : List Nod} {j p : Nat} {x : Nod} (hv : Valid l (j + 1)) (hl : j + 1 < l.length) (hx : l[j + 1]? = some x) (hp : x.parent = (p : Int)) (hin : (p : Int) ∈ chainL l j) :
    (chainL l j).reverse.takeWhile (fun y => decide (y ≠ (p : Int))) ++ [(p : Int), ((j + 1 : Nat) : Int)] = (chainL l (j + 1)).reverse := by
  obtain ⟨a, e, ha⟩ := chain_mem j (valid_le hv (by omega)) (by omega) p hin
  have hpl : p < l.length := by
    have := (chain_le j (valid_le hv (by omega)) (by omega) _ hin).2
    omega
  obtain ⟨t, ht⟩ := chain_head (l := l) hpl
  have hnt : (p : Int) ∉ t := by
    intro hin2
    obtain ⟨n, hn⟩ : ∃ n, l[p]? = some n := ⟨_, List.getElem?_eq_getElem hpl⟩
    have hpj : p ≤ j := by
      have := (chain_le j (valid_le hv (by omega)) (by omega) _ hin).2
      omega
    obtain ⟨v1, v2⟩ := hv p n (by omega) hn
    rcases Nat.eq_zero_or_pos p with h0 | h0
    · subst h0
      rw [chain_zero hn (v1 rfl)] at ht
      injection ht with _ ht
      rw [← ht] at hin2
      cases hin2
    · obtain ⟨q, hq⟩ := Int.eq_ofNat_of_zero_le (v2 h0).1
      have hlt := (v2 h0).2
      rw [hq] at hlt
      rw [chain_succ (valid_le hv (by omega)) hn hq h0] at ht
      injection ht with _ ht
      rw [← ht] at hin2
      have := (chain_le q (valid_le hv (by omega)) (by omega) _ hin2).2
      omega
  rw [chain_succ hv hx hp (by omega), e, ht]
  simp only [List.reverse_append, List.reverse_cons, List.append_assoc]
  rw [show [(p : Int)] ++ a.reverse = (p : Int) :: a.reverse from rfl, tw_at (by simpa using hnt)]
  simp
/-- as the statements' own answer asks -/
def RefOk (l : List Nod) (i : Nat) : Prop := ∃ (n : Nod) (p : Nat), l[i]? = some n ∧ n.parent = (p : Int) ∧ p < i ∧ (p : Int) ∈ chainL l (i - 1) ∧ (chainF l 34 (i : Int)).length ≤ 32
theorem chain_cap {l : List Nod} : ∀ (f k : Nat), Valid l k → (chainF l f (k : Int)).length = min f (chainL l k).length := by
  intro f
  induction f with
  | zero => intro k _; simp [chainF]
  | succ f ih =>
    intro k hv
    cases hn : l[k]? with
    | none =>
      unfold chainL
      rw [chain_out hn, chain_out hn]
      simp
    | some n =>
      obtain ⟨v1, v2⟩ := hv k n (Nat.le_refl _) hn
      rcases Nat.eq_zero_or_pos k with h0 | h0
      · subst h0
        rw [chain_zero hn (v1 rfl)]
        rw [chain_at f hn, chain_neg _ _ (v1 rfl)]
        simp
      · obtain ⟨q, hq⟩ := Int.eq_ofNat_of_zero_le (v2 h0).1
        have hlt := (v2 h0).2
        rw [hq] at hlt
        rw [chain_at f hn, hq, chain_succ hv hn hq h0, List.length_cons, List.length_cons, ih q (valid_le hv (by omega))]
        omega
theorem nest_ref {n0 : Nod} {r : List Nod} (h0 : n0.parent = -1) : ∀ j, j ≤ r.length →
    (nestF [0] 1 (r.take j) = true ↔ ∀ i, 1 ≤ i → i ≤ j → RefOk (n0 :: r) i) ∧ (nestF [0] 1 (r.take j) = true → Valid (n0 :: r) j ∧ endO [0] 1 (r.take j) = (chainL (n0 :: r) j).reverse) := by
  intro j
  induction j with
  | zero =>
    intro _
    refine ⟨⟨fun _ i h1 h2 => by omega, fun _ => rfl⟩, fun _ => ⟨?_, ?_⟩⟩
    · intro i n hi hn
      obtain rfl : i = 0 := by omega
      simp at hn
      subst hn
      exact ⟨fun _ => by omega, fun h => by omega⟩
    · rw [chain_zero (n := n0) rfl (by omega)]
      rfl
  | succ j ih =>
    intro hj
    obtain ⟨i1, i2⟩ := ih (by omega)
    have hxj : r[j]? = some r[j] := List.getElem?_eq_getElem (by omega)
    have etk : r.take (j + 1) = r.take j ++ [r[j]] := List.take_succ_eq_append_getElem (by omega)
    have hlx : (n0 :: r)[j + 1]? = some r[j] := by rw [List.getElem?_cons_succ]; exact hxj
    have hln : (r.take j).length = j := by rw [List.length_take]; omega
    rw [etk, nest_app, endO_app, hln, Bool.and_eq_true]
    -- what holds if the first j do
    have key : nestF [0] 1 (r.take j) = true → (nestF (endO [0] 1 (r.take j)) (1 + j) [r[j]] = true ↔ RefOk (n0 :: r) (j + 1)) ∧ (nestF (endO [0] 1 (r.take j)) (1 + j) [r[j]] = true → Valid (n0 :: r) (j + 1) ∧ endO (endO [0] 1 (r.take j)) (1 + j) [r[j]] = (chainL (n0 :: r) (j + 1)).reverse) := by
      intro hn
      obtain ⟨hv, he⟩ := i2 hn
      have hll : j < (n0 :: r).length := by simp; omega
      have hll2 : j + 1 < (n0 :: r).length := by simp; omega
      have ext : ∀ p : Nat, (r[j]).parent = (p : Int) → (p : Int) ∈ chainL (n0 :: r) j → Valid (n0 :: r) (j + 1) := by
        intro p hp hin i n hi hin2
        by_cases hij : i ≤ j
        · exact hv i n hij hin2
        · obtain rfl : i = j + 1 := by omega
          rw [hlx] at hin2
          injection hin2 with hin2
          subst hin2
          have := (chain_le j hv hll _ hin).2
          exact ⟨fun h => by omega, fun _ => by rw [hp]; omega⟩
      have fwd : nestF (endO [0] 1 (r.take j)) (1 + j) [r[j]] = true → ∃ p : Nat, (r[j]).parent = (p : Int) ∧ (p : Int) ∈ chainL (n0 :: r) j ∧ (chainL (n0 :: r) (j + 1)).length ≤ 32 := by
        intro h
        rw [nest_cons, he, Bool.and_eq_true, Bool.and_eq_true, decide_eq_true_eq] at h
        obtain ⟨c1, c2, _⟩ := h
        have hin : (r[j]).parent ∈ chainL (n0 :: r) j := by simpa using c1
        obtain ⟨p, hp⟩ := Int.eq_ofNat_of_zero_le (chain_le j hv hll _ hin).1
        rw [hp] at hin c2
        refine ⟨p, hp, hin, ?_⟩
        have := path_chain (ext p hp hin) hll2 hlx hp hin
        rw [show ((1 + j : Nat) : Int) = ((j + 1 : Nat) : Int) from by omega, this, List.length_reverse] at c2
        exact c2
      refine ⟨⟨fun h => ?_, fun h => ?_⟩, fun h => ?_⟩
      · obtain ⟨p, hp, hin, h32⟩ := fwd h
        refine ⟨r[j], p, hlx, hp, ?_, hin, ?_⟩
        · have := (chain_le j hv hll _ hin).2
          omega
        · rw [chain_cap 34 (j + 1) (ext p hp hin)]
          omega
      · obtain ⟨n, p, hn2, hp, hlt, hin, h32⟩ := h
        rw [hlx] at hn2
        injection hn2 with hn2
        subst hn2
        have hin : (p : Int) ∈ chainL (n0 :: r) j := hin
        rw [chain_cap 34 (j + 1) (ext p hp hin)] at h32
        rw [nest_cons, he, hp, show ((1 + j : Nat) : Int) = ((j + 1 : Nat) : Int) from by omega, path_chain (ext p hp hin) hll2 hlx hp hin]
        have c1 : (chainL (n0 :: r) j).reverse.contains (p : Int) = true := by simpa using hin
        rw [c1, decide_eq_true (by rw [List.length_reverse]; omega)]
        rfl
      · obtain ⟨p, hp, hin, h32⟩ := fwd h
        refine ⟨ext p hp hin, ?_⟩
        simp only [endO]
        rw [he, hp, show ((1 + j : Nat) : Int) = ((j + 1 : Nat) : Int) from by omega]
        exact path_chain (ext p hp hin) hll2 hlx hp hin
    refine ⟨⟨fun ⟨h1, h2⟩ i hi1 hi2 => ?_, fun h => ?_⟩, fun ⟨h1, h2⟩ => (key h1).2 h2⟩
    · by_cases hij : i ≤ j
      · exact i1.1 h1 i hi1 hij
      · obtain rfl : i = j + 1 := by omega
        exact (key h1).1.1 h2
    · have h1 := i1.2 (fun i a b => h i a (by omega))
      exact ⟨h1, (key h1).1.2 (h (j + 1) (by omega) (by omega))⟩
end Go.Proofs.YtbfodbejdaafaaaGreatDoor
