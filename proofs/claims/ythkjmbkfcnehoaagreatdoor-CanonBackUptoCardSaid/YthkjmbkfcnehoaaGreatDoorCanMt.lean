/- The texts CanMath, CanMath3, CanMath4, joined. -/
import Derived.Test.YthkjmbkfcnehoaaGreatDoorTokMath2
import Derived.Test.YthkjmbkfcnehoaaGreatDoorTreeRuns
import Derived.Test.YthkjmbkfcnehoaaGreatDoorCanFo
import Derived.Test.YthkjmbkfcnehoaaGreatDoorCanM
/- Trees as forests: as tokens; what is written is parsed as it was: plain functions, no program. -/
namespace Go.Proofs.YthkjmbkfcnehoaaGreatDoor
set_option linter.unusedVariables false

/-! ### tokens of what is written -/
theorem bl_one : allBl [32] := by intro x hx; simp at hx; subst hx; decide
theorem bl_nil : allBl [] := fun x hx => by cases hx
/-- attributes of an element that opens -/
theorem open_attrs {name : List UInt8} : ∀ (a used : List (List UInt8 × List UInt8)) (rest : List UInt8), (∀ x ∈ a, nameOk x.1 = true) → ((used ++ a).map (·.1)).Nodup → openV name used (attrW a ++ rest) = openV name (used ++ a) rest
  | [], used, rest, _, _ => by rw [List.append_nil]; rfl
  | x :: a, used, rest, hn, hd => by
    have hx : ∀ y ∈ used, y.1 ≠ x.1 := by
      intro y hy e
      rw [List.map_append, List.map_cons] at hd
      have h2 := (List.nodup_append.1 hd).2.2
      exact h2 y.1 (List.mem_map_of_mem hy) x.1 (by simp) e
    have h1 := open_attr (name := name) (n := x.1) (g := [32]) (g1 := []) (g2 := []) (s := x.2) (rest := attrW a ++ rest) (attrs := used) bl_one (by simp) (hn x (by simp)) hx bl_nil bl_nil
    have e : attrW (x :: a) ++ rest = [32] ++ (x.1 ++ ([] ++ (61 :: ([] ++ (34 :: (escL x.2 ++ (34 :: (attrW a ++ rest)))))))) := by simp [attrW]
    rw [e, h1, open_attrs a (used ++ [(x.1, x.2)]) rest (fun y hy => hn y (by simp [hy])) (by simpa using hd)]
    simp
theorem attrW_head (a : List (List UInt8 × List UInt8)) (c : UInt8) (q rest : List UInt8) (hc : isWi c = false) : ∀ x r, attrW a ++ (c :: q) ++ rest = x :: r → isWi x = false := by
  intro x r e
  cases a with
  | nil => injection e with e _; subst e; exact hc
  | cons y a => injection e with e _; subst e; decide
/-- what stands behind begins with an element, or an end -/
def ltHead (l : List UInt8) : Prop := ∀ x q, l = x :: q → x = 60
theorem Fo.wr_head (f : Fo) (rest : List UInt8) (h : ltHead rest) : ltHead (f.wr ++ rest) := by
  cases f with
  | nil => exact h
  | cons n t a k r =>
    intro x q e
    unfold Fo.wr at e
    injection e with e _
    exact e.symm
theorem Fo.toks_wr : ∀ (f : Fo) (rest : List UInt8), f.ok → ltHead rest → toksV (f.wr ++ rest) = (toksV rest).map (f.toks ++ ·)
  | .nil, rest, _, _ => by
    show toksV rest = _
    cases toksV rest <;> rfl
  | .cons n t a k r, rest, hok, hr => by
    obtain ⟨hn, ht, ⟨ha, hd⟩, hk, hko, hro⟩ := hok
    have ihr := r.toks_wr rest hro hr
    by_cases he : t = [] ∧ k.isNil = true
    · have e : (Fo.cons n t a k r).wr ++ rest = 60 :: (n ++ (attrW a ++ (47 :: 62 :: (r.wr ++ rest)))) := by
        rw [Fo.wr_cons, if_pos he]; simp
      have h1 := tok_open (n := n) (r := attrW a ++ (47 :: 62 :: (r.wr ++ rest))) hn (by
        intro x q e
        exact attrW_head a 47 [62] (r.wr ++ rest) (by decide) x q (by simpa using e))
      rw [open_attrs a [] _ (fun x hx => (ha x hx).1) (by simpa using hd)] at h1
      have h2 := open_empty (name := n) (g := []) (rest := r.wr ++ rest) (attrs := [] ++ a) bl_nil
      simp only [List.nil_append] at h1 h2
      rw [h2] at h1
      rw [e, toks_step (by simp) h1, ihr]
      rw [Fo.toks_cons, if_pos he]
      cases toksV rest <;> simp
    · have e : (Fo.cons n t a k r).wr ++ rest = 60 :: (n ++ (attrW a ++ (62 :: (escL t ++ (k.wr ++ (60 :: 47 :: (n ++ ([] ++ (62 :: (r.wr ++ rest)))))))))) := by
        rw [Fo.wr_cons, if_neg he]; simp
      have hc := tok_close (n := n) (g := []) (r := r.wr ++ rest) hn bl_nil
      have s3 : toksV (60 :: 47 :: (n ++ ([] ++ (62 :: (r.wr ++ rest))))) = (toksV rest).map (fun l => ⟨2, n, [], [], false⟩ :: (r.toks ++ l)) := by
        rw [toks_step (by simp) hc, ihr]
        cases toksV rest <;> rfl
      have s2 := k.toks_wr (60 :: 47 :: (n ++ ([] ++ (62 :: (r.wr ++ rest))))) hko (fun x q e => by injection e with e _; exact e.symm)
      rw [s3] at s2
      have hh := k.wr_head (60 :: 47 :: (n ++ ([] ++ (62 :: (r.wr ++ rest))))) (fun x q e => by injection e with e _; exact e.symm)
      have s1 : toksV (escL t ++ (k.wr ++ (60 :: 47 :: (n ++ ([] ++ (62 :: (r.wr ++ rest))))))) = (toksV rest).map (fun l => (if t = [] then [] else [⟨3, [], t, [], false⟩]) ++ (k.toks ++ (⟨2, n, [], [], false⟩ :: (r.toks ++ l)))) := by
        by_cases h0 : t = []
        · subst h0
          show toksV (k.wr ++ _) = _
          rw [s2]
          cases toksV rest <;> simp
        · have hx := tok_text (s := t) (r := k.wr ++ (60 :: 47 :: (n ++ ([] ++ (62 :: (r.wr ++ rest)))))) h0 hh
          have hne : escL t ++ (k.wr ++ (60 :: 47 :: (n ++ ([] ++ (62 :: (r.wr ++ rest)))))) ≠ [] := by simp
          rw [toks_step hne hx, s2, if_neg h0]
          cases toksV rest <;> simp
      have h1 := tok_open (n := n) (r := attrW a ++ (62 :: (escL t ++ (k.wr ++ (60 :: 47 :: (n ++ ([] ++ (62 :: (r.wr ++ rest))))))))) hn (by
        intro x q e
        exact attrW_head a 62 [] _ (by decide) x q (by simpa using e))
      rw [open_attrs a [] _ (fun x hx => (ha x hx).1) (by simpa using hd)] at h1
      have h2 := open_end (name := n) (g := []) (rest := escL t ++ (k.wr ++ (60 :: 47 :: (n ++ ([] ++ (62 :: (r.wr ++ rest))))))) (attrs := [] ++ a) bl_nil
      simp only [List.nil_append] at h1 h2
      rw [h2] at h1
      simp only [List.nil_append] at s1 e
      rw [e, toks_step (by simp) h1, s1]
      rw [Fo.toks_cons, if_neg he]
      cases toksV rest <;> simp

/-! ### the tree of these tokens -/
def bare (n : Nod) : Nod := { n with text := [] }
/-- what is there, and behind it these nodes -/
def plusF (g : Gro) (l : List Nod) : Gro := ⟨g.l ++ l.map bare, g.opn, g.txt ++ l.map (·.text), g.ink ++ l.map (fun n => !blankB n.text)⟩
theorem plus_nil (g : Gro) : plusF g [] = g := by unfold plusF; simp
theorem plus_app (g : Gro) (a b : List Nod) : plusF g (a ++ b) = plusF (plusF g a) b := by unfold plusF; simp
theorem take_open {g : Gro} {n : List UInt8} {a : List (List UInt8 × List UInt8)} {em : Bool} (hn : n ≠ []) (ht : 0 ≤ topG g ∨ g.l.length = 0) (hd : g.opn.length < 32) (hc : g.l.length < 500) :
    takeE g ⟨1, n, [], a, em⟩ = 0 ∧ takeS g ⟨1, n, [], a, em⟩ = ⟨g.l ++ [⟨topG g, n, [], a⟩], if em then g.opn else g.opn ++ [(g.l.length : Int)], g.txt ++ [[]], g.ink ++ [false]⟩ := by
  constructor
  · unfold takeE
    rw [if_pos rfl, if_neg hn, if_neg (by omega), if_neg (by omega), if_neg (by omega)]
  · rfl
theorem top_snoc (l : List Nod) (o : List Int) (b : Int) (x : List (List UInt8)) (y : List Bool) : topG ⟨l, o ++ [b], x, y⟩ = b := by
  unfold topG; simp
theorem name_ne {n : List UInt8} (h : nameOk n = true) : n ≠ [] := by rintro rfl; cases h
theorem set_last {α : Type} (l : List α) (x y : α) (n : Nat) (h : l.length = n) : (l ++ [x]).set n y = l ++ [y] := by subst h; simp
theorem get_last {α : Type} (l : List α) (x : α) (n : Nat) (h : l.length = n) : (l ++ [x])[n]? = some x := by subst h; simp
theorem Fo.run : ∀ (f : Fo) (g : Gro), f.ok → g.txt.length = g.l.length → g.ink.length = g.l.length → (0 ≤ topG g ∨ g.l.length = 0 ∧ f.single = true) → g.opn.length + f.deep ≤ 32 → g.l.length + f.size ≤ 500 →
    runE g f.toks = 0 ∧ runS g f.toks = plusF g (f.flat (topG g) g.l.length)
  | .nil, g, _, _, _, _, _, _ => ⟨rfl, (plus_nil g).symm⟩
  | .cons n t a k r, g, hok, hx, hi, htop, hdp, hsz => by
    obtain ⟨hn, ht, ha, hk, hko, hro⟩ := hok
    have hn0 := name_ne hn
    simp only [Fo.deep, Fo.size] at hdp hsz
    have hto : 0 ≤ topG g ∨ g.l.length = 0 := by rcases htop with h | h; exact .inl h; exact .inr h.1
    rw [Fo.toks_cons]
    -- the node itself, with all that stands in it
    have key : ∃ em, (runE g (if t = [] ∧ k.isNil = true then [⟨1, n, [], a, true⟩] else ⟨1, n, [], a, false⟩ :: ((if t = [] then [] else [⟨3, [], t, [], false⟩]) ++ k.toks ++ [⟨2, n, [], [], false⟩])) = 0 ∧
        runS g (if t = [] ∧ k.isNil = true then [⟨1, n, [], a, true⟩] else ⟨1, n, [], a, false⟩ :: ((if t = [] then [] else [⟨3, [], t, [], false⟩]) ++ k.toks ++ [⟨2, n, [], [], false⟩])) = plusF g (⟨topG g, n, t, a⟩ :: k.flat (g.l.length : Int) (g.l.length + 1))) ∧ em = true := by
      refine ⟨true, ?_, rfl⟩
      by_cases he : t = [] ∧ k.isNil = true
      · obtain ⟨rfl, hkn⟩ := he
        obtain rfl := isNil_true hkn
        rw [if_pos ⟨rfl, rfl⟩]
        refine run_one ⟨(take_open hn0 hto (by omega) (by omega)).1, ?_⟩
        rw [(take_open hn0 hto (by omega) (by omega)).2]
        unfold plusF
        simp [Fo.flat, bare, blankB]
      · rw [if_neg he]
        have h1 := take_open (g := g) (n := n) (a := a) (em := false) hn0 hto (by omega) (by omega)
        have h2 : runE ⟨g.l ++ [⟨topG g, n, [], a⟩], g.opn ++ [(g.l.length : Int)], g.txt ++ [[]], g.ink ++ [false]⟩ (if t = [] then [] else [⟨3, [], t, [], false⟩]) = 0 ∧
            runS ⟨g.l ++ [⟨topG g, n, [], a⟩], g.opn ++ [(g.l.length : Int)], g.txt ++ [[]], g.ink ++ [false]⟩ (if t = [] then [] else [⟨3, [], t, [], false⟩]) = ⟨g.l ++ [⟨topG g, n, [], a⟩], g.opn ++ [(g.l.length : Int)], g.txt ++ [t], g.ink ++ [!blankB t]⟩ := by
          by_cases h0 : t = []
          · subst h0
            rw [if_pos rfl]
            exact ⟨rfl, rfl⟩
          · rw [if_neg h0]
            refine run_one ⟨?_, ?_⟩
            · unfold takeE
              rw [if_neg (show ¬ (3 : Int) = 1 by decide), if_neg (show ¬ (3 : Int) = 2 by decide), if_pos rfl, top_snoc, if_neg (by omega)]
            · unfold takeS
              rw [if_neg (show ¬ (3 : Int) = 1 by decide), if_neg (show ¬ (3 : Int) = 2 by decide), top_snoc, if_neg (by omega)]
              simp only [Int.toNat_natCast]
              rw [get_last _ _ _ hx, get_last _ _ _ hi, set_last _ _ _ _ hx, set_last _ _ _ _ hi]
              simp
        have h3 := k.run ⟨g.l ++ [⟨topG g, n, [], a⟩], g.opn ++ [(g.l.length : Int)], g.txt ++ [t], g.ink ++ [!blankB t]⟩ hko (by simp [hx]) (by simp [hi]) (.inl (by rw [top_snoc]; omega)) (by simp; omega) (by simp; omega)
        rw [top_snoc] at h3
        have h4 : runE (plusF ⟨g.l ++ [⟨topG g, n, [], a⟩], g.opn ++ [(g.l.length : Int)], g.txt ++ [t], g.ink ++ [!blankB t]⟩ (k.flat (g.l.length : Int) (g.l ++ [(⟨topG g, n, [], a⟩ : Nod)]).length)) [⟨2, n, [], [], false⟩] = 0 ∧
            runS (plusF ⟨g.l ++ [⟨topG g, n, [], a⟩], g.opn ++ [(g.l.length : Int)], g.txt ++ [t], g.ink ++ [!blankB t]⟩ (k.flat (g.l.length : Int) (g.l ++ [(⟨topG g, n, [], a⟩ : Nod)]).length)) [⟨2, n, [], [], false⟩] = plusF g (⟨topG g, n, t, a⟩ :: k.flat (g.l.length : Int) (g.l.length + 1)) := by
          refine run_one ⟨?_, ?_⟩
          · unfold takeE plusF
            rw [if_neg (show ¬ (2 : Int) = 1 by decide), if_pos rfl]
            rw [top_snoc, if_neg]
            rintro (h | h)
            · omega
            · apply h
              unfold nameAt
              simp
          · unfold takeS plusF
            rw [if_neg (show ¬ (2 : Int) = 1 by decide), if_pos rfl]
            simp [bare]
        have h5 := run_steps (a := [⟨1, n, [], a, false⟩]) (run_one h1) (run_steps h2 (run_steps h3 h4))
        simpa using h5
    obtain ⟨_, ⟨k1, k2⟩, _⟩ := key
    have hlen : (plusF g (⟨topG g, n, t, a⟩ :: k.flat (g.l.length : Int) (g.l.length + 1))).l.length = g.l.length + 1 + k.size := by
      unfold plusF; simp [Fo.flat_len]; omega
    have htp : topG (plusF g (⟨topG g, n, t, a⟩ :: k.flat (g.l.length : Int) (g.l.length + 1))) = topG g := rfl
    by_cases hrn : r.isNil = true
    · obtain rfl := isNil_true hrn
      have e1 : ∀ l : List Tok, l ++ Fo.nil.toks = l := fun l => by simp [Fo.toks]
      rw [e1]
      refine ⟨k1, k2.trans ?_⟩
      simp [Fo.flat]
    have hr := r.run (plusF g (⟨topG g, n, t, a⟩ :: k.flat (g.l.length : Int) (g.l.length + 1))) hro (by unfold plusF; simp [hx]) (by unfold plusF; simp [hi]) (by
        rw [htp]
        rcases htop with h | ⟨h, h2⟩
        · exact .inl h
        · exact absurd h2 hrn) (by show g.opn.length + _ ≤ 32; omega) (by rw [hlen]; omega)
    rw [hlen, htp] at hr
    have h6 := run_steps ⟨k1, k2⟩ hr
    refine ⟨h6.1, h6.2.trans ?_⟩
    rw [← plus_app]
    rfl

/-- who has kids has no text -/
theorem Fo.txt_none : ∀ (f : Fo) (p : Int) (b : Nat), f.ok → p < (b : Int) → ∀ (i : Nat) (x : Nod), (f.flat p b)[i]? = some x → (∃ y ∈ f.flat p b, y.parent = ((b + i : Nat) : Int)) → x.text = []
  | .nil, _, _, _, _, _, _, h, _ => by simp [Fo.flat] at h
  | .cons n t a k r, p, b, hok, hp, i, x, hx, ⟨y, hy, hyp⟩ => by
    obtain ⟨hn, ht, ha, hk, hko, hro⟩ := hok
    rw [Fo.flat_cons] at hx hy
    have hkl := k.flat_len (b : Int) (b + 1)
    cases i with
    | zero =>
      simp only [List.getElem?_cons_zero, Option.some.injEq] at hx
      subst hx
      show t = []
      cases hkn : k.isNil with
      | false => exact hk hkn
      | true =>
        exfalso
        obtain rfl := isNil_true hkn
        rcases List.mem_cons.1 hy with rfl | hy
        · simp only at hyp; omega
        rcases List.mem_append.1 hy with hy | hy
        · cases hy
        · rcases r.par_in p _ y hy with e | e <;> omega
    | succ i =>
      simp only [List.getElem?_cons_succ] at hx
      rcases Nat.lt_or_ge i k.size with hlt | hge
      · rw [List.getElem?_append_left (by omega)] at hx
        refine k.txt_none (b : Int) (b + 1) hko (by omega) i x hx ?_
        rcases List.mem_cons.1 hy with rfl | hy
        · simp only at hyp; omega
        rcases List.mem_append.1 hy with hy | hy
        · exact ⟨y, hy, by omega⟩
        · rcases r.par_in p _ y hy with e | e <;> omega
      · rw [List.getElem?_append_right (by omega), hkl] at hx
        refine r.txt_none p (b + 1 + k.size) hro (by omega) (i - k.size) x hx ?_
        rcases List.mem_cons.1 hy with rfl | hy
        · simp only at hyp; omega
        rcases List.mem_append.1 hy with hy | hy
        · rcases k.par_in _ _ y hy with e | e <;> omega
        · exact ⟨y, hy, by omega⟩
theorem plus_zero (l : List Nod) : plusF g0 l = ⟨l.map bare, [], l.map (·.text), l.map (fun n => !blankB n.text)⟩ := by unfold plusF g0; simp
theorem Fo.build {f : Fo} (hok : f.ok) (hs : f.single = true) (hn : f.isNil = false) (hd : f.deep ≤ 32) (hz : f.size ≤ 500) : buildE f.toks = 0 ∧ buildL f.toks = f.flat (-1) 0 := by
  have hrun := f.run g0 hok rfl rfl (.inr ⟨rfl, hs⟩) (by show 0 + _ ≤ 32; omega) (by show 0 + _ ≤ 500; omega)
  have htop : topG g0 = -1 := rfl
  rw [htop, show g0.l.length = 0 from rfl, plus_zero] at hrun
  obtain ⟨b1, b2⟩ := buildE_of hrun
  have hlen := f.flat_len (-1) 0
  have hpar : ∀ m : Nat, (((f.flat (-1) 0).map bare)[m]?).map (·.parent) = ((f.flat (-1) 0)[m]?).map (·.parent) := by
    intro m
    rw [List.getElem?_map]
    cases (f.flat (-1) 0)[m]? <;> rfl
  have hkids : ∀ (j : Nat) (x : Nod), (f.flat (-1) 0)[j]? = some x → kidsL ((f.flat (-1) 0).map bare) (j : Int) ≠ [] → x.text = [] := by
    intro j x hx hk
    obtain ⟨m, hm⟩ := List.exists_mem_of_ne_nil _ hk
    have hj := (List.getElem?_eq_some_iff.1 hx).1
    rw [kids_mem _ j m (by simpa using hj), hpar] at hm
    obtain ⟨y, hy, hyp⟩ := Option.map_eq_some_iff.1 hm
    exact f.txt_none (-1) 0 hok (by omega) j x hx ⟨y, List.mem_of_getElem? hy, by rw [hyp]; omega⟩
  have hmix : mixF ⟨(f.flat (-1) 0).map bare, [], (f.flat (-1) 0).map (·.text), (f.flat (-1) 0).map (fun n => !blankB n.text)⟩ ((f.flat (-1) 0).map bare).length = false := by
    refine mix_no _ (fun j hj => ?_)
    rw [List.length_map] at hj
    by_cases hk : kidsL ((f.flat (-1) 0).map bare) (j : Int) = []
    · exact .inl hk
    · right
      have hx := List.getElem?_eq_getElem hj
      have := hkids j _ hx hk
      show (((f.flat (-1) 0).map (fun n => !blankB n.text))[j]?).getD false = false
      rw [List.getElem?_map, hx]
      simp [this, blankB]
  have hend : endE ⟨(f.flat (-1) 0).map bare, [], (f.flat (-1) 0).map (·.text), (f.flat (-1) 0).map (fun n => !blankB n.text)⟩ = 0 := by
    unfold endE
    rw [if_neg, hmix]
    · rfl
    · rintro (h | h)
      · have h2 := congrArg List.length h
        simp [hlen] at h2
        cases f with
        | nil => cases hn
        | cons => simp [Fo.size] at h2
      · exact h rfl
  refine ⟨b1.trans hend, (b2 hend).trans ?_⟩
  apply List.ext_getElem?
  intro j
  rw [endF_get]
  have hb : ((f.flat (-1) 0).map bare)[j]? = ((f.flat (-1) 0)[j]?).map bare := List.getElem?_map ..
  have ht : ((f.flat (-1) 0).map (·.text))[j]? = ((f.flat (-1) 0)[j]?).map (·.text) := List.getElem?_map ..
  show (((f.flat (-1) 0).map bare)[j]?).map _ = _
  rw [hb]
  simp only [Nat.zero_add, ht]
  cases hx : (f.flat (-1) 0)[j]? with
  | none => rfl
  | some x =>
    simp only [Option.map_some, Option.some.injEq]
    split
    · rfl
    · rename_i hk
      have := hkids j x hx hk
      obtain ⟨p, n, t, a⟩ := x
      simp only at this
      subst this
      rfl

/-! ### as a text -/
theorem utf8_one {c : UInt8} (h1 : 32 ≤ c.toNat) (h2 : c.toNat < 127) : utf8B [c] = true := by
  unfold utf8B
  rw [cnt_one, if_pos]
  · rfl
  · refine ⟨by omega, ?_⟩
    unfold charB
    rw [decide_eq_true_iff]
    omega
theorem utf8_ascii : ∀ l : List UInt8, (∀ x ∈ l, 32 ≤ x.toNat ∧ x.toNat < 127) → utf8B l = true
  | [], _ => rfl
  | c :: l, h => (runes_app (a := [c]) (utf8_one (h c (by simp)).1 (h c (by simp)).2) (utf8_ascii l (fun x hx => h x (by simp [hx])))).1
theorem wi_ascii {c : UInt8} (h : isWi c = true) : 32 ≤ c.toNat ∧ c.toNat < 127 := by
  unfold isWi isFi at h
  simp at h
  omega
theorem utf8_name {n : List UInt8} (h : nameOk n = true) : utf8B n = true := by
  refine utf8_ascii n (fun x hx => wi_ascii ?_)
  cases n with
  | nil => cases hx
  | cons c q =>
    unfold nameOk at h
    simp only [Bool.and_eq_true, List.all_eq_true] at h
    exact h.2 x hx
theorem utf8_app {a b : List UInt8} (ha : utf8B a = true) (hb : utf8B b = true) : utf8B (a ++ b) = true := (runes_app ha hb).1
theorem utf8_cons {c : UInt8} {b : List UInt8} (h1 : 32 ≤ c.toNat) (h2 : c.toNat < 127) (hb : utf8B b = true) : utf8B (c :: b) = true := utf8_app (a := [c]) (utf8_one h1 h2) hb
theorem utf8_attrs : ∀ a : List (List UInt8 × List UInt8), (∀ x ∈ a, nameOk x.1 = true ∧ utf8B x.2 = true) → utf8B (attrW a) = true
  | [], _ => rfl
  | x :: a, h => by
    obtain ⟨h1, h2⟩ := h x (by simp)
    unfold attrW
    exact utf8_cons (by decide) (by decide) (utf8_app (utf8_name h1) (utf8_cons (by decide) (by decide) (utf8_cons (by decide) (by decide) (utf8_app (utf8_esc _ x.2 (Nat.le_refl _) h2) (utf8_cons (by decide) (by decide) (utf8_attrs a (fun y hy => h y (by simp [hy]))))))))
theorem Fo.utf8 : ∀ f : Fo, f.ok → utf8B f.wr = true
  | .nil, _ => rfl
  | .cons n t a k r, ⟨hn, ht, ha, hk, hko, hro⟩ => by
    rw [Fo.wr_cons]
    refine utf8_app (utf8_cons (by decide) (by decide) (utf8_app (utf8_name hn) (utf8_app (utf8_attrs a ha.1) ?_))) (r.utf8 hro)
    split
    · decide
    · exact utf8_cons (by decide) (by decide) (utf8_app (utf8_esc _ t (Nat.le_refl _) ht) (utf8_app (k.utf8 hko) (utf8_cons (by decide) (by decide) (utf8_cons (by decide) (by decide) (utf8_app (utf8_name hn) (by decide))))))
/-- what is written is parsed as it was -/
theorem Fo.parse {f : Fo} (hok : f.ok) (hs : f.single = true) (hn : f.isNil = false) (hd : f.deep ≤ 32) (hz : f.size ≤ 500) (hl : f.wr.length ≤ 4096) : parseE f.wr = 0 ∧ parseL f.wr = f.flat (-1) 0 := by
  have htk := f.toks_wr [] hok (fun x q e => by cases e)
  rw [List.append_nil] at htk
  have htk : toksV f.wr = some f.toks := by rw [htk]; show some (f.toks ++ []) = _; rw [List.append_nil]
  have hbody : bodyL f.wr = f.wr := by
    unfold bodyL
    cases f with
    | nil => cases hn
    | cons n t a k r =>
      obtain ⟨hnm, _⟩ := hok
      have : isP prologL (Fo.cons n t a k r).wr = none := by
        unfold isP
        rw [if_neg]
        intro e
        obtain ⟨u, e⟩ := List.isPrefixOf_iff_prefix.1 e
        rw [Fo.wr_cons] at e
        cases n with
        | nil => cases hnm
        | cons c q =>
          unfold prologL at e
          simp only [List.cons_append, List.cons.injEq] at e
          have hc := e.2.1
          unfold nameOk at hnm
          rw [← hc] at hnm
          revert hnm
          simp [isFi]
      rw [this]
      rfl
  have hE : tokE f.wr = 0 := by
    unfold tokE
    rw [if_neg (by omega), f.utf8 hok, hbody, htk]
    rfl
  have hL : tokL f.wr = f.toks := by
    unfold tokL
    rw [if_pos hE, hbody, htk]
    rfl
  obtain ⟨h1, h2⟩ := Fo.build hok hs hn hd hz
  exact ⟨by unfold parseE; rw [if_pos hE, hL]; exact h1, by unfold parseL; rw [if_pos hE, hL]; exact h2⟩
end Go.Proofs.YthkjmbkfcnehoaaGreatDoor
/- What is parsed is right: the tree of sound tokens may be written: plain functions, no program. -/
namespace Go.Proofs.YthkjmbkfcnehoaaGreatDoor
set_option linter.unusedVariables false

/-- a token that may be: names, values and texts are such -/
def SoundA (a : List (List UInt8 × List UInt8)) : Prop := (∀ x ∈ a, nameOk x.1 = true ∧ utf8B x.2 = true) ∧ (a.map (·.1)).Nodup
def SoundT (t : Tok) : Prop := (t.kind = 1 → nameOk t.name = true ∧ SoundA t.attrs) ∧ (t.kind = 3 → utf8B t.text = true)
structure NestG (g : Gro) : Prop where
  nst : g.l = [] ∧ g.opn = [] ∨ ∃ n r s, g.l = n :: r ∧ nestF [0] 1 r = true ∧ endO [0] 1 r = g.opn ++ s
  nd : g.opn.Nodup
  snd : ∀ n ∈ g.l, nameOk n.name = true ∧ SoundA n.attrs
  tx : ∀ t ∈ g.txt, utf8B t = true
theorem nest0 : NestG g0 := ⟨.inl ⟨rfl, rfl⟩, List.nodup_nil, fun n h => (by cases h), fun t h => (by cases h)⟩
theorem nest_take {g : Gro} {t : Tok} (ho : Okg g) (h : NestG g) (ht : SoundT t) (he : takeE g t = 0) : NestG (takeS g t) := by
  have hc := top_cases g ho
  unfold takeE at he
  unfold takeS
  by_cases h1 : t.kind = 1
  · rw [if_pos h1] at he ⊢
    split at he
    · cases he
    split at he
    · cases he
    rename_i hn0 htop
    split at he
    · cases he
    rename_i hdeep
    obtain ⟨hnm, hat⟩ := ht.1 h1
    have hnd2 : (if t.empty = true then g.opn else g.opn ++ [(g.l.length : Int)]).Nodup := by
      split
      · exact h.nd
      · rw [List.nodup_append]
        refine ⟨h.nd, by simp, ?_⟩
        intro a ha b hb e
        simp at hb
        have := ho.opn a ha
        omega
    refine ⟨.inr ?_, hnd2, ?_, ?_⟩
    · rcases h.nst with ⟨hl, hop⟩ | ⟨n, r, s, hl, hnest, hend⟩
      · refine ⟨⟨topG g, t.name, [], t.attrs⟩, [], if t.empty = true then [0] else [], by simp only [hl]; rfl, rfl, ?_⟩
        simp only [hop, hl]
        split <;> rfl
      · have hpos : 0 < g.l.length := by rw [hl]; simp
        have htp : ¬ topG g < 0 := fun e => htop ⟨e, hpos⟩
        obtain ⟨p, q, hq, htg, hlt⟩ : ∃ (p : Nat) (q : List Int), g.opn = q ++ [(p : Int)] ∧ topG g = (p : Int) ∧ p < g.l.length := by
          rcases hc with ⟨_, hc⟩ | ⟨k, r, h1, h2, h3⟩
          · omega
          · exact ⟨k, r, h1, h2, h3⟩
        have hpq : (p : Int) ∉ q := by
          have := h.nd
          rw [hq] at this
          have := (List.nodup_append.1 this).2.2
          exact fun hin => this _ hin _ (by simp) rfl
        have hlen : g.l.length = 1 + r.length := by rw [hl]; simp; omega
        have htw : (endO [0] 1 r).takeWhile (fun x => decide (x ≠ (p : Int))) = q := by
          rw [hend, hq, List.append_assoc]
          exact tw_at hpq s
        refine ⟨n, r ++ [⟨topG g, t.name, [], t.attrs⟩], if t.empty = true then [(g.l.length : Int)] else [], by simp only [hl]; rfl, ?_, ?_⟩
        · rw [nest_app, hnest, Bool.true_and, nest_cons]
          simp only [htg]
          rw [htw]
          have c1 : (endO [0] 1 r).contains (p : Int) = true := by rw [hend, hq]; simp
          have c2 : (q ++ [(p : Int), ((1 + r.length : Nat) : Int)]).length ≤ 32 := by
            have : g.opn.length = q.length + 1 := by rw [hq]; simp
            simp
            omega
          rw [c1, decide_eq_true c2]
          rfl
        · rw [endO_app]
          simp only [endO, htg]
          rw [htw, hq, ← hlen]
          split <;> simp
    · intro m hm
      rcases List.mem_append.1 hm with hm | hm
      · exact h.snd m hm
      · simp at hm; subst hm; exact ⟨hnm, hat⟩
    · intro m hm
      rcases List.mem_append.1 hm with hm | hm
      · exact h.tx m hm
      · simp at hm; subst hm; rfl
  rw [if_neg h1]
  by_cases h2 : t.kind = 2
  · rw [if_pos h2]
    refine ⟨?_, h.nd.sublist (List.dropLast_sublist _), h.snd, h.tx⟩
    rcases h.nst with ⟨hl, hop⟩ | ⟨n, r, s, hl, hnest, hend⟩
    · exact .inl ⟨hl, by simp [hop]⟩
    · right
      rcases List.eq_nil_or_concat g.opn with e | ⟨a, b, e⟩
      · exact ⟨n, r, s, hl, hnest, by rw [hend]; simp [e]⟩
      · refine ⟨n, r, b :: s, hl, hnest, ?_⟩
        rw [hend, e]
        simp
  rw [if_neg h2]
  split
  · exact h
  · by_cases h3 : t.kind = 3
    · refine ⟨h.nst, h.nd, h.snd, ?_⟩
      intro m hm
      rcases List.mem_or_eq_of_mem_set hm with hm | rfl
      · exact h.tx m hm
      · refine (runes_app ?_ (ht.2 h3)).1
        cases hg : g.txt[(topG g).toNat]? with
        | none => rfl
        | some x => exact h.tx x (List.mem_of_getElem? hg)
    · rw [if_neg h1, if_neg h2, if_neg h3] at he
      cases he
theorem run_nest : ∀ (ts : List Tok) (g : Gro), Okg g → NestG g → (∀ t ∈ ts, SoundT t) → runE g ts = 0 → NestG (runS g ts)
  | [], g, _, h, _, _ => h
  | t :: ts, g, ho, h, hs, he => by
    unfold runE at he
    split at he
    · rename_i h0
      exact run_nest ts _ (ok_take ho h0) (nest_take ho h (hs t (by simp)) h0) (fun x hx => hs x (by simp [hx])) he
    · rename_i h0; exact absurd he h0
theorem nest_par : ∀ (l m : List Nod) (o : List Int) (k : Nat), l.map (·.parent) = m.map (·.parent) → nestF o k l = nestF o k m
  | [], [], _, _, _ => rfl
  | [], _ :: _, _, _, h => by cases h
  | _ :: _, [], _, _, h => by cases h
  | a :: l, b :: m, o, k, h => by
    simp only [List.map_cons, List.cons.injEq] at h
    rw [nest_cons, nest_cons, h.1, nest_par l m _ _ h.2]
theorem build_right {ts : List Tok} (hs : ∀ t ∈ ts, SoundT t) (h : buildE ts = 0) : RightL (buildL ts) := by
  have hst := build_stands h
  have hL : buildL ts = endF (runS g0 ts) 0 (runS g0 ts).l := by unfold buildL; rw [if_pos h]
  have hr : runE g0 ts = 0 := by
    unfold buildE at h
    split at h
    · rename_i h0; exact h0
    · rename_i h0; exact absurd h h0
  have hn := run_nest ts g0 ok0 nest0 hs hr
  have hst0 := (run_std ts g0 ok0 std0 hr).2.tx
  have hpar := endF_par (runS g0 ts) (runS g0 ts).l 0
  have hget := endF_get (runS g0 ts) (runS g0 ts).l 0
  rw [hL] at hst ⊢
  generalize runS g0 ts = g at *
  generalize endF g 0 g.l = L at *
  obtain ⟨n, r, s, hl, hnest, _⟩ : ∃ n r s, g.l = n :: r ∧ nestF [0] 1 r = true ∧ endO [0] 1 r = g.opn ++ s := by
    rcases hn.nst with ⟨hl, _⟩ | hx
    · exfalso
      rw [hl] at hpar
      exact hst.some (by simpa using hpar)
    · exact hx
  cases L with
  | nil => exact absurd rfl hst.some
  | cons y L =>
    have hpar2 : L.map (·.parent) = r.map (·.parent) := by
      rw [hl] at hpar
      simp only [List.map_cons, List.cons.injEq] at hpar
      exact hpar.2
    refine ⟨by simp, hst.top, ?_, ?_, ?_, ?_⟩
    · have := (hst.std.par 0 (by simp)).1 rfl
      simpa using this
    · show nestF [0] 1 L = true
      rw [nest_par L r [0] 1 hpar2]
      exact hnest
    · intro x hx
      obtain ⟨i, hi, e⟩ := List.mem_iff_getElem.1 hx
      have hg := hget i
      rw [List.getElem?_eq_getElem hi, e] at hg
      cases hm : g.l[i]? with
      | none => rw [hm] at hg; cases hg
      | some m =>
        rw [hm] at hg
        simp only [Option.map_some, Option.some.injEq] at hg
        obtain ⟨s1, s2, s3⟩ := hn.snd m (List.mem_of_getElem? hm)
        have htx : utf8B ((g.txt[0 + i]?).getD []) = true := by
          cases hq : g.txt[0 + i]? with
          | none => rfl
          | some q => exact hn.tx q (List.mem_of_getElem? hq)
        have hm0 := hst0 m (List.mem_of_getElem? hm)
        split at hg
        · subst hg
          exact ⟨s1, htx, s2, s3⟩
        · subst hg
          refine ⟨s1, ?_, s2, s3⟩
          rw [hm0]
          rfl
    · intro x hx
      obtain ⟨i, hi, e⟩ := List.mem_iff_getElem.1 (show x ∈ L from hx)
      have hp := (hst.std.par (i + 1) (by simp; omega)).2 (by omega)
      have hxi : (y :: L)[i + 1]'(by simp; omega) = x := by simpa using e
      rw [hxi] at hp
      obtain ⟨j, hj⟩ := Int.eq_ofNat_of_zero_le hp.1
      have hjl : j < (y :: L).length := by simp; omega
      rw [hj]
      simp only [Int.toNat_natCast]
      rw [List.getElem?_eq_getElem hjl]
      have hk : kidsL (y :: L) (j : Int) ≠ [] := kids_some hjl (k := i + 1) (by
        rw [List.getElem?_eq_getElem (by simp; omega), hxi]
        exact congrArg some hj)
      simp only [Option.map_some, Option.getD_some]
      exact hst.kid j hjl hk
end Go.Proofs.YthkjmbkfcnehoaaGreatDoor
/- What is told of a text is sound: names are names, values and texts are texts: plain functions, no program. -/
namespace Go.Proofs.YthkjmbkfcnehoaaGreatDoor
set_option linter.unusedVariables false

/-! ### cutting a text -/
theorem utf8_step {l : List UInt8} (hl : l ≠ []) (h : utf8B l = true) : sizeB l ≠ 0 ∧ utf8B (l.drop (sizeB l)) = true := by
  unfold utf8B at h ⊢
  rw [cnt_step hl] at h
  split at h
  · cases h
  · rename_i hs
    refine ⟨hs, ?_⟩
    cases hc : cnt (l.drop (sizeB l)) with
    | none => rw [hc] at h; cases h
    | some x => rfl
theorem utf8_take {l : List UInt8} (h : sizeB l ≠ 0) : utf8B (l.take (sizeB l)) = true := by
  obtain ⟨h1, _⟩ := size_take h
  have hp := sizeB_pos h
  have hne : l.take (sizeB l) ≠ [] := by
    intro e
    have := congrArg List.length e
    rw [List.length_take] at this
    simp only [List.length_nil] at this
    omega
  unfold utf8B
  rw [cnt_step hne, h1, if_neg h, List.drop_take, Nat.sub_self, List.take_zero]
  rfl
theorem utf8_tail {c : UInt8} {b : List UInt8} (hc : c.toNat < 128) (h : utf8B (c :: b) = true) : utf8B b = true := by
  obtain ⟨h1, h2⟩ := utf8_step (by simp) h
  have hp := sizeB_pos h1
  rcases (size_take h1).2 with h3 | h3
  · rw [h3] at h2
    exact h2
  · have : c ∈ (c :: b).take (sizeB (c :: b)) := by
      obtain ⟨m, hm⟩ : ∃ m, sizeB (c :: b) = m + 1 := ⟨sizeB (c :: b) - 1, by omega⟩
      rw [hm, List.take_succ_cons]
      simp
    have := h3 c this
    omega
theorem utf8_behind : ∀ (a : List UInt8) {b : List UInt8}, (∀ x ∈ a, x.toNat < 128) → utf8B (a ++ b) = true → utf8B b = true
  | [], _, _, h => h
  | c :: a, b, ha, h => utf8_behind a (fun x hx => ha x (by simp [hx])) (utf8_tail (ha c (by simp)) h)
theorem utf8_cut : ∀ (m : Nat) (a : List UInt8), a.length ≤ m → ∀ (c : UInt8) (b : List UInt8), c.toNat < 128 → utf8B (a ++ c :: b) = true → utf8B a = true ∧ utf8B (c :: b) = true := by
  intro m
  induction m with
  | zero =>
    intro a ha c b hc h
    obtain rfl := List.eq_nil_of_length_eq_zero (by omega : a.length = 0)
    exact ⟨rfl, h⟩
  | succ m ih =>
    intro a ha c b hc h
    cases a with
    | nil => exact ⟨rfl, h⟩
    | cons y a =>
      obtain ⟨h1, h2⟩ := utf8_step (by simp) h
      have hp := sizeB_pos h1
      have hst := (size_take h1).2
      have ht := utf8_take h1
      generalize sizeB (y :: a ++ c :: b) = Z at *
      rcases Nat.lt_or_ge (y :: a).length Z with hlt | hge
      · exfalso
        rcases hst with h3 | h3
        · rw [h3] at hlt; simp at hlt
        · have hm : c ∈ (y :: a ++ c :: b).take Z := by
            rw [List.mem_take_iff_getElem]
            refine ⟨(y :: a).length, ?_, ?_⟩
            · simp at hlt ⊢; omega
            · simp
          have := h3 c hm
          omega
      · rw [List.drop_append_of_le_length hge] at h2
        obtain ⟨i1, i2⟩ := ih ((y :: a).drop Z) (by rw [List.length_drop]; simp at ha ⊢; omega) c b hc h2
        refine ⟨?_, i2⟩
        rw [List.take_append_of_le_length hge] at ht
        have := utf8_app ht i1
        rwa [List.take_append_drop] at this
theorem utf8_cut' {a b : List UInt8} {c : UInt8} (hc : c.toNat < 128) (h : utf8B (a ++ c :: b) = true) : utf8B a = true ∧ utf8B b = true := by
  obtain ⟨h1, h2⟩ := utf8_cut a.length a (Nat.le_refl _) c b hc h
  exact ⟨h1, utf8_tail hc h2⟩
/-- up to a sign of one byte -/
theorem utf8_while (p : UInt8 → Bool) {l r : List UInt8} {c : UInt8} (hc : c.toNat < 128) (h : utf8B l = true) (hd : l.dropWhile p = c :: r) : utf8B (l.takeWhile p) = true ∧ utf8B r = true := by
  have := List.takeWhile_append_dropWhile (p := p) (l := l)
  rw [hd] at this
  rw [← this] at h
  exact utf8_cut' hc h
theorem utf8_skip (p : UInt8 → Bool) (hp : ∀ x, p x = true → x.toNat < 128) {l : List UInt8} (h : utf8B l = true) : utf8B (l.dropWhile p) = true := by
  have e := List.takeWhile_append_dropWhile (p := p) (l := l)
  rw [← e] at h
  exact utf8_behind _ (fun x hx => hp x (List.all_eq_true.1 (List.all_takeWhile) x hx)) h
theorem utf8_isP {p l r : List UInt8} (hp : ∀ x ∈ p, x.toNat < 128) (h : utf8B l = true) (hi : isP p l = some r) : utf8B r = true := by
  rw [(isP_len hi).1] at h
  exact utf8_behind p hp h

/-! ### values -/
theorem utf8_encC {c : Nat} (h : charB c = true) : utf8B (encL (c : Int)) = true := by
  have hb := h
  unfold charB at hb
  rw [decide_eq_true_iff] at hb
  have he := cnt_enc (c := c) (by omega) (by omega)
  unfold utf8B
  rw [he, h]
  rfl
theorem sound_nil : SoundA [] := ⟨fun x hx => (by cases hx), by simp⟩
theorem utf8_ent {s x : List UInt8} (h : entV s = some x) : utf8B x = true := by
  unfold entV at h
  split at h
  · injection h with h; subst h; decide
  split at h
  · injection h with h; subst h; decide
  split at h
  · injection h with h; subst h; decide
  split at h
  · injection h with h; subst h; decide
  split at h
  · injection h with h; subst h; decide
  simp only at h
  split at h
  · cases h
  · split at h
    · rename_i v _ hv
      have h2 := utf8_encC hv
      generalize encL (v : Int) = z at h h2
      injection h with h
      subst h
      exact h2
    · cases h
theorem utf8_val : ∀ (m : Nat) (s v : List UInt8), s.length ≤ m → utf8B s = true → valV s = some v → utf8B v = true := by
  intro m
  induction m with
  | zero =>
    intro s v hs _ hv
    obtain rfl := List.eq_nil_of_length_eq_zero (by omega : s.length = 0)
    rw [valV_nil] at hv
    injection hv with hv
    subst hv
    rfl
  | succ m ih =>
    intro s v hs hu hv
    cases s with
    | nil =>
      rw [valV_nil] at hv
      injection hv with hv
      subst hv
      rfl
    | cons c r =>
      by_cases hc : c.toNat = 38
      · have hc2 : c = 38 := UInt8.toNat_inj.1 hc
        subst hc2
        have hr := utf8_tail (by decide) hu
        unfold valV at hv
        rw [List.length_cons, valF_amp] at hv
        cases hd : r.dropWhile (fun b => decide (b.toNat ≠ 59)) with
        | nil => rw [hd] at hv; cases hv
        | cons d rest =>
          rw [hd] at hv
          simp only at hv
          have hd59 : d.toNat < 128 := by
            have h2 := List.head?_dropWhile_not (fun b : UInt8 => decide (b.toNat ≠ 59)) r
            rw [hd] at h2
            simp at h2
            omega
          obtain ⟨w1, w2⟩ := utf8_while _ hd59 hr hd
          have hlen : rest.length + 1 ≤ r.length := by
            have := drop_while_le (fun b : UInt8 => decide (b.toNat ≠ 59)) r
            rw [hd] at this
            simpa using this
          cases he : entV (r.takeWhile fun b => decide (b.toNat ≠ 59)) with
          | none => rw [he] at hv; cases hv
          | some x =>
            rw [he] at hv
            simp only at hv
            obtain ⟨v', hv', rfl⟩ := Option.map_eq_some_iff.1 hv
            have hval : valV rest = some v' := by
              unfold valV
              rw [valF_enough rest.length r.length rest (Nat.le_refl _) (by omega)]
              exact hv'
            exact utf8_app (utf8_ent he) (ih rest v' (by simp at hs; omega) w2 hval)
      · obtain ⟨h1, h2⟩ := utf8_step (by simp) hu
        have hp := sizeB_pos h1
        have hno : ∀ x ∈ (c :: r).take (sizeB (c :: r)), x.toNat ≠ 38 := by
          intro x hx
          rcases (size_take h1).2 with h3 | h3
          · rw [h3] at hx
            simp at hx
            rw [hx]
            exact hc
          · have := h3 x hx
            omega
        have e := List.take_append_drop (sizeB (c :: r)) (c :: r)
        have hcut : ∀ (a q : List UInt8), (∀ x ∈ a, x.toNat ≠ 38) → valV (a ++ q) = (valV q).map (a ++ ·) := by
          intro a q ha
          induction a with
          | nil => simp
          | cons y t ih2 =>
            rw [List.cons_append, valV_plain (ha y (by simp)), ih2 (fun x hx => ha x (by simp [hx])), Option.map_map]
            rfl
        rw [← e, hcut _ _ hno] at hv
        obtain ⟨v', hv', rfl⟩ := Option.map_eq_some_iff.1 hv
        exact utf8_app (utf8_take h1) (ih _ v' (by rw [List.length_drop]; simp at hs ⊢; omega) h2 hv')

/-! ### tokens -/
theorem bl_low {x : UInt8} (h : isBl x = true) : x.toNat < 128 := by unfold isBl at h; simp at h; omega
theorem wi_low {x : UInt8} (h : isWi x = true) : x.toNat < 128 := by have := wi_ascii h; omega
theorem attr_sound {used : List (List UInt8 × List UInt8)} {l r : List UInt8} {a : List UInt8 × List UInt8} (hu : utf8B l = true) (h : attrP used l = some (a, r)) :
    nameOk a.1 = true ∧ utf8B a.2 = true ∧ (∀ x ∈ used, x.1 ≠ a.1) ∧ utf8B r = true := by
  unfold attrP at h
  simp only at h
  split at h
  · cases h
  rename_i hnu
  simp only [Bool.or_eq_true, Bool.not_eq_true', not_or, Bool.not_eq_false, List.any_eq_true, not_exists, not_and] at hnu
  cases hp : isP [61] ((l.dropWhile isWi).dropWhile isBl) with
  | none => rw [hp] at h; cases h
  | some l1 =>
    rw [hp] at h
    simp only at h
    have u1 := utf8_isP (by intro x hx; simp at hx; subst hx; decide) (utf8_skip isBl (fun x => bl_low) (utf8_skip isWi (fun x => wi_low) hu)) hp
    have u2 := utf8_skip isBl (fun x => bl_low) u1
    cases hm : l1.dropWhile isBl with
    | nil => rw [hm] at h; cases h
    | cons mark q =>
      rw [hm] at h u2
      simp only at h
      split at h
      · cases h
      rename_i hmk
      have hml : mark.toNat < 128 := by omega
      have u3 := utf8_tail hml u2
      cases hd : q.dropWhile (fun c => decide (c ≠ mark ∧ c.toNat ≠ 60)) with
      | nil => rw [hd] at h; cases h
      | cons c rest =>
        rw [hd] at h
        simp only at h
        split at h
        · cases h
        rename_i hcm
        have hcm : c = mark := by simpa using hcm
        subst hcm
        obtain ⟨u4, u5⟩ := utf8_while _ hml u3 hd
        obtain ⟨v, hv, e⟩ := Option.map_eq_some_iff.1 h
        injection e with e1 e2
        subst e1 e2
        refine ⟨hnu.1, utf8_val _ _ v (Nat.le_refl _) u4 hv, fun x hx e => ?_, u5⟩
        exact hnu.2 x hx (by simpa using e)
theorem open_sound : ∀ (f : Nat) (name : List UInt8) (attrs : List (List UInt8 × List UInt8)) (l : List UInt8) (t : Tok) (r : List UInt8), nameOk name = true → SoundA attrs → utf8B l = true → openF f name attrs l = some (t, r) → SoundT t ∧ utf8B r = true
  | 0, _, _, _, _, _, _, _, _, h => by cases h
  | f + 1, name, attrs, l, t, r, hn, ha, hu, h => by
    unfold openF at h
    have u1 := utf8_skip isBl (fun x => bl_low) hu
    cases h1 : isP [47, 62] (l.dropWhile isBl) with
    | some q =>
      rw [h1] at h
      simp only [Option.some.injEq, Prod.mk.injEq] at h
      obtain ⟨rfl, rfl⟩ := h
      exact ⟨⟨fun _ => ⟨hn, ha⟩, fun e => (by cases e)⟩, utf8_isP (by intro x hx; simp at hx; rcases hx with rfl | rfl <;> decide) u1 h1⟩
    | none =>
      rw [h1] at h
      simp only at h
      cases h2 : isP [62] (l.dropWhile isBl) with
      | some q =>
        rw [h2] at h
        simp only [Option.some.injEq, Prod.mk.injEq] at h
        obtain ⟨rfl, rfl⟩ := h
        exact ⟨⟨fun _ => ⟨hn, ha⟩, fun e => (by cases e)⟩, utf8_isP (by intro x hx; simp at hx; subst hx; decide) u1 h2⟩
      | none =>
        rw [h2] at h
        simp only at h
        split at h
        · cases h
        cases h3 : attrP attrs (l.dropWhile isBl) with
        | none => rw [h3] at h; cases h
        | some x =>
          obtain ⟨a, q⟩ := x
          rw [h3] at h
          simp only at h
          obtain ⟨s1, s2, s3, s4⟩ := attr_sound u1 h3
          refine open_sound f name (attrs ++ [a]) q t r hn ⟨?_, ?_⟩ s4 h
          · intro x hx
            rcases List.mem_append.1 hx with hx | hx
            · exact ha.1 x hx
            · simp at hx; subst hx; exact ⟨s1, s2⟩
          · rw [List.map_append, List.nodup_append]
            refine ⟨ha.2, by simp, ?_⟩
            intro x hx y hy e
            obtain ⟨z, hz, rfl⟩ := List.mem_map.1 hx
            simp at hy
            exact s3 z hz (e.trans hy)
theorem tok_sound {l r : List UInt8} {t : Tok} (hu : utf8B l = true) (h : tokP l = some (t, r)) : SoundT t ∧ utf8B r = true := by
  unfold tokP at h
  cases h1 : isP [60, 47] l with
  | some l1 =>
    rw [h1] at h
    simp only at h
    split at h
    · cases h
    obtain ⟨q, hq, e⟩ := Option.map_eq_some_iff.1 h
    injection e with e1 e2
    subst e1 e2
    have u1 := utf8_isP (by intro x hx; simp at hx; rcases hx with rfl | rfl <;> decide) hu h1
    exact ⟨⟨fun e => (by cases e), fun e => (by cases e)⟩, utf8_isP (by intro x hx; simp at hx; subst hx; decide) (utf8_skip isBl (fun x => bl_low) (utf8_skip isWi (fun x => wi_low) u1)) hq⟩
  | none =>
    rw [h1] at h
    simp only at h
    cases h2 : isP [60] l with
    | some l1 =>
      rw [h2] at h
      simp only at h
      split at h
      · cases h
      rename_i hn
      have u1 := utf8_isP (by intro x hx; simp at hx; subst hx; decide) hu h2
      exact open_sound _ _ _ _ t r (by simpa using hn) sound_nil (utf8_skip isWi (fun x => wi_low) u1) h
    | none =>
      rw [h2] at h
      simp only at h
      obtain ⟨v, hv, e⟩ := Option.map_eq_some_iff.1 h
      injection e with e1 e2
      subst e1 e2
      have hcut : utf8B (l.takeWhile fun c => decide (c.toNat ≠ 60)) = true ∧ utf8B (l.dropWhile fun c => decide (c.toNat ≠ 60)) = true := by
        cases hd : l.dropWhile (fun c => decide (c.toNat ≠ 60)) with
        | nil =>
          have e := List.takeWhile_append_dropWhile (p := fun c : UInt8 => decide (c.toNat ≠ 60)) (l := l)
          rw [hd, List.append_nil] at e
          rw [e]
          exact ⟨hu, rfl⟩
        | cons c q =>
          have hc : c.toNat < 128 := by
            have h2 := List.head?_dropWhile_not (fun b : UInt8 => decide (b.toNat ≠ 60)) l
            rw [hd] at h2
            simp at h2
            omega
          have e := List.takeWhile_append_dropWhile (p := fun c : UInt8 => decide (c.toNat ≠ 60)) (l := l)
          rw [hd] at e
          rw [← e] at hu
          have := utf8_cut _ (l.takeWhile fun c => decide (c.toNat ≠ 60)) (Nat.le_refl _) c q hc hu
          exact this
      exact ⟨⟨fun e => (by cases e), fun _ => utf8_val _ _ v (Nat.le_refl _) hcut.1 hv⟩, hcut.2⟩
theorem toks_sound : ∀ (m : Nat) (l : List UInt8) (ts : List Tok), utf8B l = true → toksF m l = some ts → ∀ t ∈ ts, SoundT t
  | _, [], ts, _, h => by
    have : ts = [] := by unfold toksF at h; injection h with h; exact h.symm
    subst this
    intro t ht; cases ht
  | 0, _ :: _, _, _, h => by cases h
  | m + 1, c :: l, ts, hu, h => by
    unfold toksF at h
    cases h1 : tokP (c :: l) with
    | none => rw [h1] at h; cases h
    | some x =>
      obtain ⟨t, rest⟩ := x
      rw [h1] at h
      simp only at h
      obtain ⟨s1, s2⟩ := tok_sound hu h1
      obtain ⟨ts', h2, rfl⟩ := Option.map_eq_some_iff.1 h
      intro y hy
      rcases List.mem_cons.1 hy with rfl | hy
      · exact s1
      · exact toks_sound m rest ts' s2 h2 y hy
theorem tokL_sound (l : List UInt8) : ∀ t ∈ tokL l, SoundT t := by
  intro t ht
  unfold tokL at ht
  split at ht
  · rename_i he
    unfold tokE at he
    split at he
    · cases he
    split at he
    · cases he
    rename_i hu
    have hu : utf8B l = true := by simpa using hu
    have hb : utf8B (bodyL l) = true := by
      unfold bodyL
      cases hp : isP prologL l with
      | none => exact hu
      | some r =>
        exact utf8_isP (fun x hx => by
          have := List.all_eq_true.1 (show prologL.all (fun x => decide (x.toNat < 128)) = true by decide) x hx
          simpa using this) hu hp
    cases hv : toksV (bodyL l) with
    | none => rw [hv] at ht; cases ht
    | some ts =>
      rw [hv] at ht
      exact toks_sound _ _ ts hb hv t ht
  · cases ht
/-- what is parsed may be written -/
theorem parse_right {s : List UInt8} (h : parseE s = 0) : RightL (parseL s) := by
  unfold parseE at h
  unfold parseL
  split at h
  · rename_i h0
    rw [if_pos h0]
    exact build_right (tokL_sound s) h
  · rename_i h0; exact absurd h h0
end Go.Proofs.YthkjmbkfcnehoaaGreatDoor
