/- The texts EscMath, TreeMath, CanFo, joined. -/
import Derived.Test.YtbfodbejdaafaaaGreatDoorK13
/- Texts that are escaped, and what stands here: plain functions on lists of bytes, no program. -/
namespace Go.Proofs.YtbfodbejdaafaaaGreatDoor
set_option linter.unusedVariables false

theorem tw_app {p : UInt8 → Bool} {a b : List UInt8} (ha : ∀ x ∈ a, p x = true) (hb : ∀ x r, b = x :: r → p x = false) : (a ++ b).takeWhile p = a ∧ (a ++ b).dropWhile p = b := by
  constructor
  · rw [List.takeWhile_append_of_pos ha]
    cases b with
    | nil => simp
    | cons x r => rw [List.takeWhile_cons, if_neg (by rw [hb x r rfl]; simp)]; simp
  · rw [List.dropWhile_append_of_pos ha]
    cases b with
    | nil => rfl
    | cons x r => rw [List.dropWhile_cons, if_neg (by rw [hb x r rfl]; simp)]
theorem isP_app (p r : List UInt8) : isP p (p ++ r) = some r := by
  unfold isP
  rw [if_pos (List.isPrefixOf_iff_prefix.2 (List.prefix_append p r)), List.drop_left]
theorem isP_one (c : UInt8) (r : List UInt8) : isP [c] (c :: r) = some r := isP_app [c] r
theorem isP_ne {c d : UInt8} {p r : List UInt8} (h : c ≠ d) : isP (c :: p) (d :: r) = none := by
  unfold isP
  rw [if_neg]
  intro e
  obtain ⟨t, e⟩ := List.isPrefixOf_iff_prefix.1 e
  injection e with e1 _
  exact h e1

/-! ### texts that are escaped -/
def escB (c : UInt8) : List UInt8 := if c = 38 then [38, 97, 109, 112, 59] else if c = 60 then [38, 108, 116, 59] else if c = 62 then [38, 103, 116, 59] else if c = 34 then [38, 113, 117, 111, 116, 59] else [c]
def escL (l : List UInt8) : List UInt8 := l.flatMap escB
theorem escL_cons (c : UInt8) (l : List UInt8) : escL (c :: l) = escB c ++ escL l := rfl
theorem escL_app (a b : List UInt8) : escL (a ++ b) = escL a ++ escL b := by simp [escL]
theorem esc_cases (c : UInt8) : (c = 38 ∧ escB c = [38, 97, 109, 112, 59]) ∨ (c = 60 ∧ escB c = [38, 108, 116, 59]) ∨ (c = 62 ∧ escB c = [38, 103, 116, 59]) ∨ (c = 34 ∧ escB c = [38, 113, 117, 111, 116, 59]) ∨ (c ≠ 38 ∧ c ≠ 60 ∧ c ≠ 62 ∧ c ≠ 34 ∧ escB c = [c]) := by
  unfold escB
  by_cases h1 : c = 38
  · exact .inl ⟨h1, if_pos h1⟩
  by_cases h2 : c = 60
  · exact .inr (.inl ⟨h2, by rw [if_neg h1, if_pos h2]⟩)
  by_cases h3 : c = 62
  · exact .inr (.inr (.inl ⟨h3, by rw [if_neg h1, if_neg h2, if_pos h3]⟩))
  by_cases h4 : c = 34
  · exact .inr (.inr (.inr (.inl ⟨h4, by rw [if_neg h1, if_neg h2, if_neg h3, if_pos h4]⟩)))
  · exact .inr (.inr (.inr (.inr ⟨h1, h2, h3, h4, by rw [if_neg h1, if_neg h2, if_neg h3, if_neg h4]⟩)))
theorem valV_esc (r : List UInt8) : ∀ l : List UInt8, valV (escL l ++ r) = (valV r).map (l ++ ·)
  | [] => by simp [escL]
  | c :: l => by
    have ih := valV_esc r l
    rw [escL_cons, List.append_assoc]
    have fin : ∀ o : Option (List UInt8), (o.map (l ++ ·)).map ([c] ++ ·) = o.map (c :: l ++ ·) := by
      intro o
      rw [Option.map_map]
      rfl
    rcases esc_cases c with ⟨rfl, e⟩ | ⟨rfl, e⟩ | ⟨rfl, e⟩ | ⟨rfl, e⟩ | ⟨h1, _, _, _, e⟩
    · rw [e, show [38, 97, 109, 112, 59] ++ (escL l ++ r) = 38 :: [97, 109, 112] ++ (59 :: (escL l ++ r)) from rfl, valV_ent (by decide), ih]
      exact fin _
    · rw [e, show [38, 108, 116, 59] ++ (escL l ++ r) = 38 :: [108, 116] ++ (59 :: (escL l ++ r)) from rfl, valV_ent (by decide), ih]
      exact fin _
    · rw [e, show [38, 103, 116, 59] ++ (escL l ++ r) = 38 :: [103, 116] ++ (59 :: (escL l ++ r)) from rfl, valV_ent (by decide), ih]
      exact fin _
    · rw [e, show [38, 113, 117, 111, 116, 59] ++ (escL l ++ r) = 38 :: [113, 117, 111, 116] ++ (59 :: (escL l ++ r)) from rfl, valV_ent (by decide), ih]
      exact fin _
    · rw [e, show [c] ++ (escL l ++ r) = c :: (escL l ++ r) from rfl, valV_plain (fun h => h1 (UInt8.toNat_inj.1 h)), ih]
      exact fin _
theorem valV_escL (l : List UInt8) : valV (escL l) = some l := by
  have h := valV_esc [] l
  rw [List.append_nil, valV_nil] at h
  simpa using h
theorem escB_in {c b : UInt8} (h : b ∈ escB c) : b.toNat ≠ 60 ∧ b.toNat ≠ 34 ∧ b.toNat ≠ 62 := by
  rcases esc_cases c with ⟨rfl, e⟩ | ⟨rfl, e⟩ | ⟨rfl, e⟩ | ⟨rfl, e⟩ | ⟨h1, h2, h3, h4, e⟩
  · rw [e] at h; revert b; decide
  · rw [e] at h; revert b; decide
  · rw [e] at h; revert b; decide
  · rw [e] at h; revert b; decide
  · rw [e] at h
    obtain rfl : b = c := by simpa using h
    exact ⟨fun e => h2 (UInt8.toNat_inj.1 e), fun e => h4 (UInt8.toNat_inj.1 e), fun e => h3 (UInt8.toNat_inj.1 e)⟩
theorem escL_in {l : List UInt8} {b : UInt8} (h : b ∈ escL l) : b.toNat ≠ 60 ∧ b.toNat ≠ 34 ∧ b.toNat ≠ 62 := by
  unfold escL at h
  obtain ⟨c, _, h⟩ := List.mem_flatMap.1 h
  exact escB_in h
theorem escB_len (c : UInt8) : 1 ≤ (escB c).length ∧ (escB c).length ≤ 6 := by
  rcases esc_cases c with ⟨_, e⟩ | ⟨_, e⟩ | ⟨_, e⟩ | ⟨_, e⟩ | ⟨_, _, _, _, e⟩ <;> rw [e] <;> simp
theorem escL_len : ∀ l : List UInt8, l.length ≤ (escL l).length ∧ (escL l).length ≤ 6 * l.length
  | [] => by simp [escL]
  | c :: l => by
    have ih := escL_len l
    have h := escB_len c
    rw [escL_cons, List.length_append, List.length_cons]
    omega

/-! ### escaped they are texts still -/
theorem tlB_all : ∀ (k : Nat) (r : List UInt8) (c v : Nat), tlB k r c = some v → ∀ x ∈ r.take k, 128 ≤ x.toNat
  | 0, _, _, _, _, x, hx => by simp at hx
  | k + 1, [], _, _, h, _, _ => by cases h
  | k + 1, b :: r, c, v, h, x, hx => by
    unfold tlB at h
    split at h
    · rename_i hb
      rw [List.take_succ_cons] at hx
      rcases List.mem_cons.1 hx with rfl | hx
      · unfold contB at hb
        simp at hb
        omega
      · exact tlB_all k r _ v h x hx
    · cases h
theorem size_take {l : List UInt8} (h : sizeB l ≠ 0) : sizeB (l.take (sizeB l)) = sizeB l ∧ (sizeB l = 1 ∨ ∀ x ∈ l.take (sizeB l), 128 ≤ x.toNat) := by
  cases l with
  | nil => exact absurd rfl h
  | cons b r =>
    obtain ⟨n, least, c, hl⟩ : ∃ n least c, lead b.toNat = some (n, least, c) := by
      cases hl : lead b.toNat with
      | none => rw [sizeB_cons, hl] at h; exact absurd rfl h
      | some p => exact ⟨p.1, p.2.1, p.2.2, rfl⟩
    obtain ⟨hn1, hn4, hnx⟩ := lead_some hl
    rw [sizeB_cons, hl, sizeC_some] at h
    cases ht : tlB (n - 1) r c with
    | none => rw [ht] at h; exact absurd rfl h
    | some v =>
      have hfin : finB (some v) n least = n := by
        rw [ht] at h
        rw [finB_some] at h ⊢
        split at h
        · exact absurd rfl h
        rename_i h1
        split at h
        · rename_i h2
          rw [if_neg h1, if_pos h2]
        · exact absurd rfl h
      have hsz : sizeB (b :: r) = n := by rw [sizeB_cons, hl, sizeC_some, ht, hfin]
      rw [hsz]
      have hk := tlB_len _ _ _ _ ht
      have htk : (b :: r).take n = b :: r.take (n - 1) := by
        obtain ⟨m, rfl⟩ : ∃ m, n = m + 1 := ⟨n - 1, by omega⟩
        rfl
      constructor
      · rw [htk, sizeB_cons, hl, sizeC_some]
        have h1 := tlB_append (n - 1) (r.take (n - 1)) (r.drop (n - 1)) c (by rw [List.length_take]; omega)
        rw [List.take_append_drop, ht] at h1
        rw [← h1, hfin]
      · rcases hnx with ⟨rfl, _⟩ | ⟨_, h192⟩
        · exact .inl rfl
        · refine .inr ?_
          rw [htk]
          intro x hx
          rcases List.mem_cons.1 hx with rfl | hx
          · omega
          · exact tlB_all _ _ _ _ ht x hx
theorem escL_high : ∀ {l : List UInt8}, (∀ x ∈ l, 128 ≤ x.toNat) → escL l = l
  | [], _ => rfl
  | c :: l, h => by
    have hc := h c (by simp)
    rw [escL_cons, escL_high (fun x hx => h x (by simp [hx]))]
    rcases esc_cases c with ⟨rfl, _⟩ | ⟨rfl, _⟩ | ⟨rfl, _⟩ | ⟨rfl, _⟩ | ⟨_, _, _, _, e⟩
    · exact absurd hc (by decide)
    · exact absurd hc (by decide)
    · exact absurd hc (by decide)
    · exact absurd hc (by decide)
    · rw [e]; rfl
theorem utf8_esc : ∀ (n : Nat) (l : List UInt8), l.length ≤ n → utf8B l = true → utf8B (escL l) = true
  | 0, l, hn, _ => by
    have : l = [] := List.eq_nil_of_length_eq_zero (by omega)
    subst this
    rfl
  | n + 1, l, hn, h => by
    by_cases hne : l = []
    · subst hne; rfl
    have hs := h
    unfold utf8B at hs
    rw [cnt_step hne] at hs
    by_cases h0 : sizeB l = 0
    · rw [if_pos h0] at hs; cases hs
    rw [if_neg h0] at hs
    obtain ⟨h1, h2, _⟩ := sizeB_pos h0
    have hd : utf8B (l.drop (sizeB l)) = true := by
      unfold utf8B
      cases hc : cnt (l.drop (sizeB l)) with
      | none => rw [hc] at hs; cases hs
      | some x => rfl
    have ih := utf8_esc n (l.drop (sizeB l)) (by rw [List.length_drop]; omega) hd
    obtain ⟨t1, t2⟩ := size_take h0
    have ht : utf8B (l.take (sizeB l)) = true := by
      unfold utf8B
      have hne2 : l.take (sizeB l) ≠ [] := by
        intro e
        have := congrArg List.length e
        rw [List.length_take, List.length_nil] at this
        omega
      rw [cnt_step hne2, t1, if_neg h0, List.drop_eq_nil_of_le (by rw [List.length_take]; omega)]
      rfl
    have he : utf8B (escL (l.take (sizeB l))) = true := by
      rcases t2 with t2 | t2
      · rw [t2] at ht ⊢
        obtain ⟨c, r, rfl⟩ : ∃ c r, l = c :: r := by
          cases l with
          | nil => exact absurd rfl hne
          | cons c r => exact ⟨c, r, rfl⟩
        rw [List.take_succ_cons, List.take_zero] at ht ⊢
        rw [escL_cons, show escL [] = [] from rfl, List.append_nil]
        rcases esc_cases c with ⟨rfl, e⟩ | ⟨rfl, e⟩ | ⟨rfl, e⟩ | ⟨rfl, e⟩ | ⟨_, _, _, _, e⟩
        · rw [e]; decide
        · rw [e]; decide
        · rw [e]; decide
        · rw [e]; decide
        · rw [e]; exact ht
      · rw [escL_high t2]; exact ht
    rw [← List.take_append_drop (sizeB l) l, escL_app]
    exact (runes_app he ih).1
end Go.Proofs.YtbfodbejdaafaaaGreatDoor
/- The tree of tokens: plain functions on lists, no program. -/
namespace Go.Proofs.YtbfodbejdaafaaaGreatDoor
set_option linter.unusedVariables false

structure Nod where
  parent : Int
  name : List UInt8
  text : List UInt8
  attrs : List (List UInt8 × List UInt8)
/-- a tree that grows: its nodes, those that are open (the innermost one last), all texts of each, and whether they are more than blanks -/
structure Gro where
  l : List Nod
  opn : List Int
  txt : List (List UInt8)
  ink : List Bool
def blankB (s : List UInt8) : Bool := s.all isBl
def g0 : Gro := ⟨[], [], [], []⟩
def topG (g : Gro) : Int := (g.opn.getLast?).getD (-1)
def nameAt (l : List Nod) (i : Int) : List UInt8 := ((l[i.toNat]?).map (·.name)).getD []
/-- what a token is answered -/
def takeE (g : Gro) (t : Tok) : Int :=
  if t.kind = 1 then (if t.name = [] then 9 else if topG g < 0 ∧ 0 < g.l.length then 10 else if 32 ≤ g.opn.length then 11 else if 500 ≤ g.l.length then 4 else 0)
  else if t.kind = 2 then (if topG g < 0 ∨ nameAt g.l (topG g) ≠ t.name then 10 else 0)
  else if t.kind = 3 then (if topG g < 0 ∧ ¬ blankB t.text = true then 10 else 0)
  else 9
/-- and what it leaves -/
def takeS (g : Gro) (t : Tok) : Gro :=
  if t.kind = 1 then ⟨g.l ++ [⟨topG g, t.name, [], t.attrs⟩], if t.empty then g.opn else g.opn ++ [(g.l.length : Int)], g.txt ++ [[]], g.ink ++ [false]⟩
  else if t.kind = 2 then { g with opn := g.opn.dropLast }
  else if topG g < 0 then g
  else { g with txt := g.txt.set (topG g).toNat ((g.txt[(topG g).toNat]?).getD [] ++ t.text), ink := g.ink.set (topG g).toNat ((g.ink[(topG g).toNat]?).getD false || !blankB t.text) }
def runE : Gro → List Tok → Int
  | _, [] => 0
  | g, t :: r => if takeE g t = 0 then runE (takeS g t) r else takeE g t
def runS : Gro → List Tok → Gro
  | g, [] => g
  | g, t :: r => runS (takeS g t) r
/-- the places of the nodes of a parent -/
def kidsF (l : List Nod) (i : Int) : Nat → List Nat
  | 0 => []
  | k + 1 => kidsF l i k ++ (if (l[k]?).map (·.parent) = some i then [k] else [])
def kidsL (l : List Nod) (i : Int) : List Nat := if 0 ≤ i ∧ i < (l.length : Int) then kidsF l i l.length else []
/-- with their texts -/
def endF (g : Gro) : Nat → List Nod → List Nod
  | _, [] => []
  | i, n :: r => (if kidsL g.l i = [] then { n with text := (g.txt[i]?).getD [] } else n) :: endF g (i + 1) r
def mixF (g : Gro) : Nat → Bool
  | 0 => false
  | k + 1 => mixF g k || (!(kidsL g.l k).isEmpty && (g.ink[k]?).getD false)
def endE (g : Gro) : Int := if g.l = [] ∨ g.opn ≠ [] then 10 else if mixF g g.l.length then 12 else 0
def buildE (ts : List Tok) : Int := if runE g0 ts = 0 then endE (runS g0 ts) else runE g0 ts
def buildL (ts : List Tok) : List Nod := if buildE ts = 0 then endF (runS g0 ts) 0 (runS g0 ts).l else []
def parseE (s : List UInt8) : Int := if tokE s = 0 then buildE (tokL s) else tokE s
def parseL (s : List UInt8) : List Nod := if tokE s = 0 then buildL (tokL s) else []

/-! ### what always holds of a tree that grows -/
structure Okg (g : Gro) : Prop where
  txt : g.txt.length = g.l.length
  ink : g.ink.length = g.l.length
  opn : ∀ k ∈ g.opn, 0 ≤ k ∧ k < (g.l.length : Int)
  top : g.l.length ≤ 500
  deep : g.opn.length ≤ 32
theorem ok0 : Okg g0 := ⟨rfl, rfl, (fun k h => by cases h), by decide, by decide⟩
theorem top_cases (g : Gro) (h : Okg g) : (g.opn = [] ∧ topG g = -1) ∨ (∃ (k : Nat) (r : List Int), g.opn = r ++ [(k : Int)] ∧ topG g = (k : Int) ∧ k < g.l.length) := by
  rcases List.eq_nil_or_concat g.opn with h0 | ⟨r, x, h1⟩
  · exact .inl ⟨h0, by unfold topG; rw [h0]; rfl⟩
  · right
    rw [List.concat_eq_append] at h1
    have hx := h.opn x (by rw [h1]; simp)
    obtain ⟨k, rfl⟩ := Int.eq_ofNat_of_zero_le hx.1
    refine ⟨k, r, h1, ?_, by omega⟩
    unfold topG
    rw [h1]
    simp
theorem ok_take {g : Gro} {t : Tok} (h : Okg g) (he : takeE g t = 0) : Okg (takeS g t) := by
  have hc := top_cases g h
  unfold takeE at he
  unfold takeS
  split
  · rename_i hk
    rw [if_pos hk] at he
    split at he
    · cases he
    split at he
    · cases he
    split at he
    · cases he
    split at he
    · cases he
    refine ⟨by simp [h.txt], by simp [h.ink], ?_, by simp; omega, ?_⟩
    · intro k hk
      simp only at hk ⊢
      split at hk
      · have := h.opn k hk; simp; omega
      · rcases List.mem_append.1 hk with hk | hk
        · have := h.opn k hk; simp; omega
        · simp at hk; subst hk; simp; omega
    · simp only
      split
      · exact h.deep
      · simp; omega
  split
  · refine ⟨h.txt, h.ink, fun k hk => h.opn k (List.dropLast_subset _ hk), h.top, by simp only [List.length_dropLast]; have := h.deep; omega⟩
  split
  · exact h
  · exact ⟨by simpa using h.txt, by simpa using h.ink, h.opn, h.top, h.deep⟩
theorem kidsF_in (l : List Nod) (i : Int) : ∀ (n k : Nat), k ∈ kidsF l i n ↔ k < n ∧ (l[k]?).map (·.parent) = some i
  | 0, k => by simp [kidsF]
  | n + 1, k => by
    have ih := kidsF_in l i n k
    unfold kidsF
    rw [List.mem_append, ih]
    by_cases hp : (l[n]?).map (·.parent) = some i
    · rw [if_pos hp, List.mem_singleton]
      constructor
      · rintro (⟨h1, h2⟩ | rfl)
        · exact ⟨by omega, h2⟩
        · exact ⟨by omega, hp⟩
      · rintro ⟨h1, h2⟩
        rcases Nat.lt_or_ge k n with h3 | h3
        · exact .inl ⟨h3, h2⟩
        · exact .inr (by omega)
    · rw [if_neg hp]
      constructor
      · rintro (⟨h1, h2⟩ | h)
        · exact ⟨by omega, h2⟩
        · cases h
      · rintro ⟨h1, h2⟩
        rcases Nat.lt_or_ge k n with h3 | h3
        · exact .inl ⟨h3, h2⟩
        · obtain rfl : k = n := by omega
          exact absurd h2 hp
theorem kidsF_len (l : List Nod) (i : Int) : ∀ n, (kidsF l i n).length ≤ n
  | 0 => Nat.le_refl _
  | n + 1 => by
    have := kidsF_len l i n
    unfold kidsF
    rw [List.length_append]
    split <;> simp <;> omega
theorem endF_len (g : Gro) : ∀ (l : List Nod) (i : Nat), (endF g i l).length = l.length
  | [], _ => rfl
  | n :: r, i => by
    unfold endF
    rw [List.length_cons, List.length_cons, endF_len g r]
end Go.Proofs.YtbfodbejdaafaaaGreatDoor
/- Trees as forests: as rows of nodes, as files: plain functions, no program. -/
namespace Go.Proofs.YtbfodbejdaafaaaGreatDoor
set_option linter.unusedVariables false

/-- elements one behind the other, each with those in it -/
inductive Fo where
  | nil : Fo
  | cons (name text : List UInt8) (attrs : List (List UInt8 × List UInt8)) (kids rest : Fo) : Fo
namespace Fo
def size : Fo → Nat
  | nil => 0
  | cons _ _ _ k r => 1 + k.size + r.size
/-- how deep it is -/
def deep : Fo → Nat
  | nil => 0
  | cons _ _ _ k r => max (1 + k.deep) r.deep
/-- as a row of nodes, of a parent, from a place on -/
def flat : Int → Nat → Fo → List Nod
  | _, _, nil => []
  | p, b, cons n t a k r => ⟨p, n, t, a⟩ :: (flat (b : Int) (b + 1) k ++ flat p (b + 1 + k.size) r)
def isNil : Fo → Bool
  | nil => true
  | cons .. => false
/-- as tokens -/
def toks : Fo → List Tok
  | nil => []
  | cons n t a k r => (if t = [] ∧ k.isNil = true then [⟨1, n, [], a, true⟩] else ⟨1, n, [], a, false⟩ :: ((if t = [] then [] else [⟨3, [], t, [], false⟩]) ++ k.toks ++ [⟨2, n, [], [], false⟩])) ++ r.toks
/-- what may be written -/
def ok : Fo → Prop
  | nil => True
  | cons n t a k r => nameOk n = true ∧ utf8B t = true ∧ ((∀ x ∈ a, nameOk x.1 = true ∧ utf8B x.2 = true) ∧ (a.map (·.1)).Nodup) ∧ (k.isNil = false → t = []) ∧ k.ok ∧ r.ok
end Fo
/-- attributes as a file has them -/
def attrW : List (List UInt8 × List UInt8) → List UInt8
  | [] => []
  | a :: r => 32 :: (a.1 ++ (61 :: 34 :: (escL a.2 ++ (34 :: attrW r))))
/-- as a file -/
def Fo.wr : Fo → List UInt8
  | .nil => []
  | .cons n t a k r => 60 :: (n ++ (attrW a ++ (if t = [] ∧ k.isNil = true then [47, 62] else 62 :: (escL t ++ (k.wr ++ (60 :: 47 :: (n ++ [62]))))))) ++ r.wr

theorem Fo.wr_cons (n t : List UInt8) (a : List (List UInt8 × List UInt8)) (k r : Fo) : (Fo.cons n t a k r).wr = 60 :: (n ++ (attrW a ++ (if t = [] ∧ k.isNil = true then [47, 62] else 62 :: (escL t ++ (k.wr ++ (60 :: 47 :: (n ++ [62]))))))) ++ r.wr := rfl
theorem Fo.toks_cons (n t : List UInt8) (a : List (List UInt8 × List UInt8)) (k r : Fo) : (Fo.cons n t a k r).toks = (if t = [] ∧ k.isNil = true then [⟨1, n, [], a, true⟩] else ⟨1, n, [], a, false⟩ :: ((if t = [] then [] else [⟨3, [], t, [], false⟩]) ++ k.toks ++ [⟨2, n, [], [], false⟩])) ++ r.toks := rfl
theorem Fo.flat_len : ∀ (f : Fo) (p : Int) (b : Nat), (f.flat p b).length = f.size
  | .nil, _, _ => rfl
  | .cons n t a k r, p, b => by
    simp only [Fo.flat, Fo.size, List.length_cons, List.length_append, k.flat_len, r.flat_len]
    omega

def Fo.single : Fo → Bool
  | .nil => true
  | .cons _ _ _ _ r => r.isNil
theorem nil_or (f : Fo) : f = .nil ∨ ∃ n t a k r, f = .cons n t a k r := by
  cases f with
  | nil => exact .inl rfl
  | cons n t a k r => exact .inr ⟨n, t, a, k, r, rfl⟩
theorem isNil_true {f : Fo} (h : f.isNil = true) : f = .nil := by
  cases f with
  | nil => rfl
  | cons => cases h
/-! ### how it stands as a row -/
theorem Fo.flat_cons (p : Int) (b : Nat) (n t : List UInt8) (a : List (List UInt8 × List UInt8)) (k r : Fo) : (Fo.cons n t a k r).flat p b = ⟨p, n, t, a⟩ :: (k.flat (b : Int) (b + 1) ++ r.flat p (b + 1 + k.size)) := rfl
/-- whose kid each is -/
theorem Fo.par_in : ∀ (f : Fo) (p : Int) (b : Nat), ∀ y ∈ f.flat p b, y.parent = p ∨ ((b : Int) ≤ y.parent ∧ y.parent < ((b + f.size : Nat) : Int))
  | .nil, _, _, _, h => by cases h
  | .cons n t a k r, p, b, y, h => by
    rw [Fo.flat_cons] at h
    simp only [Fo.size]
    rcases List.mem_cons.1 h with rfl | h
    · exact .inl rfl
    rcases List.mem_append.1 h with h | h
    · rcases k.par_in (b : Int) (b + 1) y h with e | e
      · right; omega
      · right; omega
    · rcases r.par_in p (b + 1 + k.size) y h with e | e
      · exact .inl e
      · right; omega
end Go.Proofs.YtbfodbejdaafaaaGreatDoor
