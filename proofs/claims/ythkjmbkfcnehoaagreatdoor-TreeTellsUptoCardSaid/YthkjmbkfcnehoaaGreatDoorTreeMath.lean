/- The tree of tokens: plain functions on lists, no program. -/
import Derived.Test.YthkjmbkfcnehoaaGreatDoorTokMath
namespace Go.Proofs.YthkjmbkfcnehoaaGreatDoor
set_option linter.unusedVariables false

structure Nod where
  parent : Int
  name : List UInt8
  text : List UInt8
  attrs : List (List UInt8 × List UInt8)
/-- a tree that grows: its nodes, those that are open (the innermost one last), all texts of each, and whether they are more than blanks -/
structure Gro where
  l : List Nod
  opn : List Int
  txt : List (List UInt8)
  ink : List Bool
def blankB (s : List UInt8) : Bool := s.all isBl
def g0 : Gro := ⟨[], [], [], []⟩
def topG (g : Gro) : Int := (g.opn.getLast?).getD (-1)
def nameAt (l : List Nod) (i : Int) : List UInt8 := ((l[i.toNat]?).map (·.name)).getD []
/-- what a token is answered -/
def takeE (g : Gro) (t : Tok) : Int :=
  if t.kind = 1 then (if t.name = [] then 9 else if topG g < 0 ∧ 0 < g.l.length then 10 else if 32 ≤ g.opn.length then 11 else if 500 ≤ g.l.length then 4 else 0)
  else if t.kind = 2 then (if topG g < 0 ∨ nameAt g.l (topG g) ≠ t.name then 10 else 0)
  else if t.kind = 3 then (if topG g < 0 ∧ ¬ blankB t.text = true then 10 else 0)
  else 9
/-- and what it leaves -/
def takeS (g : Gro) (t : Tok) : Gro :=
  if t.kind = 1 then ⟨g.l ++ [⟨topG g, t.name, [], t.attrs⟩], if t.empty then g.opn else g.opn ++ [(g.l.length : Int)], g.txt ++ [[]], g.ink ++ [false]⟩
  else if t.kind = 2 then { g with opn := g.opn.dropLast }
  else if topG g < 0 then g
  else { g with txt := g.txt.set (topG g).toNat ((g.txt[(topG g).toNat]?).getD [] ++ t.text), ink := g.ink.set (topG g).toNat ((g.ink[(topG g).toNat]?).getD false || !blankB t.text) }
def runE : Gro → List Tok → Int
  | _, [] => 0
  | g, t :: r => if takeE g t = 0 then runE (takeS g t) r else takeE g t
def runS : Gro → List Tok → Gro
  | g, [] => g
  | g, t :: r => runS (takeS g t) r
/-- the places of the nodes of a parent -/
def kidsF (l : List Nod) (i : Int) : Nat → List Nat
  | 0 => []
  | k + 1 => kidsF l i k ++ (if (l[k]?).map (·.parent) = some i then [k] else [])
def kidsL (l : List Nod) (i : Int) : List Nat := if 0 ≤ i ∧ i < (l.length : Int) then kidsF l i l.length else []
/-- with their texts -/
def endF (g : Gro) : Nat → List Nod → List Nod
  | _, [] => []
  | i, n :: r => (if kidsL g.l i = [] then { n with text := (g.txt[i]?).getD [] } else n) :: endF g (i + 1) r
def mixF (g : Gro) : Nat → Bool
  | 0 => false
  | k + 1 => mixF g k || (!(kidsL g.l k).isEmpty && (g.ink[k]?).getD false)
def endE (g : Gro) : Int := if g.l = [] ∨ g.opn ≠ [] then 10 else if mixF g g.l.length then 12 else 0
def buildE (ts : List Tok) : Int := if runE g0 ts = 0 then endE (runS g0 ts) else runE g0 ts
def buildL (ts : List Tok) : List Nod := if buildE ts = 0 then endF (runS g0 ts) 0 (runS g0 ts).l else []
def parseE (s : List UInt8) : Int := if tokE s = 0 then buildE (tokL s) else tokE s
def parseL (s : List UInt8) : List Nod := if tokE s = 0 then buildL (tokL s) else []

/-! ### what always holds of a tree that grows -/
structure Okg (g : Gro) : Prop where
  txt : g.txt.length = g.l.length
  ink : g.ink.length = g.l.length
  opn : ∀ k ∈ g.opn, 0 ≤ k ∧ k < (g.l.length : Int)
  top : g.l.length ≤ 500
  deep : g.opn.length ≤ 32
theorem ok0 : Okg g0 := ⟨rfl, rfl, (fun k h => by cases h), by decide, by decide⟩
theorem top_cases (g : Gro) (h : Okg g) : (g.opn = [] ∧ topG g = -1) ∨ (∃ (k : Nat) (r : List Int), g.opn = r ++ [(k : Int)] ∧ topG g = (k : Int) ∧ k < g.l.length) := by
  rcases List.eq_nil_or_concat g.opn with h0 | ⟨r, x, h1⟩
  · exact .inl ⟨h0, by unfold topG; rw [h0]; rfl⟩
  · right
    rw [List.concat_eq_append] at h1
    have hx := h.opn x (by rw [h1]; simp)
    obtain ⟨k, rfl⟩ := Int.eq_ofNat_of_zero_le hx.1
    refine ⟨k, r, h1, ?_, by omega⟩
    unfold topG
    rw [h1]
    simp
theorem ok_take {g : Gro} {t : Tok} (h : Okg g) (he : takeE g t = 0) : Okg (takeS g t) := by
  have hc := top_cases g h
  unfold takeE at he
  unfold takeS
  split
  · rename_i hk
    rw [if_pos hk] at he
    split at he
    · cases he
    split at he
    · cases he
    split at he
    · cases he
    split at he
    · cases he
    refine ⟨by simp [h.txt], by simp [h.ink], ?_, by simp; omega, ?_⟩
    · intro k hk
      simp only at hk ⊢
      split at hk
      · have := h.opn k hk; simp; omega
      · rcases List.mem_append.1 hk with hk | hk
        · have := h.opn k hk; simp; omega
        · simp at hk; subst hk; simp; omega
    · simp only
      split
      · exact h.deep
      · simp; omega
  split
  · refine ⟨h.txt, h.ink, fun k hk => h.opn k (List.dropLast_subset _ hk), h.top, by simp only [List.length_dropLast]; have := h.deep; omega⟩
  split
  · exact h
  · exact ⟨by simpa using h.txt, by simpa using h.ink, h.opn, h.top, h.deep⟩
theorem kidsF_in (l : List Nod) (i : Int) : ∀ (n k : Nat), k ∈ kidsF l i n ↔ k < n ∧ (l[k]?).map (·.parent) = some i
  | 0, k => by simp [kidsF]
  | n + 1, k => by
    have ih := kidsF_in l i n k
    unfold kidsF
    rw [List.mem_append, ih]
    by_cases hp : (l[n]?).map (·.parent) = some i
    · rw [if_pos hp, List.mem_singleton]
      constructor
      · rintro (⟨h1, h2⟩ | rfl)
        · exact ⟨by omega, h2⟩
        · exact ⟨by omega, hp⟩
      · rintro ⟨h1, h2⟩
        rcases Nat.lt_or_ge k n with h3 | h3
        · exact .inl ⟨h3, h2⟩
        · exact .inr (by omega)
    · rw [if_neg hp]
      constructor
      · rintro (⟨h1, h2⟩ | h)
        · exact ⟨by omega, h2⟩
        · cases h
      · rintro ⟨h1, h2⟩
        rcases Nat.lt_or_ge k n with h3 | h3
        · exact .inl ⟨h3, h2⟩
        · obtain rfl : k = n := by omega
          exact absurd h2 hp
theorem kidsF_len (l : List Nod) (i : Int) : ∀ n, (kidsF l i n).length ≤ n
  | 0 => Nat.le_refl _
  | n + 1 => by
    have := kidsF_len l i n
    unfold kidsF
    rw [List.length_append]
    split <;> simp <;> omega
theorem endF_len (g : Gro) : ∀ (l : List Nod) (i : Nat), (endF g i l).length = l.length
  | [], _ => rfl
  | n :: r, i => by
    unfold endF
    rw [List.length_cons, List.length_cons, endF_len g r]
end Go.Proofs.YthkjmbkfcnehoaaGreatDoor
