/- Trees as forests: as rows of nodes, as files: plain functions, no program. -/
import Derived.Test.YthkjmbkfcnehoaaGreatDoorEscMath
import Derived.Test.YthkjmbkfcnehoaaGreatDoorTreeMath
namespace Go.Proofs.YthkjmbkfcnehoaaGreatDoor
set_option linter.unusedVariables false

/-- elements one behind the other, each with those in it -/
inductive Fo where
  | nil : Fo
  | cons (name text : List UInt8) (attrs : List (List UInt8 × List UInt8)) (kids rest : Fo) : Fo
namespace Fo
def size : Fo → Nat
  | nil => 0
  | cons _ _ _ k r => 1 + k.size + r.size
/-- how deep it is -/
def deep : Fo → Nat
  | nil => 0
  | cons _ _ _ k r => max (1 + k.deep) r.deep
/-- as a row of nodes, of a parent, from a place on -/
def flat : Int → Nat → Fo → List Nod
  | _, _, nil => []
  | p, b, cons n t a k r => ⟨p, n, t, a⟩ :: (flat (b : Int) (b + 1) k ++ flat p (b + 1 + k.size) r)
def isNil : Fo → Bool
  | nil => true
  | cons .. => false
/-- as tokens -/
def toks : Fo → List Tok
  | nil => []
  | cons n t a k r => (if t = [] ∧ k.isNil = true then [⟨1, n, [], a, true⟩] else ⟨1, n, [], a, false⟩ :: ((if t = [] then [] else [⟨3, [], t, [], false⟩]) ++ k.toks ++ [⟨2, n, [], [], false⟩])) ++ r.toks
/-- what may be written -/
def ok : Fo → Prop
  | nil => True
  | cons n t a k r => nameOk n = true ∧ utf8B t = true ∧ ((∀ x ∈ a, nameOk x.1 = true ∧ utf8B x.2 = true) ∧ (a.map (·.1)).Nodup) ∧ (k.isNil = false → t = []) ∧ k.ok ∧ r.ok
end Fo
/-- attributes as a file has them -/
def attrW : List (List UInt8 × List UInt8) → List UInt8
  | [] => []
  | a :: r => 32 :: (a.1 ++ (61 :: 34 :: (escL a.2 ++ (34 :: attrW r))))
/-- as a file -/
def Fo.wr : Fo → List UInt8
  | .nil => []
  | .cons n t a k r => 60 :: (n ++ (attrW a ++ (if t = [] ∧ k.isNil = true then [47, 62] else 62 :: (escL t ++ (k.wr ++ (60 :: 47 :: (n ++ [62]))))))) ++ r.wr

theorem Fo.wr_cons (n t : List UInt8) (a : List (List UInt8 × List UInt8)) (k r : Fo) : (Fo.cons n t a k r).wr = 60 :: (n ++ (attrW a ++ (if t = [] ∧ k.isNil = true then [47, 62] else 62 :: (escL t ++ (k.wr ++ (60 :: 47 :: (n ++ [62]))))))) ++ r.wr := rfl
theorem Fo.toks_cons (n t : List UInt8) (a : List (List UInt8 × List UInt8)) (k r : Fo) : (Fo.cons n t a k r).toks = (if t = [] ∧ k.isNil = true then [⟨1, n, [], a, true⟩] else ⟨1, n, [], a, false⟩ :: ((if t = [] then [] else [⟨3, [], t, [], false⟩]) ++ k.toks ++ [⟨2, n, [], [], false⟩])) ++ r.toks := rfl
theorem Fo.flat_len : ∀ (f : Fo) (p : Int) (b : Nat), (f.flat p b).length = f.size
  | .nil, _, _ => rfl
  | .cons n t a k r, p, b => by
    simp only [Fo.flat, Fo.size, List.length_cons, List.length_append, k.flat_len, r.flat_len]
    omega

def Fo.single : Fo → Bool
  | .nil => true
  | .cons _ _ _ _ r => r.isNil
theorem nil_or (f : Fo) : f = .nil ∨ ∃ n t a k r, f = .cons n t a k r := by
  cases f with
  | nil => exact .inl rfl
  | cons n t a k r => exact .inr ⟨n, t, a, k, r, rfl⟩
theorem isNil_true {f : Fo} (h : f.isNil = true) : f = .nil := by
  cases f with
  | nil => rfl
  | cons => cases h
/-! ### how it stands as a row -/
theorem Fo.flat_cons (p : Int) (b : Nat) (n t : List UInt8) (a : List (List UInt8 × List UInt8)) (k r : Fo) : (Fo.cons n t a k r).flat p b = ⟨p, n, t, a⟩ :: (k.flat (b : Int) (b + 1) ++ r.flat p (b + 1 + k.size)) := rfl
/-- whose kid each is -/
theorem Fo.par_in : ∀ (f : Fo) (p : Int) (b : Nat), ∀ y ∈ f.flat p b, y.parent = p ∨ ((b : Int) ≤ y.parent ∧ y.parent < ((b + f.size : Nat) : Int))
  | .nil, _, _, _, h => by cases h
  | .cons n t a k r, p, b, y, h => by
    rw [Fo.flat_cons] at h
    simp only [Fo.size]
    rcases List.mem_cons.1 h with rfl | h
    · exact .inl rfl
    rcases List.mem_append.1 h with h | h
    · rcases k.par_in (b : Int) (b + 1) y h with e | e
      · right; omega
      · right; omega
    · rcases r.par_in p (b + 1 + k.size) y h with e | e
      · exact .inl e
      · right; omega
end Go.Proofs.YthkjmbkfcnehoaaGreatDoor
