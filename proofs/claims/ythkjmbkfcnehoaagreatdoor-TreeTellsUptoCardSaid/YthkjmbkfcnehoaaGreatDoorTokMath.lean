/- XML, piece by piece: plain functions on lists of bytes, no program. -/
import Derived.Test.YthkjmbkfcnehoaaGreatDoorTxtM
namespace Go.Proofs.YthkjmbkfcnehoaaGreatDoor
set_option linter.unusedVariables false

def isBl (c : UInt8) : Bool := decide (c.toNat = 9 ∨ c.toNat = 10 ∨ c.toNat = 13 ∨ c.toNat = 32)
def isFi (c : UInt8) : Bool := decide ((65 ≤ c.toNat ∧ c.toNat ≤ 90) ∨ (97 ≤ c.toNat ∧ c.toNat ≤ 122) ∨ c.toNat = 95)
def isWi (c : UInt8) : Bool := isFi c || decide ((48 ≤ c.toNat ∧ c.toNat ≤ 57) ∨ c.toNat = 45 ∨ c.toNat = 46 ∨ c.toNat = 58)
/-- is it a name? -/
def nameOk : List UInt8 → Bool
  | [] => false
  | c :: r => isFi c && (c :: r).all isWi
/-- does that stand here? what is behind it -/
def isP (p l : List UInt8) : Option (List UInt8) := if p.isPrefixOf l then some (l.drop p.length) else none
theorem isP_len {p l r : List UInt8} (h : isP p l = some r) : l = p ++ r ∧ r.length + p.length = l.length := by
  unfold isP at h
  split at h
  · rename_i hp
    injection h with h
    subst h
    obtain ⟨t, rfl⟩ := List.isPrefixOf_iff_prefix.1 hp
    simp
    omega
  · cases h
/-- a digit's number; 99: it is none -/
def digV (c : UInt8) : Nat := if 48 ≤ c.toNat ∧ c.toNat ≤ 57 then c.toNat - 48 else if 97 ≤ c.toNat ∧ c.toNat ≤ 102 then c.toNat - 87 else if 65 ≤ c.toNat ∧ c.toNat ≤ 70 then c.toNat - 55 else 99
def chrF (base : Nat) : Nat → List UInt8 → Option Nat
  | v, [] => some v
  | v, c :: r => if base ≤ digV c then none else chrF base (v * base + digV c) r
def chrV (s : List UInt8) (base most : Nat) : Option Nat := if s.length < 1 ∨ most < s.length then none else chrF base 0 s
/-- what stands between & and ; -/
def entV (s : List UInt8) : Option (List UInt8) :=
  if s = [108, 116] then some [60] else if s = [103, 116] then some [62] else if s = [97, 109, 112] then some [38] else if s = [113, 117, 111, 116] then some [34] else if s = [97, 112, 111, 115] then some [39]
  else
    let v := if 2 < s.length ∧ s.take 2 = [35, 120] then chrV (s.drop 2) 16 6 else if 1 < s.length ∧ s.getD 0 0 = 35 then chrV (s.drop 1) 10 7 else none
    match v with
    | none => none
    | some v => if charB v then some (encL (v : Int)) else none
/-- a text's value; none: something is wrong -/
def valF : Nat → List UInt8 → Option (List UInt8)
  | _, [] => some []
  | 0, _ :: _ => none
  | f + 1, c :: r => if c.toNat ≠ 38 then (valF f r).map (c :: ·) else
    match r.dropWhile (fun b => decide (b.toNat ≠ 59)) with
    | [] => none
    | _ :: rest => match entV (r.takeWhile fun b => decide (b.toNat ≠ 59)) with
      | none => none
      | some x => (valF f rest).map (x ++ ·)
def valV (l : List UInt8) : Option (List UInt8) := valF l.length l
theorem drop_while_le (p : UInt8 → Bool) : ∀ l : List UInt8, (l.dropWhile p).length ≤ l.length
  | [] => Nat.le_refl _
  | c :: r => by
    rw [List.dropWhile_cons]
    split
    · exact Nat.le_trans (drop_while_le p r) (by simp)
    · exact Nat.le_refl _
theorem valF_enough : ∀ (f g : Nat) (l : List UInt8), l.length ≤ f → l.length ≤ g → valF f l = valF g l := by
  intro f
  induction f with
  | zero =>
    intro g l h1 h2
    have : l = [] := List.eq_nil_of_length_eq_zero (by omega)
    subst this
    cases g <;> rfl
  | succ f ih =>
    intro g l h1 h2
    cases l with
    | nil => cases g <;> rfl
    | cons c r =>
      cases g with
      | zero => simp at h2
      | succ g =>
        simp only [List.length_cons] at h1 h2
        have hd := drop_while_le (fun b => decide (b.toNat ≠ 59)) r
        unfold valF
        split
        · rw [ih g r (by omega) (by omega)]
        · split
          · rfl
          · rename_i x rest he
            rw [he] at hd
            simp only [List.length_cons] at hd
            split
            · rfl
            · rw [ih g rest (by omega) (by omega)]
theorem valV_nil : valV [] = some [] := rfl
theorem valV_plain {c : UInt8} {r : List UInt8} (h : c.toNat ≠ 38) : valV (c :: r) = (valV r).map (c :: ·) := by
  show (if c.toNat ≠ 38 then _ else _) = _
  rw [if_pos h]
  rfl
theorem valF_amp (f : Nat) (r : List UInt8) : valF (f + 1) (38 :: r) = match r.dropWhile (fun b => decide (b.toNat ≠ 59)) with
    | [] => none
    | _ :: rest => match entV (r.takeWhile fun b => decide (b.toNat ≠ 59)) with
      | none => none
      | some x => (valF f rest).map (x ++ ·) := by
  show (if (38 : UInt8).toNat ≠ 38 then (valF f r).map ((38 : UInt8) :: ·) else _) = _
  rw [if_neg (by decide)]
/-- one more value's piece: a name of a sign, and what is behind it -/
theorem valV_ent {e rest : List UInt8} (he : ∀ b ∈ e, b.toNat ≠ 59) : valV (38 :: e ++ (59 :: rest)) = match entV e with | none => none | some x => (valV rest).map (x ++ ·) := by
  have ht : (e ++ (59 :: rest)).takeWhile (fun b => decide (b.toNat ≠ 59)) = e := by
    rw [List.takeWhile_append_of_pos (fun b hb => by simpa using he b hb)]
    simp
  have hd : (e ++ (59 :: rest)).dropWhile (fun b => decide (b.toNat ≠ 59)) = 59 :: rest := by
    rw [List.dropWhile_append_of_pos (fun b hb => by simpa using he b hb)]
    simp
  have hl : (38 :: e ++ (59 :: rest)).length = (e ++ (59 :: rest)).length + 1 := by simp
  unfold valV
  rw [hl, List.cons_append, valF_amp, ht, hd]
  cases entV e with
  | none => rfl
  | some x =>
    show (valF _ rest).map _ = _
    rw [valF_enough _ rest.length rest (by simp; omega) (Nat.le_refl _)]

/-! ### pieces -/
structure Tok where
  kind : Int
  name : List UInt8
  text : List UInt8
  attrs : List (List UInt8 × List UInt8)
  empty : Bool
/-- a name with its value, and what is behind it -/
def attrP (used : List (List UInt8 × List UInt8)) (l : List UInt8) : Option ((List UInt8 × List UInt8) × List UInt8) :=
  let n := l.takeWhile isWi
  if !nameOk n || used.any (fun a => a.1 == n) then none else
  match isP [61] ((l.dropWhile isWi).dropWhile isBl) with
  | none => none
  | some l1 => match l1.dropWhile isBl with
    | [] => none
    | mark :: r => if mark.toNat ≠ 34 ∧ mark.toNat ≠ 39 then none else
      match r.dropWhile (fun c => decide (c ≠ mark ∧ c.toNat ≠ 60)) with
      | [] => none
      | c :: rest => if c ≠ mark then none else (valV (r.takeWhile fun c => decide (c ≠ mark ∧ c.toNat ≠ 60))).map fun v => ((n, v), rest)
/-- behind < and a name -/
def openF : Nat → List UInt8 → List (List UInt8 × List UInt8) → List UInt8 → Option (Tok × List UInt8)
  | 0, _, _, _ => none
  | f + 1, name, attrs, l =>
    match isP [47, 62] (l.dropWhile isBl) with
    | some r => some (⟨1, name, [], attrs, true⟩, r)
    | none => match isP [62] (l.dropWhile isBl) with
      | some r => some (⟨1, name, [], attrs, false⟩, r)
      | none => if (l.takeWhile isBl).length = 0 then none else
        match attrP attrs (l.dropWhile isBl) with
        | none => none
        | some (a, r) => openF f name (attrs ++ [a]) r
/-- the first piece, and what is behind it -/
def tokP (l : List UInt8) : Option (Tok × List UInt8) :=
  match isP [60, 47] l with
  | some l1 => if !nameOk (l1.takeWhile isWi) then none else (isP [62] ((l1.dropWhile isWi).dropWhile isBl)).map fun r => (⟨2, l1.takeWhile isWi, [], [], false⟩, r)
  | none => match isP [60] l with
    | some l1 => if !nameOk (l1.takeWhile isWi) then none else openF (l1.length + 1) (l1.takeWhile isWi) [] (l1.dropWhile isWi)
    | none => (valV (l.takeWhile fun c => decide (c.toNat ≠ 60))).map fun v => (⟨3, [], v, [], false⟩, l.dropWhile fun c => decide (c.toNat ≠ 60))
def toksF : Nat → List UInt8 → Option (List Tok)
  | _, [] => some []
  | 0, _ :: _ => none
  | f + 1, c :: r => match tokP (c :: r) with
    | none => none
    | some (t, rest) => (toksF f rest).map (t :: ·)
def toksV (l : List UInt8) : Option (List Tok) := toksF l.length l
/-- the line that may stand ahead of all -/
def prologL : List UInt8 := [60, 63, 120, 109, 108, 32, 118, 101, 114, 115, 105, 111, 110, 61, 34, 49, 46, 48, 34, 32, 101, 110, 99, 111, 100, 105, 110, 103, 61, 34, 85, 84, 70, 45, 56, 34, 63, 62]
def bodyL (l : List UInt8) : List UInt8 := (isP prologL l).getD l
def tokE (l : List UInt8) : Int := if 4096 < l.length then 4 else if !utf8B l then 7 else if (toksV (bodyL l)).isSome then 0 else 9
def tokL (l : List UInt8) : List Tok := if tokE l = 0 then (toksV (bodyL l)).getD [] else []
end Go.Proofs.YthkjmbkfcnehoaaGreatDoor
