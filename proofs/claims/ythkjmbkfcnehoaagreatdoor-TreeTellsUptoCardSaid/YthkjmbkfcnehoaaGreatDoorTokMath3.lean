/- XML, piece by piece, as the program takes it: plain functions on lists of bytes, no program. -/
import Derived.Test.YthkjmbkfcnehoaaGreatDoorRefTokY
import Derived.Lib.IndexMore
import Derived.Lib.Bytealg
import Derived.Test.YthkjmbkfcnehoaaGreatDoorTokMath2
namespace Go.Proofs.YthkjmbkfcnehoaaGreatDoor
set_option linter.unusedVariables false

/-- is there a next byte, and does it stand the test? -/
def bgB (p : UInt8 → Bool) : List UInt8 → Bool
  | [] => false
  | c :: _ => p c
theorem isWi_of {c : UInt8} (h : isFi c = true) : isWi c = true := by unfold isWi; rw [h]; rfl
theorem bg_name (l : List UInt8) : nameOk (l.takeWhile isWi) = bgB isFi l := by
  cases l with
  | nil => rfl
  | cons c r =>
    show _ = isFi c
    rw [List.takeWhile_cons]
    cases hf : isFi c with
    | false =>
      split
      · show (isFi c && _) = false; rw [hf]; rfl
      · rfl
    | true =>
      rw [if_pos (isWi_of hf)]
      show (isFi c && (c :: r.takeWhile isWi).all isWi) = true
      rw [hf, Bool.true_and, List.all_eq_true]
      intro x hx
      rw [show c :: r.takeWhile isWi = (c :: r).takeWhile isWi by rw [List.takeWhile_cons, if_pos (isWi_of hf)]] at hx
      exact List.all_eq_true.1 List.all_takeWhile x hx
theorem nameR_bg (l : List UInt8) : nameR l = if bgB isFi l then l.takeWhile isWi else [] := by unfold nameR; rw [bg_name]
theorem bg_ne {p : UInt8 → Bool} {l : List UInt8} : (l.takeWhile p ≠ []) ↔ bgB p l = true := by
  cases l with
  | nil => simp [bgB]
  | cons c r =>
    rw [List.takeWhile_cons]
    show _ ↔ p c = true
    split <;> simp_all
theorem bg_drop (p : UInt8 → Bool) (l : List UInt8) : bgB p (l.dropWhile p) = false := by
  induction l with
  | nil => rfl
  | cons c r ih =>
    rw [List.dropWhile_cons]
    split
    · exact ih
    · rename_i h; show p c = false; simpa using h
theorem drop_none {p : UInt8 → Bool} {l : List UInt8} (h : bgB p l = false) : l.dropWhile p = l ∧ l.takeWhile p = [] := by
  cases l with
  | nil => exact ⟨rfl, rfl⟩
  | cons c r =>
    have h : p c = false := h
    rw [List.dropWhile_cons, List.takeWhile_cons, h]
    exact ⟨rfl, rfl⟩
/-- where something begins otherwise -/
theorem isP_none_bg {q : UInt8} {r : List UInt8} {p : UInt8 → Bool} {l : List UInt8} (h : bgB p l = true) (hq : p q = false) : isP (q :: r) l = none := by
  cases l with
  | nil => cases h
  | cons c t =>
    refine isP_ne ?_
    rintro rfl
    exact absurd (show p q = true from h) (by rw [hq]; decide)

/-! ### a value up to its quote -/
/-- up to the first sign m -/
def upTo (m : UInt8) (c : UInt8) : Bool := decide (c ≠ m)
def untilV (m : UInt8) (l : List UInt8) : Option (List UInt8 × List UInt8) :=
  match l.dropWhile (inVal m) with
  | [] => none
  | c :: rest => if c ≠ m then none else (valV (l.takeWhile (inVal m))).map fun v => (v, rest)
theorem upTo_none {m : UInt8} {l : List UInt8} (h : l.dropWhile (upTo m) = []) : untilV m l = none := by
  have key : ∀ l : List UInt8, l.dropWhile (upTo m) = [] → ∀ c r, l.dropWhile (inVal m) = c :: r → c ≠ m := by
    intro l
    induction l with
    | nil => intro _ c r e; cases e
    | cons x t ih =>
      intro h c r e
      rw [List.dropWhile_cons] at h e
      by_cases hx : x = m
      · rw [if_neg (by unfold upTo; simp [hx])] at h
        cases h
      · rw [if_pos (by unfold upTo; simp [hx])] at h
        by_cases h6 : x.toNat = 60
        · rw [if_neg (by unfold inVal; simp [h6])] at e
          injection e with e1 e2
          rw [← e1]; exact hx
        · rw [if_pos (by unfold inVal; simp [h6, hx])] at e
          exact ih h c r e
  unfold untilV
  split
  · rfl
  · rename_i c rest e
    rw [if_pos (key l h c rest e)]
theorem upTo_some {m : UInt8} {l rest : List UInt8} {c : UInt8} (hm : m.toNat ≠ 60) (h : l.dropWhile (upTo m) = c :: rest) :
    c = m ∧ untilV m l = if ∃ x ∈ l.takeWhile (upTo m), x.toNat = 60 then none else (valV (l.takeWhile (upTo m))).map fun v => (v, rest) := by
  have hc : c = m := by
    have h1 := bg_drop (upTo m) l
    rw [h] at h1
    have h2 : upTo m c = false := h1
    unfold upTo at h2
    simpa using h2
  refine ⟨hc, ?_⟩
  subst hc
  have key : ∀ l rest : List UInt8, l.dropWhile (upTo c) = c :: rest → (¬ (∃ x ∈ l.takeWhile (upTo c), x.toNat = 60) → l.dropWhile (inVal c) = c :: rest ∧ l.takeWhile (inVal c) = l.takeWhile (upTo c)) ∧ ((∃ x ∈ l.takeWhile (upTo c), x.toNat = 60) → ∃ y r, l.dropWhile (inVal c) = y :: r ∧ y ≠ c) := by
    intro l
    induction l with
    | nil => intro rest h; cases h
    | cons x t ih =>
      intro rest h
      rw [List.dropWhile_cons] at h ⊢
      rw [List.takeWhile_cons, List.takeWhile_cons]
      by_cases hx : x = c
      · have hu : upTo c x = false := by unfold upTo; simp [hx]
        have hi : inVal c x = false := by unfold inVal; simp [hx]
        rw [hu] at h
        rw [hu, hi]
        simp only [Bool.false_eq_true, if_false] at h ⊢
        exact ⟨fun _ => ⟨h, trivial⟩, fun ⟨y, hy, _⟩ => by cases hy⟩
      · have hu : upTo c x = true := by unfold upTo; simp [hx]
        rw [hu] at h
        rw [hu]
        simp only [if_true] at h ⊢
        obtain ⟨h1, h2⟩ := ih rest h
        by_cases h6 : x.toNat = 60
        · have hi : inVal c x = false := by unfold inVal; simp [h6]
          rw [hi]
          simp only [Bool.false_eq_true, if_false]
          exact ⟨fun hn => absurd ⟨x, by simp, h6⟩ hn, fun _ => ⟨x, t, rfl, hx⟩⟩
        · have hi : inVal c x = true := by unfold inVal; simp [h6, hx]
          rw [hi]
          simp only [if_true]
          refine ⟨fun hn => ?_, fun ⟨y, hy, hy6⟩ => ?_⟩
          · obtain ⟨a, b⟩ := h1 (fun ⟨y, hy, hy6⟩ => hn ⟨y, by simp [hy], hy6⟩)
            exact ⟨a, by rw [b]⟩
          · rcases List.mem_cons.1 hy with rfl | hy
            · exact absurd hy6 h6
            · exact h2 ⟨y, hy, hy6⟩
  obtain ⟨h1, h2⟩ := key l rest h
  unfold untilV
  by_cases hx : ∃ x ∈ l.takeWhile (upTo c), x.toNat = 60
  · rw [if_pos hx]
    obtain ⟨y, r, e, hy⟩ := h2 hx
    rw [e]
    simp [hy]
  · rw [if_neg hx]
    obtain ⟨a, b⟩ := h1 hx
    rw [a, b]
    simp

/-- an attribute behind its name, as the program takes it -/
theorem attrQ_until {n x l1 r : List UInt8} {m : UInt8} (h : isP [61] x = some l1) (h2 : l1.dropWhile isBl = m :: r) (h3 : m.toNat = 34 ∨ m.toNat = 39) : attrQ n x = (untilV m r).map fun p => ((n, p.1), p.2) := by
  rw [attrQ_good h h2 h3]
  unfold untilV
  split
  · rename_i e; simp only [e]; rfl
  · rename_i c rest e
    simp only [e]
    split
    · rfl
    · cases valV (r.takeWhile (inVal m)) <;> rfl
theorem attrQ_other {n x l1 : List UInt8} (h : isP [61] x = some l1) (h1 : isP [34] (l1.dropWhile isBl) = none) (h2 : isP [39] (l1.dropWhile isBl) = none) : attrQ n x = none := by
  cases hd : l1.dropWhile isBl with
  | nil => exact attrQ_end h hd
  | cons m r =>
    refine attrQ_mark h hd ⟨fun e => ?_, fun e => ?_⟩
    · obtain rfl : m = 34 := UInt8.toNat_inj.1 e
      rw [hd, isP_one] at h1; cases h1
    · obtain rfl : m = 39 := UInt8.toNat_inj.1 e
      rw [hd, isP_one] at h2; cases h2
theorem isP_cons {m : UInt8} {l r : List UInt8} (h : isP [m] l = some r) : l = m :: r := (isP_len h).1

/-! ### an element's beginning -/
theorem openV_more' {name l : List UInt8} {attrs : List (List UInt8 × List UInt8)} (hb : bgB isBl l = true) (hf : bgB isFi (l.dropWhile isBl) = true) :
    openV name attrs l = match attrP attrs (l.dropWhile isBl) with | none => none | some (a, r) => openV name (attrs ++ [a]) r := by
  rw [openV_eq, isP_none_bg hf (by decide), isP_none_bg hf (by decide)]
  simp only
  have := (bg_ne (p := isBl) (l := l)).2 hb
  rw [if_neg (fun e => this (List.eq_nil_of_length_eq_zero e))]
  rfl
theorem openV_last {name l : List UInt8} {attrs : List (List UInt8 × List UInt8)} (h : bgB isBl l = false ∨ bgB isFi (l.dropWhile isBl) = false) :
    openV name attrs l = match isP [47] (l.dropWhile isBl) with
      | some r => (isP [62] r).map fun q => (⟨1, name, [], attrs, true⟩, q)
      | none => (isP [62] (l.dropWhile isBl)).map fun q => (⟨1, name, [], attrs, false⟩, q) := by
  have hlast : isP [47, 62] (l.dropWhile isBl) = none → isP [62] (l.dropWhile isBl) = none → openV name attrs l = none := by
    intro h1 h2
    rw [openV_eq, h1, h2]
    simp only
    split
    · rfl
    · rename_i hn
      rcases h with h | h
      · exact absurd (by rw [(drop_none h).2]; rfl) hn
      · rw [attrP_bad (by rw [bg_name]; exact h)]
  cases h1 : isP [47] (l.dropWhile isBl) with
  | some r =>
    have e1 := isP_cons h1
    have hn : isP [62] (l.dropWhile isBl) = none := by rw [e1]; exact isP_ne (by decide)
    cases h2 : isP [62] r with
    | none =>
      show _ = (isP [62] r).map _
      rw [h2]
      refine hlast ?_ hn
      rw [e1]
      unfold isP at h2 ⊢
      split at h2
      · cases h2
      · rename_i hh
        rw [if_neg]
        simpa [List.isPrefixOf] using hh
    | some q =>
      have e2 := isP_cons h2
      rw [openV_eq, e1, e2, show (47 : UInt8) :: 62 :: q = [47, 62] ++ q from rfl, isP_app]
      show _ = (isP [62] (62 :: q)).map _
      rw [isP_one]
      rfl
  | none =>
    have hn : isP [47, 62] (l.dropWhile isBl) = none := by
      cases hd : l.dropWhile isBl with
      | nil => rfl
      | cons c r =>
        refine isP_ne ?_
        rintro rfl
        rw [hd, isP_one] at h1
        cases h1
    cases h2 : isP [62] (l.dropWhile isBl) with
    | none => rw [hlast hn h2]; rfl
    | some q => rw [openV_eq, hn, h2]; rfl

/-! ### a value's pieces -/
theorem valV_cut {a r : List UInt8} (ha : ∀ x ∈ a, x.toNat ≠ 38) : valV (a ++ r) = (valV r).map (a ++ ·) := by
  induction a with
  | nil => simp
  | cons c t ih =>
    rw [List.cons_append, valV_plain (ha c (by simp)), ih (fun x hx => ha x (by simp [hx])), Option.map_map]
    rfl
theorem valV_all {a : List UInt8} (ha : ∀ x ∈ a, x.toNat ≠ 38) : valV a = some a := by
  have h := valV_cut (r := []) ha
  rw [List.append_nil, valV_nil] at h
  simpa using h
/-- what a character's number stands for -/
def numQ (base most : Nat) (s : List UInt8) : Option (List UInt8) := match chrV s base most with
  | none => none
  | some v => if charB v then some (encL (v : Int)) else none
theorem chrV_nil (base most : Nat) : chrV [] base most = none := rfl
theorem numQ_nil (base most : Nat) : numQ base most [] = none := rfl
theorem entV_prog {s : List UInt8} (h : ∀ j, j < 5 → s ≠ nmL j) : entV s = match isP [35, 120] s with
    | some r => numQ 16 6 r
    | none => match isP [35] s with
      | some r => numQ 10 7 r
      | none => none := by
  rw [entV_num h]
  cases h1 : isP [35, 120] s with
  | some r =>
    have e := (isP_len h1).1
    subst e
    have hp : isP [35] ([35, 120] ++ r) = some (120 :: r) := rfl
    cases r with
    | nil => rfl
    | cons c t =>
      show (match entN (35 :: 120 :: c :: t) with | none => none | some v => _) = _
      unfold entN numQ
      rw [if_pos ⟨by simp, by simp⟩]
      rfl
  | none =>
    cases h2 : isP [35] s with
    | some r =>
      obtain rfl := isP_cons h2
      cases r with
      | nil => rfl
      | cons c t =>
        show (match entN (35 :: c :: t) with | none => none | some v => _) = _
        unfold entN numQ
        have hc : c ≠ 120 := by
          rintro rfl
          rw [show (35 : UInt8) :: 120 :: t = [35, 120] ++ t from rfl, isP_app] at h1
          cases h1
        rw [if_neg (by rintro ⟨_, e⟩; simp at e; exact hc e), if_pos ⟨by simp, by simp⟩]
        rfl
    | none =>
      have : entN s = none := by
        unfold entN
        cases s with
        | nil => rfl
        | cons c t =>
          have hc : c ≠ 35 := by
            rintro rfl
            rw [isP_one] at h2; cases h2
          rw [if_neg (by rintro ⟨_, e⟩; cases t <;> simp at e; exact hc e.1), if_neg (by rintro ⟨_, e⟩; exact hc e)]
      rw [this]
/-- a character that a text may have, as bytes -/
theorem utf8_enc {c : Nat} (h : c ≤ 1114111) (hs : ¬ (55296 ≤ c ∧ c ≤ 57343)) : utf8B (encL c) = charB c := by
  unfold utf8B
  rw [cnt_enc h hs]
  cases charB c <;> rfl
theorem charB_not {c : Nat} (h : ¬ (c ≤ 1114111 ∧ ¬ (55296 ≤ c ∧ c ≤ 57343))) : charB c = false := by
  unfold charB
  rw [decide_eq_false_iff_not]
  omega

/-! ### up to a sign: what the library's Cut answers -/
theorem index_one (m : UInt8) : ∀ l : List UInt8, Lib.index l [m] = if l.dropWhile (upTo m) = [] then -1 else ((l.takeWhile (upTo m)).length : Int)
  | [] => rfl
  | b :: l => by
    have ih := index_one m l
    rw [Lib.index, List.dropWhile_cons, List.takeWhile_cons]
    by_cases hb : b = m
    · subst hb
      have hu : upTo b b = false := by unfold upTo; simp
      rw [hu]
      simp [List.isPrefixOf]
    · have hu : upTo m b = true := by unfold upTo; simp [hb]
      have hp : [m].isPrefixOf (b :: l) = false := by simp [List.isPrefixOf]; exact fun e => hb e.symm
      rw [hu, hp, ih]
      simp only [Bool.false_eq_true, if_false, if_true]
      split
      · rfl
      · rename_i hd
        rw [if_neg (by simp)]
        simp
theorem cut_one (m : UInt8) (l : List UInt8) : Lib.cut l [m] = match l.dropWhile (upTo m) with
    | [] => (l, [], false)
    | _ :: r => (l.takeWhile (upTo m), r, true) := by
  unfold Lib.cut
  rw [index_one]
  cases hd : l.dropWhile (upTo m) with
  | nil => rw [if_pos rfl]; rfl
  | cons c r =>
    have h := List.takeWhile_append_dropWhile (p := upTo m) (l := l)
    rw [hd] at h
    have hi : (if (c :: r : List UInt8) = [] then (-1 : Int) else ((l.takeWhile (upTo m)).length : Int)) = ((l.takeWhile (upTo m)).length : Int) := if_neg (by simp)
    rw [hi, if_pos (Int.natCast_nonneg _)]
    simp only [Int.toNat_natCast, List.length_cons, List.length_nil]
    rw [show l.take (l.takeWhile (upTo m)).length = l.takeWhile (upTo m) from (take_while_pre _ _).symm]
    have e3 : l.drop (l.takeWhile (upTo m)).length = c :: r := by
      have e4 := congrArg (List.drop (l.takeWhile (upTo m)).length) h
      rw [List.drop_left] at e4
      exact e4.symm
    have e2 : l.drop ((l.takeWhile (upTo m)).length + (0 + 1)) = r := by
      rw [← List.drop_drop, e3]
      rfl
    rw [e2]
theorem index_byte (m : UInt8) : ∀ l : List UInt8, decide (0 ≤ Lib.indexByte l m) = decide (∃ x ∈ l, x = m)
  | [] => by simp [Lib.indexByte]
  | b :: l => by
    have ih := index_byte m l
    have hg := Lib.indexByte_ge l m
    rw [decide_eq_decide] at ih ⊢
    rw [Lib.indexByte]
    by_cases hb : b = m
    · simp [hb]
    · rw [if_neg (by simpa using hb)]
      split
      · rename_i h1
        have h1 : Lib.indexByte l m = -1 := by simpa using h1
        rw [h1] at ih
        constructor
        · intro h; omega
        · rintro ⟨x, hx, rfl⟩
          rcases List.mem_cons.1 hx with e | hx
          · exact absurd e.symm hb
          · exact absurd (ih.2 ⟨x, hx, rfl⟩) (by decide)
      · rename_i h1
        have h1 : Lib.indexByte l m ≠ -1 := by simpa using h1
        constructor
        · intro _
          obtain ⟨x, hx, e⟩ := ih.1 (by omega)
          exact ⟨x, by simp [hx], e⟩
        · intro _; omega
end Go.Proofs.YthkjmbkfcnehoaaGreatDoor
