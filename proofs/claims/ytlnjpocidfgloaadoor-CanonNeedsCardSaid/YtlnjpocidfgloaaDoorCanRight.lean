/- Which rows may be written, as the program asks, and as the statements' own answer does: plain functions, no program. -/
import Derived.Test.YtlnjpocidfgloaaDoorCanM
namespace Go.Proofs.YtlnjpocidfgloaaDoor
set_option linter.unusedVariables false

def attrB (x : List UInt8 × List UInt8) : Bool := nameOk x.1 && utf8B x.2
def unlikeB (a : List (List UInt8 × List UInt8)) : Bool := decide ((a.map (·.1)).Nodup)
def attrsB (a : List (List UInt8 × List UInt8)) : Bool := a.all attrB && unlikeB a
def soundB (n : Nod) : Bool := nameOk n.name && (utf8B n.text && (n.attrs.all attrB && unlikeB n.attrs))
/-- the text of the one that stands there -/
def textAt (l : List Nod) (p : Int) : List UInt8 := ((l[p.toNat]?).map (·.text)).getD []
def bareB (l : List Nod) (x : Nod) : Bool := decide (textAt l x.parent = [])
def nextO (o : List Int) (k : Nat) (p : Int) : List Int := o.takeWhile (fun x => decide (x ≠ p)) ++ [p, (k : Int)]
/-- as the program asks -/
def nestP (l : List Nod) : List Int → Nat → List Nod → Bool
  | _, _, [] => true
  | o, k, n :: r => o.contains n.parent && (bareB l n && (decide ((nextO o k n.parent).length ≤ 32) && nestP l (nextO o k n.parent) (k + 1) r))
def rightB (l : List Nod) : Bool := decide (0 < l.length) && (decide (l.length ≤ 500) && (((l.head?.map (·.parent)) == some (-1)) && (nestP l [0] 1 l.tail && l.all soundB)))
theorem soundB_iff (n : Nod) : soundB n = true ↔ SoundN n := by
  unfold soundB SoundN unlikeB attrB
  simp only [Bool.and_eq_true, List.all_eq_true, decide_eq_true_eq]
theorem nestP_eq (l : List Nod) : ∀ (r : List Nod) (o : List Int) (k : Nat), nestP l o k r = (nestF o k r && r.all (bareB l))
  | [], o, k => rfl
  | n :: r, o, k => by
    unfold nestP
    rw [nest_cons, nestP_eq l r]
    unfold nextO
    rw [List.all_cons]
    ac_rfl
theorem rightB_iff (l : List Nod) : rightB l = true ↔ RightL l := by
  unfold rightB RightL
  simp only [Bool.and_eq_true, decide_eq_true_eq, nestP_eq, List.all_eq_true, soundB_iff, beq_iff_eq]
  constructor
  · rintro ⟨h1, h2, h3, ⟨h4, h5⟩, h6⟩
    refine ⟨fun e => by simp [e] at h1, h2, h3, h4, h6, fun x hx => ?_⟩
    exact of_decide_eq_true (h5 x hx)
  · rintro ⟨h1, h2, h3, h4, h5, h6⟩
    refine ⟨List.length_pos_iff.2 h1, h2, h3, ⟨h4, fun x hx => ?_⟩, h5⟩
    exact decide_eq_true (h6 x hx)

/-! ### the statements' own answer -/
def parOk (l : List Nod) (i : Nat) (p : Int) : Bool := decide (0 ≤ p) && (decide (p < (i : Int)) && (chainL l (i - 1)).contains p)
def okB (l : List Nod) (i : Nat) (n : Nod) : Bool := (decide (i = 0) || parOk l i n.parent) && (nameOk n.name && (utf8B n.text && (attrsB n.attrs && decide ((chainF l 34 (i : Int)).length ≤ 32))))
/-- the first i of them -/
def oksB (l : List Nod) (i : Nat) : Bool := (l.take i).zipIdx.all (fun x => okB l x.2 x.1)
theorem oks_succ (l : List Nod) (i : Nat) (h : i < l.length) : oksB l (i + 1) = (oksB l i && okB l i l[i]) := by
  unfold oksB
  rw [List.take_succ_eq_append_getElem h, List.zipIdx_append, List.all_append]
  have : min i l.length = i := by omega
  simp [this]
theorem oks_at {l : List Nod} : ∀ (i : Nat), i ≤ l.length → (oksB l i = true ↔ ∀ j (h : j < l.length), j < i → okB l j l[j] = true)
  | 0, _ => by simp [oksB]
  | i + 1, hi => by
    rw [oks_succ l i (by omega), Bool.and_eq_true, oks_at i (by omega)]
    constructor
    · rintro ⟨h1, h2⟩ j hj hji
      by_cases h : j = i
      · subst h; exact h2
      · exact h1 j hj (by omega)
    · intro h
      exact ⟨fun j hj hji => h j hj (by omega), h i (by omega) (by omega)⟩
theorem parOk_iff {n0 : Nod} {r : List Nod} {i : Nat} {n : Nod} (hn : (n0 :: r)[i]? = some n) (hi : 1 ≤ i) :
    (parOk (n0 :: r) i n.parent = true ∧ (chainF (n0 :: r) 34 (i : Int)).length ≤ 32) ↔ RefOk (n0 :: r) i := by
  unfold parOk RefOk
  simp only [Bool.and_eq_true, decide_eq_true_eq]
  constructor
  · rintro ⟨⟨h1, h2, h3⟩, h4⟩
    obtain ⟨p, hp⟩ := Int.eq_ofNat_of_zero_le h1
    rw [hp] at h2 h3
    exact ⟨n, p, hn, hp, by omega, by simpa using h3, h4⟩
  · rintro ⟨m, p, hm, hp, h2, h3, h4⟩
    rw [hn] at hm
    injection hm with hm
    subst hm
    rw [hp]
    exact ⟨⟨by omega, by omega, by simpa using h3⟩, h4⟩
/-- what stands ahead is as it must: the parents lead to the first one -/
theorem oks_valid {n0 : Nod} {r : List Nod} (h0 : n0.parent = -1) {i : Nat} (hi : i ≤ r.length) (h : oksB (n0 :: r) (i + 1) = true) : Valid (n0 :: r) i := by
  rw [oks_at (i + 1) (by simpa using hi)] at h
  refine ((nest_ref h0 i hi).2 ((nest_ref h0 i hi).1.2 fun j h1 h2 => ?_)).1
  have hj : j < (n0 :: r).length := by simp; omega
  have := h j hj (by omega)
  unfold okB at this
  simp only [Bool.and_eq_true, Bool.or_eq_true, decide_eq_true_eq] at this
  obtain ⟨h3 | h3, _, _, _, h4⟩ := this
  · omega
  · exact (parOk_iff (List.getElem?_eq_getElem hj) h1).1 ⟨h3, h4⟩
def refB (l : List Nod) : Bool := decide (0 < l.length) && (decide (l.length ≤ 500) && (((l.head?.map (·.parent)) == some (-1)) && (oksB l l.length && l.tail.all (bareB l))))
theorem sound_attrs (n : Nod) : soundB n = (nameOk n.name && (utf8B n.text && attrsB n.attrs)) := rfl
theorem ref_right (l : List Nod) : refB l = rightB l := by
  unfold refB rightB
  cases l with
  | nil => rfl
  | cons n0 r =>
    rw [nestP_eq]
    simp only [List.tail_cons, List.head?_cons, Option.map_some]
    by_cases h0 : n0.parent = -1
    · have key : oksB (n0 :: r) (n0 :: r).length = (nestF [0] 1 r && (n0 :: r).all soundB) := by
        rw [Bool.eq_iff_iff, oks_at _ (Nat.le_refl _), Bool.and_eq_true]
        have hz := (nest_ref h0 r.length (Nat.le_refl _)).1
        rw [List.take_length] at hz
        rw [hz, List.all_eq_true]
        constructor
        · intro h
          refine ⟨fun i h1 h2 => ?_, fun x hx => ?_⟩
          · have hj : i < (n0 :: r).length := by simp; omega
            have := h i hj hj
            unfold okB at this
            simp only [Bool.and_eq_true, Bool.or_eq_true, decide_eq_true_eq] at this
            obtain ⟨h3 | h3, _, _, _, h4⟩ := this
            · omega
            · exact (parOk_iff (List.getElem?_eq_getElem hj) h1).1 ⟨h3, h4⟩
          · obtain ⟨i, hi, rfl⟩ := List.getElem_of_mem hx
            have := h i hi hi
            unfold okB at this
            simp only [Bool.and_eq_true] at this
            rw [sound_attrs, Bool.and_eq_true, Bool.and_eq_true]
            exact ⟨this.2.1, this.2.2.1, this.2.2.2.1⟩
        · rintro ⟨h1, h2⟩ j hj _
          have hs := h2 _ (List.getElem_mem hj)
          rw [sound_attrs, Bool.and_eq_true, Bool.and_eq_true] at hs
          unfold okB
          simp only [Bool.and_eq_true, Bool.or_eq_true, decide_eq_true_eq]
          rcases Nat.eq_zero_or_pos j with hj0 | hj0
          · subst hj0
            refine ⟨.inl rfl, hs.1, hs.2.1, hs.2.2, ?_⟩
            rw [chain_at (n := n0) 33 rfl, chain_neg _ _ (by omega)]
            simp
          · have := (parOk_iff (List.getElem?_eq_getElem hj) hj0).2 (h1 j hj0 (by simp at hj; omega))
            exact ⟨.inr this.1, hs.1, hs.2.1, hs.2.2, this.2⟩
      rw [key]
      ac_rfl
    · have : (some n0.parent == some (-1)) = false := by simpa using h0
      rw [this]
      simp
end Go.Proofs.YtlnjpocidfgloaaDoor
