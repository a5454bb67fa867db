/- Tags and their data as bytes, both ways: plain functions on lists, no program. -/
import Derived.Test.YtbfodbejdaafaaaBase
namespace Go.Proofs.Ytbfodbejdaafaaa
set_option linter.unusedVariables false

/-- how many bytes a tag has; 0: it is none -/
def tgN (t : Int) : Nat := if 0 < t ∧ t < 255 ∧ t % 32 ≠ 31 then 1 else if 255 < t ∧ t / 256 < 255 ∧ (t / 256) % 32 = 31 ∧ t % 256 < 128 then 2 else 0
theorem tgN_le (t : Int) : tgN t ≤ 2 ∧ (tgN t ≠ 0 → 0 < t ∧ t < 65536) := by
  unfold tgN
  split
  · exact ⟨by omega, fun _ => by omega⟩
  · split
    · exact ⟨by omega, fun _ => by omega⟩
    · exact ⟨by omega, fun h => absurd rfl h⟩
abbrev TagL := Int × List UInt8
def tagB (t : Int) : List UInt8 := if tgN t = 1 then [UInt8.ofNat t.toNat] else if tgN t = 2 then [UInt8.ofNat (t.toNat / 256), UInt8.ofNat t.toNat] else []
def lenB (n : Nat) : List UInt8 := if n < 128 then [UInt8.ofNat n] else [129, UInt8.ofNat n]
def wr1T (a : TagL) : List UInt8 := tagB a.1 ++ (lenB a.2.length ++ a.2)
def wrT : List TagL → List UInt8
  | [] => []
  | a :: l => wr1T a ++ wrT l
/-- why tags can't be written, some being there already -/
def wrF : List TagL → List TagL → Int
  | _, [] => 0
  | p, a :: l => if tgN a.1 = 0 ∨ p.any (fun x => x.1 == a.1) = true then 18 else if 255 < a.2.length then 17 else wrF (p ++ [a]) l
def wrE (l : List TagL) : Int := if 20 < l.length then 4 else wrF [] l
def wrL (l : List TagL) : List UInt8 := if wrE l = 0 then wrT l else []

/-- a tag at the beginning, and what is behind it; none: it is cut -/
def tagP : List UInt8 → Option (Int × List UInt8)
  | [] => none
  | b :: r => if b.toNat % 32 = 31 ∧ b.toNat ≠ 255 then (match r with
    | [] => none
    | c :: q => some (((b.toNat * 256 + c.toNat : Nat) : Int), q)) else some ((b.toNat : Int), r)
/-- a length at the beginning: an error, or how many, and what is behind it -/
def lenP : List UInt8 → Int × Nat × List UInt8
  | [] => (3, 0, [])
  | n :: q => if n.toNat < 128 then (0, n.toNat, q) else if n.toNat ≠ 129 then (17, 0, []) else match q with
    | [] => (3, 0, [])
    | m :: s => if m.toNat < 128 then (17, 0, []) else (0, m.toNat, s)
/-- tags of bytes, some being there already -/
def parF : Nat → List TagL → List UInt8 → Int × List TagL
  | _, p, [] => (0, p)
  | 0, _, _ :: _ => (4, [])
  | f + 1, p, b :: r => if 20 ≤ p.length then (4, []) else match tagP (b :: r) with
    | none => (3, [])
    | some (t, q) => if tgN t = 0 ∨ p.any (fun x => x.1 == t) = true then (18, []) else
      if (lenP q).1 ≠ 0 then ((lenP q).1, []) else
      if (lenP q).2.2.length < (lenP q).2.1 then (3, []) else parF f (p ++ [(t, (lenP q).2.2.take (lenP q).2.1)]) ((lenP q).2.2.drop (lenP q).2.1)
def parA (b : List UInt8) : Int × List TagL := parF b.length [] b
def tlvE (b : List UInt8) : Int := (parA b).1
def tlvL (b : List UInt8) : List TagL := (parA b).2

theorem u8_self (x : UInt8) : UInt8.ofNat x.toNat = x := by simp
theorem u8_nat {n : Nat} (h : n < 256) : (UInt8.ofNat n).toNat = n := by rw [UInt8.toNat_ofNat']; omega
theorem tagP_cons (b : UInt8) (r : List UInt8) : tagP (b :: r) = if b.toNat % 32 = 31 ∧ b.toNat ≠ 255 then (match r with
    | [] => none
    | c :: q => some (((b.toNat * 256 + c.toNat : Nat) : Int), q)) else some ((b.toNat : Int), r) := rfl
theorem lenP_cons (n : UInt8) (q : List UInt8) : lenP (n :: q) = ((if n.toNat < 128 then (0, n.toNat, q) else if n.toNat ≠ 129 then (17, 0, []) else match q with
    | [] => (3, 0, [])
    | m :: s => if m.toNat < 128 then (17, 0, []) else (0, m.toNat, s)) : Int × Nat × List UInt8) := rfl
theorem parF_cons (f : Nat) (p : List TagL) (b : UInt8) (r : List UInt8) : parF (f + 1) p (b :: r) = if 20 ≤ p.length then (4, []) else match tagP (b :: r) with
    | none => (3, [])
    | some (t, q) => if tgN t = 0 ∨ p.any (fun x => x.1 == t) = true then (18, []) else
      if (lenP q).1 ≠ 0 then ((lenP q).1, []) else
      if (lenP q).2.2.length < (lenP q).2.1 then (3, []) else parF f (p ++ [(t, (lenP q).2.2.take (lenP q).2.1)]) ((lenP q).2.2.drop (lenP q).2.1) := rfl
theorem parF_nil (f : Nat) (p : List TagL) : parF f p [] = (0, p) := by cases f <;> rfl
theorem tagP_less {l q : List UInt8} {t : Int} (h : tagP l = some (t, q)) : q.length < l.length := by
  cases l with
  | nil => cases h
  | cons b r =>
    rw [tagP_cons] at h
    split at h
    · cases r with
      | nil => cases h
      | cons c s =>
        simp only [Option.some.injEq, Prod.mk.injEq] at h
        rw [← h.2]; simp; omega
    · simp only [Option.some.injEq, Prod.mk.injEq] at h
      rw [← h.2]; simp
theorem lenP_less (l : List UInt8) : (lenP l).2.2.length ≤ l.length := by
  cases l with
  | nil => simp [lenP]
  | cons n q =>
    rw [lenP_cons]
    split
    · simp
    split
    · simp
    cases q with
    | nil => simp
    | cons m s =>
      simp only
      split
      · simp
      · simp; omega
/-- fuel that is enough is enough -/
theorem parF_fuel : ∀ (f g : Nat) (p : List TagL) (l : List UInt8), l.length ≤ f → l.length ≤ g → parF f p l = parF g p l
  | f, g, p, [], _, _ => by rw [parF_nil, parF_nil]
  | 0, _, _, _ :: _, h, _ => by simp at h
  | _, 0, _, _ :: _, _, h => by simp at h
  | f + 1, g + 1, p, b :: r, hf, hg => by
    rw [parF_cons, parF_cons]
    split
    · rfl
    split
    · rfl
    rename_i t q ht
    have h1 := tagP_less ht
    have h2 := lenP_less q
    split
    · rfl
    split
    · rfl
    split
    · rfl
    simp only [List.length_cons] at hf hg h1
    exact parF_fuel f g _ _ (by rw [List.length_drop]; omega) (by rw [List.length_drop]; omega)

/-! ### written, and parsed -/
theorem tagB_parse (t : Int) (h : tgN t ≠ 0) (q : List UInt8) : tagP (tagB t ++ q) = some (t, q) ∧ (tagB t).length = tgN t := by
  have hle := tgN_le t
  have h0 := hle.2 h
  unfold tagB
  rcases (show tgN t = 1 ∨ tgN t = 2 by omega) with h1 | h1
  · rw [if_pos h1, h1]
    unfold tgN at h1
    split at h1
    · rename_i hc
      have e : (UInt8.ofNat t.toNat).toNat = t.toNat := u8_nat (by omega)
      refine ⟨?_, rfl⟩
      simp only [List.singleton_append, tagP, e]
      rw [if_neg (by omega)]
      congr 2
      omega
    · split at h1 <;> cases h1
  · rw [if_neg (by omega), if_pos h1, h1]
    unfold tgN at h1
    split at h1
    · cases h1
    · split at h1
      · rename_i hc
        have e1 : (UInt8.ofNat (t.toNat / 256)).toNat = t.toNat / 256 := u8_nat (by omega)
        have e2 : (UInt8.ofNat t.toNat).toNat = t.toNat % 256 := by rw [UInt8.toNat_ofNat']
        refine ⟨?_, rfl⟩
        simp only [List.cons_append, List.nil_append, tagP, e1, e2]
        rw [if_pos (by omega)]
        congr 2
        omega
      · cases h1
theorem lenB_parse (n : Nat) (h : n ≤ 255) (q : List UInt8) : lenP (lenB n ++ q) = (0, n, q) := by
  unfold lenB
  split
  · have e : (UInt8.ofNat n).toNat = n := u8_nat (by omega)
    simp only [List.singleton_append, lenP, e]
    rw [if_pos (by omega)]
  · have e : (UInt8.ofNat n).toNat = n := u8_nat (by omega)
    have e2 : (129 : UInt8).toNat = 129 := rfl
    simp only [List.cons_append, List.nil_append, lenP, e, e2]
    rw [if_neg (by omega), if_neg (by omega), if_neg (by omega)]
theorem wr1_ne (a : TagL) (h : tgN a.1 ≠ 0) (q : List UInt8) : ∃ b r, wr1T a ++ q = b :: r := by
  have h1 := (tagB_parse a.1 h []).2
  cases hb : wr1T a ++ q with
  | nil =>
    have h2 := congrArg List.length hb
    unfold wr1T at h2
    simp only [List.length_append, List.length_nil] at h2
    omega
  | cons b r => exact ⟨b, r, rfl⟩
/-- a tag that is written is parsed, whatever is behind it -/
theorem par_one (f : Nat) (p : List TagL) (a : TagL) (q : List UInt8) (hp : p.length < 20) (ht : tgN a.1 ≠ 0) (hk : p.any (fun x => x.1 == a.1) = false) (hn : a.2.length ≤ 255) :
    parF (f + 1) p (wr1T a ++ q) = parF f (p ++ [a]) q := by
  obtain ⟨b, r, hb⟩ := wr1_ne a ht q
  have h1 := (tagB_parse a.1 ht (lenB a.2.length ++ (a.2 ++ q))).1
  have h2 := lenB_parse a.2.length hn (a.2 ++ q)
  have e : wr1T a ++ q = tagB a.1 ++ (lenB a.2.length ++ (a.2 ++ q)) := by unfold wr1T; simp
  rw [← e, hb] at h1
  rw [hb, parF_cons, if_neg (by omega), h1]
  simp only [h2]
  rw [if_neg (by rw [hk]; simp [ht]), if_neg (by simp), if_neg (by simp), List.take_left' rfl, List.drop_left' rfl]
theorem wrF_ok {p : List TagL} {a : TagL} {l : List TagL} (h : wrF p (a :: l) = 0) : tgN a.1 ≠ 0 ∧ p.any (fun x => x.1 == a.1) = false ∧ a.2.length ≤ 255 ∧ wrF (p ++ [a]) l = 0 := by
  unfold wrF at h
  split at h
  · cases h
  rename_i h1
  split at h
  · cases h
  rename_i h2
  refine ⟨fun e => h1 (.inl e), ?_, by omega, h⟩
  cases hh : p.any (fun x => x.1 == a.1) with
  | false => rfl
  | true => exact absurd (.inr hh) h1
theorem par_wr : ∀ (l p : List TagL) (f : Nat), wrF p l = 0 → p.length + l.length ≤ 20 → (wrT l).length ≤ f → parF f p (wrT l) = (0, p ++ l)
  | [], p, f, _, _, _ => by rw [List.append_nil]; exact parF_nil f p
  | a :: l, p, f, h, hl, hf => by
    obtain ⟨h1, h2, h3, h4⟩ := wrF_ok h
    obtain ⟨b, r, hb⟩ := wr1_ne a h1 (wrT l)
    simp only [List.length_cons] at hl
    have hlen : (wrT (a :: l)).length = (wr1T a).length + (wrT l).length := by simp [wrT]
    have hpos : 0 < (wr1T a).length := by
      have := (tagB_parse a.1 h1 []).2
      unfold wr1T
      simp
      omega
    cases f with
    | zero => omega
    | succ f =>
      show parF (f + 1) p (wr1T a ++ wrT l) = _
      rw [par_one f p a (wrT l) (by omega) h1 h2 h3, par_wr l (p ++ [a]) f h4 (by simp; omega) (by omega)]
      simp
theorem wrE_ok {l : List TagL} (h : wrE l = 0) : l.length ≤ 20 ∧ wrF [] l = 0 := by
  unfold wrE at h
  split at h
  · cases h
  · exact ⟨by omega, h⟩
/-- what is written is parsed -/
theorem tlv_there {l : List TagL} (h : wrE l = 0) : tlvE (wrT l) = 0 ∧ tlvL (wrT l) = l := by
  obtain ⟨h1, h2⟩ := wrE_ok h
  have := par_wr l [] (wrT l).length h2 (by simpa using h1) (Nat.le_refl _)
  unfold tlvE tlvL parA
  rw [this]
  exact ⟨rfl, rfl⟩

/-! ### parsed, and written -/
theorem tagP_back {l q : List UInt8} {t : Int} (h : tagP l = some (t, q)) (ht : tgN t ≠ 0) : l = tagB t ++ q := by
  cases l with
  | nil => cases h
  | cons b r =>
    have hb := b.toNat_lt
    rw [tagP_cons] at h
    split at h
    · rename_i hc
      cases r with
      | nil => cases h
      | cons c s =>
        have hcl := c.toNat_lt
        simp only [Option.some.injEq, Prod.mk.injEq] at h
        obtain ⟨rfl, rfl⟩ := h
        have h2 : tgN ((b.toNat * 256 + c.toNat : Nat) : Int) = 2 := by
          unfold tgN at ht ⊢
          rw [if_neg (by omega)] at ht ⊢
          split
          · rfl
          · rename_i hh; rw [if_neg hh] at ht; exact absurd rfl ht
        unfold tagB
        rw [if_neg (by omega), if_pos h2, Int.toNat_natCast, show (b.toNat * 256 + c.toNat) / 256 = b.toNat by omega, u8_self]
        have e2 : UInt8.ofNat (b.toNat * 256 + c.toNat) = c := by
          apply UInt8.toNat_inj.1
          rw [UInt8.toNat_ofNat']
          omega
        rw [e2]
        rfl
    · rename_i hc
      simp only [Option.some.injEq, Prod.mk.injEq] at h
      obtain ⟨rfl, rfl⟩ := h
      have h2 : tgN (b.toNat : Int) = 1 := by
        unfold tgN at ht ⊢
        split
        · rfl
        · rename_i hh; rw [if_neg hh, if_neg (by omega)] at ht; exact absurd rfl ht
      unfold tagB
      rw [if_pos h2, Int.toNat_natCast, u8_self]
      rfl
theorem lenP_back {l : List UInt8} (h : (lenP l).1 = 0) : l = lenB (lenP l).2.1 ++ (lenP l).2.2 ∧ (lenP l).2.1 ≤ 255 := by
  cases l with
  | nil => cases h
  | cons n q =>
    have hn := n.toNat_lt
    rw [lenP_cons] at h ⊢
    split
    · rename_i h1
      refine ⟨?_, by simp only; omega⟩
      simp only [lenB]
      rw [if_pos h1, u8_self]
      rfl
    · rename_i h1
      rw [if_neg h1] at h
      split
      · rename_i h2; rw [if_pos h2] at h; cases h
      · rename_i h2
        rw [if_neg h2] at h
        cases q with
        | nil => cases h
        | cons m s =>
          have hm := m.toNat_lt
          simp only at h ⊢
          split
          · rename_i h3; rw [if_pos h3] at h; cases h
          · rename_i h3
            refine ⟨?_, by simp only; omega⟩
            simp only [lenB]
            rw [if_neg h3, u8_self]
            have : n = 129 := UInt8.toNat_inj.1 (by rw [show (129 : UInt8).toNat = 129 from rfl]; omega)
            rw [this]
            rfl
theorem par_back : ∀ (f : Nat) (p : List TagL) (b : List UInt8) (L : List TagL), parF f p b = (0, L) → ∃ l, L = p ++ l ∧ b = wrT l ∧ wrF p l = 0 ∧ (l = [] ∨ L.length ≤ 20)
  | f, p, [], L, h => by
    rw [parF_nil] at h
    injection h with _ h
    exact ⟨[], by simp [h], rfl, rfl, .inl rfl⟩
  | 0, _, _ :: _, _, h => by cases h
  | f + 1, p, b :: r, L, h => by
    rw [parF_cons] at h
    split at h
    · cases h
    rename_i h20
    split at h
    · cases h
    rename_i t q ht
    split at h
    · cases h
    rename_i h1
    split at h
    · rename_i h2; injection h with h _; exact absurd h h2
    rename_i h2
    split at h
    · cases h
    rename_i h3
    have h2 : (lenP q).1 = 0 := by omega
    have ht0 : tgN t ≠ 0 := fun e => h1 (.inl e)
    obtain ⟨e1, e2⟩ := lenP_back h2
    obtain ⟨l, hl, hb, hw, hz⟩ := par_back f _ _ L h
    have hlt : ((lenP q).2.2.take (lenP q).2.1).length = (lenP q).2.1 := by rw [List.length_take]; omega
    refine ⟨(t, (lenP q).2.2.take (lenP q).2.1) :: l, by rw [hl]; simp, ?_, ?_, ?_⟩
    · rw [tagP_back ht ht0]
      show _ = wr1T _ ++ wrT l
      rw [← hb]
      unfold wr1T
      simp only [hlt]
      rw [List.append_assoc, List.append_assoc, List.take_append_drop, ← e1]
    · show (if tgN t = 0 ∨ p.any (fun x => x.1 == t) = true then (18 : Int) else if 255 < ((lenP q).2.2.take (lenP q).2.1).length then 17 else wrF (p ++ [(t, (lenP q).2.2.take (lenP q).2.1)]) l) = 0
      rw [if_neg h1, if_neg (by omega), hw]
    · right
      rcases hz with rfl | hz
      · rw [hl]; simp; omega
      · exact hz
/-- what is parsed is written as it was -/
theorem tlv_back {b : List UInt8} (h : tlvE b = 0) : wrE (tlvL b) = 0 ∧ wrT (tlvL b) = b := by
  unfold tlvE at h
  unfold tlvL
  obtain ⟨l, hl, hb, hw, hz⟩ := par_back b.length [] b (parA b).2 (by show parA b = _; rw [← h])
  rw [List.nil_append] at hl
  rw [hl]
  refine ⟨?_, hb.symm⟩
  unfold wrE
  rw [if_neg (by rcases hz with rfl | hz; simp; rw [hl] at hz; omega), hw]

/-! ### cut -/
theorem par_cut1 (f : Nat) (p : List TagL) (a : TagL) (hp : p.length < 20) (ht : tgN a.1 ≠ 0) (hk : p.any (fun x => x.1 == a.1) = false) (hn : a.2.length ≤ 255) (k : Nat) (h0 : 0 < k) (hlt : k < (wr1T a).length) (hf : k ≤ f + 1) :
    (parF (f + 1) p ((wr1T a).take k)).1 = 3 := by
  have h2 := (tagB_parse a.1 ht []).2
  have hle := (tgN_le a.1).1
  -- the tag's bytes
  by_cases hkt : k < (tagB a.1).length
  · -- one of two
    have hk1 : k = 1 := by omega
    have ht2 : tgN a.1 = 2 := by omega
    subst hk1
    have e : (wr1T a).take 1 = [UInt8.ofNat (a.1.toNat / 256)] := by
      unfold wr1T tagB
      rw [if_neg (by omega), if_pos ht2]
      rfl
    rw [e, parF_cons, if_neg (by omega)]
    have hc : 255 < a.1 ∧ a.1 / 256 < 255 ∧ (a.1 / 256) % 32 = 31 ∧ a.1 % 256 < 128 := by
      unfold tgN at ht2
      split at ht2
      · cases ht2
      · split at ht2
        · assumption
        · cases ht2
    have e1 : (UInt8.ofNat (a.1.toNat / 256)).toNat = a.1.toNat / 256 := u8_nat (by omega)
    have e3 : tagP [UInt8.ofNat (a.1.toNat / 256)] = none := by
      rw [tagP_cons, if_pos (by rw [e1]; omega)]
    rw [e3]
  · have e : (wr1T a).take k = tagB a.1 ++ ((lenB a.2.length ++ a.2).take (k - (tagB a.1).length)) := by
      unfold wr1T
      rw [List.take_append, List.take_of_length_le (by omega)]
    have h1 := (tagB_parse a.1 ht ((lenB a.2.length ++ a.2).take (k - (tagB a.1).length))).1
    rw [← e] at h1
    have hne : ∃ b r, (wr1T a).take k = b :: r := by
      cases hb : (wr1T a).take k with
      | nil => have h := congrArg List.length hb; rw [List.length_take, List.length_nil] at h; omega
      | cons b r => exact ⟨b, r, rfl⟩
    obtain ⟨b, r, hb⟩ := hne
    rw [hb] at h1 ⊢
    rw [parF_cons, if_neg (by omega), h1]
    simp only
    rw [if_neg (by rw [hk]; simp [ht])]
    have hwl : (wr1T a).length = (tagB a.1).length + ((lenB a.2.length).length + a.2.length) := by unfold wr1T; simp
    by_cases hkl : k - (tagB a.1).length < (lenB a.2.length).length
    · -- within the length
      have e3 : (lenP ((lenB a.2.length ++ a.2).take (k - (tagB a.1).length))).1 = 3 := by
        rw [List.take_append_of_le_length (by omega)]
        unfold lenB at hkl ⊢
        split
        · rename_i hs
          rw [if_pos hs] at hkl
          simp only [List.length_singleton] at hkl
          rw [show k - (tagB a.1).length = 0 by omega]
          rfl
        · rename_i hs
          rw [if_neg hs] at hkl
          simp only [List.length_cons, List.length_nil] at hkl
          rcases (show k - (tagB a.1).length = 0 ∨ k - (tagB a.1).length = 1 by omega) with h | h
          · rw [h]; rfl
          · rw [h]; rfl
      rw [if_pos (by rw [e3]; decide)]
      exact e3
    · have e3 : (lenB a.2.length ++ a.2).take (k - (tagB a.1).length) = lenB a.2.length ++ a.2.take (k - (tagB a.1).length - (lenB a.2.length).length) := by
        rw [List.take_append, List.take_of_length_le (by omega)]
      have e4 := lenB_parse a.2.length hn (a.2.take (k - (tagB a.1).length - (lenB a.2.length).length))
      rw [e3, e4]
      simp only
      rw [if_neg (by simp), if_pos (by rw [List.length_take]; omega)]
theorem par_cut : ∀ (l p : List TagL) (f k : Nat), wrF p l = 0 → p.length + l.length ≤ 20 → k < (wrT l).length → k ≤ f →
    (parF f p ((wrT l).take k)).1 = 3 ∨ (parF f p ((wrT l).take k)).1 = 0 ∧ (parF f p ((wrT l).take k)).2.length < p.length + l.length
  | [], p, f, k, _, _, hk, _ => by simp [wrT] at hk
  | a :: l, p, f, k, h, hl, hk, hf => by
    obtain ⟨h1, h2, h3, h4⟩ := wrF_ok h
    simp only [List.length_cons] at hl ⊢
    rcases Nat.eq_zero_or_pos k with h0 | h0
    · subst h0
      right
      rw [List.take_zero, parF_nil]
      exact ⟨rfl, by simp only; omega⟩
    have hlen : (wrT (a :: l)).length = (wr1T a).length + (wrT l).length := by simp [wrT]
    cases f with
    | zero => omega
    | succ f =>
      by_cases hlt : k < (wr1T a).length
      · left
        have e : (wrT (a :: l)).take k = (wr1T a).take k := by show (wr1T a ++ wrT l).take k = _; rw [List.take_append_of_le_length (by omega)]
        rw [e]
        exact par_cut1 f p a (by omega) h1 h2 h3 k h0 hlt hf
      · have e : (wrT (a :: l)).take k = wr1T a ++ (wrT l).take (k - (wr1T a).length) := by
          show (wr1T a ++ wrT l).take k = _
          rw [List.take_append, List.take_of_length_le (by omega)]
        have hpos : 0 < (wr1T a).length := by
          have := (tagB_parse a.1 h1 []).2
          unfold wr1T
          simp
          omega
        rw [e, par_one f p a _ (by omega) h1 h2 h3]
        have ih := par_cut l (p ++ [a]) f (k - (wr1T a).length) h4 (by simp; omega) (by omega) (by omega)
        rw [List.length_append, List.length_singleton] at ih
        rcases ih with ih | ⟨ih1, ih2⟩
        · exact .inl ih
        · exact .inr ⟨ih1, by omega⟩
/-- cut within it is too short, or has fewer tags -/
theorem tlv_cut {l : List TagL} (h : wrE l = 0) {k : Nat} (hk : k < (wrT l).length) : tlvE ((wrT l).take k) = 3 ∨ tlvE ((wrT l).take k) = 0 ∧ (tlvL ((wrT l).take k)).length < l.length := by
  obtain ⟨h1, h2⟩ := wrE_ok h
  have := par_cut l [] ((wrT l).take k).length k h2 (by simpa using h1) hk (by rw [List.length_take]; omega)
  rw [List.length_nil, Nat.zero_add] at this
  exact this
end Go.Proofs.Ytbfodbejdaafaaa
