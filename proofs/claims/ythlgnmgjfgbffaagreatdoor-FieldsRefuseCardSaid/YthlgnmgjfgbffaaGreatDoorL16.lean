/- The texts TxtDec, joined. -/
import Derived.Test.YthlgnmgjfgbffaaGreatDoorL02
import Derived.Lib.ValidLaws
import Derived.Lib.TrimUEq
import Derived.Lib.RuneCount
/- The statements' own characters beside Go's decoder: plain functions on lists of bytes, no program. -/
namespace Go.Proofs.YthlgnmgjfgbffaaGreatDoor
set_option linter.unusedVariables false

/-- may the character that Go decodes stand in a text? -/
def mayT (r : Nat) : Bool := decide (r = 9 ∨ r = 10 ∨ r = 13 ∨ (32 ≤ r ∧ r ≠ 65534 ∧ r ≠ 65535))
/-- the size by what Go decodes -/
def sizeD (p : Nat × Nat) : Nat := if p.1 = 65533 ∧ p.2 = 1 then 0 else if mayT p.1 then p.2 else 0
theorem sizeD_bad : sizeD (65533, 1) = 0 := rfl
theorem contB_iff (b : UInt8) : contB b = decide (b.toNat / 64 = 2) := by
  have := b.toNat_lt
  unfold contB
  rw [decide_eq_decide]
  omega
theorem charB_may {v : Nat} (h : v < 55296 ∨ (57343 < v ∧ v ≤ 1114111)) : charB v = mayT v := by
  unfold charB mayT
  rw [decide_eq_decide]
  omega
theorem charB_none {v : Nat} (h : ¬ (v < 55296 ∨ (57343 < v ∧ v ≤ 1114111))) : charB v = false := by
  unfold charB
  rw [decide_eq_false_iff_not]
  omega
theorem sizeD_wide {v n : Nat} (hn : 2 ≤ n) (h : v < 55296 ∨ (57343 < v ∧ v ≤ 1114111)) : sizeD (v, n) = if charB v then n else 0 := by
  have h1 : ¬ ((v, n).1 = 65533 ∧ (v, n).2 = 1) := fun x => by have : n = 1 := x.2; omega
  unfold sizeD
  rw [if_neg h1, charB_may h]
theorem sizeD_one {v : Nat} (h : v < 128) : sizeD (v, 1) = if charB v then 1 else 0 := by
  have h1 : ¬ ((v, 1).1 = 65533 ∧ (v, 1).2 = 1) := fun x => by have : v = 65533 := x.1; omega
  unfold sizeD
  rw [if_neg h1, charB_may (by omega)]
/-- a character of n bytes, from its number -/
theorem fin_dec {v n least : Nat} (hn : 2 ≤ n) : finB (some v) n least = sizeD (if v ≥ least ∧ (v < 55296 ∨ (57344 ≤ v ∧ v ≤ 1114111)) then (v, n) else (65533, 1)) := by
  rw [finB_some]
  by_cases h2 : v ≥ least ∧ (v < 55296 ∨ (57344 ≤ v ∧ v ≤ 1114111))
  · have h1 : ¬ v < least := by omega
    rw [if_pos h2, if_neg h1, sizeD_wide hn (by omega)]
  · rw [if_neg h2, sizeD_bad]
    by_cases h1 : v < least
    · rw [if_pos h1]
    · rw [if_neg h1, charB_none (by omega)]
      rfl
theorem lead_none {x : Nat} (h : (128 ≤ x ∧ x < 192) ∨ 248 ≤ x) : lead x = none := by
  unfold lead
  rw [if_neg (by omega), if_neg (by omega), if_neg (by omega), if_neg (by omega)]
theorem lead_1 {x : Nat} (h : x < 128) : lead x = some (1, 0, x) := by
  unfold lead
  rw [if_pos h]
theorem lead_2 {x : Nat} (h : 192 ≤ x ∧ x < 224) : lead x = some (2, 128, x % 32) := by
  unfold lead
  rw [if_neg (by omega), if_pos h]
theorem lead_3 {x : Nat} (h : 224 ≤ x ∧ x < 240) : lead x = some (3, 2048, x % 16) := by
  unfold lead
  rw [if_neg (by omega), if_neg (by omega), if_pos h]
theorem lead_4 {x : Nat} (h : 240 ≤ x ∧ x < 248) : lead x = some (4, 65536, x % 8) := by
  unfold lead
  rw [if_neg (by omega), if_neg (by omega), if_neg (by omega), if_pos h]
theorem tl_0 (r : List UInt8) (c : Nat) : tlB 0 r c = some c := by cases r <;> rfl
theorem tl_nil (k c : Nat) : tlB (k + 1) [] c = none := rfl
theorem tl_cons (k c : Nat) (b : UInt8) (r : List UInt8) : tlB (k + 1) (b :: r) c = if b.toNat / 64 = 2 then tlB k r (c * 64 + b.toNat % 64) else none := by
  show (if contB b then _ else _) = _
  rw [contB_iff]
  simp only [decide_eq_true_eq]

/-- The size of the first character is what Go's decoder tells. -/
theorem size_dec (b : UInt8) (r : List UInt8) : sizeB (b :: r) = sizeD (Lib.decodeL (b :: r)) := by
  rw [Lib.decodeL_N, sizeB_cons]
  have hb := b.toNat_lt
  simp only [List.getD_cons_zero, List.getD_cons_succ, List.length_cons]
  unfold Lib.decodeN
  by_cases h1 : b.toNat < 128
  · rw [if_pos h1, lead_1 h1, sizeC_some, tl_0, finB_some, if_neg (Nat.not_lt_zero _), sizeD_one h1]
  rw [if_neg h1]
  by_cases h2 : (128 ≤ b.toNat ∧ b.toNat < 192) ∨ 248 ≤ b.toNat
  · rw [lead_none h2, sizeC_none, if_neg (by omega), if_neg (by omega), if_neg (by omega), sizeD_bad]
  by_cases h3 : b.toNat < 224
  · rw [lead_2 (by omega), sizeC_some]
    cases r with
    | nil =>
      rw [if_neg (by simp), if_neg (by omega), if_neg (by omega), sizeD_bad]
      rfl
    | cons c r =>
      have e : (2 : Nat) - 1 = 0 + 1 := rfl
      rw [e, tl_cons, tl_0]
      simp only [List.getD_cons_zero, List.length_cons]
      by_cases hc : c.toNat / 64 = 2
      · rw [if_pos hc, if_pos ⟨by omega, by omega, hc⟩, fin_dec (by omega)]
        have := c.toNat_lt
        congr 1
        by_cases hv : b.toNat % 32 * 64 + c.toNat % 64 ≥ 128
        · rw [if_pos ⟨hv, by omega⟩, if_pos hv]
        · rw [if_neg (fun x => hv x.1), if_neg hv]
      · rw [if_neg hc, if_neg (fun x => hc x.2.2), if_neg (by omega), if_neg (by omega), sizeD_bad, finB_none]
  by_cases h4 : b.toNat < 240
  · rw [lead_3 (by omega), sizeC_some, if_neg (by omega)]
    have e : (3 : Nat) - 1 = 1 + 1 := rfl
    rw [e]
    match r with
    | [] =>
      rw [if_neg (by simp), if_neg (by omega), sizeD_bad]
      rfl
    | [c] =>
      rw [if_neg (by simp), if_neg (by omega), sizeD_bad, tl_cons, tl_nil]
      split <;> rfl
    | c :: d :: r =>
      rw [tl_cons, tl_cons, tl_0]
      simp only [List.getD_cons_zero, List.getD_cons_succ, List.length_cons]
      by_cases hc : c.toNat / 64 = 2
      · by_cases hd : d.toNat / 64 = 2
        · rw [if_pos hc, if_pos hd, if_pos ⟨by omega, ⟨by omega, hc⟩, by omega, hd⟩, fin_dec (by omega)]
          have e1 : (b.toNat % 16 * 64 + c.toNat % 64) * 64 + d.toNat % 64 = b.toNat % 16 * 4096 + c.toNat % 64 * 64 + d.toNat % 64 := by omega
          rw [e1]
        · rw [if_pos hc, if_neg hd, if_neg (fun x => hd x.2.2.2), if_neg (by omega), sizeD_bad, finB_none]
      · rw [if_neg hc, if_neg (fun x => hc x.2.1.2), if_neg (by omega), sizeD_bad, finB_none]
  · rw [lead_4 (by omega), sizeC_some, if_neg (by omega), if_neg (by omega)]
    have e : (4 : Nat) - 1 = 2 + 1 := rfl
    rw [e]
    match r with
    | [] =>
      rw [if_neg (by simp), sizeD_bad]
      rfl
    | [c] =>
      rw [if_neg (by simp), sizeD_bad, tl_cons, tl_nil]
      split <;> rfl
    | [c, d] =>
      rw [if_neg (by simp), sizeD_bad, tl_cons, tl_cons, tl_nil]
      split
      · split <;> rfl
      · rfl
    | c :: d :: f :: r =>
      rw [tl_cons, tl_cons, tl_cons, tl_0]
      simp only [List.getD_cons_zero, List.getD_cons_succ, List.length_cons]
      by_cases hc : c.toNat / 64 = 2
      · by_cases hd : d.toNat / 64 = 2
        · by_cases hf : f.toNat / 64 = 2
          · rw [if_pos hc, if_pos hd, if_pos hf, if_pos ⟨by omega, ⟨by omega, hc⟩, ⟨by omega, hd⟩, by omega, hf⟩, fin_dec (by omega)]
            have e1 : ((b.toNat % 8 * 64 + c.toNat % 64) * 64 + d.toNat % 64) * 64 + f.toNat % 64 = b.toNat % 8 * 262144 + c.toNat % 64 * 4096 + d.toNat % 64 * 64 + f.toNat % 64 := by omega
            rw [e1]
          · rw [if_pos hc, if_pos hd, if_neg hf, if_neg (fun x => hf x.2.2.2.2), sizeD_bad, finB_none]
        · rw [if_pos hc, if_neg hd, if_neg (fun x => hd x.2.2.1.2), sizeD_bad, finB_none]
      · rw [if_neg hc, if_neg (fun x => hc x.2.1.2), sizeD_bad, finB_none]

/-! ### over a string, place by place -/
theorem drop_cons {α : Type} {l : List α} {i : Nat} (h : i < l.length) : ∃ b r, l.drop i = b :: r := ⟨_, _, List.drop_eq_getElem_cons h⟩
theorem size_at (s : ByteArray) (i : Nat) (h : i < s.size) : sizeB (s.data.toList.drop i) = sizeD (Utf8.decode s i) := by
  obtain ⟨b, r, e⟩ := drop_cons (l := s.data.toList) (i := i) (by simpa using h)
  rw [← Lib.decodeL_drop, e, size_dec]
/-- what is a text, Go calls valid -/
theorem utf8_valid : ∀ (n : Nat) (l : List UInt8), l.length ≤ n → utf8B l = true → Lib.validD l = true := by
  intro n
  induction n with
  | zero =>
    intro l h _
    have : l = [] := List.eq_nil_of_length_eq_zero (by omega)
    subst this
    rfl
  | succ n ih =>
    intro l h hu
    cases l with
    | nil => rfl
    | cons b r =>
      unfold utf8B at hu
      rw [cnt_step (by simp)] at hu
      split at hu
      · cases hu
      · rename_i hs
        rw [size_dec] at hs hu
        rw [Lib.validD_step _ (by simp)]
        have hw := Lib.decodeL_width (b :: r)
        unfold sizeD at hs hu
        split at hs
        · exact absurd rfl hs
        · rename_i hk
          rw [if_neg hk] at hu ⊢
          split at hs
          · rename_i hm
            rw [if_pos hm] at hu
            refine ih _ (by rw [List.length_drop]; simp at h ⊢; omega) ?_
            unfold utf8B
            simpa using hu
          · exact absurd rfl hs
theorem utf8_not_valid {l : List UInt8} (h : Lib.validD l = false) : utf8B l = false := by
  cases hu : utf8B l with
  | false => rfl
  | true => rw [utf8_valid _ l (Nat.le_refl _) hu] at h; cases h
/-- one character further -/
theorem valid_next (s : ByteArray) (i : Nat) (h : i < s.size) (hv : Lib.validD (s.data.toList.drop i) = true) :
    ¬ ((Utf8.decode s i).1 = 65533 ∧ (Utf8.decode s i).2 = 1) ∧ Lib.validD (s.data.toList.drop (i + (Utf8.decode s i).2)) = true := by
  have hne : s.data.toList.drop i ≠ [] := by
    obtain ⟨b, r, e⟩ := drop_cons (l := s.data.toList) (i := i) (by simpa using h)
    rw [e]; simp
  rw [Lib.validD_step _ hne, Lib.decodeL_drop] at hv
  split at hv
  · cases hv
  · rename_i hb
    exact ⟨hb, by rwa [List.drop_drop] at hv⟩
theorem utf8_next (s : ByteArray) (i : Nat) (h : i < s.size) (hb : ¬ ((Utf8.decode s i).1 = 65533 ∧ (Utf8.decode s i).2 = 1)) :
    utf8B (s.data.toList.drop i) = if mayT (Utf8.decode s i).1 then utf8B (s.data.toList.drop (i + (Utf8.decode s i).2)) else false := by
  have hne : s.data.toList.drop i ≠ [] := by
    obtain ⟨b, r, e⟩ := drop_cons (l := s.data.toList) (i := i) (by simpa using h)
    rw [e]; simp
  have hw := Lib.width_pos s i
  unfold utf8B
  rw [cnt_step hne, size_at s i h]
  unfold sizeD
  rw [if_neg hb]
  cases hm : mayT (Utf8.decode s i).1 with
  | false => simp
  | true =>
    simp only [if_true]
    rw [if_neg (by omega), List.drop_drop]
    simp
theorem utf8_end (s : ByteArray) (i : Nat) (h : ¬ i < s.size) : utf8B (s.data.toList.drop i) = true := by
  rw [List.drop_eq_nil_of_le (by simp; omega)]
  rfl
/-- as many characters as Go counts -/
theorem count_runes (s : ByteArray) : ∀ (f i n : Nat), s.size ≤ i + f → cnt (s.data.toList.drop i) = some n → Lib.runeCountFrom s f i = n := by
  intro f
  induction f with
  | zero =>
    intro i n h hc
    rw [List.drop_eq_nil_of_le (by simp; omega), cnt_nil] at hc
    injection hc
  | succ f ih =>
    intro i n h hc
    by_cases hi : i < s.size
    · have hne : s.data.toList.drop i ≠ [] := by
        obtain ⟨b, r, e⟩ := drop_cons (l := s.data.toList) (i := i) (by simpa using hi)
        rw [e]; simp
      have hw := Lib.width_pos s i
      rw [cnt_step hne, size_at s i hi] at hc
      unfold Lib.runeCountFrom
      rw [if_pos hi]
      unfold sizeD at hc
      by_cases hb : (Utf8.decode s i).1 = 65533 ∧ (Utf8.decode s i).2 = 1
      · rw [if_pos hb] at hc
        cases hc
      rw [if_neg hb] at hc
      cases hm : mayT (Utf8.decode s i).1 with
      | false =>
        rw [hm] at hc
        cases hc
      | true =>
        rw [hm] at hc
        simp only [if_true] at hc
        rw [if_neg (by omega), List.drop_drop] at hc
        obtain ⟨m, hm1, rfl⟩ := Option.map_eq_some_iff.1 hc
        rw [ih _ m (by omega) hm1]
        omega
    · rw [List.drop_eq_nil_of_le (by simp; omega), cnt_nil] at hc
      injection hc with hc
      rw [Lib.runeCountFrom_end s _ _ hi]
      exact hc
theorem runes_count {s : ByteArray} (h : utf8B s.data.toList = true) : Lib.runeCount s = runesN s.data.toList := by
  obtain ⟨n, hn⟩ := Option.isSome_iff_exists.1 (show (cnt s.data.toList).isSome = true from h)
  unfold Lib.runeCount runesN
  rw [count_runes s s.size 0 n (by omega) (by simpa using hn), hn]
  rfl
end Go.Proofs.YthlgnmgjfgbffaaGreatDoor
