/- The texts TxtMath, TxtMath2, TxtDec, joined. -/
import Derived.Test.YthkjmbkfcnehoaaGreatDoorBase
import Derived.Lib.ValidLaws
import Derived.Lib.TrimUEq
import Derived.Lib.RuneCount
/- Texts as rows of characters of one to four bytes: plain functions on lists of bytes, no program. -/
namespace Go.Proofs.YthkjmbkfcnehoaaGreatDoor
set_option linter.unusedVariables false

/-- may the character stand in a text? -/
def charB (c : Nat) : Bool := decide (c = 9 ∨ c = 10 ∨ c = 13 ∨ (32 ≤ c ∧ c < 55296) ∨ (57343 < c ∧ c < 65534) ∨ (65535 < c ∧ c ≤ 1114111))
/-- does the byte carry a character on? -/
def contB (b : UInt8) : Bool := decide (128 ≤ b.toNat ∧ b.toNat < 192)
/-- what a first byte says: how many bytes, the least number, its own bits -/
def lead (x : Nat) : Option (Nat × Nat × Nat) :=
  if x < 128 then some (1, 0, x) else if 192 ≤ x ∧ x < 224 then some (2, 128, x % 32) else if 224 ≤ x ∧ x < 240 then some (3, 2048, x % 16) else if 240 ≤ x ∧ x < 248 then some (4, 65536, x % 8) else none
/-- k bytes that carry on -/
def tlB : Nat → List UInt8 → Nat → Option Nat
  | 0, _, c => some c
  | k + 1, b :: r, c => if contB b then tlB k r (c * 64 + b.toNat % 64) else none
  | _ + 1, [], _ => none
/-- n, if the number may be; else 0 -/
def finB (v : Option Nat) (n least : Nat) : Nat := match v with
  | none => 0
  | some v => if v < least then 0 else if charB v then n else 0
def sizeC (p : Option (Nat × Nat × Nat)) (r : List UInt8) : Nat := match p with
  | none => 0
  | some (n, least, c) => finB (tlB (n - 1) r c) n least
/-- how many bytes the first character has; 0: none that may be -/
def sizeB : List UInt8 → Nat
  | [] => 0
  | b :: r => sizeC (lead b.toNat) r
theorem sizeB_cons (b : UInt8) (r : List UInt8) : sizeB (b :: r) = sizeC (lead b.toNat) r := rfl
theorem sizeC_none (r : List UInt8) : sizeC none r = 0 := rfl
theorem sizeC_some (n least c : Nat) (r : List UInt8) : sizeC (some (n, least, c)) r = finB (tlB (n - 1) r c) n least := rfl
theorem finB_none (n least : Nat) : finB none n least = 0 := rfl
theorem finB_some (v n least : Nat) : finB (some v) n least = if v < least then 0 else if charB v then n else 0 := rfl
/-- how many characters; none: no text -/
def cntF : Nat → List UInt8 → Option Nat
  | _, [] => some 0
  | 0, _ :: _ => none
  | f + 1, b :: r => if sizeB (b :: r) = 0 then none else (cntF f ((b :: r).drop (sizeB (b :: r)))).map (· + 1)
def cnt (l : List UInt8) : Option Nat := cntF l.length l

theorem lead_some {x n least c : Nat} (h : lead x = some (n, least, c)) : 1 ≤ n ∧ n ≤ 4 ∧ ((n = 1 ∧ x < 128) ∨ (2 ≤ n ∧ 192 ≤ x)) := by
  unfold lead at h
  split at h
  · simp at h; omega
  · split at h
    · simp at h; omega
    · split at h
      · simp at h; omega
      · split at h
        · simp at h; omega
        · cases h
theorem tlB_len : ∀ (k : Nat) (r : List UInt8) (c v : Nat), tlB k r c = some v → k ≤ r.length
  | 0, _, _, _, _ => Nat.zero_le _
  | k + 1, [], _, _, h => by simp [tlB] at h
  | k + 1, b :: r, c, v, h => by
    unfold tlB at h
    split at h
    · have := tlB_len k r _ v h
      simp
      omega
    · cases h
theorem tlB_append : ∀ (k : Nat) (r m : List UInt8) (c : Nat), k ≤ r.length → tlB k (r ++ m) c = tlB k r c
  | 0, _, _, _, _ => by simp [tlB]
  | k + 1, [], _, _, h => by simp at h
  | k + 1, b :: r, m, c, h => by
    simp only [List.cons_append, tlB]
    rw [tlB_append k r m _ (by simpa using h)]
theorem sizeB_pos {l : List UInt8} (h : sizeB l ≠ 0) : sizeB l ≤ l.length ∧ sizeB l ≤ 4 ∧ l ≠ [] := by
  cases l with
  | nil => simp [sizeB] at h
  | cons b r =>
    rw [sizeB_cons] at h ⊢
    cases hl : lead b.toNat with
    | none => rw [hl] at h; simp [sizeC_none] at h
    | some p =>
      obtain ⟨n, least, c⟩ := p
      rw [hl, sizeC_some] at h
      rw [sizeC_some]
      obtain ⟨h1, h2, _⟩ := lead_some hl
      cases ht : tlB (n - 1) r c with
      | none => rw [ht] at h; simp [finB_none] at h
      | some v =>
        rw [finB_some]
        have := tlB_len _ _ _ _ ht
        split
        · simp
        · split
          · simp; omega
          · simp
theorem sizeB_append {l : List UInt8} (h : sizeB l ≠ 0) (m : List UInt8) : sizeB (l ++ m) = sizeB l := by
  cases l with
  | nil => simp [sizeB] at h
  | cons b r =>
    rw [List.cons_append]
    rw [sizeB_cons] at h
    rw [sizeB_cons, sizeB_cons]
    cases hl : lead b.toNat with
    | none => rw [hl] at h; simp [sizeC_none] at h
    | some p =>
      obtain ⟨n, least, c⟩ := p
      rw [hl, sizeC_some] at h
      rw [sizeC_some, sizeC_some]
      cases ht : tlB (n - 1) r c with
      | none => rw [ht] at h; simp [finB_none] at h
      | some v => rw [tlB_append _ _ _ _ (tlB_len _ _ _ _ ht), ht]
theorem cntF_enough : ∀ (f : Nat) (l : List UInt8), l.length ≤ f → cntF f l = cnt l := by
  have key : ∀ (f g : Nat) (l : List UInt8), l.length ≤ f → l.length ≤ g → cntF f l = cntF g l := by
    intro f
    induction f with
    | zero =>
      intro g l h1 h2
      have : l = [] := List.eq_nil_of_length_eq_zero (by omega)
      subst this
      cases g <;> rfl
    | succ f ih =>
      intro g l h1 h2
      cases l with
      | nil => cases g <;> rfl
      | cons b r =>
        cases g with
        | zero => simp at h2
        | succ g =>
          simp only [cntF]
          split
          · rfl
          · rename_i hs
            have := sizeB_pos hs
            rw [ih g _ (by rw [List.length_drop]; simp at h1 ⊢; omega) (by rw [List.length_drop]; simp at h2 ⊢; omega)]
  intro f l h
  exact key f l.length l h (Nat.le_refl _)
theorem cnt_nil : cnt [] = some 0 := rfl
theorem cnt_step {l : List UInt8} (h : l ≠ []) : cnt l = if sizeB l = 0 then none else (cnt (l.drop (sizeB l))).map (· + 1) := by
  cases l with
  | nil => exact absurd rfl h
  | cons b r =>
    unfold cnt
    rw [List.length_cons]
    simp only [cntF]
    split
    · rfl
    · rename_i hs
      have := sizeB_pos hs
      rw [cntF_enough _ _ (by rw [List.length_drop, List.length_cons]; omega)]
      rfl
/-- two texts, one behind the other -/
theorem cnt_append : ∀ (n : Nat) (a : List UInt8), a.length ≤ n → ∀ (x : Nat) (b : List UInt8), cnt a = some x → cnt (a ++ b) = (cnt b).map (x + ·) := by
  intro n
  induction n with
  | zero =>
    intro a h x b hx
    have : a = [] := List.eq_nil_of_length_eq_zero (by omega)
    subst this
    rw [cnt_nil] at hx
    injection hx with hx
    subst hx
    cases h : cnt b <;> simp [h]
  | succ n ih =>
    intro a h x b hx
    cases a with
    | nil =>
      rw [cnt_nil] at hx
      injection hx with hx
      subst hx
      cases h : cnt b <;> simp [h]
    | cons c r =>
      rw [cnt_step (by simp)] at hx
      split at hx
      · cases hx
      · rename_i hs
        obtain ⟨h1, _, _⟩ := sizeB_pos hs
        obtain ⟨y, hy, rfl⟩ := Option.map_eq_some_iff.1 hx
        have hne : (c :: r) ++ b ≠ [] := by simp
        rw [cnt_step hne, sizeB_append hs, if_neg hs, List.drop_append_of_le_length h1, ih _ (by rw [List.length_drop]; simp at h ⊢; omega) y b hy]
        cases cnt b <;> simp
        omega
theorem cnt_app {a b : List UInt8} {x : Nat} (h : cnt a = some x) : cnt (a ++ b) = (cnt b).map (x + ·) := cnt_append _ a (Nat.le_refl _) x b h
theorem cnt_le : ∀ (n : Nat) (a : List UInt8), a.length ≤ n → ∀ x, cnt a = some x → x ≤ a.length := by
  intro n
  induction n with
  | zero =>
    intro a h x hx
    have : a = [] := List.eq_nil_of_length_eq_zero (by omega)
    subst this
    rw [cnt_nil] at hx
    injection hx with hx
    omega
  | succ n ih =>
    intro a h x hx
    cases a with
    | nil =>
      rw [cnt_nil] at hx
      injection hx with hx
      omega
    | cons c r =>
      rw [cnt_step (by simp)] at hx
      split at hx
      · cases hx
      · rename_i hs
        obtain ⟨h1, _, _⟩ := sizeB_pos hs
        obtain ⟨y, hy, rfl⟩ := Option.map_eq_some_iff.1 hx
        have := ih _ (by rw [List.length_drop]; simp at h ⊢; omega) y hy
        rw [List.length_drop] at this
        simp at h1 this ⊢
        omega
/-- a byte that begins no character that goes on with x -/
theorem size_bad (d : UInt8) (r : List UInt8) (h : 128 ≤ d.toNat) : sizeB (d :: 120 :: r) = 0 := by
  rw [sizeB_cons]
  cases hl : lead d.toNat with
  | none => rfl
  | some p =>
    obtain ⟨n, least, c⟩ := p
    obtain ⟨h1, h2, h3⟩ := lead_some hl
    obtain ⟨k, hk⟩ : ∃ k, n - 1 = k + 1 := ⟨n - 2, by omega⟩
    rw [sizeC_some, hk]
    rfl
theorem cnt_bad {a : List UInt8} {x : Nat} (ha : cnt a = some x) (d : UInt8) (b : List UInt8) (h : 128 ≤ d.toNat) : cnt (a ++ (d :: 120 :: b)) = none := by
  rw [cnt_app ha, cnt_step (by simp), if_pos (size_bad d b h)]
  rfl
/-- one byte alone -/
theorem size_one (d : UInt8) : sizeB [d] = if d.toNat < 128 ∧ charB d.toNat = true then 1 else 0 := by
  rw [sizeB_cons]
  by_cases h : d.toNat < 128
  · have hl : lead d.toNat = some (1, 0, d.toNat) := by unfold lead; rw [if_pos h]
    rw [hl, sizeC_some]
    show finB (some d.toNat) 1 0 = _
    rw [finB_some, if_neg (by omega)]
    cases charB d.toNat <;> simp [h]
  · rw [if_neg (fun x => h x.1)]
    cases hl : lead d.toNat with
    | none => rfl
    | some p =>
      obtain ⟨n, least, c⟩ := p
      obtain ⟨h1, h2, h3⟩ := lead_some hl
      obtain ⟨k, hk⟩ : ∃ k, n - 1 = k + 1 := ⟨n - 2, by omega⟩
      rw [sizeC_some, hk]
      rfl
theorem cnt_one (d : UInt8) : cnt [d] = if d.toNat < 128 ∧ charB d.toNat = true then some 1 else none := by
  rw [cnt_step (by simp), size_one]
  split
  · rfl
  · rfl

/-! ### what is asked of texts -/
def utf8B (l : List UInt8) : Bool := (cnt l).isSome
def runesN (l : List UInt8) : Nat := (cnt l).getD 0
def lowest (l : List UInt8) : Bool := l.all fun b => decide (32 ≤ b.toNat)
def plainB (l : List UInt8) (low top : Int) : Bool :=
  lowest l && (utf8B l && (decide (low ≤ (runesN l : Int)) && (decide ((runesN l : Int) ≤ top) && (decide (l = []) || (decide (l.getD 0 0 ≠ 32) && decide (l.getD (l.length - 1) 0 ≠ 32))))))
def ansC (b : UInt8) : Bool := decide (32 ≤ b.toNat ∧ b.toNat ≤ 126)
def ansB (l : List UInt8) (top : Int) : Bool := (l.all ansC) && (decide (1 ≤ (l.length : Int)) && decide ((l.length : Int) ≤ top))
def alnC (b : UInt8) : Bool := decide ((48 ≤ b.toNat ∧ b.toNat ≤ 57) ∨ (65 ≤ b.toNat ∧ b.toNat ≤ 90) ∨ (97 ≤ b.toNat ∧ b.toNat ≤ 122))
def alnB (l : List UInt8) (low top : Int) : Bool := (l.all alnC) && (decide (low ≤ (l.length : Int)) && decide ((l.length : Int) ≤ top))
end Go.Proofs.YthkjmbkfcnehoaaGreatDoor
/- Characters as bytes, and plain texts: plain functions on lists of bytes, no program. -/
namespace Go.Proofs.YthkjmbkfcnehoaaGreatDoor
set_option linter.unusedVariables false

/-- a character as bytes, as the model writes it -/
def encL (c : Int) : List UInt8 := (Utf8.encode c).data.toList
theorem u8_nat (n : Nat) (h : n < 256) : (UInt8.ofNat n).toNat = n := by rw [UInt8.toNat_ofNat']; omega
theorem contB_of {n : Nat} (h1 : 128 ≤ n) (h2 : n < 192) : contB (UInt8.ofNat n) = true := by unfold contB; rw [u8_nat n (by omega)]; simp [h1, h2]
theorem tlB_go {k n : Nat} {r : List UInt8} {c : Nat} (h1 : 128 ≤ n) (h2 : n < 192) : tlB (k + 1) (UInt8.ofNat n :: r) c = tlB k r (c * 64 + n % 64) := by
  rw [tlB, if_pos (contB_of h1 h2), u8_nat n (by omega)]
theorem tlB_short {k : Nat} {r : List UInt8} {c : Nat} (h : r.length < k) : tlB k r c = none := by
  cases ht : tlB k r c with
  | none => rfl
  | some v => have := tlB_len _ _ _ _ ht; omega
theorem size_cut {b : UInt8} {r : List UInt8} {n least c : Nat} (h : lead b.toNat = some (n, least, c)) (hr : r.length + 1 < n) : sizeB (b :: r) = 0 := by
  rw [sizeB_cons, h, sizeC_some, tlB_short (by omega), finB_none]

theorem enc_valid {c : Nat} (h : c ≤ 1114111) (hs : ¬ (55296 ≤ c ∧ c ≤ 57343)) : Utf8.valid (c : Int) = true := by
  unfold Utf8.valid
  simp
  omega
set_option maxRecDepth 100000 in
/-- a character that is one, as bytes: of so many, if it may be; cut none -/
theorem enc_size {c : Nat} (h : c ≤ 1114111) (hs : ¬ (55296 ≤ c ∧ c ≤ 57343)) :
    sizeB (encL c) = (if charB c then (encL c).length else 0) ∧ 1 ≤ (encL c).length ∧ (encL c).length ≤ 4 ∧ ∀ k, 0 < k → k < (encL c).length → sizeB ((encL c).take k) = 0 := by
  have hv := enc_valid h hs
  unfold encL Utf8.encode
  simp only [hv, if_true, Int.toNat_natCast]
  by_cases h1 : c < 128
  · rw [if_pos h1]
    simp only [List.length_cons, List.length_nil]
    have hl : lead (UInt8.ofNat c).toNat = some (1, 0, c) := by rw [u8_nat c (by omega)]; unfold lead; rw [if_pos h1]
    refine ⟨?_, by omega, by omega, fun k h0 hk => by omega⟩
    rw [sizeB_cons, hl, sizeC_some]
    show finB (some c) 1 0 = _
    rw [finB_some, if_neg (by omega)]
  · rw [if_neg h1]
    by_cases h2 : c < 2048
    · rw [if_pos h2]
      simp only [List.length_cons, List.length_nil]
      have hl : lead (UInt8.ofNat (192 + c / 64)).toNat = some (2, 128, c / 64) := by
        rw [u8_nat _ (by omega)]
        unfold lead
        rw [if_neg (by omega), if_pos (by omega), show (192 + c / 64) % 32 = c / 64 from by omega]
      refine ⟨?_, by omega, by omega, fun k h0 hk => ?_⟩
      · rw [sizeB_cons, hl, sizeC_some, tlB_go (by omega) (by omega)]
        show finB (some _) 2 128 = _
        rw [finB_some, show c / 64 * 64 + (128 + c % 64) % 64 = c from by omega, if_neg (by omega)]
      · obtain rfl : k = 1 := by omega
        exact size_cut hl (by simp)
    · rw [if_neg h2]
      by_cases h3 : c < 65536
      · rw [if_pos h3]
        simp only [List.length_cons, List.length_nil]
        have hl : lead (UInt8.ofNat (224 + c / 4096)).toNat = some (3, 2048, c / 4096) := by
          rw [u8_nat _ (by omega)]
          unfold lead
          rw [if_neg (by omega), if_neg (by omega), if_pos (by omega), show (224 + c / 4096) % 16 = c / 4096 from by omega]
        refine ⟨?_, by omega, by omega, fun k h0 hk => ?_⟩
        · rw [sizeB_cons, hl, sizeC_some, tlB_go (by omega) (by omega), tlB_go (by omega) (by omega)]
          show finB (some _) 3 2048 = _
          rw [finB_some, show (c / 4096 * 64 + (128 + c / 64 % 64) % 64) * 64 + (128 + c % 64) % 64 = c from by omega, if_neg (by omega)]
        · obtain rfl | rfl : k = 1 ∨ k = 2 := by omega
          all_goals exact size_cut hl (by simp)
      · rw [if_neg h3]
        simp only [List.length_cons, List.length_nil]
        have hl : lead (UInt8.ofNat (240 + c / 262144)).toNat = some (4, 65536, c / 262144) := by
          rw [u8_nat _ (by omega)]
          unfold lead
          rw [if_neg (by omega), if_neg (by omega), if_neg (by omega), if_pos (by omega), show (240 + c / 262144) % 8 = c / 262144 from by omega]
        refine ⟨?_, by omega, by omega, fun k h0 hk => ?_⟩
        · rw [sizeB_cons, hl, sizeC_some, tlB_go (by omega) (by omega), tlB_go (by omega) (by omega), tlB_go (by omega) (by omega)]
          show finB (some _) 4 65536 = _
          rw [finB_some, show ((c / 262144 * 64 + (128 + c / 4096 % 64) % 64) * 64 + (128 + c / 64 % 64) % 64) * 64 + (128 + c % 64) % 64 = c from by omega, if_neg (by omega)]
        · obtain rfl | rfl | rfl : k = 1 ∨ k = 2 ∨ k = 3 := by omega
          all_goals exact size_cut hl (by simp)
set_option maxRecDepth 100000 in
/-- one that is none is written as another one, which may be -/
theorem enc_bad {c : Nat} (h : 1114111 < c ∨ (55296 ≤ c ∧ c ≤ 57343)) : encL c = [239, 191, 189] := by
  have hv : Utf8.valid (c : Int) = false := by
    rw [Bool.eq_false_iff]
    unfold Utf8.valid
    simp
    omega
  unfold encL Utf8.encode
  simp only [hv, Bool.false_eq_true, if_false]
  rfl
theorem utf8_bad : utf8B [239, 191, 189] = true := by decide
set_option maxRecDepth 100000 in
/-- one character alone -/
theorem cnt_enc {c : Nat} (h : c ≤ 1114111) (hs : ¬ (55296 ≤ c ∧ c ≤ 57343)) : cnt (encL c) = if charB c then some 1 else none := by
  obtain ⟨h1, h2, h3, h4⟩ := enc_size h hs
  have hne : encL c ≠ [] := by intro e; rw [e] at h2; simp at h2
  rw [cnt_step hne, h1]
  cases charB c with
  | false => rfl
  | true =>
    rw [if_pos rfl, if_neg (by omega), List.drop_length]
    rfl
theorem cnt_enc_cut {c : Nat} (h : c ≤ 1114111) (hs : ¬ (55296 ≤ c ∧ c ≤ 57343)) {k : Nat} (h0 : 0 < k) (hk : k < (encL c).length) : cnt ((encL c).take k) = none := by
  obtain ⟨h1, h2, h3, h4⟩ := enc_size h hs
  have hne : (encL c).take k ≠ [] := by
    intro e
    have := congrArg List.length e
    rw [List.length_take, List.length_nil] at this
    omega
  rw [cnt_step hne, if_pos (h4 k h0 hk)]

/-! ### plain texts -/
theorem plain_first (s : List UInt8) (low top : Int) : plainB (32 :: s) low top = false := by
  unfold plainB
  simp [List.getD]
theorem plain_last (s : List UInt8) (low top : Int) : plainB (s ++ [32]) low top = false := by
  unfold plainB
  simp [List.getD]
theorem plain_below (s r : List UInt8) (low top : Int) : plainB (s ++ (10 :: r)) low top = false := by
  unfold plainB lowest
  simp
theorem plain_low {s : List UInt8} (h : plainB s 0 300 = true) (n : Nat) : plainB s 0 n = decide (runesN s ≤ n) ∧ plainB s n 300 = decide (n ≤ runesN s) := by
  unfold plainB at h ⊢
  simp only [Bool.and_eq_true] at h
  obtain ⟨h1, h2, h3, h4, h5⟩ := h
  rw [h1, h2, h3, h4, h5]
  constructor
  · simp only [Bool.true_and, Bool.and_true, decide_eq_decide]
    omega
  · simp only [Bool.true_and, Bool.and_true, decide_eq_decide]
    omega
theorem runes_app {a b : List UInt8} (ha : utf8B a = true) (hb : utf8B b = true) : utf8B (a ++ b) = true ∧ runesN (a ++ b) = runesN a + runesN b := by
  unfold utf8B at *
  unfold runesN
  obtain ⟨x, hx⟩ := Option.isSome_iff_exists.1 ha
  obtain ⟨y, hy⟩ := Option.isSome_iff_exists.1 hb
  rw [cnt_app hx, hx, hy]
  simp
theorem plain_twice {s : List UInt8} (h : plainB s 0 300 = true) (hne : s ≠ []) : plainB (s ++ (32 :: s)) 0 700 = true := by
  unfold plainB at h ⊢
  simp only [Bool.and_eq_true, Bool.or_eq_true, decide_eq_true_eq] at h ⊢
  obtain ⟨h1, h2, h3, h4, h5⟩ := h
  have h32 : utf8B [32] = true := by decide
  have hr32 : runesN [32] = 1 := by decide
  obtain ⟨a1, a2⟩ := runes_app h32 h2
  obtain ⟨b1, b2⟩ := runes_app h2 a1
  rw [show ([32] ++ s : List UInt8) = 32 :: s from rfl] at a1 a2 b1 b2
  have hlen : 0 < s.length := by cases s; exact absurd rfl hne; simp
  refine ⟨?_, b1, by omega, by rw [b2, a2, hr32]; omega, .inr ⟨?_, ?_⟩⟩
  · unfold lowest at h1 ⊢
    rw [List.all_append, List.all_cons, h1]
    rfl
  · rcases h5 with h5 | ⟨h5, h6⟩
    · exact absurd h5 hne
    · rw [List.getD, List.getElem?_append_left hlen]
      exact h5
  · rcases h5 with h5 | ⟨h5, h6⟩
    · exact absurd h5 hne
    · rw [List.getD, List.length_append, List.length_cons, List.getElem?_append_right (by omega), show s.length + (s.length + 1) - 1 - s.length = (s.length - 1) + 1 from by omega, List.getElem?_cons_succ]
      exact h6
end Go.Proofs.YthkjmbkfcnehoaaGreatDoor
/- The statements' own characters beside Go's decoder: plain functions on lists of bytes, no program. -/
namespace Go.Proofs.YthkjmbkfcnehoaaGreatDoor
set_option linter.unusedVariables false

/-- may the character that Go decodes stand in a text? -/
def mayB (r : Nat) : Bool := decide (r = 9 ∨ r = 10 ∨ r = 13 ∨ (32 ≤ r ∧ r ≠ 65534 ∧ r ≠ 65535))
/-- the size by what Go decodes -/
def sizeD (p : Nat × Nat) : Nat := if p.1 = 65533 ∧ p.2 = 1 then 0 else if mayB p.1 then p.2 else 0
theorem sizeD_bad : sizeD (65533, 1) = 0 := rfl
theorem contB_iff (b : UInt8) : contB b = decide (b.toNat / 64 = 2) := by
  have := b.toNat_lt
  unfold contB
  rw [decide_eq_decide]
  omega
theorem charB_may {v : Nat} (h : v < 55296 ∨ (57343 < v ∧ v ≤ 1114111)) : charB v = mayB v := by
  unfold charB mayB
  rw [decide_eq_decide]
  omega
theorem charB_none {v : Nat} (h : ¬ (v < 55296 ∨ (57343 < v ∧ v ≤ 1114111))) : charB v = false := by
  unfold charB
  rw [decide_eq_false_iff_not]
  omega
theorem sizeD_wide {v n : Nat} (hn : 2 ≤ n) (h : v < 55296 ∨ (57343 < v ∧ v ≤ 1114111)) : sizeD (v, n) = if charB v then n else 0 := by
  have h1 : ¬ ((v, n).1 = 65533 ∧ (v, n).2 = 1) := fun x => by have : n = 1 := x.2; omega
  unfold sizeD
  rw [if_neg h1, charB_may h]
theorem sizeD_one {v : Nat} (h : v < 128) : sizeD (v, 1) = if charB v then 1 else 0 := by
  have h1 : ¬ ((v, 1).1 = 65533 ∧ (v, 1).2 = 1) := fun x => by have : v = 65533 := x.1; omega
  unfold sizeD
  rw [if_neg h1, charB_may (by omega)]
/-- a character of n bytes, from its number -/
theorem fin_dec {v n least : Nat} (hn : 2 ≤ n) : finB (some v) n least = sizeD (if v ≥ least ∧ (v < 55296 ∨ (57344 ≤ v ∧ v ≤ 1114111)) then (v, n) else (65533, 1)) := by
  rw [finB_some]
  by_cases h2 : v ≥ least ∧ (v < 55296 ∨ (57344 ≤ v ∧ v ≤ 1114111))
  · have h1 : ¬ v < least := by omega
    rw [if_pos h2, if_neg h1, sizeD_wide hn (by omega)]
  · rw [if_neg h2, sizeD_bad]
    by_cases h1 : v < least
    · rw [if_pos h1]
    · rw [if_neg h1, charB_none (by omega)]
      rfl
theorem lead_none {x : Nat} (h : (128 ≤ x ∧ x < 192) ∨ 248 ≤ x) : lead x = none := by
  unfold lead
  rw [if_neg (by omega), if_neg (by omega), if_neg (by omega), if_neg (by omega)]
theorem lead_1 {x : Nat} (h : x < 128) : lead x = some (1, 0, x) := by
  unfold lead
  rw [if_pos h]
theorem lead_2 {x : Nat} (h : 192 ≤ x ∧ x < 224) : lead x = some (2, 128, x % 32) := by
  unfold lead
  rw [if_neg (by omega), if_pos h]
theorem lead_3 {x : Nat} (h : 224 ≤ x ∧ x < 240) : lead x = some (3, 2048, x % 16) := by
  unfold lead
  rw [if_neg (by omega), if_neg (by omega), if_pos h]
theorem lead_4 {x : Nat} (h : 240 ≤ x ∧ x < 248) : lead x = some (4, 65536, x % 8) := by
  unfold lead
  rw [if_neg (by omega), if_neg (by omega), if_neg (by omega), if_pos h]
theorem tl_0 (r : List UInt8) (c : Nat) : tlB 0 r c = some c := by cases r <;> rfl
theorem tl_nil (k c : Nat) : tlB (k + 1) [] c = none := rfl
theorem tl_cons (k c : Nat) (b : UInt8) (r : List UInt8) : tlB (k + 1) (b :: r) c = if b.toNat / 64 = 2 then tlB k r (c * 64 + b.toNat % 64) else none := by
  show (if contB b then _ else _) = _
  rw [contB_iff]
  simp only [decide_eq_true_eq]

/-- The size of the first character is what Go's decoder tells. -/
theorem size_dec (b : UInt8) (r : List UInt8) : sizeB (b :: r) = sizeD (Lib.decodeL (b :: r)) := by
  rw [Lib.decodeL_N, sizeB_cons]
  have hb := b.toNat_lt
  simp only [List.getD_cons_zero, List.getD_cons_succ, List.length_cons]
  unfold Lib.decodeN
  by_cases h1 : b.toNat < 128
  · rw [if_pos h1, lead_1 h1, sizeC_some, tl_0, finB_some, if_neg (Nat.not_lt_zero _), sizeD_one h1]
  rw [if_neg h1]
  by_cases h2 : (128 ≤ b.toNat ∧ b.toNat < 192) ∨ 248 ≤ b.toNat
  · rw [lead_none h2, sizeC_none, if_neg (by omega), if_neg (by omega), if_neg (by omega), sizeD_bad]
  by_cases h3 : b.toNat < 224
  · rw [lead_2 (by omega), sizeC_some]
    cases r with
    | nil =>
      rw [if_neg (by simp), if_neg (by omega), if_neg (by omega), sizeD_bad]
      rfl
    | cons c r =>
      have e : (2 : Nat) - 1 = 0 + 1 := rfl
      rw [e, tl_cons, tl_0]
      simp only [List.getD_cons_zero, List.length_cons]
      by_cases hc : c.toNat / 64 = 2
      · rw [if_pos hc, if_pos ⟨by omega, by omega, hc⟩, fin_dec (by omega)]
        have := c.toNat_lt
        congr 1
        by_cases hv : b.toNat % 32 * 64 + c.toNat % 64 ≥ 128
        · rw [if_pos ⟨hv, by omega⟩, if_pos hv]
        · rw [if_neg (fun x => hv x.1), if_neg hv]
      · rw [if_neg hc, if_neg (fun x => hc x.2.2), if_neg (by omega), if_neg (by omega), sizeD_bad, finB_none]
  by_cases h4 : b.toNat < 240
  · rw [lead_3 (by omega), sizeC_some, if_neg (by omega)]
    have e : (3 : Nat) - 1 = 1 + 1 := rfl
    rw [e]
    match r with
    | [] =>
      rw [if_neg (by simp), if_neg (by omega), sizeD_bad]
      rfl
    | [c] =>
      rw [if_neg (by simp), if_neg (by omega), sizeD_bad, tl_cons, tl_nil]
      split <;> rfl
    | c :: d :: r =>
      rw [tl_cons, tl_cons, tl_0]
      simp only [List.getD_cons_zero, List.getD_cons_succ, List.length_cons]
      by_cases hc : c.toNat / 64 = 2
      · by_cases hd : d.toNat / 64 = 2
        · rw [if_pos hc, if_pos hd, if_pos ⟨by omega, ⟨by omega, hc⟩, by omega, hd⟩, fin_dec (by omega)]
          have e1 : (b.toNat % 16 * 64 + c.toNat % 64) * 64 + d.toNat % 64 = b.toNat % 16 * 4096 + c.toNat % 64 * 64 + d.toNat % 64 := by omega
          rw [e1]
        · rw [if_pos hc, if_neg hd, if_neg (fun x => hd x.2.2.2), if_neg (by omega), sizeD_bad, finB_none]
      · rw [if_neg hc, if_neg (fun x => hc x.2.1.2), if_neg (by omega), sizeD_bad, finB_none]
  · rw [lead_4 (by omega), sizeC_some, if_neg (by omega), if_neg (by omega)]
    have e : (4 : Nat) - 1 = 2 + 1 := rfl
    rw [e]
    match r with
    | [] =>
      rw [if_neg (by simp), sizeD_bad]
      rfl
    | [c] =>
      rw [if_neg (by simp), sizeD_bad, tl_cons, tl_nil]
      split <;> rfl
    | [c, d] =>
      rw [if_neg (by simp), sizeD_bad, tl_cons, tl_cons, tl_nil]
      split
      · split <;> rfl
      · rfl
    | c :: d :: f :: r =>
      rw [tl_cons, tl_cons, tl_cons, tl_0]
      simp only [List.getD_cons_zero, List.getD_cons_succ, List.length_cons]
      by_cases hc : c.toNat / 64 = 2
      · by_cases hd : d.toNat / 64 = 2
        · by_cases hf : f.toNat / 64 = 2
          · rw [if_pos hc, if_pos hd, if_pos hf, if_pos ⟨by omega, ⟨by omega, hc⟩, ⟨by omega, hd⟩, by omega, hf⟩, fin_dec (by omega)]
            have e1 : ((b.toNat % 8 * 64 + c.toNat % 64) * 64 + d.toNat % 64) * 64 + f.toNat % 64 = b.toNat % 8 * 262144 + c.toNat % 64 * 4096 + d.toNat % 64 * 64 + f.toNat % 64 := by omega
            rw [e1]
          · rw [if_pos hc, if_pos hd, if_neg hf, if_neg (fun x => hf x.2.2.2.2), sizeD_bad, finB_none]
        · rw [if_pos hc, if_neg hd, if_neg (fun x => hd x.2.2.1.2), sizeD_bad, finB_none]
      · rw [if_neg hc, if_neg (fun x => hc x.2.1.2), sizeD_bad, finB_none]

/-! ### over a string, place by place -/
theorem drop_cons {α : Type} {l : List α} {i : Nat} (h : i < l.length) : ∃ b r, l.drop i = b :: r := ⟨_, _, List.drop_eq_getElem_cons h⟩
theorem size_at (s : ByteArray) (i : Nat) (h : i < s.size) : sizeB (s.data.toList.drop i) = sizeD (Utf8.decode s i) := by
  obtain ⟨b, r, e⟩ := drop_cons (l := s.data.toList) (i := i) (by simpa using h)
  rw [← Lib.decodeL_drop, e, size_dec]
/-- what is a text, Go calls valid -/
theorem utf8_valid : ∀ (n : Nat) (l : List UInt8), l.length ≤ n → utf8B l = true → Lib.validD l = true := by
  intro n
  induction n with
  | zero =>
    intro l h _
    have : l = [] := List.eq_nil_of_length_eq_zero (by omega)
    subst this
    rfl
  | succ n ih =>
    intro l h hu
    cases l with
    | nil => rfl
    | cons b r =>
      unfold utf8B at hu
      rw [cnt_step (by simp)] at hu
      split at hu
      · cases hu
      · rename_i hs
        rw [size_dec] at hs hu
        rw [Lib.validD_step _ (by simp)]
        have hw := Lib.decodeL_width (b :: r)
        unfold sizeD at hs hu
        split at hs
        · exact absurd rfl hs
        · rename_i hk
          rw [if_neg hk] at hu ⊢
          split at hs
          · rename_i hm
            rw [if_pos hm] at hu
            refine ih _ (by rw [List.length_drop]; simp at h ⊢; omega) ?_
            unfold utf8B
            simpa using hu
          · exact absurd rfl hs
theorem utf8_not_valid {l : List UInt8} (h : Lib.validD l = false) : utf8B l = false := by
  cases hu : utf8B l with
  | false => rfl
  | true => rw [utf8_valid _ l (Nat.le_refl _) hu] at h; cases h
/-- one character further -/
theorem valid_next (s : ByteArray) (i : Nat) (h : i < s.size) (hv : Lib.validD (s.data.toList.drop i) = true) :
    ¬ ((Utf8.decode s i).1 = 65533 ∧ (Utf8.decode s i).2 = 1) ∧ Lib.validD (s.data.toList.drop (i + (Utf8.decode s i).2)) = true := by
  have hne : s.data.toList.drop i ≠ [] := by
    obtain ⟨b, r, e⟩ := drop_cons (l := s.data.toList) (i := i) (by simpa using h)
    rw [e]; simp
  rw [Lib.validD_step _ hne, Lib.decodeL_drop] at hv
  split at hv
  · cases hv
  · rename_i hb
    exact ⟨hb, by rwa [List.drop_drop] at hv⟩
theorem utf8_next (s : ByteArray) (i : Nat) (h : i < s.size) (hb : ¬ ((Utf8.decode s i).1 = 65533 ∧ (Utf8.decode s i).2 = 1)) :
    utf8B (s.data.toList.drop i) = if mayB (Utf8.decode s i).1 then utf8B (s.data.toList.drop (i + (Utf8.decode s i).2)) else false := by
  have hne : s.data.toList.drop i ≠ [] := by
    obtain ⟨b, r, e⟩ := drop_cons (l := s.data.toList) (i := i) (by simpa using h)
    rw [e]; simp
  have hw := Lib.width_pos s i
  unfold utf8B
  rw [cnt_step hne, size_at s i h]
  unfold sizeD
  rw [if_neg hb]
  cases hm : mayB (Utf8.decode s i).1 with
  | false => simp
  | true =>
    simp only [if_true]
    rw [if_neg (by omega), List.drop_drop]
    simp
theorem utf8_end (s : ByteArray) (i : Nat) (h : ¬ i < s.size) : utf8B (s.data.toList.drop i) = true := by
  rw [List.drop_eq_nil_of_le (by simp; omega)]
  rfl
/-- as many characters as Go counts -/
theorem count_runes (s : ByteArray) : ∀ (f i n : Nat), s.size ≤ i + f → cnt (s.data.toList.drop i) = some n → Lib.runeCountFrom s f i = n := by
  intro f
  induction f with
  | zero =>
    intro i n h hc
    rw [List.drop_eq_nil_of_le (by simp; omega), cnt_nil] at hc
    injection hc
  | succ f ih =>
    intro i n h hc
    by_cases hi : i < s.size
    · have hne : s.data.toList.drop i ≠ [] := by
        obtain ⟨b, r, e⟩ := drop_cons (l := s.data.toList) (i := i) (by simpa using hi)
        rw [e]; simp
      have hw := Lib.width_pos s i
      rw [cnt_step hne, size_at s i hi] at hc
      unfold Lib.runeCountFrom
      rw [if_pos hi]
      unfold sizeD at hc
      by_cases hb : (Utf8.decode s i).1 = 65533 ∧ (Utf8.decode s i).2 = 1
      · rw [if_pos hb] at hc
        cases hc
      rw [if_neg hb] at hc
      cases hm : mayB (Utf8.decode s i).1 with
      | false =>
        rw [hm] at hc
        cases hc
      | true =>
        rw [hm] at hc
        simp only [if_true] at hc
        rw [if_neg (by omega), List.drop_drop] at hc
        obtain ⟨m, hm1, rfl⟩ := Option.map_eq_some_iff.1 hc
        rw [ih _ m (by omega) hm1]
        omega
    · rw [List.drop_eq_nil_of_le (by simp; omega), cnt_nil] at hc
      injection hc with hc
      rw [Lib.runeCountFrom_end s _ _ hi]
      exact hc
theorem runes_count {s : ByteArray} (h : utf8B s.data.toList = true) : Lib.runeCount s = runesN s.data.toList := by
  obtain ⟨n, hn⟩ := Option.isSome_iff_exists.1 (show (cnt s.data.toList).isSome = true from h)
  unfold Lib.runeCount runesN
  rw [count_runes s s.size 0 n (by omega) (by simpa using hn), hn]
  rfl
end Go.Proofs.YthkjmbkfcnehoaaGreatDoor
