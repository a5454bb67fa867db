/- The texts TxtMath, TxtMath2, TokMath, TreeMath, TreeMath2, TreeStd, TreeRuns, TreeTxtM, joined. -/
import Derived.Test.YtdgfpjekahpggaaGreatDoorBase
/- Texts as rows of characters of one to four bytes: plain functions on lists of bytes, no program. -/
namespace Go.Proofs.YtdgfpjekahpggaaGreatDoor
set_option linter.unusedVariables false

/-- may the character stand in a text? -/
def charB (c : Nat) : Bool := decide (c = 9 ∨ c = 10 ∨ c = 13 ∨ (32 ≤ c ∧ c < 55296) ∨ (57343 < c ∧ c < 65534) ∨ (65535 < c ∧ c ≤ 1114111))
/-- does the byte carry a character on? -/
def contB (b : UInt8) : Bool := decide (128 ≤ b.toNat ∧ b.toNat < 192)
/-- what a first byte says: how many bytes, the least number, its own bits -/
def lead (x : Nat) : Option (Nat × Nat × Nat) :=
  if x < 128 then some (1, 0, x) else if 192 ≤ x ∧ x < 224 then some (2, 128, x % 32) else if 224 ≤ x ∧ x < 240 then some (3, 2048, x % 16) else if 240 ≤ x ∧ x < 248 then some (4, 65536, x % 8) else none
/-- k bytes that carry on -/
def tlB : Nat → List UInt8 → Nat → Option Nat
  | 0, _, c => some c
  | k + 1, b :: r, c => if contB b then tlB k r (c * 64 + b.toNat % 64) else none
  | _ + 1, [], _ => none
/-- n, if the number may be; else 0 -/
def finB (v : Option Nat) (n least : Nat) : Nat := match v with
  | none => 0
  | some v => if v < least then 0 else if charB v then n else 0
def sizeC (p : Option (Nat × Nat × Nat)) (r : List UInt8) : Nat := match p with
  | none => 0
  | some (n, least, c) => finB (tlB (n - 1) r c) n least
/-- how many bytes the first character has; 0: none that may be -/
def sizeB : List UInt8 → Nat
  | [] => 0
  | b :: r => sizeC (lead b.toNat) r
theorem sizeB_cons (b : UInt8) (r : List UInt8) : sizeB (b :: r) = sizeC (lead b.toNat) r := rfl
theorem sizeC_none (r : List UInt8) : sizeC none r = 0 := rfl
theorem sizeC_some (n least c : Nat) (r : List UInt8) : sizeC (some (n, least, c)) r = finB (tlB (n - 1) r c) n least := rfl
theorem finB_none (n least : Nat) : finB none n least = 0 := rfl
theorem finB_some (v n least : Nat) : finB (some v) n least = if v < least then 0 else if charB v then n else 0 := rfl
/-- how many characters; none: no text -/
def cntF : Nat → List UInt8 → Option Nat
  | _, [] => some 0
  | 0, _ :: _ => none
  | f + 1, b :: r => if sizeB (b :: r) = 0 then none else (cntF f ((b :: r).drop (sizeB (b :: r)))).map (· + 1)
def cnt (l : List UInt8) : Option Nat := cntF l.length l

theorem lead_some {x n least c : Nat} (h : lead x = some (n, least, c)) : 1 ≤ n ∧ n ≤ 4 ∧ ((n = 1 ∧ x < 128) ∨ (2 ≤ n ∧ 192 ≤ x)) := by
  unfold lead at h
  split at h
  · simp at h; omega
  · split at h
    · simp at h; omega
    · split at h
      · simp at h; omega
      · split at h
        · simp at h; omega
        · cases h
theorem tlB_len : ∀ (k : Nat) (r : List UInt8) (c v : Nat), tlB k r c = some v → k ≤ r.length
  | 0, _, _, _, _ => Nat.zero_le _
  | k + 1, [], _, _, h => by simp [tlB] at h
  | k + 1, b :: r, c, v, h => by
    unfold tlB at h
    split at h
    · have := tlB_len k r _ v h
      simp
      omega
    · cases h
theorem tlB_append : ∀ (k : Nat) (r m : List UInt8) (c : Nat), k ≤ r.length → tlB k (r ++ m) c = tlB k r c
  | 0, _, _, _, _ => by simp [tlB]
  | k + 1, [], _, _, h => by simp at h
  | k + 1, b :: r, m, c, h => by
    simp only [List.cons_append, tlB]
    rw [tlB_append k r m _ (by simpa using h)]
theorem sizeB_pos {l : List UInt8} (h : sizeB l ≠ 0) : sizeB l ≤ l.length ∧ sizeB l ≤ 4 ∧ l ≠ [] := by
  cases l with
  | nil => simp [sizeB] at h
  | cons b r =>
    rw [sizeB_cons] at h ⊢
    cases hl : lead b.toNat with
    | none => rw [hl] at h; simp [sizeC_none] at h
    | some p =>
      obtain ⟨n, least, c⟩ := p
      rw [hl, sizeC_some] at h
      rw [sizeC_some]
      obtain ⟨h1, h2, _⟩ := lead_some hl
      cases ht : tlB (n - 1) r c with
      | none => rw [ht] at h; simp [finB_none] at h
      | some v =>
        rw [finB_some]
        have := tlB_len _ _ _ _ ht
        split
        · simp
        · split
          · simp; omega
          · simp
theorem sizeB_append {l : List UInt8} (h : sizeB l ≠ 0) (m : List UInt8) : sizeB (l ++ m) = sizeB l := by
  cases l with
  | nil => simp [sizeB] at h
  | cons b r =>
    rw [List.cons_append]
    rw [sizeB_cons] at h
    rw [sizeB_cons, sizeB_cons]
    cases hl : lead b.toNat with
    | none => rw [hl] at h; simp [sizeC_none] at h
    | some p =>
      obtain ⟨n, least, c⟩ := p
      rw [hl, sizeC_some] at h
      rw [sizeC_some, sizeC_some]
      cases ht : tlB (n - 1) r c with
      | none => rw [ht] at h; simp [finB_none] at h
      | some v => rw [tlB_append _ _ _ _ (tlB_len _ _ _ _ ht), ht]
theorem cntF_enough : ∀ (f : Nat) (l : List UInt8), l.length ≤ f → cntF f l = cnt l := by
  have key : ∀ (f g : Nat) (l : List UInt8), l.length ≤ f → l.length ≤ g → cntF f l = cntF g l := by
    intro f
    induction f with
    | zero =>
      intro g l h1 h2
      have : l = [] := List.eq_nil_of_length_eq_zero (by omega)
      subst this
      cases g <;> rfl
    | succ f ih =>
      intro g l h1 h2
      cases l with
      | nil => cases g <;> rfl
      | cons b r =>
        cases g with
        | zero => simp at h2
        | succ g =>
          simp only [cntF]
          split
          · rfl
          · rename_i hs
            have := sizeB_pos hs
            rw [ih g _ (by rw [List.length_drop]; simp at h1 ⊢; omega) (by rw [List.length_drop]; simp at h2 ⊢; omega)]
  intro f l h
  exact key f l.length l h (Nat.le_refl _)
theorem cnt_nil : cnt [] = some 0 := rfl
theorem cnt_step {l : List UInt8} (h : l ≠ []) : cnt l = if sizeB l = 0 then none else (cnt (l.drop (sizeB l))).map (· + 1) := by
  cases l with
  | nil => exact absurd rfl h
  | cons b r =>
    unfold cnt
    rw [List.length_cons]
    simp only [cntF]
    split
    · rfl
    · rename_i hs
      have := sizeB_pos hs
      rw [cntF_enough _ _ (by rw [List.length_drop, List.length_cons]; omega)]
      rfl
/-- two texts, one behind the other -/
theorem cnt_append : ∀ (n : Nat) (a : List UInt8), a.length ≤ n → ∀ (x : Nat) (b : List UInt8), cnt a = some x → cnt (a ++ b) = (cnt b).map (x + ·) := by
  intro n
  induction n with
  | zero =>
    intro a h x b hx
    have : a = [] := List.eq_nil_of_length_eq_zero (by omega)
    subst this
    rw [cnt_nil] at hx
    injection hx with hx
    subst hx
    cases h : cnt b <;> simp [h]
  | succ n ih =>
    intro a h x b hx
    cases a with
    | nil =>
      rw [cnt_nil] at hx
      injection hx with hx
      subst hx
      cases h : cnt b <;> simp [h]
    | cons c r =>
      rw [cnt_step (by simp)] at hx
      split at hx
      · cases hx
      · rename_i hs
        obtain ⟨h1, _, _⟩ := sizeB_pos hs
        obtain ⟨y, hy, rfl⟩ := Option.map_eq_some_iff.1 hx
        have hne : (c :: r) ++ b ≠ [] := by simp
        rw [cnt_step hne, sizeB_append hs, if_neg hs, List.drop_append_of_le_length h1, ih _ (by rw [List.length_drop]; simp at h ⊢; omega) y b hy]
        cases cnt b <;> simp
        omega
theorem cnt_app {a b : List UInt8} {x : Nat} (h : cnt a = some x) : cnt (a ++ b) = (cnt b).map (x + ·) := cnt_append _ a (Nat.le_refl _) x b h
theorem cnt_le : ∀ (n : Nat) (a : List UInt8), a.length ≤ n → ∀ x, cnt a = some x → x ≤ a.length := by
  intro n
  induction n with
  | zero =>
    intro a h x hx
    have : a = [] := List.eq_nil_of_length_eq_zero (by omega)
    subst this
    rw [cnt_nil] at hx
    injection hx with hx
    omega
  | succ n ih =>
    intro a h x hx
    cases a with
    | nil =>
      rw [cnt_nil] at hx
      injection hx with hx
      omega
    | cons c r =>
      rw [cnt_step (by simp)] at hx
      split at hx
      · cases hx
      · rename_i hs
        obtain ⟨h1, _, _⟩ := sizeB_pos hs
        obtain ⟨y, hy, rfl⟩ := Option.map_eq_some_iff.1 hx
        have := ih _ (by rw [List.length_drop]; simp at h ⊢; omega) y hy
        rw [List.length_drop] at this
        simp at h1 this ⊢
        omega
/-- a byte that begins no character that goes on with x -/
theorem size_bad (d : UInt8) (r : List UInt8) (h : 128 ≤ d.toNat) : sizeB (d :: 120 :: r) = 0 := by
  rw [sizeB_cons]
  cases hl : lead d.toNat with
  | none => rfl
  | some p =>
    obtain ⟨n, least, c⟩ := p
    obtain ⟨h1, h2, h3⟩ := lead_some hl
    obtain ⟨k, hk⟩ : ∃ k, n - 1 = k + 1 := ⟨n - 2, by omega⟩
    rw [sizeC_some, hk]
    rfl
theorem cnt_bad {a : List UInt8} {x : Nat} (ha : cnt a = some x) (d : UInt8) (b : List UInt8) (h : 128 ≤ d.toNat) : cnt (a ++ (d :: 120 :: b)) = none := by
  rw [cnt_app ha, cnt_step (by simp), if_pos (size_bad d b h)]
  rfl
/-- one byte alone -/
theorem size_one (d : UInt8) : sizeB [d] = if d.toNat < 128 ∧ charB d.toNat = true then 1 else 0 := by
  rw [sizeB_cons]
  by_cases h : d.toNat < 128
  · have hl : lead d.toNat = some (1, 0, d.toNat) := by unfold lead; rw [if_pos h]
    rw [hl, sizeC_some]
    show finB (some d.toNat) 1 0 = _
    rw [finB_some, if_neg (by omega)]
    cases charB d.toNat <;> simp [h]
  · rw [if_neg (fun x => h x.1)]
    cases hl : lead d.toNat with
    | none => rfl
    | some p =>
      obtain ⟨n, least, c⟩ := p
      obtain ⟨h1, h2, h3⟩ := lead_some hl
      obtain ⟨k, hk⟩ : ∃ k, n - 1 = k + 1 := ⟨n - 2, by omega⟩
      rw [sizeC_some, hk]
      rfl
theorem cnt_one (d : UInt8) : cnt [d] = if d.toNat < 128 ∧ charB d.toNat = true then some 1 else none := by
  rw [cnt_step (by simp), size_one]
  split
  · rfl
  · rfl

/-! ### what is asked of texts -/
def utf8B (l : List UInt8) : Bool := (cnt l).isSome
def runesN (l : List UInt8) : Nat := (cnt l).getD 0
def lowest (l : List UInt8) : Bool := l.all fun b => decide (32 ≤ b.toNat)
def plainB (l : List UInt8) (low top : Int) : Bool :=
  lowest l && (utf8B l && (decide (low ≤ (runesN l : Int)) && (decide ((runesN l : Int) ≤ top) && (decide (l = []) || (decide (l.getD 0 0 ≠ 32) && decide (l.getD (l.length - 1) 0 ≠ 32))))))
def ansC (b : UInt8) : Bool := decide (32 ≤ b.toNat ∧ b.toNat ≤ 126)
def ansB (l : List UInt8) (top : Int) : Bool := (l.all ansC) && (decide (1 ≤ (l.length : Int)) && decide ((l.length : Int) ≤ top))
def alnC (b : UInt8) : Bool := decide ((48 ≤ b.toNat ∧ b.toNat ≤ 57) ∨ (65 ≤ b.toNat ∧ b.toNat ≤ 90) ∨ (97 ≤ b.toNat ∧ b.toNat ≤ 122))
def alnB (l : List UInt8) (low top : Int) : Bool := (l.all alnC) && (decide (low ≤ (l.length : Int)) && decide ((l.length : Int) ≤ top))
end Go.Proofs.YtdgfpjekahpggaaGreatDoor
/- Characters as bytes, and plain texts: plain functions on lists of bytes, no program. -/
namespace Go.Proofs.YtdgfpjekahpggaaGreatDoor
set_option linter.unusedVariables false

/-- a character as bytes, as the model writes it -/
def encL (c : Int) : List UInt8 := (Utf8.encode c).data.toList
theorem u8_nat (n : Nat) (h : n < 256) : (UInt8.ofNat n).toNat = n := by rw [UInt8.toNat_ofNat']; omega
theorem contB_of {n : Nat} (h1 : 128 ≤ n) (h2 : n < 192) : contB (UInt8.ofNat n) = true := by unfold contB; rw [u8_nat n (by omega)]; simp [h1, h2]
theorem tlB_go {k n : Nat} {r : List UInt8} {c : Nat} (h1 : 128 ≤ n) (h2 : n < 192) : tlB (k + 1) (UInt8.ofNat n :: r) c = tlB k r (c * 64 + n % 64) := by
  rw [tlB, if_pos (contB_of h1 h2), u8_nat n (by omega)]
theorem tlB_short {k : Nat} {r : List UInt8} {c : Nat} (h : r.length < k) : tlB k r c = none := by
  cases ht : tlB k r c with
  | none => rfl
  | some v => have := tlB_len _ _ _ _ ht; omega
theorem size_cut {b : UInt8} {r : List UInt8} {n least c : Nat} (h : lead b.toNat = some (n, least, c)) (hr : r.length + 1 < n) : sizeB (b :: r) = 0 := by
  rw [sizeB_cons, h, sizeC_some, tlB_short (by omega), finB_none]

theorem enc_valid {c : Nat} (h : c ≤ 1114111) (hs : ¬ (55296 ≤ c ∧ c ≤ 57343)) : Utf8.valid (c : Int) = true := by
  unfold Utf8.valid
  simp
  omega
set_option maxRecDepth 100000 in
/-- a character that is one, as bytes: of so many, if it may be; cut none -/
theorem enc_size {c : Nat} (h : c ≤ 1114111) (hs : ¬ (55296 ≤ c ∧ c ≤ 57343)) :
    sizeB (encL c) = (if charB c then (encL c).length else 0) ∧ 1 ≤ (encL c).length ∧ (encL c).length ≤ 4 ∧ ∀ k, 0 < k → k < (encL c).length → sizeB ((encL c).take k) = 0 := by
  have hv := enc_valid h hs
  unfold encL Utf8.encode
  simp only [hv, if_true, Int.toNat_natCast]
  by_cases h1 : c < 128
  · rw [if_pos h1]
    simp only [List.length_cons, List.length_nil]
    have hl : lead (UInt8.ofNat c).toNat = some (1, 0, c) := by rw [u8_nat c (by omega)]; unfold lead; rw [if_pos h1]
    refine ⟨?_, by omega, by omega, fun k h0 hk => by omega⟩
    rw [sizeB_cons, hl, sizeC_some]
    show finB (some c) 1 0 = _
    rw [finB_some, if_neg (by omega)]
  · rw [if_neg h1]
    by_cases h2 : c < 2048
    · rw [if_pos h2]
      simp only [List.length_cons, List.length_nil]
      have hl : lead (UInt8.ofNat (192 + c / 64)).toNat = some (2, 128, c / 64) := by
        rw [u8_nat _ (by omega)]
        unfold lead
        rw [if_neg (by omega), if_pos (by omega), show (192 + c / 64) % 32 = c / 64 from by omega]
      refine ⟨?_, by omega, by omega, fun k h0 hk => ?_⟩
      · rw [sizeB_cons, hl, sizeC_some, tlB_go (by omega) (by omega)]
        show finB (some _) 2 128 = _
        rw [finB_some, show c / 64 * 64 + (128 + c % 64) % 64 = c from by omega, if_neg (by omega)]
      · obtain rfl : k = 1 := by omega
        exact size_cut hl (by simp)
    · rw [if_neg h2]
      by_cases h3 : c < 65536
      · rw [if_pos h3]
        simp only [List.length_cons, List.length_nil]
        have hl : lead (UInt8.ofNat (224 + c / 4096)).toNat = some (3, 2048, c / 4096) := by
          rw [u8_nat _ (by omega)]
          unfold lead
          rw [if_neg (by omega), if_neg (by omega), if_pos (by omega), show (224 + c / 4096) % 16 = c / 4096 from by omega]
        refine ⟨?_, by omega, by omega, fun k h0 hk => ?_⟩
        · rw [sizeB_cons, hl, sizeC_some, tlB_go (by omega) (by omega), tlB_go (by omega) (by omega)]
          show finB (some _) 3 2048 = _
          rw [finB_some, show (c / 4096 * 64 + (128 + c / 64 % 64) % 64) * 64 + (128 + c % 64) % 64 = c from by omega, if_neg (by omega)]
        · obtain rfl | rfl : k = 1 ∨ k = 2 := by omega
          all_goals exact size_cut hl (by simp)
      · rw [if_neg h3]
        simp only [List.length_cons, List.length_nil]
        have hl : lead (UInt8.ofNat (240 + c / 262144)).toNat = some (4, 65536, c / 262144) := by
          rw [u8_nat _ (by omega)]
          unfold lead
          rw [if_neg (by omega), if_neg (by omega), if_neg (by omega), if_pos (by omega), show (240 + c / 262144) % 8 = c / 262144 from by omega]
        refine ⟨?_, by omega, by omega, fun k h0 hk => ?_⟩
        · rw [sizeB_cons, hl, sizeC_some, tlB_go (by omega) (by omega), tlB_go (by omega) (by omega), tlB_go (by omega) (by omega)]
          show finB (some _) 4 65536 = _
          rw [finB_some, show ((c / 262144 * 64 + (128 + c / 4096 % 64) % 64) * 64 + (128 + c / 64 % 64) % 64) * 64 + (128 + c % 64) % 64 = c from by omega, if_neg (by omega)]
        · obtain rfl | rfl | rfl : k = 1 ∨ k = 2 ∨ k = 3 := by omega
          all_goals exact size_cut hl (by simp)
set_option maxRecDepth 100000 in
/-- one that is none is written as another one, which may be -/
theorem enc_bad {c : Nat} (h : 1114111 < c ∨ (55296 ≤ c ∧ c ≤ 57343)) : encL c = [239, 191, 189] := by
  have hv : Utf8.valid (c : Int) = false := by
    rw [Bool.eq_false_iff]
    unfold Utf8.valid
    simp
    omega
  unfold encL Utf8.encode
  simp only [hv, Bool.false_eq_true, if_false]
  rfl
theorem utf8_bad : utf8B [239, 191, 189] = true := by decide
set_option maxRecDepth 100000 in
/-- one character alone -/
theorem cnt_enc {c : Nat} (h : c ≤ 1114111) (hs : ¬ (55296 ≤ c ∧ c ≤ 57343)) : cnt (encL c) = if charB c then some 1 else none := by
  obtain ⟨h1, h2, h3, h4⟩ := enc_size h hs
  have hne : encL c ≠ [] := by intro e; rw [e] at h2; simp at h2
  rw [cnt_step hne, h1]
  cases charB c with
  | false => rfl
  | true =>
    rw [if_pos rfl, if_neg (by omega), List.drop_length]
    rfl
theorem cnt_enc_cut {c : Nat} (h : c ≤ 1114111) (hs : ¬ (55296 ≤ c ∧ c ≤ 57343)) {k : Nat} (h0 : 0 < k) (hk : k < (encL c).length) : cnt ((encL c).take k) = none := by
  obtain ⟨h1, h2, h3, h4⟩ := enc_size h hs
  have hne : (encL c).take k ≠ [] := by
    intro e
    have := congrArg List.length e
    rw [List.length_take, List.length_nil] at this
    omega
  rw [cnt_step hne, if_pos (h4 k h0 hk)]

/-! ### plain texts -/
theorem plain_first (s : List UInt8) (low top : Int) : plainB (32 :: s) low top = false := by
  unfold plainB
  simp [List.getD]
theorem plain_last (s : List UInt8) (low top : Int) : plainB (s ++ [32]) low top = false := by
  unfold plainB
  simp [List.getD]
theorem plain_below (s r : List UInt8) (low top : Int) : plainB (s ++ (10 :: r)) low top = false := by
  unfold plainB lowest
  simp
theorem plain_low {s : List UInt8} (h : plainB s 0 300 = true) (n : Nat) : plainB s 0 n = decide (runesN s ≤ n) ∧ plainB s n 300 = decide (n ≤ runesN s) := by
  unfold plainB at h ⊢
  simp only [Bool.and_eq_true] at h
  obtain ⟨h1, h2, h3, h4, h5⟩ := h
  rw [h1, h2, h3, h4, h5]
  constructor
  · simp only [Bool.true_and, Bool.and_true, decide_eq_decide]
    omega
  · simp only [Bool.true_and, Bool.and_true, decide_eq_decide]
    omega
theorem runes_app {a b : List UInt8} (ha : utf8B a = true) (hb : utf8B b = true) : utf8B (a ++ b) = true ∧ runesN (a ++ b) = runesN a + runesN b := by
  unfold utf8B at *
  unfold runesN
  obtain ⟨x, hx⟩ := Option.isSome_iff_exists.1 ha
  obtain ⟨y, hy⟩ := Option.isSome_iff_exists.1 hb
  rw [cnt_app hx, hx, hy]
  simp
theorem plain_twice {s : List UInt8} (h : plainB s 0 300 = true) (hne : s ≠ []) : plainB (s ++ (32 :: s)) 0 700 = true := by
  unfold plainB at h ⊢
  simp only [Bool.and_eq_true, Bool.or_eq_true, decide_eq_true_eq] at h ⊢
  obtain ⟨h1, h2, h3, h4, h5⟩ := h
  have h32 : utf8B [32] = true := by decide
  have hr32 : runesN [32] = 1 := by decide
  obtain ⟨a1, a2⟩ := runes_app h32 h2
  obtain ⟨b1, b2⟩ := runes_app h2 a1
  rw [show ([32] ++ s : List UInt8) = 32 :: s from rfl] at a1 a2 b1 b2
  have hlen : 0 < s.length := by cases s; exact absurd rfl hne; simp
  refine ⟨?_, b1, by omega, by rw [b2, a2, hr32]; omega, .inr ⟨?_, ?_⟩⟩
  · unfold lowest at h1 ⊢
    rw [List.all_append, List.all_cons, h1]
    rfl
  · rcases h5 with h5 | ⟨h5, h6⟩
    · exact absurd h5 hne
    · rw [List.getD, List.getElem?_append_left hlen]
      exact h5
  · rcases h5 with h5 | ⟨h5, h6⟩
    · exact absurd h5 hne
    · rw [List.getD, List.length_append, List.length_cons, List.getElem?_append_right (by omega), show s.length + (s.length + 1) - 1 - s.length = (s.length - 1) + 1 from by omega, List.getElem?_cons_succ]
      exact h6
end Go.Proofs.YtdgfpjekahpggaaGreatDoor
/- XML, piece by piece: plain functions on lists of bytes, no program. -/
namespace Go.Proofs.YtdgfpjekahpggaaGreatDoor
set_option linter.unusedVariables false

def isBl (c : UInt8) : Bool := decide (c.toNat = 9 ∨ c.toNat = 10 ∨ c.toNat = 13 ∨ c.toNat = 32)
def isFi (c : UInt8) : Bool := decide ((65 ≤ c.toNat ∧ c.toNat ≤ 90) ∨ (97 ≤ c.toNat ∧ c.toNat ≤ 122) ∨ c.toNat = 95)
def isWi (c : UInt8) : Bool := isFi c || decide ((48 ≤ c.toNat ∧ c.toNat ≤ 57) ∨ c.toNat = 45 ∨ c.toNat = 46 ∨ c.toNat = 58)
/-- is it a name? -/
def nameOk : List UInt8 → Bool
  | [] => false
  | c :: r => isFi c && (c :: r).all isWi
/-- does that stand here? what is behind it -/
def isP (p l : List UInt8) : Option (List UInt8) := if p.isPrefixOf l then some (l.drop p.length) else none
theorem isP_len {p l r : List UInt8} (h : isP p l = some r) : l = p ++ r ∧ r.length + p.length = l.length := by
  unfold isP at h
  split at h
  · rename_i hp
    injection h with h
    subst h
    obtain ⟨t, rfl⟩ := List.isPrefixOf_iff_prefix.1 hp
    simp
    omega
  · cases h
/-- a digit's number; 99: it is none -/
def digV (c : UInt8) : Nat := if 48 ≤ c.toNat ∧ c.toNat ≤ 57 then c.toNat - 48 else if 97 ≤ c.toNat ∧ c.toNat ≤ 102 then c.toNat - 87 else if 65 ≤ c.toNat ∧ c.toNat ≤ 70 then c.toNat - 55 else 99
def chrF (base : Nat) : Nat → List UInt8 → Option Nat
  | v, [] => some v
  | v, c :: r => if base ≤ digV c then none else chrF base (v * base + digV c) r
def chrV (s : List UInt8) (base most : Nat) : Option Nat := if s.length < 1 ∨ most < s.length then none else chrF base 0 s
/-- what stands between & and ; -/
def entV (s : List UInt8) : Option (List UInt8) :=
  if s = [108, 116] then some [60] else if s = [103, 116] then some [62] else if s = [97, 109, 112] then some [38] else if s = [113, 117, 111, 116] then some [34] else if s = [97, 112, 111, 115] then some [39]
  else
    let v := if 2 < s.length ∧ s.take 2 = [35, 120] then chrV (s.drop 2) 16 6 else if 1 < s.length ∧ s.getD 0 0 = 35 then chrV (s.drop 1) 10 7 else none
    match v with
    | none => none
    | some v => if charB v then some (encL (v : Int)) else none
/-- a text's value; none: something is wrong -/
def valF : Nat → List UInt8 → Option (List UInt8)
  | _, [] => some []
  | 0, _ :: _ => none
  | f + 1, c :: r => if c.toNat ≠ 38 then (valF f r).map (c :: ·) else
    match r.dropWhile (fun b => decide (b.toNat ≠ 59)) with
    | [] => none
    | _ :: rest => match entV (r.takeWhile fun b => decide (b.toNat ≠ 59)) with
      | none => none
      | some x => (valF f rest).map (x ++ ·)
def valV (l : List UInt8) : Option (List UInt8) := valF l.length l
theorem drop_while_le (p : UInt8 → Bool) : ∀ l : List UInt8, (l.dropWhile p).length ≤ l.length
  | [] => Nat.le_refl _
  | c :: r => by
    rw [List.dropWhile_cons]
    split
    · exact Nat.le_trans (drop_while_le p r) (by simp)
    · exact Nat.le_refl _
theorem valF_enough : ∀ (f g : Nat) (l : List UInt8), l.length ≤ f → l.length ≤ g → valF f l = valF g l := by
  intro f
  induction f with
  | zero =>
    intro g l h1 h2
    have : l = [] := List.eq_nil_of_length_eq_zero (by omega)
    subst this
    cases g <;> rfl
  | succ f ih =>
    intro g l h1 h2
    cases l with
    | nil => cases g <;> rfl
    | cons c r =>
      cases g with
      | zero => simp at h2
      | succ g =>
        simp only [List.length_cons] at h1 h2
        have hd := drop_while_le (fun b => decide (b.toNat ≠ 59)) r
        unfold valF
        split
        · rw [ih g r (by omega) (by omega)]
        · split
          · rfl
          · rename_i x rest he
            rw [he] at hd
            simp only [List.length_cons] at hd
            split
            · rfl
            · rw [ih g rest (by omega) (by omega)]
theorem valV_nil : valV [] = some [] := rfl
theorem valV_plain {c : UInt8} {r : List UInt8} (h : c.toNat ≠ 38) : valV (c :: r) = (valV r).map (c :: ·) := by
  show (if c.toNat ≠ 38 then _ else _) = _
  rw [if_pos h]
  rfl
theorem valF_amp (f : Nat) (r : List UInt8) : valF (f + 1) (38 :: r) = match r.dropWhile (fun b => decide (b.toNat ≠ 59)) with
    | [] => none
    | _ :: rest => match entV (r.takeWhile fun b => decide (b.toNat ≠ 59)) with
      | none => none
      | some x => (valF f rest).map (x ++ ·) := by
  show (if (38 : UInt8).toNat ≠ 38 then (valF f r).map ((38 : UInt8) :: ·) else _) = _
  rw [if_neg (by decide)]
/-- one more value's piece: a name of a sign, and what is behind it -/
theorem valV_ent {e rest : List UInt8} (he : ∀ b ∈ e, b.toNat ≠ 59) : valV (38 :: e ++ (59 :: rest)) = match entV e with | none => none | some x => (valV rest).map (x ++ ·) := by
  have ht : (e ++ (59 :: rest)).takeWhile (fun b => decide (b.toNat ≠ 59)) = e := by
    rw [List.takeWhile_append_of_pos (fun b hb => by simpa using he b hb)]
    simp
  have hd : (e ++ (59 :: rest)).dropWhile (fun b => decide (b.toNat ≠ 59)) = 59 :: rest := by
    rw [List.dropWhile_append_of_pos (fun b hb => by simpa using he b hb)]
    simp
  have hl : (38 :: e ++ (59 :: rest)).length = (e ++ (59 :: rest)).length + 1 := by simp
  unfold valV
  rw [hl, List.cons_append, valF_amp, ht, hd]
  cases entV e with
  | none => rfl
  | some x =>
    show (valF _ rest).map _ = _
    rw [valF_enough _ rest.length rest (by simp; omega) (Nat.le_refl _)]

/-! ### pieces -/
structure Tok where
  kind : Int
  name : List UInt8
  text : List UInt8
  attrs : List (List UInt8 × List UInt8)
  empty : Bool
/-- a name with its value, and what is behind it -/
def attrP (used : List (List UInt8 × List UInt8)) (l : List UInt8) : Option ((List UInt8 × List UInt8) × List UInt8) :=
  let n := l.takeWhile isWi
  if !nameOk n || used.any (fun a => a.1 == n) then none else
  match isP [61] ((l.dropWhile isWi).dropWhile isBl) with
  | none => none
  | some l1 => match l1.dropWhile isBl with
    | [] => none
    | mark :: r => if mark.toNat ≠ 34 ∧ mark.toNat ≠ 39 then none else
      match r.dropWhile (fun c => decide (c ≠ mark ∧ c.toNat ≠ 60)) with
      | [] => none
      | c :: rest => if c ≠ mark then none else (valV (r.takeWhile fun c => decide (c ≠ mark ∧ c.toNat ≠ 60))).map fun v => ((n, v), rest)
/-- behind < and a name -/
def openF : Nat → List UInt8 → List (List UInt8 × List UInt8) → List UInt8 → Option (Tok × List UInt8)
  | 0, _, _, _ => none
  | f + 1, name, attrs, l =>
    match isP [47, 62] (l.dropWhile isBl) with
    | some r => some (⟨1, name, [], attrs, true⟩, r)
    | none => match isP [62] (l.dropWhile isBl) with
      | some r => some (⟨1, name, [], attrs, false⟩, r)
      | none => if (l.takeWhile isBl).length = 0 then none else
        match attrP attrs (l.dropWhile isBl) with
        | none => none
        | some (a, r) => openF f name (attrs ++ [a]) r
/-- the first piece, and what is behind it -/
def tokP (l : List UInt8) : Option (Tok × List UInt8) :=
  match isP [60, 47] l with
  | some l1 => if !nameOk (l1.takeWhile isWi) then none else (isP [62] ((l1.dropWhile isWi).dropWhile isBl)).map fun r => (⟨2, l1.takeWhile isWi, [], [], false⟩, r)
  | none => match isP [60] l with
    | some l1 => if !nameOk (l1.takeWhile isWi) then none else openF (l1.length + 1) (l1.takeWhile isWi) [] (l1.dropWhile isWi)
    | none => (valV (l.takeWhile fun c => decide (c.toNat ≠ 60))).map fun v => (⟨3, [], v, [], false⟩, l.dropWhile fun c => decide (c.toNat ≠ 60))
def toksF : Nat → List UInt8 → Option (List Tok)
  | _, [] => some []
  | 0, _ :: _ => none
  | f + 1, c :: r => match tokP (c :: r) with
    | none => none
    | some (t, rest) => (toksF f rest).map (t :: ·)
def toksV (l : List UInt8) : Option (List Tok) := toksF l.length l
/-- the line that may stand ahead of all -/
def prologL : List UInt8 := [60, 63, 120, 109, 108, 32, 118, 101, 114, 115, 105, 111, 110, 61, 34, 49, 46, 48, 34, 32, 101, 110, 99, 111, 100, 105, 110, 103, 61, 34, 85, 84, 70, 45, 56, 34, 63, 62]
def bodyL (l : List UInt8) : List UInt8 := (isP prologL l).getD l
def tokE (l : List UInt8) : Int := if 4096 < l.length then 4 else if !utf8B l then 7 else if (toksV (bodyL l)).isSome then 0 else 9
def tokL (l : List UInt8) : List Tok := if tokE l = 0 then (toksV (bodyL l)).getD [] else []
end Go.Proofs.YtdgfpjekahpggaaGreatDoor
/- The tree of tokens: plain functions on lists, no program. -/
namespace Go.Proofs.YtdgfpjekahpggaaGreatDoor
set_option linter.unusedVariables false

structure Nod where
  parent : Int
  name : List UInt8
  text : List UInt8
  attrs : List (List UInt8 × List UInt8)
/-- a tree that grows: its nodes, those that are open (the innermost one last), all texts of each, and whether they are more than blanks -/
structure Gro where
  l : List Nod
  opn : List Int
  txt : List (List UInt8)
  ink : List Bool
def blankB (s : List UInt8) : Bool := s.all isBl
def g0 : Gro := ⟨[], [], [], []⟩
def topG (g : Gro) : Int := (g.opn.getLast?).getD (-1)
def nameAt (l : List Nod) (i : Int) : List UInt8 := ((l[i.toNat]?).map (·.name)).getD []
/-- what a token is answered -/
def takeE (g : Gro) (t : Tok) : Int :=
  if t.kind = 1 then (if t.name = [] then 9 else if topG g < 0 ∧ 0 < g.l.length then 10 else if 32 ≤ g.opn.length then 11 else if 500 ≤ g.l.length then 4 else 0)
  else if t.kind = 2 then (if topG g < 0 ∨ nameAt g.l (topG g) ≠ t.name then 10 else 0)
  else if t.kind = 3 then (if topG g < 0 ∧ ¬ blankB t.text = true then 10 else 0)
  else 9
/-- and what it leaves -/
def takeS (g : Gro) (t : Tok) : Gro :=
  if t.kind = 1 then ⟨g.l ++ [⟨topG g, t.name, [], t.attrs⟩], if t.empty then g.opn else g.opn ++ [(g.l.length : Int)], g.txt ++ [[]], g.ink ++ [false]⟩
  else if t.kind = 2 then { g with opn := g.opn.dropLast }
  else if topG g < 0 then g
  else { g with txt := g.txt.set (topG g).toNat ((g.txt[(topG g).toNat]?).getD [] ++ t.text), ink := g.ink.set (topG g).toNat ((g.ink[(topG g).toNat]?).getD false || !blankB t.text) }
def runE : Gro → List Tok → Int
  | _, [] => 0
  | g, t :: r => if takeE g t = 0 then runE (takeS g t) r else takeE g t
def runS : Gro → List Tok → Gro
  | g, [] => g
  | g, t :: r => runS (takeS g t) r
/-- the places of the nodes of a parent -/
def kidsF (l : List Nod) (i : Int) : Nat → List Nat
  | 0 => []
  | k + 1 => kidsF l i k ++ (if (l[k]?).map (·.parent) = some i then [k] else [])
def kidsL (l : List Nod) (i : Int) : List Nat := if 0 ≤ i ∧ i < (l.length : Int) then kidsF l i l.length else []
/-- with their texts -/
def endF (g : Gro) : Nat → List Nod → List Nod
  | _, [] => []
  | i, n :: r => (if kidsL g.l i = [] then { n with text := (g.txt[i]?).getD [] } else n) :: endF g (i + 1) r
def mixF (g : Gro) : Nat → Bool
  | 0 => false
  | k + 1 => mixF g k || (!(kidsL g.l k).isEmpty && (g.ink[k]?).getD false)
def endE (g : Gro) : Int := if g.l = [] ∨ g.opn ≠ [] then 10 else if mixF g g.l.length then 12 else 0
def buildE (ts : List Tok) : Int := if runE g0 ts = 0 then endE (runS g0 ts) else runE g0 ts
def buildL (ts : List Tok) : List Nod := if buildE ts = 0 then endF (runS g0 ts) 0 (runS g0 ts).l else []
def parseE (s : List UInt8) : Int := if tokE s = 0 then buildE (tokL s) else tokE s
def parseL (s : List UInt8) : List Nod := if tokE s = 0 then buildL (tokL s) else []

/-! ### what always holds of a tree that grows -/
structure Okg (g : Gro) : Prop where
  txt : g.txt.length = g.l.length
  ink : g.ink.length = g.l.length
  opn : ∀ k ∈ g.opn, 0 ≤ k ∧ k < (g.l.length : Int)
  top : g.l.length ≤ 500
  deep : g.opn.length ≤ 32
theorem ok0 : Okg g0 := ⟨rfl, rfl, (fun k h => by cases h), by decide, by decide⟩
theorem top_cases (g : Gro) (h : Okg g) : (g.opn = [] ∧ topG g = -1) ∨ (∃ (k : Nat) (r : List Int), g.opn = r ++ [(k : Int)] ∧ topG g = (k : Int) ∧ k < g.l.length) := by
  rcases List.eq_nil_or_concat g.opn with h0 | ⟨r, x, h1⟩
  · exact .inl ⟨h0, by unfold topG; rw [h0]; rfl⟩
  · right
    rw [List.concat_eq_append] at h1
    have hx := h.opn x (by rw [h1]; simp)
    obtain ⟨k, rfl⟩ := Int.eq_ofNat_of_zero_le hx.1
    refine ⟨k, r, h1, ?_, by omega⟩
    unfold topG
    rw [h1]
    simp
theorem ok_take {g : Gro} {t : Tok} (h : Okg g) (he : takeE g t = 0) : Okg (takeS g t) := by
  have hc := top_cases g h
  unfold takeE at he
  unfold takeS
  split
  · rename_i hk
    rw [if_pos hk] at he
    split at he
    · cases he
    split at he
    · cases he
    split at he
    · cases he
    split at he
    · cases he
    refine ⟨by simp [h.txt], by simp [h.ink], ?_, by simp; omega, ?_⟩
    · intro k hk
      simp only at hk ⊢
      split at hk
      · have := h.opn k hk; simp; omega
      · rcases List.mem_append.1 hk with hk | hk
        · have := h.opn k hk; simp; omega
        · simp at hk; subst hk; simp; omega
    · simp only
      split
      · exact h.deep
      · simp; omega
  split
  · refine ⟨h.txt, h.ink, fun k hk => h.opn k (List.dropLast_subset _ hk), h.top, by simp only [List.length_dropLast]; have := h.deep; omega⟩
  split
  · exact h
  · exact ⟨by simpa using h.txt, by simpa using h.ink, h.opn, h.top, h.deep⟩
theorem kidsF_in (l : List Nod) (i : Int) : ∀ (n k : Nat), k ∈ kidsF l i n ↔ k < n ∧ (l[k]?).map (·.parent) = some i
  | 0, k => by simp [kidsF]
  | n + 1, k => by
    have ih := kidsF_in l i n k
    unfold kidsF
    rw [List.mem_append, ih]
    by_cases hp : (l[n]?).map (·.parent) = some i
    · rw [if_pos hp, List.mem_singleton]
      constructor
      · rintro (⟨h1, h2⟩ | rfl)
        · exact ⟨by omega, h2⟩
        · exact ⟨by omega, hp⟩
      · rintro ⟨h1, h2⟩
        rcases Nat.lt_or_ge k n with h3 | h3
        · exact .inl ⟨h3, h2⟩
        · exact .inr (by omega)
    · rw [if_neg hp]
      constructor
      · rintro (⟨h1, h2⟩ | h)
        · exact ⟨by omega, h2⟩
        · cases h
      · rintro ⟨h1, h2⟩
        rcases Nat.lt_or_ge k n with h3 | h3
        · exact .inl ⟨h3, h2⟩
        · obtain rfl : k = n := by omega
          exact absurd h2 hp
theorem kidsF_len (l : List Nod) (i : Int) : ∀ n, (kidsF l i n).length ≤ n
  | 0 => Nat.le_refl _
  | n + 1 => by
    have := kidsF_len l i n
    unfold kidsF
    rw [List.length_append]
    split <;> simp <;> omega
theorem endF_len (g : Gro) : ∀ (l : List Nod) (i : Nat), (endF g i l).length = l.length
  | [], _ => rfl
  | n :: r, i => by
    unfold endF
    rw [List.length_cons, List.length_cons, endF_len g r]
end Go.Proofs.YtdgfpjekahpggaaGreatDoor
/- The tree of tokens as the program builds it: each element with its texts, and whether there are elements in it; plain functions on lists, no program. -/
namespace Go.Proofs.YtdgfpjekahpggaaGreatDoor
set_option linter.unusedVariables false

structure Elm where
  nod : Nod
  txt : List UInt8
  fil : Bool
structure Pst where
  E : List Elm
  opn : List Int
def toG (p : Pst) : Gro := ⟨p.E.map (·.nod), p.opn, p.E.map (·.txt), p.E.map (fun e => !blankB e.txt)⟩
def p0 : Pst := ⟨[], []⟩
def topP (p : Pst) : Int := (p.opn.getLast?).getD (-1)
theorem topP_eq (p : Pst) : topP p = topG (toG p) := rfl
/-- the parent has elements in it -/
def filE (E : List Elm) (i : Int) : List Elm := if i < 0 then E else E.modify i.toNat (fun e => { e with fil := true })
def newE (i : Int) (t : Tok) : Elm := ⟨⟨i, t.name, [], t.attrs⟩, [], false⟩
def stepP (p : Pst) (t : Tok) : Pst :=
  if t.kind = 1 then ⟨filE p.E (topP p) ++ [newE (topP p) t], if t.empty then p.opn else p.opn ++ [(p.E.length : Int)]⟩
  else if t.kind = 2 then { p with opn := p.opn.dropLast }
  else if topP p < 0 then p
  else { p with E := p.E.modify (topP p).toNat (fun e => { e with txt := e.txt ++ t.text }) }
theorem fil_nod (E : List Elm) (i : Int) : (filE E i).map (·.nod) = E.map (·.nod) := by
  unfold filE
  split
  · rfl
  · apply List.ext_getElem?
    intro k
    simp only [List.getElem?_map, List.getElem?_modify]
    cases E[k]? with
    | none => rfl
    | some e => simp only [Option.map_some]; split <;> rfl
theorem fil_txt (E : List Elm) (i : Int) : (filE E i).map (·.txt) = E.map (·.txt) := by
  unfold filE
  split
  · rfl
  · apply List.ext_getElem?
    intro k
    simp only [List.getElem?_map, List.getElem?_modify]
    cases E[k]? with
    | none => rfl
    | some e => simp only [Option.map_some]; split <;> rfl
theorem fil_len (E : List Elm) (i : Int) : (filE E i).length = E.length := by
  unfold filE
  split <;> simp
theorem map_txt (E : List Elm) : E.map (fun e => !blankB e.txt) = (E.map (·.txt)).map (fun s => !blankB s) := by simp
theorem blank_app (a b : List UInt8) : blankB (a ++ b) = (blankB a && blankB b) := by unfold blankB; rw [List.all_append]
theorem toG_step (p : Pst) (t : Tok) (h : takeE (toG p) t = 0) : toG (stepP p t) = takeS (toG p) t := by
  unfold stepP takeS
  rw [← topP_eq]
  split
  · rename_i hk
    unfold toG
    simp only [List.map_append, fil_nod, map_txt, fil_txt, List.map_cons, List.map_nil, newE, List.length_map]
    rfl
  · split
    · rfl
    · split
      · rfl
      · rename_i h1 h2 h3
        have e1 : ∀ (E : List Elm) (n : Nat), (E.modify n (fun e => { e with txt := e.txt ++ t.text })).map (·.nod) = E.map (·.nod) := by
          intro E n
          apply List.ext_getElem?
          intro k
          simp only [List.getElem?_map, List.getElem?_modify]
          cases E[k]? with
          | none => rfl
          | some e => simp only [Option.map_some]; split <;> rfl
        have e2 : ∀ (E : List Elm) (n : Nat), (E.modify n (fun e => { e with txt := e.txt ++ t.text })).map (·.txt) = (E.map (·.txt)).set n (((E.map (·.txt))[n]?).getD [] ++ t.text) := by
          intro E n
          apply List.ext_getElem?
          intro k
          simp only [List.getElem?_map, List.getElem?_modify, List.getElem?_set, List.length_map]
          by_cases hk : n = k
          · subst hk
            simp only [if_true]
            by_cases hn : n < E.length
            · rw [List.getElem?_eq_getElem hn, if_pos hn]
              rfl
            · rw [List.getElem?_eq_none (by omega), if_neg hn]
              rfl
          · simp only [if_neg hk]
            cases E[k]? <;> rfl
        have e3 : ∀ (l : List (List UInt8)) (n : Nat), (l.set n ((l[n]?).getD [] ++ t.text)).map (fun s => !blankB s) = (l.map (fun s => !blankB s)).set n (((l.map (fun s => !blankB s))[n]?).getD false || !blankB t.text) := by
          intro l n
          rw [List.map_set, List.getElem?_map]
          by_cases hn : n < l.length
          · rw [List.getElem?_eq_getElem hn]
            simp only [Option.getD_some, Option.map_some, blank_app, Bool.not_and]
          · rw [List.set_eq_of_length_le (by simp; omega), List.set_eq_of_length_le (by simp; omega)]
        unfold toG
        simp only [e1, map_txt, e2, e3]

/-- fil tells whether there are kids -/
def FilOk (p : Pst) : Prop := ∀ k (h : k < p.E.length), p.E[k].fil = true ↔ kidsL (p.E.map (·.nod)) (k : Int) ≠ []
theorem kids_in (l : List Nod) (k : Nat) (hk : k < l.length) : kidsL l (k : Int) ≠ [] ↔ ∃ j, j < l.length ∧ (l[j]?).map (·.parent) = some (k : Int) := by
  unfold kidsL
  rw [if_pos (by omega)]
  constructor
  · intro h
    obtain ⟨j, hj⟩ := List.exists_mem_of_ne_nil _ h
    exact ⟨j, (kidsF_in l _ _ j).1 hj⟩
  · rintro ⟨j, hj⟩ h
    have := (kidsF_in l (k : Int) l.length j).2 hj
    rw [h] at this
    cases this
theorem fil_p0 : FilOk p0 := fun k h => by simp [p0] at h
theorem nod_parent (p : Pst) (j : Nat) : ((p.E.map (·.nod))[j]?).map (·.parent) = (p.E[j]?).map (·.nod.parent) := by
  rw [List.getElem?_map, Option.map_map]
  rfl
/-- each parent is above nothing that comes -/
def ParOk (p : Pst) : Prop := (∀ j (h : j < p.E.length), p.E[j].nod.parent < (j : Int)) ∧ (∀ k ∈ p.opn, 0 ≤ k ∧ k < (p.E.length : Int))
theorem par_p0 : ParOk p0 := ⟨fun j h => by simp [p0] at h, fun k h => by simp [p0] at h⟩
theorem topP_lt {p : Pst} (h : ParOk p) : topP p < (p.E.length : Int) ∧ -1 ≤ topP p := by
  unfold topP
  cases hl : p.opn.getLast? with
  | none => simp; omega
  | some x =>
    have := h.2 x (List.mem_of_getLast? hl)
    simp
    omega
theorem fil_at (E : List Elm) (i : Int) (k : Nat) (h : k < (filE E i).length) (h' : k < E.length) : (filE E i)[k] = if i = (k : Int) then { E[k] with fil := true } else E[k] := by
  by_cases hi : i < 0
  · have e : filE E i = E := if_pos hi
    simp only [e]
    rw [if_neg (by omega)]
  · have e : filE E i = E.modify i.toNat (fun e => { e with fil := true }) := if_neg hi
    simp only [e, List.getElem_modify]
    by_cases hk : i = (k : Int)
    · rw [if_pos hk, if_pos (by omega)]
    · rw [if_neg hk, if_neg (by omega)]
theorem mod_txt (E : List Elm) (n : Nat) (t : List UInt8) (k : Nat) (h : k < (E.modify n (fun e => { e with txt := e.txt ++ t })).length) (h' : k < E.length) : (E.modify n (fun e => { e with txt := e.txt ++ t }))[k].nod = E[k].nod ∧ (E.modify n (fun e => { e with txt := e.txt ++ t }))[k].fil = E[k].fil := by
  simp only [List.getElem_modify]
  split <;> exact ⟨rfl, rfl⟩
theorem par_step {p : Pst} {t : Tok} (h : ParOk p) : ParOk (stepP p t) := by
  have ht := topP_lt h
  unfold stepP
  split
  · refine ⟨fun j hj => ?_, fun k hk => ?_⟩
    · simp only [List.getElem_append, fil_len]
      split
      · rename_i hj'
        rw [fil_at _ _ _ (by rw [fil_len]; exact hj') hj']
        have := h.1 j hj'
        split <;> exact this
      · rename_i hj'
        simp [fil_len] at hj
        have : j = p.E.length := by omega
        subst this
        simp [newE]
        omega
    · simp only [List.length_append, fil_len, List.length_cons, List.length_nil]
      simp only at hk
      split at hk
      · have := h.2 k hk; omega
      · rcases List.mem_append.1 hk with hk | hk
        · have := h.2 k hk; omega
        · simp at hk; omega
  split
  · exact ⟨h.1, fun k hk => h.2 k (List.dropLast_subset _ hk)⟩
  split
  · exact h
  · refine ⟨fun j hj => ?_, fun k hk => ?_⟩
    · have hj' : j < p.E.length := by simpa using hj
      rw [(mod_txt _ _ _ _ hj hj').1]
      exact h.1 j hj'
    · have := h.2 k hk
      simpa using this
theorem fil_step {p : Pst} {t : Tok} (h : FilOk p) (hp : ParOk p) : FilOk (stepP p t) := by
  have ht := topP_lt hp
  have hp2 := par_step (t := t) hp
  unfold FilOk
  intro k hk
  rw [kids_in _ _ (by simpa using hk)]
  simp only [nod_parent, List.length_map]
  unfold stepP at hk hp2 ⊢
  split
  · rename_i hk1
    rw [if_pos hk1] at hk hp2
    simp only [List.length_append, fil_len, List.length_cons, List.length_nil] at hk ⊢
    have hpar : ∀ j, j < p.E.length → ((filE p.E (topP p) ++ [newE (topP p) t])[j]?).map (·.nod.parent) = (p.E[j]?).map (·.nod.parent) := by
      intro j hj
      rw [List.getElem?_append_left (by rw [fil_len]; exact hj), List.getElem?_eq_getElem (by rw [fil_len]; exact hj), List.getElem?_eq_getElem hj, fil_at _ _ _ (by rw [fil_len]; exact hj) hj]
      simp only [Option.map_some]
      split <;> rfl
    have hnew : ((filE p.E (topP p) ++ [newE (topP p) t])[p.E.length]?).map (·.nod.parent) = some (topP p) := by
      rw [List.getElem?_append_right (by rw [fil_len]; exact Nat.le_refl _), fil_len, Nat.sub_self]
      rfl
    by_cases hkl : k < p.E.length
    · have hh := h k hkl
      rw [kids_in _ _ (by simpa using hkl)] at hh
      simp only [nod_parent, List.length_map] at hh
      have e1 : (filE p.E (topP p) ++ [newE (topP p) t])[k]'(by simp [fil_len]; omega) = (filE p.E (topP p))[k]'(by rw [fil_len]; exact hkl) := List.getElem_append_left _
      rw [e1, fil_at _ _ _ (by rw [fil_len]; exact hkl) hkl]
      by_cases htk : topP p = (k : Int)
      · rw [if_pos htk]
        simp only [true_iff]
        exact ⟨p.E.length, by omega, by rw [hnew, htk]⟩
      · rw [if_neg htk, hh]
        constructor
        · rintro ⟨j, hj, e⟩
          exact ⟨j, by omega, by rw [hpar j hj, e]⟩
        · rintro ⟨j, hj, e⟩
          by_cases hj2 : j < p.E.length
          · exact ⟨j, hj2, by rw [← hpar j hj2, e]⟩
          · have : j = p.E.length := by omega
            subst this
            rw [hnew] at e
            injection e with e
            exact absurd e htk
    · have hke : k = p.E.length := by omega
      subst hke
      have e1 : (filE p.E (topP p) ++ [newE (topP p) t])[p.E.length]'(by simp [fil_len]) = newE (topP p) t := by
        rw [List.getElem_append_right (by rw [fil_len]; exact Nat.le_refl _)]
        simp [fil_len]
      rw [e1]
      have hnf : (newE (topP p) t).fil = false := rfl
      rw [hnf]
      simp only [Bool.false_eq_true, false_iff]
      rintro ⟨j, hj, e⟩
      by_cases hj2 : j < p.E.length
      · rw [hpar j hj2, List.getElem?_eq_getElem hj2] at e
        simp only [Option.map_some] at e
        injection e with e
        have := hp.1 j hj2
        omega
      · have : j = p.E.length := by omega
        subst this
        rw [hnew] at e
        injection e with e
        omega
  · rename_i hk1
    rw [if_neg hk1] at hk hp2
    split
    · rename_i hk2
      rw [if_pos hk2] at hk
      have hh := h k hk
      rw [kids_in _ _ (by simpa using hk)] at hh
      simpa only [nod_parent, List.length_map] using hh
    split
    · rename_i hk2 hk3
      rw [if_neg hk2, if_pos hk3] at hk
      have hh := h k hk
      rw [kids_in _ _ (by simpa using hk)] at hh
      simpa only [nod_parent, List.length_map] using hh
    · rename_i hk2 hk3
      rw [if_neg hk2, if_neg hk3] at hk
      simp only [List.length_modify] at hk ⊢
      have hh := h k hk
      rw [kids_in _ _ (by simpa using hk)] at hh
      simp only [nod_parent, List.length_map] at hh
      rw [(mod_txt _ _ _ _ (by simpa using hk) hk).2, hh]
      constructor
      · rintro ⟨j, hj, e⟩
        refine ⟨j, hj, ?_⟩
        rw [List.getElem?_eq_getElem (by simpa using hj), Option.map_some, (mod_txt _ _ _ _ (by simpa using hj) hj).1]
        rw [List.getElem?_eq_getElem hj] at e
        exact e
      · rintro ⟨j, hj, e⟩
        refine ⟨j, hj, ?_⟩
        rw [List.getElem?_eq_getElem (by simpa using hj), Option.map_some, (mod_txt _ _ _ _ (by simpa using hj) hj).1] at e
        rw [List.getElem?_eq_getElem hj]
        exact e

/-! ### the end -/
theorem mix_mono (g : Gro) : ∀ {k n : Nat}, k ≤ n → mixF g k = true → mixF g n = true := by
  intro k n h
  induction n with
  | zero => intro hk; rwa [show k = 0 from by omega] at hk
  | succ n ih =>
    intro hk
    rcases Nat.eq_or_lt_of_le h with e | h2
    · rwa [e] at hk
    · show (mixF g n || _) = true
      rw [ih (by omega) hk]
      rfl
theorem endF_at (g : Gro) : ∀ (l : List Nod) (i k : Nat), (endF g i l)[k]? = (l[k]?).map (fun n => if kidsL g.l ((i + k : Nat) : Int) = [] then { n with text := (g.txt[i + k]?).getD [] } else n)
  | [], _, _ => rfl
  | n :: r, i, 0 => by simp [endF]
  | n :: r, i, k + 1 => by
    unfold endF
    rw [List.getElem?_cons_succ, endF_at g r (i + 1) k, List.getElem?_cons_succ, show i + 1 + k = i + (k + 1) from by omega]
/-- a node as it comes out -/
def outN (e : Elm) : Nod := if e.fil then e.nod else { e.nod with text := e.txt }
theorem end_out {p : Pst} (hf : FilOk p) : endF (toG p) 0 (toG p).l = p.E.map outN := by
  apply List.ext_getElem?
  intro k
  rw [endF_at]
  show ((p.E.map (·.nod))[k]?).map _ = (p.E.map outN)[k]?
  rw [List.getElem?_map, List.getElem?_map]
  by_cases hk : k < p.E.length
  · rw [List.getElem?_eq_getElem hk]
    simp only [Option.map_some, Nat.zero_add]
    have h := hf k hk
    show some (if kidsL (p.E.map (·.nod)) (k : Int) = [] then { p.E[k].nod with text := ((p.E.map (·.txt))[k]?).getD [] } else p.E[k].nod) = _
    rw [List.getElem?_map, List.getElem?_eq_getElem hk]
    unfold outN
    by_cases he : kidsL (p.E.map (·.nod)) (k : Int) = []
    · have : p.E[k].fil = false := by
        cases hb : p.E[k].fil with
        | false => rfl
        | true => exact absurd he (h.1 hb)
      rw [if_pos he, this]
      rfl
    · rw [if_neg he, h.2 he]
      rfl
  · rw [List.getElem?_eq_none (l := p.E) (by omega)]
    rfl
/-- text beside elements, up to there -/
def mixP (E : List Elm) (k : Nat) : Bool := (E.take k).any (fun e => e.fil && !blankB e.txt)
theorem mix_eq {p : Pst} (hf : FilOk p) : ∀ k, k ≤ p.E.length → mixF (toG p) k = mixP p.E k
  | 0, _ => rfl
  | k + 1, hk => by
    have hkl : k < p.E.length := by omega
    show (mixF (toG p) k || _) = _
    rw [mix_eq hf k (by omega)]
    unfold mixP
    rw [List.take_succ_eq_append_getElem hkl, List.any_append, List.any_cons, List.any_nil, Bool.or_false]
    congr 1
    show (!(kidsL (p.E.map (·.nod)) (k : Int)).isEmpty && ((p.E.map (fun e => !blankB e.txt))[k]?).getD false) = _
    rw [List.getElem?_map, List.getElem?_eq_getElem hkl]
    congr 1
    have h := hf k hkl
    cases hb : p.E[k].fil with
    | true => have := h.1 hb; simpa using this
    | false =>
      have : kidsL (p.E.map (·.nod)) (k : Int) = [] := by
        by_cases he : kidsL (p.E.map (·.nod)) (k : Int) = []
        · exact he
        · rw [h.2 he] at hb; cases hb
      rw [this]; rfl

/-- how much text there is -/
def sumT (ts : List Tok) : Nat := (ts.map (fun t => t.text.length)).sum
theorem sumT_app (a b : List Tok) : sumT (a ++ b) = sumT a + sumT b := by unfold sumT; simp
theorem sumT_one (t : Tok) : sumT [t] = t.text.length := by simp [sumT]
theorem sumT_take (ts : List Tok) (k : Nat) : sumT (ts.take k) ≤ sumT ts := by
  have h := sumT_app (ts.take k) (ts.drop k)
  rw [List.take_append_drop] at h
  omega
end Go.Proofs.YtdgfpjekahpggaaGreatDoor
/- How a tree stands: each node behind its parent, what has kids has no text, each but the first is the kid of just one: plain functions on lists, no program. -/
namespace Go.Proofs.YtdgfpjekahpggaaGreatDoor
set_option linter.unusedVariables false

structure StdL (l : List Nod) : Prop where
  nm : ∀ n ∈ l, n.name ≠ []
  par : ∀ k (h : k < l.length), (k = 0 → l[k].parent = -1) ∧ (0 < k → 0 ≤ l[k].parent ∧ l[k].parent < (k : Int))
structure StdG (g : Gro) : Prop where
  std : StdL g.l
  tx : ∀ n ∈ g.l, n.text = []
theorem std0 : StdG g0 := ⟨⟨fun n h => (List.not_mem_nil h).elim, fun k h => absurd h (Nat.not_lt_zero _)⟩, fun n h => (List.not_mem_nil h).elim⟩
theorem std_take {g : Gro} {t : Tok} (ho : Okg g) (h : StdG g) (he : takeE g t = 0) : StdG (takeS g t) := by
  have hc := top_cases g ho
  unfold takeE at he
  unfold takeS
  split
  · rename_i hk
    rw [if_pos hk] at he
    split at he
    · cases he
    rename_i hname
    split at he
    · cases he
    rename_i htop
    refine ⟨⟨fun n hn => ?_, fun k hkl => ?_⟩, fun n hn => ?_⟩
    · rcases List.mem_append.1 hn with hn | hn
      · exact h.std.nm n hn
      · simp at hn; subst hn; exact hname
    · simp only [List.length_append, List.length_cons, List.length_nil] at hkl
      rcases Nat.lt_or_ge k g.l.length with hlt | hge
      · rw [List.getElem_append_left hlt]
        exact h.std.par k hlt
      · have hke : k = g.l.length := by omega
        subst hke
        rw [List.getElem_append_right (Nat.le_refl _)]
        simp only [Nat.sub_self, List.getElem_cons_zero]
        rcases hc with ⟨h1, h2⟩ | ⟨j, r, h1, h2, h3⟩
        · rw [h2] at htop ⊢
          refine ⟨fun _ => rfl, fun hpos => ?_⟩
          exact absurd ⟨by decide, hpos⟩ htop
        · rw [h2]
          exact ⟨fun h0 => by omega, fun hpos => ⟨by omega, by omega⟩⟩
    · rcases List.mem_append.1 hn with hn | hn
      · exact h.tx n hn
      · simp at hn; subst hn; rfl
  split
  · exact ⟨h.std, h.tx⟩
  split
  · exact h
  · exact ⟨h.std, h.tx⟩
theorem run_std : ∀ (ts : List Tok) (g : Gro), Okg g → StdG g → runE g ts = 0 → Okg (runS g ts) ∧ StdG (runS g ts)
  | [], g, h1, h2, _ => ⟨h1, h2⟩
  | t :: r, g, h1, h2, he => by
    unfold runE at he
    split at he
    · rename_i h0
      exact run_std r (takeS g t) (ok_take h1 h0) (std_take h1 h2 h0) he
    · rename_i h0; exact absurd he h0

/-- the same parents: the same kids -/
theorem kidsF_par (i : Int) {l m : List Nod} (h : l.map (·.parent) = m.map (·.parent)) : ∀ n, kidsF l i n = kidsF m i n
  | 0 => rfl
  | n + 1 => by
    have e : (l[n]?).map (·.parent) = (m[n]?).map (·.parent) := by rw [← List.getElem?_map, ← List.getElem?_map, h]
    unfold kidsF
    rw [kidsF_par i h n, e]
theorem kidsL_par {l m : List Nod} (h : l.map (·.parent) = m.map (·.parent)) (i : Int) : kidsL l i = kidsL m i := by
  have hl : l.length = m.length := by have := congrArg List.length h; simpa using this
  unfold kidsL
  rw [hl, kidsF_par i h]
theorem endF_par (g : Gro) : ∀ (l : List Nod) (i : Nat), (endF g i l).map (·.parent) = l.map (·.parent)
  | [], _ => rfl
  | n :: r, i => by
    unfold endF
    rw [List.map_cons, List.map_cons, endF_par g r]
    split <;> rfl
theorem endF_name (g : Gro) : ∀ (l : List Nod) (i : Nat), (endF g i l).map (·.name) = l.map (·.name)
  | [], _ => rfl
  | n :: r, i => by
    unfold endF
    rw [List.map_cons, List.map_cons, endF_name g r]
    split <;> rfl
theorem endF_get (g : Gro) : ∀ (l : List Nod) (i k : Nat), (endF g i l)[k]? = (l[k]?).map (fun n => if kidsL g.l ((i + k : Nat) : Int) = [] then { n with text := (g.txt[i + k]?).getD [] } else n)
  | [], _, _ => rfl
  | n :: r, i, 0 => by simp [endF]
  | n :: r, i, k + 1 => by
    unfold endF
    rw [List.getElem?_cons_succ, endF_get g r (i + 1) k, List.getElem?_cons_succ, show i + 1 + k = i + (k + 1) from by omega]

/-! ### kids of all places -/
def allK (l : List Nod) (n m : Nat) : Nat := match n with
  | 0 => 0
  | k + 1 => allK l k m + (kidsF l (k : Int) m).length
theorem allK_step (l : List Nod) (m : Nat) (p : Int) (h : (l[m]?).map (·.parent) = some p) : ∀ n, allK l n (m + 1) = allK l n m + (if 0 ≤ p ∧ p < (n : Int) then 1 else 0)
  | 0 => by simp only [allK]; rw [if_neg (by omega)]
  | n + 1 => by
    have ih := allK_step l m p h n
    show allK l n (m + 1) + (kidsF l (n : Int) (m + 1)).length = _
    rw [ih]
    show _ + (kidsF l (n : Int) m ++ _).length = allK l n m + (kidsF l (n : Int) m).length + _
    rw [h, List.length_append]
    by_cases e : p = (n : Int)
    · subst e
      rw [if_pos rfl, if_neg (by omega), if_pos (by omega), List.length_singleton]
      omega
    · have e2 : ¬ (some p = some (n : Int)) := by intro x; injection x with x; exact e x
      rw [if_neg e2, List.length_nil]
      by_cases h2 : 0 ≤ p ∧ p < (n : Int)
      · rw [if_pos h2, if_pos (by omega)]; omega
      · rw [if_neg h2, if_neg (by omega)]; omega
theorem allK_zero (l : List Nod) : ∀ n, allK l n 0 = 0
  | 0 => rfl
  | n + 1 => by show allK l n 0 + _ = 0; rw [allK_zero l n]; rfl
theorem allK_std {l : List Nod} (h : StdL l) : ∀ m, m ≤ l.length → allK l l.length m = m - 1
  | 0, _ => allK_zero l _
  | m + 1, hm => by
    have hml : m < l.length := by omega
    have hp := h.par m hml
    rw [allK_step l m l[m].parent (by rw [List.getElem?_eq_getElem hml]; rfl), allK_std h m (by omega)]
    rcases Nat.eq_zero_or_pos m with h0 | h0
    · subst h0
      rw [if_neg (by have := hp.1 rfl; omega)]
    · have := hp.2 h0
      rw [if_pos (by omega)]
      omega
/-- so many kids there are up to there -/
def sumK (l : List Nod) : Nat → Nat
  | 0 => 0
  | k + 1 => sumK l k + (kidsL l (k : Int)).length
theorem sumK_eq (l : List Nod) : ∀ n, n ≤ l.length → sumK l n = allK l n l.length
  | 0, _ => rfl
  | n + 1, h => by
    show sumK l n + _ = allK l n l.length + _
    rw [sumK_eq l n (by omega)]
    unfold kidsL
    rw [if_pos (by omega)]
theorem sumK_all {l : List Nod} (h : StdL l) : sumK l l.length = l.length - 1 := by
  rw [sumK_eq l _ (Nat.le_refl _), allK_std h _ (Nat.le_refl _)]
theorem sumK_le (l : List Nod) : ∀ n, sumK l n ≤ n * l.length
  | 0 => by simp [sumK]
  | n + 1 => by
    show sumK l n + _ ≤ _
    have h1 := sumK_le l n
    have h2 : (kidsL l (n : Int)).length ≤ l.length := by
      unfold kidsL
      split
      · exact kidsF_len l _ _
      · simp
    rw [Nat.succ_mul]
    omega

/-- a tree that comes out -/
structure Stands (l : List Nod) : Prop where
  std : StdL l
  some : l ≠ []
  kid : ∀ k (h : k < l.length), kidsL l (k : Int) ≠ [] → l[k].text = []
  top : l.length ≤ 500
theorem build_stands {ts : List Tok} (h : buildE ts = 0) : Stands (buildL ts) := by
  have hL : buildL ts = endF (runS g0 ts) 0 (runS g0 ts).l := by unfold buildL; rw [if_pos h]
  have hr : runE g0 ts = 0 ∧ endE (runS g0 ts) = 0 := by
    unfold buildE at h
    split at h
    · rename_i h0; exact ⟨h0, h⟩
    · rename_i h0; exact absurd h h0
  obtain ⟨hok, hst⟩ := run_std ts g0 ok0 std0 hr.1
  have he := hr.2
  rw [hL]
  generalize runS g0 ts = g at *
  have hne : g.l ≠ [] := by
    unfold endE at he
    split at he
    · cases he
    · rename_i hx; exact fun e => hx (.inl e)
  have hpar := endF_par g g.l 0
  have hname := endF_name g g.l 0
  have hlen := endF_len g g.l 0
  have hget := endF_get g g.l 0
  generalize endF g 0 g.l = L at *
  refine ⟨⟨fun n hn => ?_, fun k hk => ?_⟩, fun e => ?_, fun k hk hne2 => ?_, by rw [hlen]; exact hok.top⟩
  · have h1 : n.name ∈ L.map (·.name) := List.mem_map_of_mem hn
    rw [hname] at h1
    obtain ⟨m, hm, e⟩ := List.mem_map.1 h1
    rw [← e]
    exact hst.std.nm m hm
  · have hk2 : k < g.l.length := by omega
    have e : L[k].parent = g.l[k].parent := by
      have h1 : (L.map (·.parent))[k]? = (g.l.map (·.parent))[k]? := by rw [hpar]
      rw [List.getElem?_map, List.getElem?_map, List.getElem?_eq_getElem hk, List.getElem?_eq_getElem hk2] at h1
      simpa using h1
    rw [e]
    exact hst.std.par k hk2
  · rw [e] at hlen
    exact hne (List.eq_nil_of_length_eq_zero hlen.symm)
  · have hk2 : k < g.l.length := by omega
    have h1 := hget k
    rw [List.getElem?_eq_getElem hk, List.getElem?_eq_getElem hk2, Nat.zero_add, Option.map_some, if_neg (by rw [← kidsL_par hpar]; exact hne2)] at h1
    injection h1 with h1
    rw [h1]
    exact hst.tx _ (List.getElem_mem hk2)
theorem parse_stands {s : List UInt8} (h : parseE s = 0) : Stands (parseL s) := by
  unfold parseE at h
  unfold parseL
  split at h
  · rename_i h0
    rw [if_pos h0]
    exact build_stands h
  · rename_i h0; exact absurd h h0
theorem parse_none {s : List UInt8} (h : parseE s ≠ 0) : parseL s = [] := by
  unfold parseE at h
  unfold parseL
  split at h
  · rename_i h0
    rw [if_pos h0]
    unfold buildL
    rw [if_neg h]
  · rename_i h0
    rw [if_neg h0]
end Go.Proofs.YtdgfpjekahpggaaGreatDoor
/- What the tree makes of rows of Opens and Closes: plain functions on lists, no program. -/
namespace Go.Proofs.YtdgfpjekahpggaaGreatDoor
set_option linter.unusedVariables false

theorem runS_app : ∀ (a b : List Tok) (g : Gro), runS g (a ++ b) = runS (runS g a) b
  | [], _, _ => rfl
  | t :: a, b, g => runS_app a b (takeS g t)
theorem runE_app : ∀ (a b : List Tok) (g : Gro), runE g a = 0 → runE g (a ++ b) = runE (runS g a) b
  | [], _, _, _ => rfl
  | t :: a, b, g, h => by
    unfold runE at h
    split at h
    · rename_i h0
      show (if takeE g t = 0 then runE (takeS g t) (a ++ b) else takeE g t) = runE (runS (takeS g t) a) b
      rw [if_pos h0]
      exact runE_app a b (takeS g t) h
    · rename_i h0; exact absurd h h0
theorem runE_bad {t : Tok} {g : Gro} (r : List Tok) (h : takeE g t ≠ 0) : runE g (t :: r) = takeE g t := if_neg h
theorem runE_one {t : Tok} {g : Gro} : runE g [t] = takeE g t := by
  show (if takeE g t = 0 then 0 else takeE g t) = _
  split
  · rename_i h; rw [h]
  · rfl
theorem run_steps {a b : List Tok} {g g1 g2 : Gro} (h1 : runE g a = 0 ∧ runS g a = g1) (h2 : runE g1 b = 0 ∧ runS g1 b = g2) : runE g (a ++ b) = 0 ∧ runS g (a ++ b) = g2 :=
  ⟨by rw [runE_app _ _ _ h1.1, h1.2]; exact h2.1, by rw [runS_app, h1.2]; exact h2.2⟩
theorem run_bad {a b : List Tok} {g g1 : Gro} {E : Int} (h1 : runE g a = 0 ∧ runS g a = g1) (h2 : runE g1 b = E) : runE g (a ++ b) = E := by
  rw [runE_app _ _ _ h1.1, h1.2]; exact h2
theorem run_one {t : Tok} {g g1 : Gro} (h : takeE g t = 0 ∧ takeS g t = g1) : runE g [t] = 0 ∧ runS g [t] = g1 := ⟨by rw [runE_one]; exact h.1, h.2⟩

def oA : Tok := ⟨1, [97], [], [], false⟩
def oB : Tok := ⟨1, [98], [], [], true⟩
def cA : Tok := ⟨2, [97], [], [], false⟩
def cB : Tok := ⟨2, [98], [], [], false⟩
def xT (t : List UInt8) : Tok := ⟨3, [], t, [], false⟩
def nodA (k : Nat) : List Nod := (List.range k).map (fun (i : Nat) => (⟨(i : Int) - 1, [97], [], []⟩ : Nod))
def ups (k : Nat) : List Int := (List.range k).map (fun (i : Nat) => (i : Int))
/-- so many are open, and so many more stand in the innermost one -/
def stM (k m : Nat) : Gro := ⟨nodA k ++ List.replicate m ⟨(k : Int) - 1, [98], [], []⟩, ups k, List.replicate (k + m) [], List.replicate (k + m) false⟩
theorem nodA_len (k : Nat) : (nodA k).length = k := by simp [nodA]
theorem ups_len (k : Nat) : (ups k).length = k := by simp [ups]
theorem ups_succ (k : Nat) : ups (k + 1) = ups k ++ [(k : Int)] := by unfold ups; rw [List.range_succ, List.map_append]; rfl
theorem nodA_succ (k : Nat) : nodA (k + 1) = nodA k ++ [⟨(k : Int) - 1, [97], [], []⟩] := by unfold nodA; rw [List.range_succ, List.map_append]; rfl
theorem nodA_get (k i : Nat) (h : i < k) : (nodA k)[i]? = some ⟨(i : Int) - 1, [97], [], []⟩ := by
  unfold nodA
  rw [List.getElem?_map, List.getElem?_range h]
  rfl
theorem top_ups (l : List Nod) (k : Nat) (x : List (List UInt8)) (y : List Bool) : topG ⟨l, ups k, x, y⟩ = (k : Int) - 1 := by
  unfold topG
  cases k with
  | zero => rfl
  | succ k =>
    simp only [ups_succ, List.getLast?_append, List.getLast?_singleton, Option.some_or, Option.getD_some]
    omega
theorem top_ups' {g : Gro} {k : Nat} (h : g.opn = ups k) : topG g = (k : Int) - 1 := by
  obtain ⟨l, o, x, y⟩ := g
  cases h
  exact top_ups l k x y
theorem opens_run : ∀ k, k ≤ 32 → runE g0 (List.replicate k oA) = 0 ∧ runS g0 (List.replicate k oA) = stM k 0
  | 0, _ => ⟨rfl, rfl⟩
  | k + 1, h => by
    rw [List.replicate_succ']
    refine run_steps (opens_run k (by omega)) (run_one ⟨?_, ?_⟩)
    · unfold takeE
      rw [top_ups' (g := stM k 0) rfl, if_pos (by rfl), if_neg (by simp [oA]), if_neg ?_, if_neg ?_, if_neg ?_]
      · show ¬ 500 ≤ (nodA k ++ _).length
        simp [nodA_len]; omega
      · show ¬ 32 ≤ (ups k).length
        rw [ups_len]; omega
      · show ¬ (_ ∧ 0 < (nodA k ++ _).length)
        simp only [List.length_append, nodA_len, List.replicate_zero, List.length_nil]
        omega
    · unfold takeS
      rw [top_ups' (g := stM k 0) rfl, if_pos (by rfl)]
      show Gro.mk _ _ _ _ = _
      unfold stM
      simp only [List.replicate_zero, List.append_nil, Nat.add_zero, nodA_succ, ups_succ, nodA_len, oA, Bool.false_eq_true, if_false, List.replicate_succ' (n := k)]
theorem opens_deep {k : Nat} (h : 32 < k) (r : List Tok) : runE g0 (List.replicate k oA ++ r) = 11 := by
  obtain ⟨j, rfl⟩ : ∃ j, k = 32 + (j + 1) := ⟨k - 33, by omega⟩
  rw [← List.replicate_append_replicate, List.append_assoc]
  refine run_bad (opens_run 32 (Nat.le_refl _)) ?_
  rw [List.replicate_succ, List.cons_append]
  have e : takeE (stM 32 0) oA = 11 := by
    unfold takeE
    rw [top_ups' (g := stM 32 0) rfl, if_pos (by rfl), if_neg (by simp [oA]), if_neg (by omega), if_pos ?_]
    show 32 ≤ (ups 32).length
    rw [ups_len]; exact Nat.le_refl _
  rw [runE_bad _ (by rw [e]; decide), e]
theorem take_b (k m : Nat) (h1 : 1 ≤ k) (h2 : k < 32) (h3 : k + m < 500) : takeE (stM k m) oB = 0 ∧ takeS (stM k m) oB = stM k (m + 1) := by
  constructor
  · unfold takeE
    rw [top_ups' (g := stM k m) rfl, if_pos (by rfl), if_neg (by simp [oB]), if_neg (by omega), if_neg ?_, if_neg ?_]
    · show ¬ 500 ≤ (nodA k ++ _).length
      simp [nodA_len]; omega
    · show ¬ 32 ≤ (ups k).length
      rw [ups_len]; omega
  · unfold takeS
    rw [top_ups' (g := stM k m) rfl, if_pos (by rfl)]
    show Gro.mk _ _ _ _ = _
    unfold stM
    simp only [oB, if_true, List.append_assoc, ← List.replicate_succ', ← Nat.add_assoc]
theorem empties_run (k : Nat) (h1 : 1 ≤ k) (h2 : k < 32) : ∀ m, k + m ≤ 500 → runE (stM k 0) (List.replicate m oB) = 0 ∧ runS (stM k 0) (List.replicate m oB) = stM k m
  | 0, _ => ⟨rfl, rfl⟩
  | m + 1, h => by
    rw [List.replicate_succ']
    exact run_steps (empties_run k h1 h2 m (by omega)) (run_one (take_b k m h1 h2 (by omega)))
theorem take_full (k m : Nat) (h1 : 1 ≤ k) (h2 : k < 32) (h3 : k + m = 500) : takeE (stM k m) oB = 4 := by
  unfold takeE
  rw [top_ups' (g := stM k m) rfl, if_pos (by rfl), if_neg (by simp [oB]), if_neg (by omega), if_neg ?_, if_pos ?_]
  · show 500 ≤ (nodA k ++ _).length
    simp [nodA_len]; omega
  · show ¬ 32 ≤ (ups k).length
    rw [ups_len]; omega
theorem take_c {g : Gro} {k : Nat} (h : g.opn = ups (k + 1)) (hn : nameAt g.l (k : Int) = [97]) : takeE g cA = 0 ∧ takeS g cA = { g with opn := ups k } := by
  have ht := top_ups' h
  have e : ((k + 1 : Nat) : Int) - 1 = (k : Int) := by omega
  rw [e] at ht
  constructor
  · unfold takeE
    rw [ht, if_neg (by simp [cA]), if_pos (by rfl), if_neg]
    rintro (h1 | h1)
    · omega
    · exact h1 (by rw [hn]; rfl)
  · unfold takeS
    rw [if_neg (by simp [cA]), if_pos (by rfl), h, ups_succ, List.dropLast_concat]
theorem closes_run {g : Gro} : ∀ (c k : Nat), g.opn = ups (k + c) → (∀ i, i < k + c → nameAt g.l (i : Int) = [97]) → runE g (List.replicate c cA) = 0 ∧ runS g (List.replicate c cA) = { g with opn := ups k }
  | 0, k, h, _ => ⟨rfl, by
      obtain ⟨l, o, x, y⟩ := g
      cases h
      rfl⟩
  | c + 1, k, h, hn => by
    have e := take_c (g := g) (k := k + c) (by rw [h]; rfl) (hn _ (by omega))
    rw [List.replicate_succ]
    have ih := closes_run (g := { g with opn := ups (k + c) }) c k rfl (fun i hi => hn i (by omega))
    exact run_steps (a := [cA]) (run_one e) ih
theorem name_stM (k m i : Nat) (h : i < k) : nameAt (stM k m).l (i : Int) = [97] := by
  unfold nameAt stM
  rw [Int.toNat_natCast, List.getElem?_append_left (by rw [nodA_len]; exact h), nodA_get _ _ h]
  rfl
theorem par_stM (k m i : Nat) : ((stM k m).l[i]?).map (·.parent) = if i < k then some ((i : Int) - 1) else if i < k + m then some ((k : Int) - 1) else none := by
  unfold stM
  by_cases h : i < k
  · rw [if_pos h, List.getElem?_append_left (by rw [nodA_len]; exact h), nodA_get _ _ h]
    rfl
  · rw [if_neg h, List.getElem?_append_right (by rw [nodA_len]; omega), nodA_len, List.getElem?_replicate]
    by_cases h2 : i < k + m
    · rw [if_pos h2, if_pos (by omega)]
      rfl
    · rw [if_neg h2, if_neg (by omega)]
      rfl
theorem len_stM (k m : Nat) : (stM k m).l.length = k + m := by simp [stM, nodA_len]

theorem mix_no {g : Gro} : ∀ (n : Nat), (∀ (j : Nat), j < n → kidsL g.l (j : Int) = [] ∨ (g.ink[j]?).getD false = false) → mixF g n = false
  | 0, _ => rfl
  | n + 1, h => by
    show (mixF g n || _) = false
    rw [mix_no n (fun j hj => h j (by omega)), Bool.false_or]
    rcases h n (by omega) with e | e
    · rw [e]; rfl
    · rw [e, Bool.and_false]
theorem mix_yes {g : Gro} {j : Nat} (h1 : kidsL g.l (j : Int) ≠ []) (h2 : (g.ink[j]?).getD false = true) : ∀ (n : Nat), j < n → mixF g n = true
  | 0, h => absurd h (Nat.not_lt_zero _)
  | n + 1, h => by
    show (mixF g n || _) = true
    rcases Nat.lt_or_ge j n with h3 | h3
    · rw [mix_yes h1 h2 n h3]; rfl
    · obtain rfl : j = n := by omega
      rw [h2, Bool.and_true]
      cases hk : kidsL g.l (j : Int) with
      | nil => exact absurd hk h1
      | cons a b => exact Bool.or_true _
/-- kids: which -/
theorem kids_mem (l : List Nod) (i k : Nat) (h : i < l.length) : k ∈ kidsL l (i : Int) ↔ (l[k]?).map (·.parent) = some (i : Int) := by
  unfold kidsL
  rw [if_pos (by omega), kidsF_in]
  constructor
  · exact fun h => h.2
  · intro h2
    refine ⟨?_, h2⟩
    rcases Nat.lt_or_ge k l.length with h3 | h3
    · exact h3
    · rw [List.getElem?_eq_none h3] at h2; cases h2
theorem kids_none (l : List Nod) (i : Nat) (h : i < l.length) (hn : ∀ (k : Nat), (l[k]?).map (fun (x : Nod) => x.parent) ≠ some (i : Int)) : kidsL l (i : Int) = [] := by
  cases hk : kidsL l (i : Int) with
  | nil => rfl
  | cons a b =>
    have := (kids_mem l i a h).1 (by rw [hk]; simp)
    exact absurd this (hn a)
theorem kids_some {l : List Nod} {i k : Nat} (h : i < l.length) (hk : (l[k]?).map (·.parent) = some (i : Int)) : kidsL l (i : Int) ≠ [] := by
  intro e
  have := (kids_mem l i k h).2 hk
  rw [e] at this
  cases this
/-- how many kids the innermost one has -/
theorem kidsF_stM (k m : Nat) (h1 : 1 ≤ k) : ∀ n, n ≤ k + m → (kidsF (stM k m).l ((k : Int) - 1) n).length = n - k
  | 0, _ => by simp [kidsF]
  | n + 1, h => by
    unfold kidsF
    rw [List.length_append, kidsF_stM k m h1 n (by omega), par_stM]
    by_cases hn : n < k
    · rw [if_pos hn, if_neg (by intro e; injection e with e; omega)]
      simp; omega
    · have h2 : n < k + m := h
      rw [if_neg hn, if_pos h2, if_pos (by rfl)]
      simp; omega
theorem kids_stM (k m : Nat) (h1 : 1 ≤ k) : (kidsL (stM k m).l ((k : Int) - 1)).length = m := by
  unfold kidsL
  rw [if_pos (by rw [len_stM]; omega), len_stM, kidsF_stM k m h1 _ (Nat.le_refl _)]
  omega
theorem buildE_of {ts : List Tok} {g : Gro} (h : runE g0 ts = 0 ∧ runS g0 ts = g) : buildE ts = endE g ∧ (endE g = 0 → buildL ts = endF g 0 g.l) := by
  have e : buildE ts = endE g := by unfold buildE; rw [if_pos h.1, h.2]
  exact ⟨e, fun h0 => by unfold buildL; rw [if_pos (by rw [e]; exact h0), h.2]⟩
theorem buildE_bad {ts : List Tok} {E : Int} (h : runE g0 ts = E) (hE : E ≠ 0) : buildE ts = E ∧ buildL ts = [] := by
  have e : buildE ts = E := by unfold buildE; rw [if_neg (by rw [h]; exact hE), h]
  exact ⟨e, by unfold buildL; rw [if_neg (by rw [e]; exact hE)]⟩

/-! ### so many, and no more -/
def manyT (d m : Nat) : List Tok := List.replicate d oA ++ List.replicate m oB ++ List.replicate d cA
theorem many_ok (d m : Nat) (h1 : 1 ≤ d) (h2 : d < 32) (h3 : d + m ≤ 500) (h4 : 1 ≤ m) :
    buildE (manyT d m) = 0 ∧ (buildL (manyT d m)).length = d + m ∧ (kidsL (buildL (manyT d m)) ((d : Int) - 1)).length = m ∧ ((buildL (manyT d m))[d + m - 1]?).map (·.parent) = some ((d : Int) - 1) := by
  have hr : runE g0 (manyT d m) = 0 ∧ runS g0 (manyT d m) = { stM d m with opn := [] } :=
    run_steps (run_steps (opens_run d (by omega)) (empties_run d h1 h2 m h3)) (closes_run (g := stM d m) d 0 (by rw [Nat.zero_add]; rfl) (fun i hi => name_stM d m i (by omega)))
  obtain ⟨e1, e2⟩ := buildE_of hr
  have he : endE { stM d m with opn := [] } = 0 := by
    unfold endE
    rw [if_neg, mix_no]
    · rfl
    · intro j hj
      right
      show ((List.replicate (d + m) false)[j]?).getD false = false
      rw [List.getElem?_replicate]
      split <;> rfl
    · rintro (h | h)
      · have := congrArg List.length h
        rw [len_stM] at this
        simp at this
        omega
      · exact h rfl
  have hL := e2 he
  have hp := endF_par { stM d m with opn := [] } (stM d m).l 0
  refine ⟨by rw [e1, he], ?_, ?_, ?_⟩
  · rw [hL, endF_len, len_stM]
  · rw [hL, kidsL_par hp, kids_stM d m h1]
  · rw [hL, ← List.getElem?_map, hp, List.getElem?_map, par_stM, if_neg (by omega), if_pos (by omega)]
theorem many_big (d m : Nat) (h1 : 1 ≤ d) (h2 : d < 32) (h3 : d + m = 501) : buildE (manyT d m) = 4 ∧ buildL (manyT d m) = [] := by
  refine buildE_bad ?_ (by decide)
  obtain ⟨j, rfl⟩ : ∃ j, m = j + 1 := ⟨m - 1, by omega⟩
  unfold manyT
  rw [List.replicate_succ', ← List.append_assoc, List.append_assoc]
  refine run_bad (run_steps (opens_run d (by omega)) (empties_run d h1 h2 j (by omega))) ?_
  have e := take_full d j h1 h2 (by omega)
  rw [List.singleton_append, runE_bad _ (by rw [e]; decide), e]

/-! ### so deep, and no deeper -/
/-- a text where k are open, m more in the innermost one -/
def stT (k m : Nat) (t : List UInt8) (b : Bool) : Gro := { stM k m with txt := (List.replicate (k + m) []).set (k - 1) t, ink := (List.replicate (k + m) false).set (k - 1) b }
theorem take_x (k m : Nat) (h1 : 1 ≤ k) (t : List UInt8) : takeE (stM k m) (xT t) = 0 ∧ takeS (stM k m) (xT t) = stT k m t (!blankB t) := by
  have ht := top_ups' (g := stM k m) (k := k) rfl
  constructor
  · unfold takeE
    rw [ht, if_neg (by simp [xT]), if_neg (by simp [xT]), if_pos (by rfl), if_neg (by omega)]
  · unfold takeS
    rw [ht, if_neg (by simp [xT]), if_neg (by simp [xT]), if_neg (by omega)]
    have e : ((k : Int) - 1).toNat = k - 1 := by omega
    rw [e]
    unfold stT
    have e1 : ((stM k m).txt[k - 1]?).getD [] = [] := by
      show ((List.replicate (k + m) [])[k - 1]?).getD [] = []
      rw [List.getElem?_replicate]
      split <;> rfl
    have e2 : ((stM k m).ink[k - 1]?).getD false = false := by
      show ((List.replicate (k + m) false)[k - 1]?).getD false = false
      rw [List.getElem?_replicate]
      split <;> rfl
    rw [e1, e2]
    rfl
theorem closes_T (k m : Nat) (t : List UInt8) (b : Bool) (c : Nat) (hc : c ≤ k) : runE (stT k m t b) (List.replicate c cA) = 0 ∧ runS (stT k m t b) (List.replicate c cA) = { stT k m t b with opn := ups (k - c) } :=
  closes_run (g := stT k m t b) c (k - c) (by rw [Nat.sub_add_cancel hc]; rfl) (fun i hi => name_stM k m i (by omega))
theorem closes_M (k m : Nat) (c : Nat) (hc : c ≤ k) : runE (stM k m) (List.replicate c cA) = 0 ∧ runS (stM k m) (List.replicate c cA) = { stM k m with opn := ups (k - c) } :=
  closes_run (g := stM k m) c (k - c) (by rw [Nat.sub_add_cancel hc]; rfl) (fun i hi => name_stM k m i (by omega))
theorem top_nil {g : Gro} (h : g.opn = []) : topG g = -1 := by unfold topG; rw [h]; rfl
theorem take_out {g : Gro} (h : g.opn = []) {t : List UInt8} (hb : blankB t = true) : takeE g (xT t) = 0 ∧ takeS g (xT t) = g := by
  have ht := top_nil h
  constructor
  · unfold takeE
    rw [ht, if_neg (by simp [xT]), if_neg (by simp [xT]), if_pos (by rfl), if_neg (fun x => x.2 hb)]
  · unfold takeS
    rw [ht, if_neg (by simp [xT]), if_neg (by simp [xT]), if_pos (by decide)]
theorem take_out_no {g : Gro} (h : g.opn = []) {t : List UInt8} (hb : blankB t = false) : takeE g (xT t) = 10 := by
  have ht := top_nil h
  unfold takeE
  rw [ht, if_neg (by simp [xT]), if_neg (by simp [xT]), if_pos (by rfl), if_pos ⟨by decide, by show ¬ blankB t = true; rw [hb]; decide⟩]
theorem end_T (k : Nat) (h1 : 1 ≤ k) (t : List UInt8) (b : Bool) : endE { stT k 0 t b with opn := [] } = 0 ∧ (endF { stT k 0 t b with opn := [] } 0 (stM k 0).l).length = k ∧ ((endF { stT k 0 t b with opn := [] } 0 (stM k 0).l)[k - 1]?).map (·.text) = some t := by
  have hlast : kidsL (stM k 0).l ((k - 1 : Nat) : Int) = [] := kids_none _ _ (by rw [len_stM]; omega) (fun i e => by
    rw [par_stM] at e
    split at e
    · injection e with e; omega
    · split at e
      · omega
      · cases e)
  refine ⟨?_, by rw [endF_len, len_stM]; rfl, ?_⟩
  · unfold endE
    rw [if_neg, mix_no]
    · rfl
    · intro j hj
      have hj2 : j < k := by
        have : (stM k 0).l.length = k := by rw [len_stM]; rfl
        have hj3 : j < (stM k 0).l.length := hj
        omega
      by_cases hk : j = k - 1
      · left
        rw [hk]
        exact hlast
      · right
        show (((List.replicate (k + 0) false).set (k - 1) b)[j]?).getD false = false
        rw [List.getElem?_set_ne (by omega), List.getElem?_replicate]
        split <;> rfl
    · rintro (h | h)
      · have h2 : (stM k 0).l = [] := h
        have := congrArg List.length h2
        rw [len_stM] at this
        simp at this
        omega
      · exact h rfl
  · rw [endF_get, Option.map_map]
    have hl : k - 1 < (stM k 0).l.length := by rw [len_stM]; omega
    rw [List.getElem?_eq_getElem hl]
    simp only [Option.map_some, Nat.zero_add, Function.comp]
    have h3 : kidsL ({ stT k 0 t b with opn := [] } : Gro).l ((k - 1 : Nat) : Int) = [] := hlast
    rw [if_pos h3]
    show some ((((List.replicate (k + 0) []).set (k - 1) t)[k - 1]?).getD []) = some t
    rw [List.getElem?_set_self (by simp; omega)]
    rfl
/-- a text in the innermost one -/
def deepT (n : Nat) (t : List UInt8) : List Tok := List.replicate n oA ++ [xT t] ++ List.replicate n cA
theorem deep_run (n : Nat) (h1 : 1 ≤ n) (h2 : n ≤ 32) (t : List UInt8) : runE g0 (deepT n t) = 0 ∧ runS g0 (deepT n t) = { stT n 0 t (!blankB t) with opn := [] } := by
  have h := run_steps (run_steps (opens_run n h2) (run_one (take_x n 0 h1 t))) (closes_T n 0 t (!blankB t) n (Nat.le_refl _))
  rw [Nat.sub_self] at h
  exact h
theorem deep_ok (n : Nat) (h1 : 1 ≤ n) (h2 : n ≤ 32) (t : List UInt8) : buildE (deepT n t) = 0 ∧ (buildL (deepT n t)).length = n ∧ ((buildL (deepT n t))[n - 1]?).map (·.text) = some t := by
  obtain ⟨e1, e2⟩ := buildE_of (deep_run n h1 h2 t)
  obtain ⟨a1, a2, a3⟩ := end_T n h1 t (!blankB t)
  refine ⟨by rw [e1, a1], ?_, ?_⟩
  · rw [e2 a1]; exact a2
  · rw [e2 a1]; exact a3
theorem blank_ok (n : Nat) (h1 : 1 ≤ n) (h2 : n ≤ 32) (t a b : List UInt8) (ha : blankB a = true) (hb : blankB b = true) :
    buildE ([xT a] ++ deepT n t ++ [xT b]) = 0 ∧ (buildL ([xT a] ++ deepT n t ++ [xT b])).length = n ∧ ((buildL ([xT a] ++ deepT n t ++ [xT b]))[n - 1]?).map (·.text) = some t := by
  have hr := run_steps (run_steps (run_one (take_out (g := g0) rfl ha)) (deep_run n h1 h2 t)) (run_one (take_out rfl hb))
  obtain ⟨e1, e2⟩ := buildE_of hr
  obtain ⟨a1, a2, a3⟩ := end_T n h1 t (!blankB t)
  refine ⟨by rw [e1, a1], ?_, ?_⟩
  · rw [e2 a1]; exact a2
  · rw [e2 a1]; exact a3
theorem deep_no (n : Nat) (h : 32 < n) (t : List UInt8) : buildE (deepT n t) = 11 ∧ buildL (deepT n t) = [] := by
  refine buildE_bad ?_ (by decide)
  unfold deepT
  rw [List.append_assoc]
  exact opens_deep h _
theorem few_no (n : Nat) (h1 : 1 ≤ n) (h2 : n ≤ 32) : buildE (List.replicate n oA ++ List.replicate (n - 1) cA) = 10 := by
  have hr := run_steps (opens_run n h2) (closes_M n 0 (n - 1) (by omega))
  rw [(buildE_of hr).1]
  unfold endE
  rw [if_pos]
  right
  show ups (n - (n - 1)) ≠ []
  rw [show n - (n - 1) = 1 from by omega]
  decide
theorem full_run (n : Nat) (h2 : n ≤ 32) : runE g0 (List.replicate n oA ++ List.replicate n cA) = 0 ∧ runS g0 (List.replicate n oA ++ List.replicate n cA) = { stM n 0 with opn := [] } := by
  have h := run_steps (opens_run n h2) (closes_M n 0 n (Nat.le_refl _))
  rw [Nat.sub_self] at h
  exact h
theorem more_no (n : Nat) (h2 : n ≤ 32) : buildE (List.replicate n oA ++ List.replicate n cA ++ [cA]) = 10 := by
  refine (buildE_bad (run_bad (full_run n h2) ?_) (by decide)).1
  rw [runE_one]
  unfold takeE
  rw [top_nil rfl, if_neg (by simp [cA]), if_pos (by rfl), if_pos (.inl (by decide))]
theorem second_no (n : Nat) (h1 : 1 ≤ n) (h2 : n ≤ 32) : buildE (List.replicate n oA ++ List.replicate n cA ++ [oB]) = 10 := by
  refine (buildE_bad (run_bad (full_run n h2) ?_) (by decide)).1
  rw [runE_one]
  unfold takeE
  rw [top_nil rfl, if_pos (by rfl), if_neg (by simp [oB]), if_pos]
  refine ⟨by decide, ?_⟩
  show 0 < (stM n 0).l.length
  rw [len_stM]; omega
theorem text_no (n : Nat) (h2 : n ≤ 32) : buildE (List.replicate n oA ++ List.replicate n cA ++ [xT [120]]) = 10 := by
  refine (buildE_bad (run_bad (full_run n h2) ?_) (by decide)).1
  rw [runE_one]
  exact take_out_no rfl (by decide)
theorem other_no (n : Nat) (h1 : 1 ≤ n) (h2 : n ≤ 32) : buildE (List.replicate n oA ++ List.replicate (n - 1) cA ++ [cB]) = 10 := by
  refine (buildE_bad (run_bad (run_steps (opens_run n h2) (closes_M n 0 (n - 1) (by omega))) ?_) (by decide)).1
  rw [runE_one]
  unfold takeE
  rw [top_ups' (k := 1) (by show ups (n - (n - 1)) = ups 1; rw [show n - (n - 1) = 1 from by omega]), if_neg (by simp [cB]), if_pos (by rfl), if_pos]
  right
  have := name_stM n 0 0 (by omega)
  show nameAt (stM n 0).l (((1 : Nat) : Int) - 1) ≠ [98]
  rw [show (((1 : Nat) : Int) - 1) = ((0 : Nat) : Int) from rfl, this]
  decide
theorem mixed_no (n : Nat) (h1 : 1 ≤ n) (h2 : n < 32) : buildE (List.replicate n oA ++ [oB] ++ [xT [120]] ++ List.replicate n cA) = 12 := by
  have hr := run_steps (run_steps (run_steps (opens_run n (by omega)) (run_one (take_b n 0 h1 h2 (by omega)))) (run_one (take_x n 1 h1 [120]))) (closes_T n 1 [120] (!blankB [120]) n (Nat.le_refl _))
  rw [(buildE_of hr).1]
  unfold endE
  rw [if_neg, if_pos]
  · refine mix_yes (j := n - 1) ?_ ?_ _ ?_
    · refine kids_some (k := n) (by show n - 1 < (stM n 1).l.length; rw [len_stM]; omega) ?_
      show ((stM n 1).l[n]?).map (·.parent) = _
      rw [par_stM, if_neg (by omega), if_pos (by omega)]
      congr 1
      omega
    · show (((List.replicate (n + 1) false).set (n - 1) (!blankB [120]))[n - 1]?).getD false = true
      rw [List.getElem?_set_self (by simp; omega)]
      rfl
    · show n - 1 < (stM n 1).l.length
      rw [len_stM]; omega
  · rintro (h | h)
    · have h3 : (stM n 1).l = [] := h
      have := congrArg List.length h3
      rw [len_stM] at this
      simp at this
    · apply h
      show ups (n - n) = []
      rw [Nat.sub_self]
      rfl
end Go.Proofs.YtdgfpjekahpggaaGreatDoor
/- What the tree makes of texts in one element, with elements between them, or without: plain functions on lists, no program. -/
namespace Go.Proofs.YtdgfpjekahpggaaGreatDoor
set_option linter.unusedVariables false

def kidN (kids : Bool) (i : Nat) : Nat := if kids then i else 0
def stX (kids : Bool) (i : Nat) (c : List UInt8) (k : Bool) : Gro :=
  ⟨⟨-1, [97], [], []⟩ :: List.replicate (kidN kids i) ⟨0, [98], [], []⟩, [0], c :: List.replicate (kidN kids i) [], k :: List.replicate (kidN kids i) false⟩
def textT (kids : Bool) (t : List UInt8) : List Tok := xT t :: (if kids then [oB] else [])
def textsT (kids : Bool) (txs : List (List UInt8)) : List Tok := txs.flatMap (textT kids)
def inkL (txs : List (List UInt8)) : Bool := txs.any (fun t => !blankB t)
theorem top_stX (kids : Bool) (i : Nat) (c : List UInt8) (k : Bool) : topG (stX kids i c k) = 0 := rfl
theorem take_xX (kids : Bool) (i : Nat) (c t : List UInt8) (k : Bool) : takeE (stX kids i c k) (xT t) = 0 ∧ takeS (stX kids i c k) (xT t) = stX kids i (c ++ t) (k || !blankB t) := by
  constructor
  · unfold takeE
    rw [top_stX, if_neg (by simp [xT]), if_neg (by simp [xT]), if_pos (by rfl), if_neg (by omega)]
  · unfold takeS
    rw [top_stX, if_neg (by simp [xT]), if_neg (by simp [xT]), if_neg (by omega)]
    rfl
theorem len_stX (kids : Bool) (i : Nat) (c : List UInt8) (k : Bool) : (stX kids i c k).l.length = 1 + kidN kids i := by simp [stX]; omega
theorem take_bX (i : Nat) (c : List UInt8) (k : Bool) (h : i < 400) : takeE (stX true i c k) oB = 0 ∧ takeS (stX true i c k) oB = stX true (i + 1) c k := by
  constructor
  · unfold takeE
    rw [top_stX, if_pos (by rfl), if_neg (by simp [oB]), if_neg (by omega), if_neg ?_, if_neg ?_]
    · rw [len_stX]
      show ¬ 500 ≤ 1 + i
      omega
    · show ¬ 32 ≤ 1
      omega
  · unfold takeS
    rw [top_stX, if_pos (by rfl)]
    show Gro.mk _ _ _ _ = stX true (i + 1) c k
    unfold stX
    simp only [oB, if_true, List.cons_append, kidN, List.replicate_succ']
theorem texts_run (kids : Bool) : ∀ (txs : List (List UInt8)) (i : Nat) (c : List UInt8) (k : Bool), i + txs.length ≤ 400 → runE (stX kids i c k) (textsT kids txs) = 0 ∧ runS (stX kids i c k) (textsT kids txs) = stX kids (i + txs.length) (c ++ txs.flatten) (k || inkL txs)
  | [], i, c, k, _ => ⟨rfl, by show stX kids i c k = _; simp [inkL]⟩
  | t :: r, i, c, k, h => by
    simp only [List.length_cons] at h
    have ih := texts_run kids r (i + 1) (c ++ t) (k || !blankB t) (by omega)
    have e : textsT kids (t :: r) = textT kids t ++ textsT kids r := rfl
    have h1 : runE (stX kids i c k) (textT kids t) = 0 ∧ runS (stX kids i c k) (textT kids t) = stX kids (i + 1) (c ++ t) (k || !blankB t) := by
      cases kids with
      | false => exact run_one (take_xX false i c t k)
      | true => exact run_steps (a := [xT t]) (b := [oB]) (run_one (take_xX true i c t k)) (run_one (take_bX i _ _ (by omega)))
    rw [e]
    have h2 := run_steps h1 ih
    refine ⟨h2.1, h2.2.trans ?_⟩
    rw [List.length_cons, List.flatten_cons, List.append_assoc, show i + 1 + r.length = i + (r.length + 1) from by omega]
    congr 1
    simp [inkL, Bool.or_assoc]
def inT (kids : Bool) (txs : List (List UInt8)) : List Tok := oA :: textsT kids txs ++ [cA]
theorem in_run (kids : Bool) (txs : List (List UInt8)) (h : txs.length ≤ 400) : runE g0 (inT kids txs) = 0 ∧ runS g0 (inT kids txs) = { stX kids txs.length txs.flatten (inkL txs) with opn := [] } := by
  have h1 : runE g0 [oA] = 0 ∧ runS g0 [oA] = stX kids 0 [] false := by cases kids <;> exact ⟨rfl, rfl⟩
  have h2 := texts_run kids txs 0 [] false (by omega)
  rw [Nat.zero_add, List.nil_append, Bool.false_or] at h2
  have h3 := take_c (g := stX kids txs.length txs.flatten (inkL txs)) (k := 0) rfl rfl
  have h4 := run_steps (run_steps h1 h2) (run_one h3)
  exact h4
theorem parX (kids : Bool) (i : Nat) (c : List UInt8) (k : Bool) (j : Nat) : ((stX kids i c k).l[j]?).map (·.parent) = if j = 0 then some (-1) else if j < 1 + kidN kids i then some 0 else none := by
  unfold stX
  cases j with
  | zero => rfl
  | succ j =>
    rw [List.getElem?_cons_succ, List.getElem?_replicate, if_neg (show ¬ j + 1 = 0 by omega)]
    by_cases h : j < kidN kids i
    · rw [if_pos h, if_pos (by omega)]; rfl
    · rw [if_neg h, if_neg (by omega)]; rfl
theorem kidsX (kids : Bool) (i : Nat) (c : List UInt8) (k : Bool) (j : Nat) (h : j < 1 + kidN kids i) : kidsL (stX kids i c k).l (j : Int) = [] ↔ j ≠ 0 ∨ kidN kids i = 0 := by
  have hl := len_stX kids i c k
  constructor
  · intro e
    rcases Nat.eq_zero_or_pos j with h0 | h0
    · right
      rcases Nat.eq_zero_or_pos (kidN kids i) with h1 | h1
      · exact h1
      · exfalso
        refine kids_some (k := 1) (by rw [hl]; exact h) ?_ e
        rw [parX, if_neg (by decide), if_pos (by omega), h0]
        rfl
    · left; omega
  · intro h2
    refine kids_none _ _ (by rw [hl]; exact h) (fun m e => ?_)
    rw [parX] at e
    split at e
    · injection e with e; omega
    · split at e
      · injection e with e
        rename_i h3 h4
        rcases h2 with h2 | h2
        · omega
        · omega
      · cases e
theorem endX_no (kids : Bool) (n : Nat) (c : List UInt8) (b : Bool) (h : kidN kids n = 0 ∨ b = false) : endE { stX kids n c b with opn := [] } = 0 := by
  unfold endE
  rw [if_neg, mix_no]
  · rfl
  · intro j hj
    have hj2 : j < 1 + kidN kids n := by have := len_stX kids n c b; have h3 : j < (stX kids n c b).l.length := hj; omega
    rcases Nat.eq_zero_or_pos j with h0 | h0
    · rcases h with h | h
      · left
        exact (kidsX kids n c b j hj2).2 (.inr h)
      · right
        subst h0 h
        rfl
    · left
      exact (kidsX kids n c b j hj2).2 (.inl (by omega))
  · rintro (h | h)
    · cases h
    · exact h rfl
theorem texts_alone (kids : Bool) (txs : List (List UInt8)) (h : txs.length ≤ 400) (h0 : kidN kids txs.length = 0) : buildE (inT kids txs) = 0 ∧ buildL (inT kids txs) = [⟨-1, [97], txs.flatten, []⟩] := by
  obtain ⟨e1, e2⟩ := buildE_of (in_run kids txs h)
  have he := endX_no kids txs.length txs.flatten (inkL txs) (.inl h0)
  refine ⟨by rw [e1, he], ?_⟩
  rw [e2 he]
  have hk := (kidsX kids txs.length txs.flatten (inkL txs) 0 (by omega)).2 (.inr h0)
  have hl : (stX kids txs.length txs.flatten (inkL txs)).l = [⟨-1, [97], [], []⟩] := by unfold stX; rw [h0]; rfl
  show endF _ 0 (stX kids txs.length txs.flatten (inkL txs)).l = _
  rw [hl] at hk ⊢
  unfold endF
  have hk2 : kidsL ({ stX kids txs.length txs.flatten (inkL txs) with opn := [] } : Gro).l ((0 : Nat) : Int) = [] := by
    show kidsL (stX kids txs.length txs.flatten (inkL txs)).l _ = []
    rw [hl]; exact hk
  rw [if_pos hk2]
  rfl
theorem texts_blank (txs : List (List UInt8)) (h : txs.length ≤ 400) (h0 : txs ≠ []) (hb : inkL txs = false) : buildE (inT true txs) = 0 ∧ (buildL (inT true txs)).length = 1 + txs.length ∧ ((buildL (inT true txs))[0]?).map (·.text) = some [] := by
  obtain ⟨e1, e2⟩ := buildE_of (in_run true txs h)
  have he := endX_no true txs.length txs.flatten (inkL txs) (.inr hb)
  refine ⟨by rw [e1, he], ?_, ?_⟩
  · rw [e2 he, endF_len]
    show (stX true txs.length txs.flatten (inkL txs)).l.length = _
    rw [len_stX]
    rfl
  · rw [e2 he, endF_get, Option.map_map]
    have hk : kidsL ({ stX true txs.length txs.flatten (inkL txs) with opn := [] } : Gro).l (((0 + 0 : Nat)) : Int) ≠ [] := by
      intro e
      rcases (kidsX true txs.length txs.flatten (inkL txs) 0 (by omega)).1 e with h1 | h1
      · exact h1 rfl
      · have h2 : txs.length = 0 := h1
        exact h0 (List.eq_nil_of_length_eq_zero h2)
    show some _ = some _
    simp only [Function.comp]
    rw [if_neg hk]
theorem texts_mixed (txs : List (List UInt8)) (h : txs.length ≤ 400) (h0 : txs ≠ []) (hb : inkL txs = true) : buildE (inT true txs) = 12 := by
  rw [(buildE_of (in_run true txs h)).1]
  have hlen : 0 < txs.length := List.length_pos_iff.2 h0
  have hk : kidsL (stX true txs.length txs.flatten (inkL txs)).l (((0 : Nat)) : Int) ≠ [] := by
    intro e
    rcases (kidsX true txs.length txs.flatten (inkL txs) 0 (by omega)).1 e with h1 | h1
    · exact h1 rfl
    · have h2 : txs.length = 0 := h1
      omega
  unfold endE
  rw [if_neg, if_pos]
  · refine mix_yes (g := { stX true txs.length txs.flatten (inkL txs) with opn := [] }) (j := 0) hk ?_ _ ?_
    · show (some (inkL txs)).getD false = true
      rw [hb]; rfl
    · show 0 < (stX true txs.length txs.flatten (inkL txs)).l.length
      rw [len_stX]; omega
  · rintro (h | h)
    · cases h
    · exact h rfl
end Go.Proofs.YtdgfpjekahpggaaGreatDoor
