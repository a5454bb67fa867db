/- The texts DigMath2, TxtMath, joined. -/
import Derived.Test.YtpkalnkeafggjaaGreatDoorK04
import Derived.Test.YtpkalnkeafggjaaGreatDoorK01
/- What digits tell, and a number in so many digits, as plain functions: no program. -/
namespace Go.Proofs.YtpkalnkeafggjaaGreatDoor
set_option linter.unusedVariables false

theorem numV_snoc (l : List UInt8) (c : UInt8) : numV (l ++ [c]) = 10 * numV l + (half c).toNat := by simp [numV]
theorem numV_le {l : List UInt8} (h : l.all isD = true) : numV l + 1 ≤ 10 ^ l.length := by
  have hr : ∀ m : List UInt8, m.all isD = true → numV m.reverse + 1 ≤ 10 ^ m.length := by
    intro m
    induction m with
    | nil => intro _; simp [numV]
    | cons c m ih =>
      intro hm
      simp only [List.all_cons, Bool.and_eq_true] at hm
      have h1 := ih hm.2
      have h2 := half_digit hm.1
      have h3 := isD_true.1 hm.1
      rw [List.reverse_cons, numV_snoc, List.length_cons, Nat.pow_succ]
      omega
  have := hr l.reverse (by simpa using h)
  simpa using this

/-- what Number answers -/
def numR (l : List UInt8) : Nat := if rightB l 1 18 then numV l else 0
def numE (l : List UInt8) : Int := if rightB l 1 18 then 0 else 5
theorem rightB_len {l : List UInt8} {low top : Int} (h : rightB l low top = true) : low ≤ (l.length : Int) ∧ (l.length : Int) ≤ top ∧ l.all isD = true := by
  simpa [rightB] using h
theorem pow_le_18 {k : Nat} (h : k ≤ 17) : 10 ^ k ≤ 100000000000000000 := by
  have := Nat.pow_le_pow_right (n := 10) (by decide) h
  simpa using this
theorem dig_take {l : List UInt8} {p : UInt8 → Bool} (h : l.all p = true) (k : Nat) : (l.take k).all p = true := by
  rw [List.all_eq_true] at h ⊢
  exact fun x hx => h x (List.mem_of_mem_take hx)

def textE (v : Nat) (z : Int) : Int := if z < 1 ∨ 20 < z then 1 else if z < ((Lib.decDigits v).length : Int) then 4 else 0
/-- noughts ahead of the digits -/
def wide (v k : Nat) : List UInt8 := List.replicate k 48 ++ Lib.decDigits v
def textR (v : Nat) (z : Int) : List UInt8 := if textE v z = 0 then wide v (z.toNat - (Lib.decDigits v).length) else []
theorem text_cases (v : Nat) (z : Int) : (z < 1 ∧ textE v z = 1 ∧ textR v z = []) ∨ (20 < z ∧ textE v z = 1 ∧ textR v z = []) ∨ (1 ≤ z ∧ z ≤ 20 ∧ z < ((Lib.decDigits v).length : Int) ∧ textE v z = 4 ∧ textR v z = []) ∨
    ∃ m : Nat, z = ((Lib.decDigits v).length : Int) + (m : Int) ∧ 1 ≤ z ∧ z ≤ 20 ∧ textE v z = 0 ∧ textR v z = wide v m := by
  by_cases h1 : z < 1
  · have e : textE v z = 1 := by unfold textE; rw [if_pos (.inl h1)]
    exact .inl ⟨h1, e, by unfold textR; rw [e]; rfl⟩
  by_cases h2 : 20 < z
  · have e : textE v z = 1 := by unfold textE; rw [if_pos (.inr h2)]
    exact .inr (.inl ⟨h2, e, by unfold textR; rw [e]; rfl⟩)
  by_cases h3 : z < ((Lib.decDigits v).length : Int)
  · have e : textE v z = 4 := by unfold textE; rw [if_neg (by omega), if_pos h3]
    exact .inr (.inr (.inl ⟨by omega, by omega, h3, e, by unfold textR; rw [e]; rfl⟩))
  · have e : textE v z = 0 := by unfold textE; rw [if_neg (by omega), if_neg h3]
    refine .inr (.inr (.inr ⟨z.toNat - (Lib.decDigits v).length, by omega, by omega, by omega, e, ?_⟩))
    unfold textR
    rw [if_pos e]
theorem wide_length (v k : Nat) : (wide v k).length = k + (Lib.decDigits v).length := by simp [wide]


theorem half_of (d : Nat) (h : d < 10) : (half (UInt8.ofNat (48 + d))).toNat = d := by
  rw [half_digit (isD_mk (by rw [UInt8.toNat_ofNat']; omega) (by rw [UInt8.toNat_ofNat']; omega)), UInt8.toNat_ofNat']
  omega
theorem numV_dec (v : Nat) : numV (Lib.decDigits v) = v := by
  induction v using Nat.strongRecOn with
  | _ v ih =>
    rw [Lib.decDigits]
    split
    · rename_i h
      rw [show ([UInt8.ofNat (48 + v)] : List UInt8) = [] ++ [UInt8.ofNat (48 + v)] from rfl, numV_snoc, half_of v h]
      show 10 * 0 + v = v
      omega
    · rw [numV_snoc, ih (v / 10) (by omega), half_of _ (by omega)]
      omega
theorem dec_all (v : Nat) : (Lib.decDigits v).all isD = true := by
  induction v using Nat.strongRecOn with
  | _ v ih =>
    rw [Lib.decDigits]
    split
    · simp only [List.all_cons, List.all_nil, Bool.and_true]
      exact isD_mk (by rw [UInt8.toNat_ofNat']; omega) (by rw [UInt8.toNat_ofNat']; omega)
    · rw [List.all_append, ih (v / 10) (by omega)]
      simp only [List.all_cons, List.all_nil, Bool.and_true, Bool.true_and]
      exact isD_mk (by rw [UInt8.toNat_ofNat']; omega) (by rw [UInt8.toNat_ofNat']; omega)
theorem numV_wide (v m : Nat) : numV (wide v m) = v := by
  unfold wide
  induction m with
  | zero => exact numV_dec v
  | succ m ih =>
    rw [List.replicate_succ, List.cons_append]
    have h : numV (48 :: (List.replicate m 48 ++ Lib.decDigits v)) = numV (List.replicate m 48 ++ Lib.decDigits v) := rfl
    rw [h, ih]
theorem wide_all (v m : Nat) : (wide v m).all isD = true := by
  unfold wide
  rw [List.all_append, dec_all, Bool.and_true, List.all_eq_true]
  intro x hx
  rw [List.eq_of_mem_replicate hx]
  decide
theorem wide_number (v m : Nat) (h1 : 1 ≤ (wide v m).length) (h2 : (wide v m).length ≤ 18) : numR (wide v m) = v ∧ numE (wide v m) = 0 := by
  have hr : rightB (wide v m) 1 18 = true := by
    unfold rightB
    rw [wide_all, decide_eq_true (by omega), decide_eq_true (by omega)]
    rfl
  exact ⟨by unfold numR; rw [if_pos hr, numV_wide], by unfold numE; rw [if_pos hr]⟩

end Go.Proofs.YtpkalnkeafggjaaGreatDoor
/- Texts as rows of characters of one to four bytes: plain functions on lists of bytes, no program. -/
namespace Go.Proofs.YtpkalnkeafggjaaGreatDoor
set_option linter.unusedVariables false

/-- may the character stand in a text? -/
def charB (c : Nat) : Bool := decide (c = 9 ∨ c = 10 ∨ c = 13 ∨ (32 ≤ c ∧ c < 55296) ∨ (57343 < c ∧ c < 65534) ∨ (65535 < c ∧ c ≤ 1114111))
/-- does the byte carry a character on? -/
def contB (b : UInt8) : Bool := decide (128 ≤ b.toNat ∧ b.toNat < 192)
/-- what a first byte says: how many bytes, the least number, its own bits -/
def lead (x : Nat) : Option (Nat × Nat × Nat) :=
  if x < 128 then some (1, 0, x) else if 192 ≤ x ∧ x < 224 then some (2, 128, x % 32) else if 224 ≤ x ∧ x < 240 then some (3, 2048, x % 16) else if 240 ≤ x ∧ x < 248 then some (4, 65536, x % 8) else none
/-- k bytes that carry on -/
def tlB : Nat → List UInt8 → Nat → Option Nat
  | 0, _, c => some c
  | k + 1, b :: r, c => if contB b then tlB k r (c * 64 + b.toNat % 64) else none
  | _ + 1, [], _ => none
/-- n, if the number may be; else 0 -/
def finB (v : Option Nat) (n least : Nat) : Nat := match v with
  | none => 0
  | some v => if v < least then 0 else if charB v then n else 0
def sizeC (p : Option (Nat × Nat × Nat)) (r : List UInt8) : Nat := match p with
  | none => 0
  | some (n, least, c) => finB (tlB (n - 1) r c) n least
/-- how many bytes the first character has; 0: none that may be -/
def sizeB : List UInt8 → Nat
  | [] => 0
  | b :: r => sizeC (lead b.toNat) r
theorem sizeB_cons (b : UInt8) (r : List UInt8) : sizeB (b :: r) = sizeC (lead b.toNat) r := rfl
theorem sizeC_none (r : List UInt8) : sizeC none r = 0 := rfl
theorem sizeC_some (n least c : Nat) (r : List UInt8) : sizeC (some (n, least, c)) r = finB (tlB (n - 1) r c) n least := rfl
theorem finB_none (n least : Nat) : finB none n least = 0 := rfl
theorem finB_some (v n least : Nat) : finB (some v) n least = if v < least then 0 else if charB v then n else 0 := rfl
/-- how many characters; none: no text -/
def cntF : Nat → List UInt8 → Option Nat
  | _, [] => some 0
  | 0, _ :: _ => none
  | f + 1, b :: r => if sizeB (b :: r) = 0 then none else (cntF f ((b :: r).drop (sizeB (b :: r)))).map (· + 1)
def cnt (l : List UInt8) : Option Nat := cntF l.length l

theorem lead_some {x n least c : Nat} (h : lead x = some (n, least, c)) : 1 ≤ n ∧ n ≤ 4 ∧ ((n = 1 ∧ x < 128) ∨ (2 ≤ n ∧ 192 ≤ x)) := by
  unfold lead at h
  split at h
  · simp at h; omega
  · split at h
    · simp at h; omega
    · split at h
      · simp at h; omega
      · split at h
        · simp at h; omega
        · cases h
theorem tlB_len : ∀ (k : Nat) (r : List UInt8) (c v : Nat), tlB k r c = some v → k ≤ r.length
  | 0, _, _, _, _ => Nat.zero_le _
  | k + 1, [], _, _, h => by simp [tlB] at h
  | k + 1, b :: r, c, v, h => by
    unfold tlB at h
    split at h
    · have := tlB_len k r _ v h
      simp
      omega
    · cases h
theorem tlB_append : ∀ (k : Nat) (r m : List UInt8) (c : Nat), k ≤ r.length → tlB k (r ++ m) c = tlB k r c
  | 0, _, _, _, _ => by simp [tlB]
  | k + 1, [], _, _, h => by simp at h
  | k + 1, b :: r, m, c, h => by
    simp only [List.cons_append, tlB]
    rw [tlB_append k r m _ (by simpa using h)]
theorem sizeB_pos {l : List UInt8} (h : sizeB l ≠ 0) : sizeB l ≤ l.length ∧ sizeB l ≤ 4 ∧ l ≠ [] := by
  cases l with
  | nil => simp [sizeB] at h
  | cons b r =>
    rw [sizeB_cons] at h ⊢
    cases hl : lead b.toNat with
    | none => rw [hl] at h; simp [sizeC_none] at h
    | some p =>
      obtain ⟨n, least, c⟩ := p
      rw [hl, sizeC_some] at h
      rw [sizeC_some]
      obtain ⟨h1, h2, _⟩ := lead_some hl
      cases ht : tlB (n - 1) r c with
      | none => rw [ht] at h; simp [finB_none] at h
      | some v =>
        rw [finB_some]
        have := tlB_len _ _ _ _ ht
        split
        · simp
        · split
          · simp; omega
          · simp
theorem sizeB_append {l : List UInt8} (h : sizeB l ≠ 0) (m : List UInt8) : sizeB (l ++ m) = sizeB l := by
  cases l with
  | nil => simp [sizeB] at h
  | cons b r =>
    rw [List.cons_append]
    rw [sizeB_cons] at h
    rw [sizeB_cons, sizeB_cons]
    cases hl : lead b.toNat with
    | none => rw [hl] at h; simp [sizeC_none] at h
    | some p =>
      obtain ⟨n, least, c⟩ := p
      rw [hl, sizeC_some] at h
      rw [sizeC_some, sizeC_some]
      cases ht : tlB (n - 1) r c with
      | none => rw [ht] at h; simp [finB_none] at h
      | some v => rw [tlB_append _ _ _ _ (tlB_len _ _ _ _ ht), ht]
theorem cntF_enough : ∀ (f : Nat) (l : List UInt8), l.length ≤ f → cntF f l = cnt l := by
  have key : ∀ (f g : Nat) (l : List UInt8), l.length ≤ f → l.length ≤ g → cntF f l = cntF g l := by
    intro f
    induction f with
    | zero =>
      intro g l h1 h2
      have : l = [] := List.eq_nil_of_length_eq_zero (by omega)
      subst this
      cases g <;> rfl
    | succ f ih =>
      intro g l h1 h2
      cases l with
      | nil => cases g <;> rfl
      | cons b r =>
        cases g with
        | zero => simp at h2
        | succ g =>
          simp only [cntF]
          split
          · rfl
          · rename_i hs
            have := sizeB_pos hs
            rw [ih g _ (by rw [List.length_drop]; simp at h1 ⊢; omega) (by rw [List.length_drop]; simp at h2 ⊢; omega)]
  intro f l h
  exact key f l.length l h (Nat.le_refl _)
theorem cnt_nil : cnt [] = some 0 := rfl
theorem cnt_step {l : List UInt8} (h : l ≠ []) : cnt l = if sizeB l = 0 then none else (cnt (l.drop (sizeB l))).map (· + 1) := by
  cases l with
  | nil => exact absurd rfl h
  | cons b r =>
    unfold cnt
    rw [List.length_cons]
    simp only [cntF]
    split
    · rfl
    · rename_i hs
      have := sizeB_pos hs
      rw [cntF_enough _ _ (by rw [List.length_drop, List.length_cons]; omega)]
      rfl
/-- two texts, one behind the other -/
theorem cnt_append : ∀ (n : Nat) (a : List UInt8), a.length ≤ n → ∀ (x : Nat) (b : List UInt8), cnt a = some x → cnt (a ++ b) = (cnt b).map (x + ·) := by
  intro n
  induction n with
  | zero =>
    intro a h x b hx
    have : a = [] := List.eq_nil_of_length_eq_zero (by omega)
    subst this
    rw [cnt_nil] at hx
    injection hx with hx
    subst hx
    cases h : cnt b <;> simp [h]
  | succ n ih =>
    intro a h x b hx
    cases a with
    | nil =>
      rw [cnt_nil] at hx
      injection hx with hx
      subst hx
      cases h : cnt b <;> simp [h]
    | cons c r =>
      rw [cnt_step (by simp)] at hx
      split at hx
      · cases hx
      · rename_i hs
        obtain ⟨h1, _, _⟩ := sizeB_pos hs
        obtain ⟨y, hy, rfl⟩ := Option.map_eq_some_iff.1 hx
        have hne : (c :: r) ++ b ≠ [] := by simp
        rw [cnt_step hne, sizeB_append hs, if_neg hs, List.drop_append_of_le_length h1, ih _ (by rw [List.length_drop]; simp at h ⊢; omega) y b hy]
        cases cnt b <;> simp
        omega
theorem cnt_app {a b : List UInt8} {x : Nat} (h : cnt a = some x) : cnt (a ++ b) = (cnt b).map (x + ·) := cnt_append _ a (Nat.le_refl _) x b h
theorem cnt_le : ∀ (n : Nat) (a : List UInt8), a.length ≤ n → ∀ x, cnt a = some x → x ≤ a.length := by
  intro n
  induction n with
  | zero =>
    intro a h x hx
    have : a = [] := List.eq_nil_of_length_eq_zero (by omega)
    subst this
    rw [cnt_nil] at hx
    injection hx with hx
    omega
  | succ n ih =>
    intro a h x hx
    cases a with
    | nil =>
      rw [cnt_nil] at hx
      injection hx with hx
      omega
    | cons c r =>
      rw [cnt_step (by simp)] at hx
      split at hx
      · cases hx
      · rename_i hs
        obtain ⟨h1, _, _⟩ := sizeB_pos hs
        obtain ⟨y, hy, rfl⟩ := Option.map_eq_some_iff.1 hx
        have := ih _ (by rw [List.length_drop]; simp at h ⊢; omega) y hy
        rw [List.length_drop] at this
        simp at h1 this ⊢
        omega
/-- a byte that begins no character that goes on with x -/
theorem size_bad (d : UInt8) (r : List UInt8) (h : 128 ≤ d.toNat) : sizeB (d :: 120 :: r) = 0 := by
  rw [sizeB_cons]
  cases hl : lead d.toNat with
  | none => rfl
  | some p =>
    obtain ⟨n, least, c⟩ := p
    obtain ⟨h1, h2, h3⟩ := lead_some hl
    obtain ⟨k, hk⟩ : ∃ k, n - 1 = k + 1 := ⟨n - 2, by omega⟩
    rw [sizeC_some, hk]
    rfl
theorem cnt_bad {a : List UInt8} {x : Nat} (ha : cnt a = some x) (d : UInt8) (b : List UInt8) (h : 128 ≤ d.toNat) : cnt (a ++ (d :: 120 :: b)) = none := by
  rw [cnt_app ha, cnt_step (by simp), if_pos (size_bad d b h)]
  rfl
/-- one byte alone -/
theorem size_one (d : UInt8) : sizeB [d] = if d.toNat < 128 ∧ charB d.toNat = true then 1 else 0 := by
  rw [sizeB_cons]
  by_cases h : d.toNat < 128
  · have hl : lead d.toNat = some (1, 0, d.toNat) := by unfold lead; rw [if_pos h]
    rw [hl, sizeC_some]
    show finB (some d.toNat) 1 0 = _
    rw [finB_some, if_neg (by omega)]
    cases charB d.toNat <;> simp [h]
  · rw [if_neg (fun x => h x.1)]
    cases hl : lead d.toNat with
    | none => rfl
    | some p =>
      obtain ⟨n, least, c⟩ := p
      obtain ⟨h1, h2, h3⟩ := lead_some hl
      obtain ⟨k, hk⟩ : ∃ k, n - 1 = k + 1 := ⟨n - 2, by omega⟩
      rw [sizeC_some, hk]
      rfl
theorem cnt_one (d : UInt8) : cnt [d] = if d.toNat < 128 ∧ charB d.toNat = true then some 1 else none := by
  rw [cnt_step (by simp), size_one]
  split
  · rfl
  · rfl

/-! ### what is asked of texts -/
def utf8B (l : List UInt8) : Bool := (cnt l).isSome
def runesN (l : List UInt8) : Nat := (cnt l).getD 0
def lowest (l : List UInt8) : Bool := l.all fun b => decide (32 ≤ b.toNat)
def plainB (l : List UInt8) (low top : Int) : Bool :=
  lowest l && (utf8B l && (decide (low ≤ (runesN l : Int)) && (decide ((runesN l : Int) ≤ top) && (decide (l = []) || (decide (l.getD 0 0 ≠ 32) && decide (l.getD (l.length - 1) 0 ≠ 32))))))
def ansC (b : UInt8) : Bool := decide (32 ≤ b.toNat ∧ b.toNat ≤ 126)
def ansB (l : List UInt8) (top : Int) : Bool := (l.all ansC) && (decide (1 ≤ (l.length : Int)) && decide ((l.length : Int) ≤ top))
def alnC (b : UInt8) : Bool := decide ((48 ≤ b.toNat ∧ b.toNat ≤ 57) ∨ (65 ≤ b.toNat ∧ b.toNat ≤ 90) ∨ (97 ≤ b.toNat ∧ b.toNat ≤ 122))
def alnB (l : List UInt8) (low top : Int) : Bool := (l.all alnC) && (decide (low ≤ (l.length : Int)) && decide ((l.length : Int) ≤ top))
end Go.Proofs.YtpkalnkeafggjaaGreatDoor
