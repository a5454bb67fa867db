/- The texts TxtMath2, TokMath, joined. -/
import Derived.Test.YtbfodbejdaafaaaGreatDoorK02
/- Characters as bytes, and plain texts: plain functions on lists of bytes, no program. -/
namespace Go.Proofs.YtbfodbejdaafaaaGreatDoor
set_option linter.unusedVariables false

/-- a character as bytes, as the model writes it -/
def encL (c : Int) : List UInt8 := (Utf8.encode c).data.toList
theorem u8_nat (n : Nat) (h : n < 256) : (UInt8.ofNat n).toNat = n := by rw [UInt8.toNat_ofNat']; omega
theorem contB_of {n : Nat} (h1 : 128 ≤ n) (h2 : n < 192) : contB (UInt8.ofNat n) = true := by unfold contB; rw [u8_nat n (by omega)]; simp [h1, h2]
theorem tlB_go {k n : Nat} {r : List UInt8} {c : Nat} (h1 : 128 ≤ n) (h2 : n < 192) : tlB (k + 1) (UInt8.ofNat n :: r) c = tlB k r (c * 64 + n % 64) := by
  rw [tlB, if_pos (contB_of h1 h2), u8_nat n (by omega)]
theorem tlB_short {k : Nat} {r : List UInt8} {c : Nat} (h : r.length < k) : tlB k r c = none := by
  cases ht : tlB k r c with
  | none => rfl
  | some v => have := tlB_len _ _ _ _ ht; omega
theorem size_cut {b : UInt8} {r : List UInt8} {n least c : Nat} (h : lead b.toNat = some (n, least, c)) (hr : r.length + 1 < n) : sizeB (b :: r) = 0 := by
  rw [sizeB_cons, h, sizeC_some, tlB_short (by omega), finB_none]

theorem enc_valid {c : Nat} (h : c ≤ 1114111) (hs : ¬ (55296 ≤ c ∧ c ≤ 57343)) : Utf8.valid (c : Int) = true := by
  unfold Utf8.valid
  simp
  omega
set_option maxRecDepth 100000 in
/-- a character that is one, as bytes: of so many, if it may be; cut none -/
theorem enc_size {c : Nat} (h : c ≤ 1114111) (hs : ¬ (55296 ≤ c ∧ c ≤ 57343)) :
    sizeB (encL c) = (if charB c then (encL c).length else 0) ∧ 1 ≤ (encL c).length ∧ (encL c).length ≤ 4 ∧ ∀ k, 0 < k → k < (encL c).length → sizeB ((encL c).take k) = 0 := by
  have hv := enc_valid h hs
  unfold encL Utf8.encode
  simp only [hv, if_true, Int.toNat_natCast]
  by_cases h1 : c < 128
  · rw [if_pos h1]
    simp only [List.length_cons, List.length_nil]
    have hl : lead (UInt8.ofNat c).toNat = some (1, 0, c) := by rw [u8_nat c (by omega)]; unfold lead; rw [if_pos h1]
    refine ⟨?_, by omega, by omega, fun k h0 hk => by omega⟩
    rw [sizeB_cons, hl, sizeC_some]
    show finB (some c) 1 0 = _
    rw [finB_some, if_neg (by omega)]
  · rw [if_neg h1]
    by_cases h2 : c < 2048
    · rw [if_pos h2]
      simp only [List.length_cons, List.length_nil]
      have hl : lead (UInt8.ofNat (192 + c / 64)).toNat = some (2, 128, c / 64) := by
        rw [u8_nat _ (by omega)]
        unfold lead
        rw [if_neg (by omega), if_pos (by omega), show (192 + c / 64) % 32 = c / 64 from by omega]
      refine ⟨?_, by omega, by omega, fun k h0 hk => ?_⟩
      · rw [sizeB_cons, hl, sizeC_some, tlB_go (by omega) (by omega)]
        show finB (some _) 2 128 = _
        rw [finB_some, show c / 64 * 64 + (128 + c % 64) % 64 = c from by omega, if_neg (by omega)]
      · obtain rfl : k = 1 := by omega
        exact size_cut hl (by simp)
    · rw [if_neg h2]
      by_cases h3 : c < 65536
      · rw [if_pos h3]
        simp only [List.length_cons, List.length_nil]
        have hl : lead (UInt8.ofNat (224 + c / 4096)).toNat = some (3, 2048, c / 4096) := by
          rw [u8_nat _ (by omega)]
          unfold lead
          rw [if_neg (by omega), if_neg (by omega), if_pos (by omega), show (224 + c / 4096) % 16 = c / 4096 from by omega]
        refine ⟨?_, by omega, by omega, fun k h0 hk => ?_⟩
        · rw [sizeB_cons, hl, sizeC_some, tlB_go (by omega) (by omega), tlB_go (by omega) (by omega)]
          show finB (some _) 3 2048 = _
          rw [finB_some, show (c / 4096 * 64 + (128 + c / 64 % 64) % 64) * 64 + (128 + c % 64) % 64 = c from by omega, if_neg (by omega)]
        · obtain rfl | rfl : k = 1 ∨ k = 2 := by omega
          all_goals exact size_cut hl (by simp)
      · rw [if_neg h3]
        simp only [List.length_cons, List.length_nil]
        have hl : lead (UInt8.ofNat (240 + c / 262144)).toNat = some (4, 65536, c / 262144) := by
          rw [u8_nat _ (by omega)]
          unfold lead
          rw [if_neg (by omega), if_neg (by omega), if_neg (by omega), if_pos (by omega), show (240 + c / 262144) % 8 = c / 262144 from by omega]
        refine ⟨?_, by omega, by omega, fun k h0 hk => ?_⟩
        · rw [sizeB_cons, hl, sizeC_some, tlB_go (by omega) (by omega), tlB_go (by omega) (by omega), tlB_go (by omega) (by omega)]
          show finB (some _) 4 65536 = _
          rw [finB_some, show ((c / 262144 * 64 + (128 + c / 4096 % 64) % 64) * 64 + (128 + c / 64 % 64) % 64) * 64 + (128 + c % 64) % 64 = c from by omega, if_neg (by omega)]
        · obtain rfl | rfl | rfl : k = 1 ∨ k = 2 ∨ k = 3 := by omega
          all_goals exact size_cut hl (by simp)
set_option maxRecDepth 100000 in
/-- one that is none is written as another one, which may be -/
theorem enc_bad {c : Nat} (h : 1114111 < c ∨ (55296 ≤ c ∧ c ≤ 57343)) : encL c = [239, 191, 189] := by
  have hv : Utf8.valid (c : Int) = false := by
    rw [Bool.eq_false_iff]
    unfold Utf8.valid
    simp
    omega
  unfold encL Utf8.encode
  simp only [hv, Bool.false_eq_true, if_false]
  rfl
theorem utf8_bad : utf8B [239, 191, 189] = true := by decide
set_option maxRecDepth 100000 in
/-- one character alone -/
theorem cnt_enc {c : Nat} (h : c ≤ 1114111) (hs : ¬ (55296 ≤ c ∧ c ≤ 57343)) : cnt (encL c) = if charB c then some 1 else none := by
  obtain ⟨h1, h2, h3, h4⟩ := enc_size h hs
  have hne : encL c ≠ [] := by intro e; rw [e] at h2; simp at h2
  rw [cnt_step hne, h1]
  cases charB c with
  | false => rfl
  | true =>
    rw [if_pos rfl, if_neg (by omega), List.drop_length]
    rfl
theorem cnt_enc_cut {c : Nat} (h : c ≤ 1114111) (hs : ¬ (55296 ≤ c ∧ c ≤ 57343)) {k : Nat} (h0 : 0 < k) (hk : k < (encL c).length) : cnt ((encL c).take k) = none := by
  obtain ⟨h1, h2, h3, h4⟩ := enc_size h hs
  have hne : (encL c).take k ≠ [] := by
    intro e
    have := congrArg List.length e
    rw [List.length_take, List.length_nil] at this
    omega
  rw [cnt_step hne, if_pos (h4 k h0 hk)]

/-! ### plain texts -/
theorem plain_first (s : List UInt8) (low top : Int) : plainB (32 :: s) low top = false := by
  unfold plainB
  simp [List.getD]
theorem plain_last (s : List UInt8) (low top : Int) : plainB (s ++ [32]) low top = false := by
  unfold plainB
  simp [List.getD]
theorem plain_below (s r : List UInt8) (low top : Int) : plainB (s ++ (10 :: r)) low top = false := by
  unfold plainB lowest
  simp
theorem plain_low {s : List UInt8} (h : plainB s 0 300 = true) (n : Nat) : plainB s 0 n = decide (runesN s ≤ n) ∧ plainB s n 300 = decide (n ≤ runesN s) := by
  unfold plainB at h ⊢
  simp only [Bool.and_eq_true] at h
  obtain ⟨h1, h2, h3, h4, h5⟩ := h
  rw [h1, h2, h3, h4, h5]
  constructor
  · simp only [Bool.true_and, Bool.and_true, decide_eq_decide]
    omega
  · simp only [Bool.true_and, Bool.and_true, decide_eq_decide]
    omega
theorem runes_app {a b : List UInt8} (ha : utf8B a = true) (hb : utf8B b = true) : utf8B (a ++ b) = true ∧ runesN (a ++ b) = runesN a + runesN b := by
  unfold utf8B at *
  unfold runesN
  obtain ⟨x, hx⟩ := Option.isSome_iff_exists.1 ha
  obtain ⟨y, hy⟩ := Option.isSome_iff_exists.1 hb
  rw [cnt_app hx, hx, hy]
  simp
theorem plain_twice {s : List UInt8} (h : plainB s 0 300 = true) (hne : s ≠ []) : plainB (s ++ (32 :: s)) 0 700 = true := by
  unfold plainB at h ⊢
  simp only [Bool.and_eq_true, Bool.or_eq_true, decide_eq_true_eq] at h ⊢
  obtain ⟨h1, h2, h3, h4, h5⟩ := h
  have h32 : utf8B [32] = true := by decide
  have hr32 : runesN [32] = 1 := by decide
  obtain ⟨a1, a2⟩ := runes_app h32 h2
  obtain ⟨b1, b2⟩ := runes_app h2 a1
  rw [show ([32] ++ s : List UInt8) = 32 :: s from rfl] at a1 a2 b1 b2
  have hlen : 0 < s.length := by cases s; exact absurd rfl hne; simp
  refine ⟨?_, b1, by omega, by rw [b2, a2, hr32]; omega, .inr ⟨?_, ?_⟩⟩
  · unfold lowest at h1 ⊢
    rw [List.all_append, List.all_cons, h1]
    rfl
  · rcases h5 with h5 | ⟨h5, h6⟩
    · exact absurd h5 hne
    · rw [List.getD, List.getElem?_append_left hlen]
      exact h5
  · rcases h5 with h5 | ⟨h5, h6⟩
    · exact absurd h5 hne
    · rw [List.getD, List.length_append, List.length_cons, List.getElem?_append_right (by omega), show s.length + (s.length + 1) - 1 - s.length = (s.length - 1) + 1 from by omega, List.getElem?_cons_succ]
      exact h6
end Go.Proofs.YtbfodbejdaafaaaGreatDoor
/- XML, piece by piece: plain functions on lists of bytes, no program. -/
namespace Go.Proofs.YtbfodbejdaafaaaGreatDoor
set_option linter.unusedVariables false

def isBl (c : UInt8) : Bool := decide (c.toNat = 9 ∨ c.toNat = 10 ∨ c.toNat = 13 ∨ c.toNat = 32)
def isFi (c : UInt8) : Bool := decide ((65 ≤ c.toNat ∧ c.toNat ≤ 90) ∨ (97 ≤ c.toNat ∧ c.toNat ≤ 122) ∨ c.toNat = 95)
def isWi (c : UInt8) : Bool := isFi c || decide ((48 ≤ c.toNat ∧ c.toNat ≤ 57) ∨ c.toNat = 45 ∨ c.toNat = 46 ∨ c.toNat = 58)
/-- is it a name? -/
def nameOk : List UInt8 → Bool
  | [] => false
  | c :: r => isFi c && (c :: r).all isWi
/-- does that stand here? what is behind it -/
def isP (p l : List UInt8) : Option (List UInt8) := if p.isPrefixOf l then some (l.drop p.length) else none
theorem isP_len {p l r : List UInt8} (h : isP p l = some r) : l = p ++ r ∧ r.length + p.length = l.length := by
  unfold isP at h
  split at h
  · rename_i hp
    injection h with h
    subst h
    obtain ⟨t, rfl⟩ := List.isPrefixOf_iff_prefix.1 hp
    simp
    omega
  · cases h
/-- a digit's number; 99: it is none -/
def digV (c : UInt8) : Nat := if 48 ≤ c.toNat ∧ c.toNat ≤ 57 then c.toNat - 48 else if 97 ≤ c.toNat ∧ c.toNat ≤ 102 then c.toNat - 87 else if 65 ≤ c.toNat ∧ c.toNat ≤ 70 then c.toNat - 55 else 99
def chrF (base : Nat) : Nat → List UInt8 → Option Nat
  | v, [] => some v
  | v, c :: r => if base ≤ digV c then none else chrF base (v * base + digV c) r
def chrV (s : List UInt8) (base most : Nat) : Option Nat := if s.length < 1 ∨ most < s.length then none else chrF base 0 s
/-- what stands between & and ; -/
def entV (s : List UInt8) : Option (List UInt8) :=
  if s = [108, 116] then some [60] else if s = [103, 116] then some [62] else if s = [97, 109, 112] then some [38] else if s = [113, 117, 111, 116] then some [34] else if s = [97, 112, 111, 115] then some [39]
  else
    let v := if 2 < s.length ∧ s.take 2 = [35, 120] then chrV (s.drop 2) 16 6 else if 1 < s.length ∧ s.getD 0 0 = 35 then chrV (s.drop 1) 10 7 else none
    match v with
    | none => none
    | some v => if charB v then some (encL (v : Int)) else none
/-- a text's value; none: something is wrong -/
def valF : Nat → List UInt8 → Option (List UInt8)
  | _, [] => some []
  | 0, _ :: _ => none
  | f + 1, c :: r => if c.toNat ≠ 38 then (valF f r).map (c :: ·) else
    match r.dropWhile (fun b => decide (b.toNat ≠ 59)) with
    | [] => none
    | _ :: rest => match entV (r.takeWhile fun b => decide (b.toNat ≠ 59)) with
      | none => none
      | some x => (valF f rest).map (x ++ ·)
def valV (l : List UInt8) : Option (List UInt8) := valF l.length l
theorem drop_while_le (p : UInt8 → Bool) : ∀ l : List UInt8, (l.dropWhile p).length ≤ l.length
  | [] => Nat.le_refl _
  | c :: r => by
    rw [List.dropWhile_cons]
    split
    · exact Nat.le_trans (drop_while_le p r) (by simp)
    · exact Nat.le_refl _
theorem valF_enough : ∀ (f g : Nat) (l : List UInt8), l.length ≤ f → l.length ≤ g → valF f l = valF g l := by
  intro f
  induction f with
  | zero =>
    intro g l h1 h2
    have : l = [] := List.eq_nil_of_length_eq_zero (by omega)
    subst this
    cases g <;> rfl
  | succ f ih =>
    intro g l h1 h2
    cases l with
    | nil => cases g <;> rfl
    | cons c r =>
      cases g with
      | zero => simp at h2
      | succ g =>
        simp only [List.length_cons] at h1 h2
        have hd := drop_while_le (fun b => decide (b.toNat ≠ 59)) r
        unfold valF
        split
        · rw [ih g r (by omega) (by omega)]
        · split
          · rfl
          · rename_i x rest he
            rw [he] at hd
            simp only [List.length_cons] at hd
            split
            · rfl
            · rw [ih g rest (by omega) (by omega)]
theorem valV_nil : valV [] = some [] := rfl
theorem valV_plain {c : UInt8} {r : List UInt8} (h : c.toNat ≠ 38) : valV (c :: r) = (valV r).map (c :: ·) := by
  show (if c.toNat ≠ 38 then _ else _) = _
  rw [if_pos h]
  rfl
theorem valF_amp (f : Nat) (r : List UInt8) : valF (f + 1) (38 :: r) = match r.dropWhile (fun b => decide (b.toNat ≠ 59)) with
    | [] => none
    | _ :: rest => match entV (r.takeWhile fun b => decide (b.toNat ≠ 59)) with
      | none => none
      | some x => (valF f rest).map (x ++ ·) := by
  show (if (38 : UInt8).toNat ≠ 38 then (valF f r).map ((38 : UInt8) :: ·) else _) = _
  rw [if_neg (by decide)]
/-- one more value's piece: a name of a sign, and what is behind it -/
theorem valV_ent {e rest : List UInt8} (he : ∀ b ∈ e, b.toNat ≠ 59) : valV (38 :: e ++ (59 :: rest)) = match entV e with | none => none | some x => (valV rest).map (x ++ ·) := by
  have ht : (e ++ (59 :: rest)).takeWhile (fun b => decide (b.toNat ≠ 59)) = e := by
    rw [List.takeWhile_append_of_pos (fun b hb => by simpa using he b hb)]
    simp
  have hd : (e ++ (59 :: rest)).dropWhile (fun b => decide (b.toNat ≠ 59)) = 59 :: rest := by
    rw [List.dropWhile_append_of_pos (fun b hb => by simpa using he b hb)]
    simp
  have hl : (38 :: e ++ (59 :: rest)).length = (e ++ (59 :: rest)).length + 1 := by simp
  unfold valV
  rw [hl, List.cons_append, valF_amp, ht, hd]
  cases entV e with
  | none => rfl
  | some x =>
    show (valF _ rest).map _ = _
    rw [valF_enough _ rest.length rest (by simp; omega) (Nat.le_refl _)]

/-! ### pieces -/
structure Tok where
  kind : Int
  name : List UInt8
  text : List UInt8
  attrs : List (List UInt8 × List UInt8)
  empty : Bool
/-- a name with its value, and what is behind it -/
def attrP (used : List (List UInt8 × List UInt8)) (l : List UInt8) : Option ((List UInt8 × List UInt8) × List UInt8) :=
  let n := l.takeWhile isWi
  if !nameOk n || used.any (fun a => a.1 == n) then none else
  match isP [61] ((l.dropWhile isWi).dropWhile isBl) with
  | none => none
  | some l1 => match l1.dropWhile isBl with
    | [] => none
    | mark :: r => if mark.toNat ≠ 34 ∧ mark.toNat ≠ 39 then none else
      match r.dropWhile (fun c => decide (c ≠ mark ∧ c.toNat ≠ 60)) with
      | [] => none
      | c :: rest => if c ≠ mark then none else (valV (r.takeWhile fun c => decide (c ≠ mark ∧ c.toNat ≠ 60))).map fun v => ((n, v), rest)
/-- behind < and a name -/
def openF : Nat → List UInt8 → List (List UInt8 × List UInt8) → List UInt8 → Option (Tok × List UInt8)
  | 0, _, _, _ => none
  | f + 1, name, attrs, l =>
    match isP [47, 62] (l.dropWhile isBl) with
    | some r => some (⟨1, name, [], attrs, true⟩, r)
    | none => match isP [62] (l.dropWhile isBl) with
      | some r => some (⟨1, name, [], attrs, false⟩, r)
      | none => if (l.takeWhile isBl).length = 0 then none else
        match attrP attrs (l.dropWhile isBl) with
        | none => none
        | some (a, r) => openF f name (attrs ++ [a]) r
/-- the first piece, and what is behind it -/
def tokP (l : List UInt8) : Option (Tok × List UInt8) :=
  match isP [60, 47] l with
  | some l1 => if !nameOk (l1.takeWhile isWi) then none else (isP [62] ((l1.dropWhile isWi).dropWhile isBl)).map fun r => (⟨2, l1.takeWhile isWi, [], [], false⟩, r)
  | none => match isP [60] l with
    | some l1 => if !nameOk (l1.takeWhile isWi) then none else openF (l1.length + 1) (l1.takeWhile isWi) [] (l1.dropWhile isWi)
    | none => (valV (l.takeWhile fun c => decide (c.toNat ≠ 60))).map fun v => (⟨3, [], v, [], false⟩, l.dropWhile fun c => decide (c.toNat ≠ 60))
def toksF : Nat → List UInt8 → Option (List Tok)
  | _, [] => some []
  | 0, _ :: _ => none
  | f + 1, c :: r => match tokP (c :: r) with
    | none => none
    | some (t, rest) => (toksF f rest).map (t :: ·)
def toksV (l : List UInt8) : Option (List Tok) := toksF l.length l
/-- the line that may stand ahead of all -/
def prologL : List UInt8 := [60, 63, 120, 109, 108, 32, 118, 101, 114, 115, 105, 111, 110, 61, 34, 49, 46, 48, 34, 32, 101, 110, 99, 111, 100, 105, 110, 103, 61, 34, 85, 84, 70, 45, 56, 34, 63, 62]
def bodyL (l : List UInt8) : List UInt8 := (isP prologL l).getD l
def tokE (l : List UInt8) : Int := if 4096 < l.length then 4 else if !utf8B l then 7 else if (toksV (bodyL l)).isSome then 0 else 9
def tokL (l : List UInt8) : List Tok := if tokE l = 0 then (toksV (bodyL l)).getD [] else []
end Go.Proofs.YtbfodbejdaafaaaGreatDoor
