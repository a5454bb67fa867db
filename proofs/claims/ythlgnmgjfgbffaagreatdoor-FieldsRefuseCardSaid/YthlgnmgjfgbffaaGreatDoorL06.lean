/- The texts DigMath, DigMath2, EleMath, SimMath, EleDev, joined. -/
import Derived.Test.YthlgnmgjfgbffaaGreatDoorL01
import Derived.Lib.ItoaNum
import Derived.Test.YthlgnmgjfgbffaaGreatDoorL02
/- Digits of texts, halves of bytes, and signs, as plain functions on lists of bytes, and what follows of them: no program. -/
namespace Go.Proofs.YthlgnmgjfgbffaaGreatDoor
set_option linter.unusedVariables false

/-- a digit -/
def isD (c : UInt8) : Bool := decide (48 ≤ c.toNat) && decide (c.toNat ≤ 57)
/-- a sign of sixteen -/
def isH (c : UInt8) : Bool := isD c || (decide (65 ≤ c.toNat) && decide (c.toNat ≤ 70))
/-- what a sign stands for -/
def half (c : UInt8) : UInt8 := if isD c then c - 48 else c - 65 + 10
/-- the sign of a half -/
def sg (x : UInt8) : UInt8 := if x.toNat ≤ 9 then 48 + x else 55 + x
/-- from low to top bytes, each a digit -/
def rightB (l : List UInt8) (low top : Int) : Bool := decide (low ≤ (l.length : Int)) && (decide ((l.length : Int) ≤ top) && l.all isD)
/-- the number that digits tell -/
def numV (l : List UInt8) : Nat := l.foldl (fun v c => 10 * v + (half c).toNat) 0
/-- a byte of two signs -/
def pr (a b : UInt8) : UInt8 := half a <<< 4 ||| half b
/-- a byte of every two signs -/
def pairL : List UInt8 → List UInt8
  | a :: b :: r => pr a b :: pairL r
  | _ => []
/-- a nought ahead, if their number is odd -/
def evenL (l : List UInt8) : List UInt8 := if l.length % 2 = 1 then 48 :: l else l
/-- two signs a byte -/
def hexL : List UInt8 → List UInt8
  | [] => []
  | x :: r => sg (x >>> 4) :: sg (x &&& 15) :: hexL r

theorem isD_true {c : UInt8} : isD c = true ↔ 48 ≤ c.toNat ∧ c.toNat ≤ 57 := by simp [isD]
theorem isD_mk {c : UInt8} (h1 : 48 ≤ c.toNat) (h2 : c.toNat ≤ 57) : isD c = true := isD_true.2 ⟨h1, h2⟩
theorem isD_false {c : UInt8} (h : c.toNat < 48 ∨ 57 < c.toNat) : isD c = false := by
  rw [Bool.eq_false_iff]
  intro e
  have := isD_true.1 e
  omega
theorem half_digit {c : UInt8} (h : isD c = true) : (half c).toNat = c.toNat - 48 := by
  have h1 := isD_true.1 h
  have h3 : (48 : UInt8) ≤ c := by rw [UInt8.le_iff_toNat_le]; exact h1.1
  unfold half
  rw [if_pos h, UInt8.toNat_sub_of_le _ _ h3]
  rfl

theorem pairL_length : ∀ l : List UInt8, (pairL l).length = l.length / 2
  | [] => rfl
  | [_] => by simp [pairL]
  | a :: b :: r => by
    simp only [pairL, List.length_cons, pairL_length r]
    omega
/-- one byte more -/
theorem pairL_snoc : ∀ (k : Nat) (l : List UInt8) (a b : UInt8), l[2 * k]? = some a → l[2 * k + 1]? = some b → pairL (l.take (2 * (k + 1))) = pairL (l.take (2 * k)) ++ [pr a b]
  | 0, x :: y :: r, a, b, h1, h2 => by
    simp only [Nat.mul_zero, List.getElem?_cons_zero, Nat.zero_add, List.getElem?_cons_succ, Option.some.injEq] at h1 h2
    subst h1 h2
    simp [pairL]
  | k + 1, x :: y :: r, a, b, h1, h2 => by
    rw [show 2 * (k + 1) = 2 * k + 1 + 1 from by omega] at h1 h2
    simp only [List.getElem?_cons_succ] at h1 h2
    have ih := pairL_snoc k r a b h1 h2
    rw [show 2 * (k + 1 + 1) = 2 * (k + 1) + 1 + 1 from by omega, show 2 * (k + 1) = 2 * k + 1 + 1 from by omega]
    rw [show 2 * (k + 1) = 2 * k + 1 + 1 from by omega] at ih
    simp only [List.take_succ_cons, pairL, List.cons_append, List.cons.injEq, true_and] at ih ⊢
    exact ih
  | k, [], a, b, h1, h2 => by simp at h1
  | k, [x], a, b, h1, h2 => by simp at h2
theorem hexL_length : ∀ l : List UInt8, (hexL l).length = 2 * l.length
  | [] => rfl
  | x :: r => by simp only [hexL, List.length_cons, hexL_length r]; omega
theorem hexL_append : ∀ l m : List UInt8, hexL (l ++ m) = hexL l ++ hexL m
  | [], m => rfl
  | x :: r, m => by simp [hexL, hexL_append r m]
theorem evenL_even (l : List UInt8) : (evenL l).length % 2 = 0 := by
  unfold evenL
  split
  · simp; omega
  · omega
theorem evenL_length (l : List UInt8) : (evenL l).length = 2 * ((l.length + 1) / 2) := by
  unfold evenL
  split
  · simp; omega
  · omega

/-! ### there and back -/
theorem byte_all (p : UInt8 → Bool) (h : ∀ i : Fin 256, p (UInt8.ofNat i.val) = true) (c : UInt8) : p c = true := by
  have := h ⟨c.toNat, c.toNat_lt⟩
  simpa using this
theorem pr_sg (x : UInt8) : pr (sg (x >>> 4)) (sg (x &&& 15)) = x := by
  have := byte_all (fun x => pr (sg (x >>> 4)) (sg (x &&& 15)) == x) (by decide +kernel) x
  simpa using this
theorem isH_sg (x : UInt8) : isH (sg (x >>> 4)) = true ∧ isH (sg (x &&& 15)) = true := by
  have := byte_all (fun x => isH (sg (x >>> 4)) && isH (sg (x &&& 15))) (by decide +kernel) x
  simpa using this
theorem pairL_hexL : ∀ l : List UInt8, pairL (hexL l) = l
  | [] => rfl
  | x :: r => by simp [hexL, pairL, pr_sg, pairL_hexL r]
theorem hexL_isH : ∀ l : List UInt8, (hexL l).all isH = true
  | [] => rfl
  | x :: r => by simp only [hexL, List.all_cons, isH_sg x, hexL_isH r, Bool.and_self]
theorem sg_pr_fin : ∀ i j : Fin 10, sg (pr (UInt8.ofNat (48 + i.val)) (UInt8.ofNat (48 + j.val)) >>> 4) = UInt8.ofNat (48 + i.val) ∧ sg (pr (UInt8.ofNat (48 + i.val)) (UInt8.ofNat (48 + j.val)) &&& 15) = UInt8.ofNat (48 + j.val) := by decide +kernel
theorem isD_form {c : UInt8} (h : isD c = true) : ∃ i : Fin 10, c = UInt8.ofNat (48 + i.val) := by
  have h1 := isD_true.1 h
  refine ⟨⟨c.toNat - 48, by omega⟩, ?_⟩
  apply UInt8.toNat_inj.1
  rw [UInt8.toNat_ofNat']
  simp only
  omega
theorem sg_pr {a b : UInt8} (ha : isD a = true) (hb : isD b = true) : sg (pr a b >>> 4) = a ∧ sg (pr a b &&& 15) = b := by
  obtain ⟨i, rfl⟩ := isD_form ha
  obtain ⟨j, rfl⟩ := isD_form hb
  exact sg_pr_fin i j
theorem hexL_pairL : ∀ l : List UInt8, l.length % 2 = 0 → l.all isD = true → hexL (pairL l) = l
  | [], _, _ => rfl
  | [_], h, _ => by simp at h
  | a :: b :: r, h, hd => by
    simp only [List.all_cons, Bool.and_eq_true] at hd
    simp only [pairL, hexL, sg_pr hd.1 hd.2.1, hexL_pairL r (by simp at h; omega) hd.2.2]
theorem evenL_all {l : List UInt8} (h : l.all isD = true) : (evenL l).all isD = true := by
  unfold evenL
  split
  · rw [List.all_cons, h]
    decide
  · exact h
end Go.Proofs.YthlgnmgjfgbffaaGreatDoor
/- What digits tell, and a number in so many digits, as plain functions: no program. -/
namespace Go.Proofs.YthlgnmgjfgbffaaGreatDoor
set_option linter.unusedVariables false

theorem numV_snoc (l : List UInt8) (c : UInt8) : numV (l ++ [c]) = 10 * numV l + (half c).toNat := by simp [numV]
theorem numV_le {l : List UInt8} (h : l.all isD = true) : numV l + 1 ≤ 10 ^ l.length := by
  have hr : ∀ m : List UInt8, m.all isD = true → numV m.reverse + 1 ≤ 10 ^ m.length := by
    intro m
    induction m with
    | nil => intro _; simp [numV]
    | cons c m ih =>
      intro hm
      simp only [List.all_cons, Bool.and_eq_true] at hm
      have h1 := ih hm.2
      have h2 := half_digit hm.1
      have h3 := isD_true.1 hm.1
      rw [List.reverse_cons, numV_snoc, List.length_cons, Nat.pow_succ]
      omega
  have := hr l.reverse (by simpa using h)
  simpa using this

/-- what Number answers -/
def numR (l : List UInt8) : Nat := if rightB l 1 18 then numV l else 0
def numE (l : List UInt8) : Int := if rightB l 1 18 then 0 else 5
theorem rightB_len {l : List UInt8} {low top : Int} (h : rightB l low top = true) : low ≤ (l.length : Int) ∧ (l.length : Int) ≤ top ∧ l.all isD = true := by
  simpa [rightB] using h
theorem pow_le_18 {k : Nat} (h : k ≤ 17) : 10 ^ k ≤ 100000000000000000 := by
  have := Nat.pow_le_pow_right (n := 10) (by decide) h
  simpa using this
theorem dig_take {l : List UInt8} {p : UInt8 → Bool} (h : l.all p = true) (k : Nat) : (l.take k).all p = true := by
  rw [List.all_eq_true] at h ⊢
  exact fun x hx => h x (List.mem_of_mem_take hx)

def textE (v : Nat) (z : Int) : Int := if z < 1 ∨ 20 < z then 1 else if z < ((Lib.decDigits v).length : Int) then 4 else 0
/-- noughts ahead of the digits -/
def wide (v k : Nat) : List UInt8 := List.replicate k 48 ++ Lib.decDigits v
def textR (v : Nat) (z : Int) : List UInt8 := if textE v z = 0 then wide v (z.toNat - (Lib.decDigits v).length) else []
theorem text_cases (v : Nat) (z : Int) : (z < 1 ∧ textE v z = 1 ∧ textR v z = []) ∨ (20 < z ∧ textE v z = 1 ∧ textR v z = []) ∨ (1 ≤ z ∧ z ≤ 20 ∧ z < ((Lib.decDigits v).length : Int) ∧ textE v z = 4 ∧ textR v z = []) ∨
    ∃ m : Nat, z = ((Lib.decDigits v).length : Int) + (m : Int) ∧ 1 ≤ z ∧ z ≤ 20 ∧ textE v z = 0 ∧ textR v z = wide v m := by
  by_cases h1 : z < 1
  · have e : textE v z = 1 := by unfold textE; rw [if_pos (.inl h1)]
    exact .inl ⟨h1, e, by unfold textR; rw [e]; rfl⟩
  by_cases h2 : 20 < z
  · have e : textE v z = 1 := by unfold textE; rw [if_pos (.inr h2)]
    exact .inr (.inl ⟨h2, e, by unfold textR; rw [e]; rfl⟩)
  by_cases h3 : z < ((Lib.decDigits v).length : Int)
  · have e : textE v z = 4 := by unfold textE; rw [if_neg (by omega), if_pos h3]
    exact .inr (.inr (.inl ⟨by omega, by omega, h3, e, by unfold textR; rw [e]; rfl⟩))
  · have e : textE v z = 0 := by unfold textE; rw [if_neg (by omega), if_neg h3]
    refine .inr (.inr (.inr ⟨z.toNat - (Lib.decDigits v).length, by omega, by omega, by omega, e, ?_⟩))
    unfold textR
    rw [if_pos e]
theorem wide_length (v k : Nat) : (wide v k).length = k + (Lib.decDigits v).length := by simp [wide]


theorem half_of (d : Nat) (h : d < 10) : (half (UInt8.ofNat (48 + d))).toNat = d := by
  rw [half_digit (isD_mk (by rw [UInt8.toNat_ofNat']; omega) (by rw [UInt8.toNat_ofNat']; omega)), UInt8.toNat_ofNat']
  omega
theorem numV_dec (v : Nat) : numV (Lib.decDigits v) = v := by
  induction v using Nat.strongRecOn with
  | _ v ih =>
    rw [Lib.decDigits]
    split
    · rename_i h
      rw [show ([UInt8.ofNat (48 + v)] : List UInt8) = [] ++ [UInt8.ofNat (48 + v)] from rfl, numV_snoc, half_of v h]
      show 10 * 0 + v = v
      omega
    · rw [numV_snoc, ih (v / 10) (by omega), half_of _ (by omega)]
      omega
theorem dec_all (v : Nat) : (Lib.decDigits v).all isD = true := by
  induction v using Nat.strongRecOn with
  | _ v ih =>
    rw [Lib.decDigits]
    split
    · simp only [List.all_cons, List.all_nil, Bool.and_true]
      exact isD_mk (by rw [UInt8.toNat_ofNat']; omega) (by rw [UInt8.toNat_ofNat']; omega)
    · rw [List.all_append, ih (v / 10) (by omega)]
      simp only [List.all_cons, List.all_nil, Bool.and_true, Bool.true_and]
      exact isD_mk (by rw [UInt8.toNat_ofNat']; omega) (by rw [UInt8.toNat_ofNat']; omega)
theorem numV_wide (v m : Nat) : numV (wide v m) = v := by
  unfold wide
  induction m with
  | zero => exact numV_dec v
  | succ m ih =>
    rw [List.replicate_succ, List.cons_append]
    have h : numV (48 :: (List.replicate m 48 ++ Lib.decDigits v)) = numV (List.replicate m 48 ++ Lib.decDigits v) := rfl
    rw [h, ih]
theorem wide_all (v m : Nat) : (wide v m).all isD = true := by
  unfold wide
  rw [List.all_append, dec_all, Bool.and_true, List.all_eq_true]
  intro x hx
  rw [List.eq_of_mem_replicate hx]
  decide
theorem wide_number (v m : Nat) (h1 : 1 ≤ (wide v m).length) (h2 : (wide v m).length ≤ 18) : numR (wide v m) = v ∧ numE (wide v m) = 0 := by
  have hr : rightB (wide v m) 1 18 = true := by
    unfold rightB
    rw [wide_all, decide_eq_true (by omega), decide_eq_true (by omega)]
    rfl
  exact ⟨by unfold numR; rw [if_pos hr, numV_wide], by unfold numE; rw [if_pos hr]⟩

end Go.Proofs.YthlgnmgjfgbffaaGreatDoor
/- Data elements as plain functions: the table, which data may be, how they are written and read; what is written is read. No program. -/
namespace Go.Proofs.YthlgnmgjfgbffaaGreatDoor
set_option linter.unusedVariables false

/-- a row of the table: number, kind, digits of the length, greatest length, whether it is a spare one -/
structure FRow where
  no : Int
  kind : Int
  dig : Nat
  top : Nat
  spare : Bool
deriving DecidableEq
def elT : List FRow := [⟨2, 1, 2, 19, false⟩, ⟨4, 1, 0, 12, false⟩, ⟨11, 1, 0, 6, false⟩, ⟨12, 1, 0, 14, false⟩, ⟨22, 1, 0, 3, false⟩, ⟨25, 1, 0, 4, false⟩, ⟨32, 1, 2, 11, false⟩, ⟨37, 2, 0, 12, false⟩, ⟨38, 2, 0, 6, false⟩, ⟨39, 1, 0, 3, false⟩,
  ⟨41, 3, 0, 8, false⟩, ⟨42, 3, 0, 15, false⟩, ⟨43, 3, 2, 40, true⟩, ⟨48, 3, 3, 8, false⟩, ⟨49, 1, 0, 3, false⟩, ⟨55, 4, 3, 255, false⟩, ⟨56, 1, 0, 20, false⟩, ⟨60, 3, 3, 100, true⟩, ⟨61, 3, 3, 100, true⟩, ⟨62, 3, 3, 100, true⟩, ⟨63, 3, 3, 100, true⟩,
  ⟨102, 3, 2, 28, true⟩, ⟨103, 3, 2, 28, true⟩, ⟨120, 4, 4, 999, true⟩]
def elNone : FRow := ⟨0, 0, 0, 0, false⟩
def elRow (k : Nat) : FRow := elT.getD k elNone
def elFind (no : Int) : Option FRow := elT.find? (fun r => r.no == no)
/-- the row, or one of noughts -/
def elGet (no : Int) : FRow := (elFind no).getD elNone
theorem elT_len : elT.length = 24 := rfl
theorem elRow_mem {k : Nat} (hk : k < 24) : elRow k ∈ elT := by
  have : elRow k = elT[k]'(by rw [elT_len]; exact hk) := by unfold elRow; rw [List.getD_eq_getElem?_getD, List.getElem?_eq_getElem (by rw [elT_len]; exact hk)]; rfl
  rw [this]
  exact List.getElem_mem _
theorem elFind_row {k : Nat} (hk : k < 24) : elFind (elRow k).no = some (elRow k) := by
  have h : (List.range 24).all (fun k => decide (elFind (elRow k).no = some (elRow k))) = true := by decide +kernel
  exact of_decide_eq_true (List.all_eq_true.1 h k (List.mem_range.2 hk))
theorem elFind_at {no : Int} {k : Nat} (hk : k < 24) (h : (elRow k).no = no) : elFind no = some (elRow k) := by
  rw [← h]
  exact elFind_row hk
theorem elFind_none {no : Int} (h : ∀ k, k < 24 → (elRow k).no ≠ no) : elFind no = none := by
  unfold elFind
  rw [List.find?_eq_none]
  intro r hr
  obtain ⟨k, hk, rfl⟩ := List.getElem_of_mem hr
  rw [elT_len] at hk
  have := h k hk
  unfold elRow at this
  rw [List.getD_eq_getElem?_getD, List.getElem?_eq_getElem (by rw [elT_len]; exact hk)] at this
  simpa using this
theorem elFind_some {no : Int} {r : FRow} (h : elFind no = some r) : r ∈ elT ∧ r.no = no := by
  refine ⟨List.mem_of_find?_eq_some h, ?_⟩
  simpa using List.find?_some h
/-- what a row is -/
theorem el_row {r : FRow} (h : r ∈ elT) : 1 ≤ r.top ∧ r.top ≤ 999 ∧ r.dig ≤ 4 ∧ (r.dig ≠ 0 → r.top < 10 ^ r.dig) ∧ (r.kind = 1 ∨ r.kind = 2 ∨ r.kind = 3 ∨ r.kind = 4) ∧ 2 ≤ r.no ∧ r.no ≤ 120 := by
  have h1 : elT.all (fun r => decide (1 ≤ r.top ∧ r.top ≤ 999 ∧ r.dig ≤ 4 ∧ (r.dig ≠ 0 → r.top < 10 ^ r.dig) ∧ (r.kind = 1 ∨ r.kind = 2 ∨ r.kind = 3 ∨ r.kind = 4) ∧ 2 ≤ r.no ∧ r.no ≤ 120)) = true := by decide +kernel
  exact of_decide_eq_true (List.all_eq_true.1 h1 r h)

/-! ### which data may be -/
def typB (kind : Int) (d : List UInt8) : Bool := if kind = 1 then d.all isD else if kind = 2 then d.all alnC else if kind = 3 then d.all ansC else true
/-- whether so many bytes fit -/
def fitB (r : FRow) (n : Nat) : Bool := decide ((if r.dig = 0 then r.top else 1) ≤ n) && decide (n ≤ r.top)
def chkR (r : FRow) (d : List UInt8) : Int := if fitB r d.length = false then 17 else if typB r.kind d = false then 14 else 0
def chkEl (no : Int) (d : List UInt8) : Int := match elFind no with
  | none => 16
  | some r => chkR r d
/-- the length, as it stands ahead -/
def headEl (r : FRow) (n : Nat) : List UInt8 := textR n (r.dig : Int)
def wrtEl (no : Int) (d : List UInt8) : List UInt8 := if chkEl no d = 0 then headEl (elGet no) d.length ++ d else []
/-- the length that is read: the error, and how many -/
def sizEl (r : FRow) (b : List UInt8) : Int × Nat := if r.dig = 0 then (0, r.top) else if b.length < r.dig then (3, 0) else (numE (b.take r.dig), numR (b.take r.dig))
/-- what is read: the error, the data, how many bytes -/
def rdR (r : FRow) (b : List UInt8) : Int × List UInt8 × Nat :=
  if (sizEl r b).1 ≠ 0 then ((sizEl r b).1, [], 0)
  else if fitB r (sizEl r b).2 = false then (17, [], 0)
  else if b.length < r.dig + (sizEl r b).2 then (3, [], 0)
  else if typB r.kind ((b.drop r.dig).take (sizEl r b).2) = false then (14, [], 0)
  else (0, (b.drop r.dig).take (sizEl r b).2, r.dig + (sizEl r b).2)
def rdEl (no : Int) (b : List UInt8) : Int × List UInt8 × Nat := match elFind no with
  | none => (16, [], 0)
  | some r => rdR r b
def reL (no : Int) (b : List UInt8) : List UInt8 := (rdEl no b).2.1
def reN (no : Int) (b : List UInt8) : Nat := (rdEl no b).2.2
def reE (no : Int) (b : List UInt8) : Int := (rdEl no b).1

theorem chkR_ok {r : FRow} {d : List UInt8} (h : chkR r d = 0) : fitB r d.length = true ∧ typB r.kind d = true := by
  unfold chkR at h
  split at h
  · cases h
  · split at h
    · cases h
    · rename_i h1 h2
      exact ⟨by simpa using h1, by simpa using h2⟩
theorem fitB_iff {r : FRow} {n : Nat} : fitB r n = true ↔ (if r.dig = 0 then r.top else 1) ≤ n ∧ n ≤ r.top := by simp [fitB]
theorem fit_bounds {r : FRow} (hr : r ∈ elT) {n : Nat} (h : fitB r n = true) : 1 ≤ n ∧ n ≤ r.top ∧ n ≤ 999 ∧ (r.dig = 0 → n = r.top) := by
  have h1 := fitB_iff.1 h
  obtain ⟨a1, a2, -⟩ := el_row hr
  split at h1
  · exact ⟨by omega, h1.2, by omega, fun _ => by omega⟩
  · rename_i h2
    exact ⟨h1.1, h1.2, by omega, fun h => absurd h h2⟩
/-- digits enough -/
theorem dd_len : ∀ (k n : Nat), n < 10 ^ (k + 1) → (Lib.decDigits n).length ≤ k + 1
  | 0, n, h => by rw [Lib.decDigits, dif_pos (by simpa using h)]; simp
  | k + 1, n, h => by
    rw [Lib.decDigits]
    split
    · simp
    · rw [List.length_append, List.length_singleton]
      have := dd_len k (n / 10) (by rw [Nat.pow_succ] at h; omega)
      omega
theorem head_is {r : FRow} (hr : r ∈ elT) {n : Nat} (h : fitB r n = true) (hd : r.dig ≠ 0) :
    (headEl r n).length = r.dig ∧ (headEl r n).all isD = true ∧ numE (headEl r n) = 0 ∧ numR (headEl r n) = n := by
  obtain ⟨b1, b2, b3, b4⟩ := fit_bounds hr h
  obtain ⟨a1, a2, a3, a4, -⟩ := el_row hr
  have hlt := a4 hd
  have hl : (Lib.decDigits n).length ≤ r.dig := by
    obtain ⟨k, hk⟩ : ∃ k, r.dig = k + 1 := ⟨r.dig - 1, by omega⟩
    rw [hk] at hlt ⊢
    exact dd_len k n (by omega)
  unfold headEl
  rcases text_cases n (r.dig : Int) with ⟨h1, _, _⟩ | ⟨h1, _, _⟩ | ⟨_, _, h1, _, _⟩ | ⟨m, h1, h2, h3, h4, h5⟩
  · omega
  · omega
  · omega
  · rw [h5]
    have hw := wide_length n m
    have hn := wide_number n m (by omega) (by omega)
    exact ⟨by omega, wide_all n m, hn.2, hn.1⟩
theorem head_none {r : FRow} (n : Nat) (hd : r.dig = 0) : headEl r n = [] := by
  unfold headEl
  rw [hd]
  rfl
theorem head_len {r : FRow} (hr : r ∈ elT) {n : Nat} (h : fitB r n = true) : (headEl r n).length = r.dig := by
  by_cases hd : r.dig = 0
  · rw [head_none n hd, hd]; rfl
  · exact (head_is hr h hd).1
/-- the length ahead is read as it was written -/
theorem siz_back {r : FRow} (hr : r ∈ elT) {n : Nat} (h : fitB r n = true) (x : List UInt8) : sizEl r (headEl r n ++ x) = (0, n) := by
  unfold sizEl
  by_cases hd : r.dig = 0
  · rw [if_pos hd, (fit_bounds hr h).2.2.2 hd]
  · obtain ⟨h1, h2, h3, h4⟩ := head_is hr h hd
    rw [if_neg hd, if_neg (by rw [List.length_append, h1]; omega)]
    have ht : (headEl r n ++ x).take r.dig = headEl r n := by rw [← h1, List.take_left]
    rw [ht, h3, h4]
theorem rd_back {r : FRow} (hr : r ∈ elT) {d : List UInt8} (h : chkR r d = 0) (more : List UInt8) : rdR r (headEl r d.length ++ d ++ more) = (0, d, r.dig + d.length) := by
  obtain ⟨h1, h2⟩ := chkR_ok h
  have hs := siz_back hr h1 (d ++ more)
  rw [← List.append_assoc] at hs
  have hl := head_len hr h1
  have hdr : ((headEl r d.length ++ d ++ more).drop r.dig).take d.length = d := by
    rw [List.append_assoc, ← hl, List.drop_left, List.take_left]
  unfold rdR
  rw [hs]
  dsimp only
  rw [if_neg (by decide), if_neg (by rw [h1]; decide), if_neg (by simp only [List.length_append, hl]; omega), hdr, if_neg (by rw [h2]; decide)]
theorem rd_cut {r : FRow} (hr : r ∈ elT) {d : List UInt8} (h : chkR r d = 0) (k : Nat) (hk : k < r.dig + d.length) : (rdR r ((headEl r d.length ++ d).take k)).1 = 3 := by
  obtain ⟨h1, h2⟩ := chkR_ok h
  have hl := head_len hr h1
  obtain ⟨b1, b2, b3, b4⟩ := fit_bounds hr h1
  rcases Nat.lt_or_ge k r.dig with hlt | hge
  · have hs : sizEl r ((headEl r d.length ++ d).take k) = (3, 0) := by
      unfold sizEl
      rw [if_neg (by omega), if_pos (by rw [List.length_take]; omega)]
    unfold rdR
    rw [hs, if_pos (by decide)]
  · have ht : (headEl r d.length ++ d).take k = headEl r d.length ++ d.take (k - r.dig) := by
      rw [List.take_append, hl, List.take_of_length_le (by omega)]
    have hs := siz_back hr h1 (d.take (k - r.dig))
    unfold rdR
    rw [ht, hs]
    dsimp only
    rw [if_neg (by decide), if_neg (by rw [h1]; decide), if_pos (by rw [List.length_append, List.length_take, hl]; omega)]
theorem wrt_ok {no : Int} {d : List UInt8} (h : chkEl no d = 0) : ∃ r, elFind no = some r ∧ r ∈ elT ∧ chkR r d = 0 ∧ wrtEl no d = headEl r d.length ++ d ∧ (wrtEl no d).length = r.dig + d.length ∧ 0 < d.length := by
  have h0 := h
  unfold chkEl at h
  split at h
  · cases h
  · rename_i r hr
    have hm := (elFind_some hr).1
    have h1 := chkR_ok h
    have hw : wrtEl no d = headEl r d.length ++ d := by unfold wrtEl; rw [if_pos h0]; unfold elGet; rw [hr]; rfl
    have hb := fit_bounds hm h1.1
    exact ⟨r, hr, hm, h, hw, by rw [hw, List.length_append, head_len hm h1.1], by omega⟩
theorem el_back {no : Int} {d : List UInt8} (h : chkEl no d = 0) (more : List UInt8) : reE no (wrtEl no d ++ more) = 0 ∧ reL no (wrtEl no d ++ more) = d ∧ reN no (wrtEl no d ++ more) = (wrtEl no d).length := by
  obtain ⟨r, hr, hm, hc, hw, hl, _⟩ := wrt_ok h
  have hb := rd_back hm hc more
  unfold reE reL reN rdEl
  rw [hr, hw]
  dsimp only
  rw [hb]
  exact ⟨rfl, rfl, by rw [← hl, hw]⟩
theorem el_cut {no : Int} {d : List UInt8} (h : chkEl no d = 0) (k : Nat) (hk : k < (wrtEl no d).length) : reE no ((wrtEl no d).take k) = 3 := by
  obtain ⟨r, hr, hm, hc, hw, hl, _⟩ := wrt_ok h
  have hb := rd_cut hm hc k (by omega)
  unfold reE rdEl
  rw [hr, hw]
  exact hb
theorem wrt_len {no : Int} {d : List UInt8} : (wrtEl no d).length ≤ 4 + 999 := by
  by_cases h : chkEl no d = 0
  · obtain ⟨r, hr, hm, hc, hw, hl, _⟩ := wrt_ok h
    have := fit_bounds hm (chkR_ok hc).1
    have := el_row hm
    omega
  · unfold wrtEl; rw [if_neg h]; simp
end Go.Proofs.YthlgnmgjfgbffaaGreatDoor
/- Times and amounts, and what a type lets, as plain functions on lists of bytes, and what follows of them: no program. -/
namespace Go.Proofs.YthlgnmgjfgbffaaGreatDoor
set_option linter.unusedVariables false

/-- a year with a day more -/
def leapB (y : Nat) : Bool := if y % 100 = 0 then decide (y % 400 = 0) else decide (y % 4 = 0)
def daysN (y m : Nat) : Nat := if m = 4 ∨ m = 6 ∨ m = 9 ∨ m = 11 then 30 else if m = 2 then (if leapB y then 29 else 28) else 31
def datedB (y m d : Nat) : Bool := decide (1 ≤ m ∧ m ≤ 12 ∧ 1 ≤ d ∧ d ≤ daysN y m)
def cutN (l : List UInt8) (i j : Nat) : List UInt8 := (l.drop i).take (j - i)
def prt (l : List UInt8) (i j : Nat) : Nat := numV (cutN l i j)
/-- a time -/
def timeP (y m d h n s : Nat) : Bool := decide (0 < y) && (datedB y m d && (decide (h < 24) && (decide (n < 60) && decide (s < 60))))
def timeB (l : List UInt8) : Bool := rightB l 14 14 && timeP (prt l 0 4) (prt l 4 6) (prt l 6 8) (prt l 8 10) (prt l 10 12) (prt l 12 14)
/-- as it is shown -/
def shownL (l : List UInt8) : List UInt8 := cutN l 0 4 ++ [45] ++ cutN l 4 6 ++ [45] ++ cutN l 6 8 ++ [84] ++ cutN l 8 10 ++ [58] ++ cutN l 10 12 ++ [58] ++ cutN l 12 14
def timeTextR (l : List UInt8) : List UInt8 := if timeB l then shownL l else []
def timeTextE (l : List UInt8) : Int := if timeB l then 0 else 14
/-- without its marks -/
def hidL (l : List UInt8) : List UInt8 := cutN l 0 4 ++ cutN l 5 7 ++ cutN l 8 10 ++ cutN l 11 13 ++ cutN l 14 16 ++ cutN l 17 19
def timeOfB (l : List UInt8) : Bool := decide (l.length = 19) && (timeB (hidL l) && decide (shownL (hidL l) = l))
def timeOfR (l : List UInt8) : List UInt8 := if timeOfB l then hidL l else []
def timeOfE (l : List UInt8) : Int := if timeOfB l then 0 else 14
/-- the hundredth of an amount -/
def twoL (v : Nat) : List UInt8 := [UInt8.ofNat (48 + v / 10), UInt8.ofNat (48 + v % 10)]
def amtL (v : Nat) : List UInt8 := Lib.decDigits (v / 100) ++ [46] ++ twoL (v % 100)
def amtR (v : Nat) : List UInt8 := if v ≤ 999999999999 then amtL v else []
def amtE (v : Nat) : Int := if v ≤ 999999999999 then 0 else 4
def amtV (l : List UInt8) : Nat := numV (l.filter isD)
def amtB (l : List UInt8) : Bool := decide (amtV l ≤ 999999999999) && decide (amtL (amtV l) = l)
def amtOfR (l : List UInt8) : Nat := if amtB l then amtV l else 0
def amtOfE (l : List UInt8) : Int := if amtB l then 0 else 14
/-- a capital -/
def capC (c : UInt8) : Bool := decide (65 ≤ c.toNat) && decide (c.toNat ≤ 90)
def codeB (l : List UInt8) : Bool := decide (l.length = 4) && l.all capC

theorem cutN_len (l : List UInt8) (i j : Nat) (h : j ≤ l.length) : (cutN l i j).length = j - i := by
  unfold cutN; rw [List.length_take, List.length_drop]; omega
theorem cutN_all {l : List UInt8} {p : UInt8 → Bool} (h : l.all p = true) (i j : Nat) : (cutN l i j).all p = true := by
  rw [List.all_eq_true] at h ⊢
  exact fun x hx => h x (List.mem_of_mem_drop (List.mem_of_mem_take hx))
/-- digits, from one to eighteen: their number -/
theorem num_digits {l : List UInt8} (h : l.all isD = true) (h1 : 1 ≤ l.length) (h2 : l.length ≤ 18) : numR l = numV l ∧ numE l = 0 := by
  have hr : rightB l 1 18 = true := by
    unfold rightB
    rw [h, decide_eq_true (by omega), decide_eq_true (by omega)]
    rfl
  exact ⟨by unfold numR; rw [if_pos hr], by unfold numE; rw [if_pos hr]⟩
theorem prt_lt {l : List UInt8} (h : l.all isD = true) (i j : Nat) (hj : j ≤ l.length) (h4 : j - i ≤ 4) : prt l i j < 10000 := by
  have h1 := numV_le (cutN_all h i j)
  rw [cutN_len l i j hj] at h1
  have h2 : 10 ^ (j - i) ≤ 10 ^ 4 := Nat.pow_le_pow_right (by decide) h4
  unfold prt
  omega

theorem two_wide (v : Nat) (h : v < 100) : textR v 2 = twoL v ∧ textE v 2 = 0 := by
  by_cases h1 : v < 10
  · have e : Lib.decDigits v = [UInt8.ofNat (48 + v)] := Lib.decDigits_one h1
    have he : textE v 2 = 0 := by unfold textE; rw [e]; simp
    refine ⟨?_, he⟩
    unfold textR
    rw [if_pos he]
    unfold wide twoL
    rw [e, show v / 10 = 0 from by omega, show v % 10 = v from by omega]
    rfl
  · have e := Lib.decDigits_two h1 h
    have he : textE v 2 = 0 := by unfold textE; rw [e]; simp
    refine ⟨?_, he⟩
    unfold textR
    rw [if_pos he]
    unfold wide twoL
    rw [e]
    rfl
theorem twoL_all (v : Nat) (h : v < 100) : (twoL v).all isD = true := by
  unfold twoL
  simp only [List.all_cons, List.all_nil, Bool.and_true, Bool.and_eq_true]
  exact ⟨isD_mk (by rw [UInt8.toNat_ofNat']; omega) (by rw [UInt8.toNat_ofNat']; omega), isD_mk (by rw [UInt8.toNat_ofNat']; omega) (by rw [UInt8.toNat_ofNat']; omega)⟩
theorem numV_app : ∀ (l m : List UInt8), numV (l ++ m) = numV l * 10 ^ m.length + numV m := by
  intro l m
  have hr : ∀ k : List UInt8, numV (l ++ k.reverse) = numV l * 10 ^ k.length + numV k.reverse := by
    intro k
    induction k with
    | nil => simp [numV]
    | cons c k ih =>
      rw [List.reverse_cons, ← List.append_assoc, numV_snoc, numV_snoc, ih, List.length_cons, Nat.pow_succ]
      have : 10 * (numV l * 10 ^ k.length + numV k.reverse) = numV l * (10 ^ k.length * 10) + 10 * numV k.reverse := by
        rw [Nat.mul_add, ← Nat.mul_assoc (numV l), Nat.mul_comm 10 (numV l * _)]
      omega
  simpa using hr m.reverse
theorem numV_two (v : Nat) (h : v < 100) : numV (twoL v) = v := by
  have := (two_wide v h).1
  rw [← this]
  unfold textR
  rw [if_pos (two_wide v h).2]
  exact numV_wide _ _
theorem numV_dig (v : Nat) : numV (Lib.decDigits (v / 100) ++ twoL (v % 100)) = v := by
  rw [numV_app, numV_dec, numV_two _ (by omega)]
  show v / 100 * 10 ^ 2 + v % 100 = v
  omega
theorem filter_all {l : List UInt8} (h : l.all isD = true) : l.filter isD = l := by
  rw [List.filter_eq_self]
  exact fun x hx => List.all_eq_true.1 h x hx
theorem amtV_amtL (v : Nat) : amtV (amtL v) = v := by
  unfold amtV amtL
  rw [List.filter_append, List.filter_append, filter_all (dec_all _), filter_all (twoL_all _ (by omega))]
  have : [46].filter isD = [] := by decide
  rw [this, List.append_nil, numV_dig]
/-- an amount as text is what it is made of -/
theorem amt_is {l : List UInt8} {v : Nat} (h : amtL v = l) : amtV l = v := by rw [← h, amtV_amtL]
theorem dec_length (v : Nat) (h : v ≤ 999999999999) : 1 ≤ (Lib.decDigits (v / 100)).length ∧ (Lib.decDigits (v / 100)).length ≤ 10 := by
  rw [Lib.decDigits_length]
  refine ⟨Lib.nDigits_pos _, ?_⟩
  have key : ∀ (k u : Nat), u < 10 ^ (k + 1) → Lib.nDigits u ≤ k + 1 := by
    intro k
    induction k with
    | zero => intro u hu; rw [Lib.nDigits_small (by omega)]; omega
    | succ k ih =>
      intro u hu
      by_cases h1 : u < 10
      · rw [Lib.nDigits_small h1]; omega
      · rw [Lib.nDigits_big h1]
        have := ih (u / 10) (by rw [Nat.pow_succ] at hu; omega)
        omega
  exact key 9 _ (by show v / 100 < 10000000000; omega)
theorem amtL_length (v : Nat) (h : v ≤ 999999999999) : (amtL v).length = (Lib.decDigits (v / 100)).length + 3 := by
  unfold amtL twoL; simp
theorem dot_not {c : UInt8} (h : isD c = true) : c ≠ 46 := by
  rintro rfl
  revert h
  decide
theorem take_digits {l r : List UInt8} (h : l.all isD = true) : (l ++ [46] ++ r).takeWhile (fun c => decide (c ≠ 46)) = l ∧ (l ++ [46] ++ r).dropWhile (fun c => decide (c ≠ 46)) = 46 :: r := by
  induction l with
  | nil => simp
  | cons a l ih =>
    simp only [List.all_cons, Bool.and_eq_true] at h
    obtain ⟨i1, i2⟩ := ih h.2
    have ha : decide (a ≠ 46) = true := by simpa using dot_not h.1
    simp only [List.cons_append, List.takeWhile_cons, List.dropWhile_cons, ha, if_true]
    exact ⟨by rw [i1], i2⟩
/-- as the program finds it: what is ahead of the dot, and behind it, is a number; told, it is the same -/
theorem amt_prog (l a b : List UInt8) (ha : a = l.takeWhile (fun c => decide (c ≠ 46))) (hb : b = (l.dropWhile (fun c => decide (c ≠ 46))).drop 1) :
    (amtB l = true → numE (a ++ b) = 0 ∧ numR (a ++ b) = amtV l ∧ amtR (amtV l) = l ∧ amtE (amtV l) = 0) ∧
    (numE (a ++ b) = 0 → amtE (numR (a ++ b)) = 0 → amtR (numR (a ++ b)) = l → amtB l = true) := by
  constructor
  · intro h
    unfold amtB at h
    simp only [Bool.and_eq_true, decide_eq_true_eq] at h
    obtain ⟨h1, h2⟩ := h
    obtain ⟨d1, d2⟩ := dec_length _ h1
    obtain ⟨v, hv⟩ : ∃ v, v = amtV l := ⟨_, rfl⟩
    rw [← hv] at h1 h2 d1 d2 ⊢
    unfold amtL at h2
    obtain ⟨t1, t2⟩ := take_digits (r := twoL (v % 100)) (dec_all (v / 100))
    rw [h2] at t1 t2
    rw [t1] at ha
    rw [t2] at hb
    have hb : b = twoL (v % 100) := hb
    obtain ⟨n1, n2⟩ := num_digits (l := a ++ b) (by rw [ha, hb, List.all_append, dec_all, twoL_all _ (by omega)]; rfl) (by rw [ha, List.length_append]; omega) (by rw [ha, hb, List.length_append]; show _ + 2 ≤ 18; omega)
    refine ⟨n2, ?_, ?_, ?_⟩
    · rw [n1, ha, hb, numV_dig]
    · unfold amtR; rw [if_pos h1]; exact h2
    · unfold amtE; rw [if_pos h1]
  · intro h1 h2 h3
    have hle : numR (a ++ b) ≤ 999999999999 := by
      unfold amtE at h2
      by_cases h : numR (a ++ b) ≤ 999999999999
      · exact h
      · rw [if_neg h] at h2; cases h2
    unfold amtR at h3
    rw [if_pos hle] at h3
    have := amt_is h3
    unfold amtB
    rw [this, decide_eq_true hle, decide_eq_true h3]
    rfl
theorem amt_len {l : List UInt8} (h : amtB l = true) : 4 ≤ l.length ∧ l.length ≤ 13 := by
  unfold amtB at h
  simp only [Bool.and_eq_true, decide_eq_true_eq] at h
  have h1 := amtL_length _ h.1
  rw [h.2] at h1
  have := dec_length _ h.1
  omega
/-- as the statements' own answer finds it: three signs from the end -/
theorem amt_ref (l : List UInt8) (h3 : 3 ≤ l.length) :
    (amtB l = true → numE (l.take (l.length - 3) ++ l.drop (l.length - 3 + 1)) = 0 ∧ numR (l.take (l.length - 3) ++ l.drop (l.length - 3 + 1)) = amtV l ∧ amtR (amtV l) = l ∧ amtE (amtV l) = 0) ∧
    (amtE (numR (l.take (l.length - 3) ++ l.drop (l.length - 3 + 1))) = 0 → amtR (numR (l.take (l.length - 3) ++ l.drop (l.length - 3 + 1))) = l → amtB l = true) := by
  constructor
  · intro h
    obtain ⟨p1, p2, p3, p4⟩ := (amt_prog l _ _ rfl rfl).1 h
    unfold amtB at h
    simp only [Bool.and_eq_true, decide_eq_true_eq] at h
    have hl := amtL_length _ h.1
    have h2 := h.2
    rw [h2] at hl
    unfold amtL at h2
    obtain ⟨t1, t2⟩ := take_digits (r := twoL (amtV l % 100)) (dec_all (amtV l / 100))
    rw [h2] at t1 t2
    have key : ∀ (d r m : List UInt8), d ++ [46] ++ r = m → m.take d.length = d ∧ m.drop (d.length + 1) = r := by
      rintro d r m rfl
      rw [List.append_assoc]
      exact ⟨List.take_left, by rw [← List.drop_drop, List.drop_left]; rfl⟩
    obtain ⟨k1, k2⟩ := key _ _ _ h2
    have e1 : l.take (l.length - 3) = l.takeWhile (fun c => decide (c ≠ 46)) := by
      rw [t1, hl, Nat.add_sub_cancel]
      exact k1
    have e2 : l.drop (l.length - 3 + 1) = (l.dropWhile (fun c => decide (c ≠ 46))).drop 1 := by
      rw [t2, hl, Nat.add_sub_cancel]
      exact k2
    rw [e1, e2]
    exact ⟨p1, p2, p3, p4⟩
  · intro h2 h4
    generalize l.take (l.length - 3) ++ l.drop (l.length - 3 + 1) = X at h2 h4
    have hle : numR X ≤ 999999999999 := by
      unfold amtE at h2
      by_cases h : numR X ≤ 999999999999
      · exact h
      · rw [if_neg h] at h2; cases h2
    unfold amtR at h4
    rw [if_pos hle] at h4
    have := amt_is h4
    unfold amtB
    rw [this, decide_eq_true hle, decide_eq_true h4]
    rfl
end Go.Proofs.YthlgnmgjfgbffaaGreatDoor
/- Package element's table, as it is laid. No program. -/
namespace Go.Proofs.YthlgnmgjfgbffaaGreatDoor
set_option linter.unusedVariables false

def FRow.cells (r : FRow) : List Value := [.int .i64 r.no, .int .i64 r.kind, .int .i64 (r.dig : Int), .int .i64 (r.top : Int), .bool r.spare]
def FRow.val (r : FRow) : Value := .agg #[.int .i64 r.no, .int .i64 r.kind, .int .i64 (r.dig : Int), .int .i64 (r.top : Int), .bool r.spare]
def eleV : List Value := elT.flatMap FRow.cells
end Go.Proofs.YthlgnmgjfgbffaaGreatDoor
