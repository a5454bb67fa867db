/- What digits tell, and a number in so many digits, as plain functions: no program. -/
import Derived.Test.YtijlekikmkeihaaDoorDigMath
namespace Go.Proofs.YtijlekikmkeihaaDoor
set_option linter.unusedVariables false

theorem numV_snoc (l : List UInt8) (c : UInt8) : numV (l ++ [c]) = 10 * numV l + (half c).toNat := by simp [numV]
theorem numV_le {l : List UInt8} (h : l.all isD = true) : numV l + 1 ≤ 10 ^ l.length := by
  have hr : ∀ m : List UInt8, m.all isD = true → numV m.reverse + 1 ≤ 10 ^ m.length := by
    intro m
    induction m with
    | nil => intro _; simp [numV]
    | cons c m ih =>
      intro hm
      simp only [List.all_cons, Bool.and_eq_true] at hm
      have h1 := ih hm.2
      have h2 := half_digit hm.1
      have h3 := isD_true.1 hm.1
      rw [List.reverse_cons, numV_snoc, List.length_cons, Nat.pow_succ]
      omega
  have := hr l.reverse (by simpa using h)
  simpa using this

/-- what Number answers -/
def numR (l : List UInt8) : Nat := if rightB l 1 18 then numV l else 0
def numE (l : List UInt8) : Int := if rightB l 1 18 then 0 else 5
theorem rightB_len {l : List UInt8} {low top : Int} (h : rightB l low top = true) : low ≤ (l.length : Int) ∧ (l.length : Int) ≤ top ∧ l.all isD = true := by
  simpa [rightB] using h
theorem pow_le_18 {k : Nat} (h : k ≤ 17) : 10 ^ k ≤ 100000000000000000 := by
  have := Nat.pow_le_pow_right (n := 10) (by decide) h
  simpa using this
theorem dig_take {l : List UInt8} {p : UInt8 → Bool} (h : l.all p = true) (k : Nat) : (l.take k).all p = true := by
  rw [List.all_eq_true] at h ⊢
  exact fun x hx => h x (List.mem_of_mem_take hx)

def textE (v : Nat) (z : Int) : Int := if z < 1 ∨ 20 < z then 1 else if z < ((Lib.decDigits v).length : Int) then 4 else 0
/-- noughts ahead of the digits -/
def wide (v k : Nat) : List UInt8 := List.replicate k 48 ++ Lib.decDigits v
def textR (v : Nat) (z : Int) : List UInt8 := if textE v z = 0 then wide v (z.toNat - (Lib.decDigits v).length) else []
theorem text_cases (v : Nat) (z : Int) : (z < 1 ∧ textE v z = 1 ∧ textR v z = []) ∨ (20 < z ∧ textE v z = 1 ∧ textR v z = []) ∨ (1 ≤ z ∧ z ≤ 20 ∧ z < ((Lib.decDigits v).length : Int) ∧ textE v z = 4 ∧ textR v z = []) ∨
    ∃ m : Nat, z = ((Lib.decDigits v).length : Int) + (m : Int) ∧ 1 ≤ z ∧ z ≤ 20 ∧ textE v z = 0 ∧ textR v z = wide v m := by
  by_cases h1 : z < 1
  · have e : textE v z = 1 := by unfold textE; rw [if_pos (.inl h1)]
    exact .inl ⟨h1, e, by unfold textR; rw [e]; rfl⟩
  by_cases h2 : 20 < z
  · have e : textE v z = 1 := by unfold textE; rw [if_pos (.inr h2)]
    exact .inr (.inl ⟨h2, e, by unfold textR; rw [e]; rfl⟩)
  by_cases h3 : z < ((Lib.decDigits v).length : Int)
  · have e : textE v z = 4 := by unfold textE; rw [if_neg (by omega), if_pos h3]
    exact .inr (.inr (.inl ⟨by omega, by omega, h3, e, by unfold textR; rw [e]; rfl⟩))
  · have e : textE v z = 0 := by unfold textE; rw [if_neg (by omega), if_neg h3]
    refine .inr (.inr (.inr ⟨z.toNat - (Lib.decDigits v).length, by omega, by omega, by omega, e, ?_⟩))
    unfold textR
    rw [if_pos e]
theorem wide_length (v k : Nat) : (wide v k).length = k + (Lib.decDigits v).length := by simp [wide]


theorem half_of (d : Nat) (h : d < 10) : (half (UInt8.ofNat (48 + d))).toNat = d := by
  rw [half_digit (isD_mk (by rw [UInt8.toNat_ofNat']; omega) (by rw [UInt8.toNat_ofNat']; omega)), UInt8.toNat_ofNat']
  omega
theorem numV_dec (v : Nat) : numV (Lib.decDigits v) = v := by
  induction v using Nat.strongRecOn with
  | _ v ih =>
    rw [Lib.decDigits]
    split
    · rename_i h
      rw [show ([UInt8.ofNat (48 + v)] : List UInt8) = [] ++ [UInt8.ofNat (48 + v)] from rfl, numV_snoc, half_of v h]
      show 10 * 0 + v = v
      omega
    · rw [numV_snoc, ih (v / 10) (by omega), half_of _ (by omega)]
      omega
theorem dec_all (v : Nat) : (Lib.decDigits v).all isD = true := by
  induction v using Nat.strongRecOn with
  | _ v ih =>
    rw [Lib.decDigits]
    split
    · simp only [List.all_cons, List.all_nil, Bool.and_true]
      exact isD_mk (by rw [UInt8.toNat_ofNat']; omega) (by rw [UInt8.toNat_ofNat']; omega)
    · rw [List.all_append, ih (v / 10) (by omega)]
      simp only [List.all_cons, List.all_nil, Bool.and_true, Bool.true_and]
      exact isD_mk (by rw [UInt8.toNat_ofNat']; omega) (by rw [UInt8.toNat_ofNat']; omega)
theorem numV_wide (v m : Nat) : numV (wide v m) = v := by
  unfold wide
  induction m with
  | zero => exact numV_dec v
  | succ m ih =>
    rw [List.replicate_succ, List.cons_append]
    have h : numV (48 :: (List.replicate m 48 ++ Lib.decDigits v)) = numV (List.replicate m 48 ++ Lib.decDigits v) := rfl
    rw [h, ih]
theorem wide_all (v m : Nat) : (wide v m).all isD = true := by
  unfold wide
  rw [List.all_append, dec_all, Bool.and_true, List.all_eq_true]
  intro x hx
  rw [List.eq_of_mem_replicate hx]
  decide
theorem wide_number (v m : Nat) (h1 : 1 ≤ (wide v m).length) (h2 : (wide v m).length ≤ 18) : numR (wide v m) = v ∧ numE (wide v m) = 0 := by
  have hr : rightB (wide v m) 1 18 = true := by
    unfold rightB
    rw [wide_all, decide_eq_true (by omega), decide_eq_true (by omega)]
    rfl
  exact ⟨by unfold numR; rw [if_pos hr, numV_wide], by unfold numE; rw [if_pos hr]⟩

end Go.Proofs.YtijlekikmkeihaaDoor
