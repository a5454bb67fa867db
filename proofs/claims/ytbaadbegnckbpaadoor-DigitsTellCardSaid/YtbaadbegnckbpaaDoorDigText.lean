/- A number in so many digits: what package digits tells, and the statements' own answer. -/
import Derived.Test.YtbaadbegnckbpaaDoorDig
import Derived.Test.YtbaadbegnckbpaaDoorFmt
import Derived.Test.YtbaadbegnckbpaaDoorRefDigits
namespace Go.Proofs.YtbaadbegnckbpaaDoor
open Go.RowKit
set_option maxHeartbeats 400000
set_option linter.unusedVariables false

def textE (v : Nat) (z : Int) : Int := if z < 1 ∨ 20 < z then 1 else if z < ((Lib.decDigits v).length : Int) then 4 else 0
/-- noughts ahead of the digits -/
def wide (v k : Nat) : List UInt8 := List.replicate k 48 ++ Lib.decDigits v
def textR (v : Nat) (z : Int) : List UInt8 := if textE v z = 0 then wide v (z.toNat - (Lib.decDigits v).length) else []
theorem text_cases (v : Nat) (z : Int) : (z < 1 ∧ textE v z = 1 ∧ textR v z = []) ∨ (20 < z ∧ textE v z = 1 ∧ textR v z = []) ∨ (1 ≤ z ∧ z ≤ 20 ∧ z < ((Lib.decDigits v).length : Int) ∧ textE v z = 4 ∧ textR v z = []) ∨
    ∃ m : Nat, z = ((Lib.decDigits v).length : Int) + (m : Int) ∧ 1 ≤ z ∧ z ≤ 20 ∧ textE v z = 0 ∧ textR v z = wide v m := by
  by_cases h1 : z < 1
  · have e : textE v z = 1 := by unfold textE; rw [if_pos (.inl h1)]
    exact .inl ⟨h1, e, by unfold textR; rw [e]; rfl⟩
  by_cases h2 : 20 < z
  · have e : textE v z = 1 := by unfold textE; rw [if_pos (.inr h2)]
    exact .inr (.inl ⟨h2, e, by unfold textR; rw [e]; rfl⟩)
  by_cases h3 : z < ((Lib.decDigits v).length : Int)
  · have e : textE v z = 4 := by unfold textE; rw [if_neg (by omega), if_pos h3]
    exact .inr (.inr (.inl ⟨by omega, by omega, h3, e, by unfold textR; rw [e]; rfl⟩))
  · have e : textE v z = 0 := by unfold textE; rw [if_neg (by omega), if_neg h3]
    refine .inr (.inr (.inr ⟨z.toNat - (Lib.decDigits v).length, by omega, by omega, by omega, e, ?_⟩))
    unfold textR
    rw [if_pos e]
theorem wide_length (v k : Nat) : (wide v k).length = k + (Lib.decDigits v).length := by simp [wide]

theorem text_any (v : Nat) (z : Int) (w : World) (hv : v < 18446744073709551616) (htab : Tab w) :
    Calls Tryd.prog 9 #[.int .u64 (v : Int), .int .i64 z] w fun e w' => e = .returned (.tuple #[.string (bstr (textR v z)), .int .i64 (textE v z)]) ∧ Fr No w w' := by
  have hfm := fun w h => format_any v hv w h
  have hl := decDigits_len v hv
  have HV := Lib.hid hv
  clear hv
  rcases text_cases v z with ⟨h, e1, e2⟩ | ⟨h, e1, e2⟩ | ⟨h1, h2, h3, e1, e2⟩ | ⟨m, rfl, h1, h2, e1, e2⟩
  · rw [e1, e2]
    clear e1 e2 hfm
    go_enter Tryd.func9, Tryd.ntmps9
    go_wp2
    go_ret2
    exact ⟨rfl, Fr.refl _ _⟩
  · rw [e1, e2]
    clear e1 e2 hfm
    go_enter Tryd.func9, Tryd.ntmps9
    go_wp2
    go_ret2
    exact ⟨rfl, Fr.refl _ _⟩
  · rw [e1, e2]
    have hsz : (bstr (Lib.decDigits v)).size = (Lib.decDigits v).length := bstr_size _
    generalize bstr (Lib.decDigits v) = D at hfm hsz
    rw [← hsz] at h3 hl
    have HF := Lib.hid hfm
    clear e1 e2 hfm hsz
    go_enter Tryd.func9, Tryd.ntmps9
    go_wp2_with (go_at_call 24; refine (HF.out _ htab).mono ?_; rintro e w1 ⟨rfl, hf⟩)
    go_ret2
    exact ⟨rfl, hf⟩
  · rw [e1, e2]
    have hsz : (bstr (Lib.decDigits v)).size = (Lib.decDigits v).length := bstr_size _
    have hwd : bstr (wide v m) = bstr (List.replicate m 48) ++ bstr (Lib.decDigits v) := by unfold wide; rw [bstr_append]
    have hrp : bstr (Lib.repeatL ({ data := #[48] } : ByteArray).data.toList m) = bstr (List.replicate m 48) := by
      have := Lib.repeatL_replicate (48 : UInt8) 1 m
      rw [Nat.mul_one] at this
      show bstr (Lib.repeatL [48] m) = _
      rw [← this]
      rfl
    have hrz : (bstr (List.replicate m 48)).size = m := by rw [bstr_size]; simp
    generalize bstr (Lib.decDigits v) = D at hfm hsz hwd
    generalize bstr (List.replicate m 48) = Z at hwd hrp hrz
    rw [← hsz] at h1 h2 hl ⊢
    rw [hwd]
    have hz20 : Z.size ≤ 20 := by omega
    have hm20 : m ≤ 20 := by omega
    have hrc : (D.size : Int) + (m : Int) - (D.size : Int) = (m : Int) := by omega
    have HF := Lib.hid hfm
    have HR := Lib.hid hrp
    clear e1 e2 hfm hsz hwd hrp hrz
    go_enter Tryd.func9, Tryd.ntmps9
    go_wp2_with (first
      | (go_at_call 24; refine (HF.out _ htab).mono ?_; rintro e w1 ⟨rfl, hf⟩)
      | (go_at_call 25; refine (Tryd.strings_Repeat { data := #[48] } m _ (by omega) (by show 1 * m ≤ _; omega)).mono ?_; rintro e w2 ⟨rfl, hb⟩; rw [show (⟨(Lib.repeatL ({ data := #[48] } : ByteArray).data.toList m).toArray⟩ : ByteArray) = Z from HR.out]))
    go_ret2
    exact ⟨rfl, hf.trans (Fr.of_below hb)⟩
end Go.Proofs.YtbaadbegnckbpaaDoor
