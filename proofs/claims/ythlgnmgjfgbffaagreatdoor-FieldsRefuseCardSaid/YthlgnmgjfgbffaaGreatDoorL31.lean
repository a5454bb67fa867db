/- The texts DigText, joined. -/
import Derived.Test.YthlgnmgjfgbffaaGreatDoorL11
import Derived.Test.YthlgnmgjfgbffaaGreatDoorL29
import Derived.Test.YthlgnmgjfgbffaaGreatDoorL30
import Derived.Test.YthlgnmgjfgbffaaGreatDoorL06
/- A number in so many digits: what package digits tells, and the statements' own answer. -/
namespace Go.Proofs.YthlgnmgjfgbffaaGreatDoor
open Go.RowKit
set_option maxHeartbeats 400000
set_option linter.unusedVariables false
set_option maxRecDepth 20000

theorem text_any (v : Nat) (z : Int) (w : World) (hv : v < 18446744073709551616) (htab : Tab w) :
    Calls Tryz.prog 110 #[.int .u64 (v : Int), .int .i64 z] w fun e w' => e = .returned (.tuple #[.string (bstr (textR v z)), .int .i64 (textE v z)]) ∧ Fr No w w' := by
  have hfm := fun w h => format_any v hv w h
  have hl := decDigits_len v hv
  have HV := Lib.hid hv
  clear hv
  rcases text_cases v z with ⟨h, e1, e2⟩ | ⟨h, e1, e2⟩ | ⟨h1, h2, h3, e1, e2⟩ | ⟨m, rfl, h1, h2, e1, e2⟩
  · rw [e1, e2]
    clear e1 e2 hfm
    go_enter Tryz.func110, Tryz.ntmps110
    go_wp2
    go_ret2
    exact ⟨rfl, Fr.refl _ _⟩
  · rw [e1, e2]
    clear e1 e2 hfm
    go_enter Tryz.func110, Tryz.ntmps110
    go_wp2
    go_ret2
    exact ⟨rfl, Fr.refl _ _⟩
  · rw [e1, e2]
    have hsz : (bstr (Lib.decDigits v)).size = (Lib.decDigits v).length := bstr_size _
    generalize bstr (Lib.decDigits v) = D at hfm hsz
    rw [← hsz] at h3 hl
    have HF := Lib.hid hfm
    clear e1 e2 hfm hsz
    go_enter Tryz.func110, Tryz.ntmps110
    go_wp2_with (go_at_call 154; refine (HF.out _ htab).mono ?_; rintro e w1 ⟨rfl, hf⟩)
    go_ret2
    exact ⟨rfl, hf⟩
  · rw [e1, e2]
    have hsz : (bstr (Lib.decDigits v)).size = (Lib.decDigits v).length := bstr_size _
    have hwd : bstr (wide v m) = bstr (List.replicate m 48) ++ bstr (Lib.decDigits v) := by unfold wide; rw [bstr_append]
    have hrp : bstr (Lib.repeatL ({ data := #[48] } : ByteArray).data.toList m) = bstr (List.replicate m 48) := by
      have := Lib.repeatL_replicate (48 : UInt8) 1 m
      rw [Nat.mul_one] at this
      show bstr (Lib.repeatL [48] m) = _
      rw [← this]
      rfl
    have hrz : (bstr (List.replicate m 48)).size = m := by rw [bstr_size]; simp
    generalize bstr (Lib.decDigits v) = D at hfm hsz hwd
    generalize bstr (List.replicate m 48) = Z at hwd hrp hrz
    rw [← hsz] at h1 h2 hl ⊢
    rw [hwd]
    have hz20 : Z.size ≤ 20 := by omega
    have hm20 : m ≤ 20 := by omega
    have hrc : (D.size : Int) + (m : Int) - (D.size : Int) = (m : Int) := by omega
    have HF := Lib.hid hfm
    have HR := Lib.hid hrp
    clear e1 e2 hfm hsz hwd hrp hrz
    go_enter Tryz.func110, Tryz.ntmps110
    go_wp2_with (first
      | (go_at_call 154; refine (HF.out _ htab).mono ?_; rintro e w1 ⟨rfl, hf⟩)
      | (go_at_call 155; refine (Tryz.strings_Repeat { data := #[48] } m _ (by omega) (by show 1 * m ≤ _; omega)).mono ?_; rintro e w2 ⟨rfl, hb⟩; rw [show (⟨(Lib.repeatL ({ data := #[48] } : ByteArray).data.toList m).toArray⟩ : ByteArray) = Z from HR.out]))
    go_ret2
    exact ⟨rfl, hf.trans (Fr.of_below hb)⟩
end Go.Proofs.YthlgnmgjfgbffaaGreatDoor
