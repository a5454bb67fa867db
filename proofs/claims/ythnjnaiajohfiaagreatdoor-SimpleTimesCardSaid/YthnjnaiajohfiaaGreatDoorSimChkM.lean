/- Capitals: what is left of a text when they are cut off at both ends. -/
import Derived.Test.YthnjnaiajohfiaaGreatDoorSimMath
import Derived.Test.YthnjnaiajohfiaaGreatDoorStr
import Derived.Test.YthnjnaiajohfiaaGreatDoorShelf
namespace Go.Proofs.YthnjnaiajohfiaaGreatDoor
open Go.RowKit
set_option maxHeartbeats 1000000
set_option linter.unusedVariables false

def capsL : List UInt8 := [65, 66, 67, 68, 69, 70, 71, 72, 73, 74, 75, 76, 77, 78, 79, 80, 81, 82, 83, 84, 85, 86, 87, 88, 89, 90]
theorem caps_in (c : UInt8) : capsL.contains c = capC c := by
  have := byte_all (fun c => capsL.contains c == capC c) (by decide +kernel) c
  simpa using this
theorem drop_all (q : UInt8 → Bool) : ∀ l : List UInt8, l.dropWhile q = [] ↔ l.all q = true
  | [] => by simp
  | c :: r => by
    rw [List.dropWhile_cons, List.all_cons]
    cases h : q c with
    | true => simpa using drop_all q r
    | false => simp
theorem trim_capsL (l : List UInt8) : (Lib.trimS l capsL = []) ↔ l.all capC = true := by
  have hq : (fun c : UInt8 => capsL.contains c) = capC := funext caps_in
  unfold Lib.trimS Lib.trimLeftS Lib.trimRightS
  rw [hq, drop_all]
  constructor
  · intro h
    rw [List.all_reverse] at h
    rw [← List.all_reverse, ← drop_all]
    cases hd : l.reverse.dropWhile capC with
    | nil => rfl
    | cons c r =>
      rw [hd, List.all_cons] at h
      have h2 := List.head?_dropWhile_not capC l.reverse
      rw [hd] at h2
      simp only [List.head?_cons] at h2
      simp [h2] at h
  · intro h
    rw [← List.all_reverse, ← drop_all] at h
    rw [h]
    rfl
theorem caps_ascii : ∀ (j : Nat) (b : UInt8), capsL[j]? = some b → b.toNat < 128 := by
  intro j b h
  have hm := List.mem_of_getElem? h
  have := List.all_eq_true.1 (show capsL.all (fun b => decide (b.toNat < 128)) = true by decide) b hm
  simpa using this
theorem trim_caps (s : ByteArray) (w : World) (hs : s.size ≤ 65536) :
    Calls Tryz.prog 70 #[.string s, .string ⟨#[65, 66, 67, 68, 69, 70, 71, 72, 73, 74, 75, 76, 77, 78, 79, 80, 81, 82, 83, 84, 85, 86, 87, 88, 89, 90]⟩] w fun e w' => ∃ S, e = .returned (.string S) ∧ (S.toList == []) = s.data.toList.all capC ∧ Fr No w w' := by
  refine (Tryz.strings_Trim s ⟨#[65, 66, 67, 68, 69, 70, 71, 72, 73, 74, 75, 76, 77, 78, 79, 80, 81, 82, 83, 84, 85, 86, 87, 88, 89, 90]⟩ w (by omega) (by decide) caps_ascii).mono ?_
  rintro e w' ⟨rfl, hb⟩
  refine ⟨_, rfl, ?_, Fr.of_below hb⟩
  rw [s_list]
  show (Lib.trimS s.data.toList capsL == []) = _
  cases h : s.data.toList.all capC with
  | true => rw [(trim_capsL _).2 h]; rfl
  | false =>
    rw [beq_eq_false_iff_ne]
    intro e
    rw [(trim_capsL _).1 e] at h
    cases h
end Go.Proofs.YthnjnaiajohfiaaGreatDoor
