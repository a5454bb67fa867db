/- strings.Cut at a sign of one byte, without the library's bound of lengths: contracts. -/
import Derived.Test.YthnjnaiajohfiaaGreatDoorBase
import Derived.Test.YthnjnaiajohfiaaGreatDoorStr
import Derived.Test.YthnjnaiajohfiaaGreatDoorShelf
import Derived.BigQuiet
namespace Go.Proofs.YthnjnaiajohfiaaGreatDoor
open Go.RowKit
set_option maxHeartbeats 400000
set_option linter.unusedVariables false

/-- not yet that sign -/
def notC (m c : UInt8) : Bool := decide (c ≠ m)
theorem cut_index (m : UInt8) : ∀ l : List UInt8, Lib.indexByte l m = if l.dropWhile (notC m) = [] then -1 else ((l.takeWhile (notC m)).length : Int)
  | [] => rfl
  | b :: l => by
    have ih := cut_index m l
    rw [Lib.indexByte, List.dropWhile_cons, List.takeWhile_cons]
    by_cases hb : b = m
    · subst hb
      have hu : notC b b = false := by unfold notC; simp
      rw [hu]
      simp
    · have hu : notC m b = true := by unfold notC; simp [hb]
      have hp : (b == m) = false := by simpa using hb
      rw [hu, hp, ih]
      simp only [Bool.false_eq_true, if_false, if_true]
      split
      · rfl
      · rename_i hd
        rw [if_neg (by simp)]
        simp
theorem cut_no (S : ByteArray) (m : UInt8) (w : World) (h : S.data.toList.dropWhile (notC m) = []) :
    Calls Tryz.prog 24 #[.string S, .string ⟨#[m]⟩] w fun e w' => e = .returned (.tuple #[.string S, .string ⟨#[]⟩, .bool false]) ∧ Dr w w' := by
  have hi := fun u => Tryz.stringslite_Index_one S m u
  rw [cut_index, if_pos h] at hi
  have HI := Lib.hid hi
  clear hi h
  have hc : ∀ u, Calls Tryz.prog 40 #[.string S, .string ⟨#[m]⟩] u fun e w' => e = .returned (.tuple #[.string S, .string ⟨#[]⟩, .bool false]) ∧ u = w' := by
    intro u
    go_enter Tryz.func40, Tryz.ntmps40
    go_wp2_with (go_at_call 57; refine (HI.out _).mono ?_; rintro e w' ⟨rfl, rfl⟩)
    go_ret3
    exact ⟨rfl, rfl⟩
  have HC := Lib.hid hc
  clear hc HI
  go_enter Tryz.func24, Tryz.ntmps24
  go_wp2_with (go_at_call 40; refine (HC.out _).mono ?_; rintro e w' ⟨rfl, rfl⟩)
  go_ret3
  exact ⟨rfl, Dr.refl _⟩
theorem cut_yes (S : ByteArray) (m : UInt8) (c : UInt8) (r : List UInt8) (w : World) (hs : S.size ≤ 65536) (h : S.data.toList.dropWhile (notC m) = c :: r) :
    Calls Tryz.prog 24 #[.string S, .string ⟨#[m]⟩] w fun e w' => ∃ X Y : ByteArray, e = .returned (.tuple #[.string X, .string Y, .bool true]) ∧ X.data.toList = S.data.toList.takeWhile (notC m) ∧ Y.data.toList = r ∧ Dr w w' := by
  have hi := fun u => Tryz.stringslite_Index_one S m u
  rw [cut_index, if_neg (by rw [h]; simp)] at hi
  have hsp := List.takeWhile_append_dropWhile (p := notC m) (l := S.data.toList)
  rw [h] at hsp
  generalize S.data.toList.takeWhile (notC m) = A at hi hsp ⊢
  have hln : A.length + (r.length + 1) = S.size := by rw [← s_size, ← hsp]; simp
  have hX : (S.extract 0 A.length).data.toList = A := by rw [s_ext, ← hsp]; simp
  have hY : (S.extract (A.length + 1) S.size).data.toList = r := by
    rw [s_ext, ← hsp]
    rw [show A.length + 1 = A.length + 1 from rfl, ← List.drop_drop, List.drop_left]
    show List.take _ r = r
    exact List.take_of_length_le (by omega)
  obtain ⟨X, eX⟩ : ∃ X, S.extract 0 A.length = X := ⟨_, rfl⟩
  obtain ⟨Y, eY⟩ : ∃ Y, S.extract (A.length + 1) S.size = Y := ⟨_, rfl⟩
  rw [eX] at hX
  rw [eY] at hY
  obtain ⟨i, hi2⟩ : ∃ i, A.length = i := ⟨_, rfl⟩
  rw [hi2] at hi hln eX eY
  have f1 : (0 : Int) ≤ (i : Int) ∧ (i : Int) ≤ (S.size : Int) := by omega
  have f2 : (0 : Int) ≤ (i : Int) + 1 ∧ (i : Int) + 1 ≤ (S.size : Int) := by omega
  have f4 : (S.size : Int) ≤ 65536 := by omega
  have HI := Lib.hid hi; have HX := Lib.hid hX; have HY := Lib.hid hY
  clear hi hX hY hsp h hln hi2 hs
  have hc : ∀ u, Calls Tryz.prog 40 #[.string S, .string ⟨#[m]⟩] u fun e w' => e = .returned (.tuple #[.string X, .string Y, .bool true]) ∧ Dr u w' := by
    intro u
    go_enter Tryz.func40, Tryz.ntmps40
    go_wp2_with (go_at_call 57; refine (HI.out _).mono ?_; rintro e w' ⟨rfl, rfl⟩)
    go_quiet (fail)
    go_wp2
    go_ret3
    exact ⟨rfl, (Dr.refl _).drewN _⟩
  have HC := Lib.hid hc
  clear hc HI f1 f2 f4 eX eY
  go_enter Tryz.func24, Tryz.ntmps24
  go_wp2_with (go_at_call 40; refine (HC.out _).mono ?_; rintro e w' ⟨rfl, hd⟩)
  go_ret3
  exact ⟨X, Y, rfl, HX.out, HY.out, hd⟩
/-- either way: what is ahead of the sign, and what is behind it -/
theorem cut_any (S : ByteArray) (m : UInt8) (w : World) (hs : S.size ≤ 65536) :
    Calls Tryz.prog 24 #[.string S, .string ⟨#[m]⟩] w fun e w' => ∃ (X Y : ByteArray) (b : Bool), e = .returned (.tuple #[.string X, .string Y, .bool b]) ∧ X.data.toList = S.data.toList.takeWhile (notC m) ∧ Y.data.toList = (S.data.toList.dropWhile (notC m)).drop 1 ∧ Dr w w' := by
  cases h : S.data.toList.dropWhile (notC m) with
  | nil =>
    refine (cut_no S m w h).mono ?_
    rintro e w' ⟨rfl, hd⟩
    have hsp := List.takeWhile_append_dropWhile (p := notC m) (l := S.data.toList)
    rw [h, List.append_nil] at hsp
    exact ⟨S, ⟨#[]⟩, false, rfl, hsp.symm, rfl, hd⟩
  | cons c r =>
    refine (cut_yes S m c r w hs h).mono ?_
    rintro e w' ⟨X, Y, rfl, hX, hY, hd⟩
    exact ⟨X, Y, true, rfl, hX, hY, hd⟩
end Go.Proofs.YthnjnaiajohfiaaGreatDoor
