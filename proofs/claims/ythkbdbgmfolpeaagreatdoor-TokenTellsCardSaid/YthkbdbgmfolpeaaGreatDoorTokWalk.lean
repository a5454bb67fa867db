/- What package token does: a file and what is left of it: signs, names, blanks. -/
import Derived.Test.YthkbdbgmfolpeaaGreatDoorTokMath3
import Derived.Test.YthkbdbgmfolpeaaGreatDoorTokItems
import Derived.Test.YthkbdbgmfolpeaaGreatDoorTests
import Derived.Test.YthkbdbgmfolpeaaGreatDoorTabs
import Derived.Test.YthkbdbgmfolpeaaGreatDoorShelf
namespace Go.Proofs.YthkbdbgmfolpeaaGreatDoor
open Go.RowKit
set_option maxHeartbeats 400000
set_option linter.unusedVariables false

theorem k_blank_any (c : UInt8) (w : World) : Calls Tryz.prog 51 #[.int .u8 (c.toNat : Int)] w fun e w' => e = .returned (.bool (isBl c)) ∧ w = w' := by
  go_enter Tryz.func51, Tryz.ntmps51
  go_wp2
  all_goals
    go_ret
    refine ⟨ret_bool ?_, rfl⟩
    unfold isBl
    rw [Bool.eq_iff_iff]
    simp_all
    try omega
theorem k_first_any (c : UInt8) (w : World) : Calls Tryz.prog 37 #[.int .u8 (c.toNat : Int)] w fun e w' => e = .returned (.bool (isFi c)) ∧ w = w' := by
  go_enter Tryz.func37, Tryz.ntmps37
  go_wp2
  all_goals
    go_ret
    refine ⟨ret_bool ?_, rfl⟩
    unfold isFi
    rw [Bool.eq_iff_iff]
    simp_all
    try omega
theorem k_behind_any (c : UInt8) (w : World) : Calls Tryz.prog 50 #[.int .u8 (c.toNat : Int)] w fun e w' => e = .returned (.bool (isWi c)) ∧ w = w' := by
  cases hf : isFi c with
  | true =>
    have hw : isWi c = true := isWi_of hf
    go_enter Tryz.func50, Tryz.ntmps50
    go_wp2_with (go_at_call 37; refine (k_first_any _ _).mono ?_; rw [hf]; rintro e w' ⟨rfl, rfl⟩)
    all_goals
      go_ret
      exact ⟨ret_bool hw.symm, rfl⟩
  | false =>
    have hw : isWi c = decide ((48 ≤ c.toNat ∧ c.toNat ≤ 57) ∨ c.toNat = 45 ∨ c.toNat = 46 ∨ c.toNat = 58) := by unfold isWi; rw [hf]; rfl
    rw [hw]
    go_enter Tryz.func50, Tryz.ntmps50
    go_wp2_with (go_at_call 37; refine (k_first_any _ _).mono ?_; rw [hf]; rintro e w' ⟨rfl, rfl⟩)
    all_goals
      go_ret
      refine ⟨ret_bool ?_, rfl⟩
      rw [Bool.eq_iff_iff]
      simp_all
      try omega
theorem k_loose_any (c : UInt8) (w : World) : Calls Tryz.prog 42 #[.int .u8 (c.toNat : Int)] w fun e w' => e = .returned (.bool (notLt c)) ∧ w = w' := by
  go_enter Tryz.func42, Tryz.ntmps42
  go_wp2
  all_goals
    go_ret
    refine ⟨ret_bool ?_, rfl⟩
    unfold notLt
    rw [Bool.eq_iff_iff]
    simp_all
    try omega
theorem tests_kblank : Tests 51 isBl := ⟨fun _ _ => by kernel_rfl, fun c w => k_blank_any c w⟩
theorem tests_kfirst : Tests 37 isFi := ⟨fun _ _ => by kernel_rfl, fun c w => k_first_any c w⟩
theorem tests_kbehind : Tests 50 isWi := ⟨fun _ _ => by kernel_rfl, fun c w => k_behind_any c w⟩
theorem tests_kloose : Tests 42 notLt := ⟨fun _ _ => by kernel_rfl, fun c w => k_loose_any c w⟩

/-! ### a file, of which this is left -/
def Wk (w : World) (g : Nat) (L : List UInt8) : Prop := ∃ S : ByteArray, Bk w g 36 [.string S] ∧ S.data.toList = L ∧ S.size ≤ 65536
variable {w w' : World} {g : Nat} {L : List UInt8} {Q : Nat → Prop}
theorem Wk.fr (h : Wk w g L) (hf : Fr Q w w') (hQ : ¬ Q g) : Wk w' g L := let ⟨S, a, b, c⟩ := h; ⟨S, a.fr hf hQ, b, c⟩
theorem Wk.no (h : Wk w g L) (hf : Fr No w w') : Wk w' g L := h.fr hf (fun x => x)
theorem Wk.dr (h : Wk w g L) (hf : Dr w w') : Wk w' g L := h.no hf.fr
theorem Wk.lt (h : Wk w g L) : g < w.heap.size := let ⟨_, a, _, _⟩ := h; a.lt
theorem Wk.small (h : Wk w g L) : L.length ≤ 65536 := let ⟨S, _, b, c⟩ := h; by rw [← b, size_list]; exact c
theorem sz_eq {S : ByteArray} (h : S.data.toList = L) : S.size = L.length := by rw [← h, size_list]
theorem str_empty {S : ByteArray} (h : S.data.toList = []) : S = ⟨#[]⟩ := by
  rw [← bstr_self S, h]; rfl

theorem w_begins (f : FuncId) (p : UInt8 → Bool) (ht : Tests f p) (g : Nat) (L : List UInt8) (w : World) (h : Wk w g L) :
    Calls Tryz.prog 36 #[.pointer (some ⟨g, 0, none⟩), .func (.func f) #[] #[]] w fun e w' => e = .returned (.bool (bgB p L)) ∧ w = w' := by
  obtain ⟨S, hb, hS, hsz⟩ := h
  have c0 : w.cell? ⟨g, 0, none⟩ = some (.string S) := hb.cell 0
  have hen := ht.enters
  cases L with
  | nil =>
    obtain rfl := str_empty hS
    go_enter Tryz.func36, Tryz.ntmps36
    go_wp2
    go_ret
    exact ⟨rfl, rfl⟩
  | cons c r =>
    have h0 : 0 < S.size := by rw [sz_eq hS]; simp
    have h0I : (0 : Int) < (S.size : Int) := by omega
    have hat : S[0] = c := by rw [byte_at S 0 h0]; simp [hS]
    have hne : (S.toList == []) = false := by rw [ba_list, hS]; rfl
    have htc : ∀ w : World, Calls Tryz.prog f #[.int .u8 (c.toNat : Int)] w fun e w' => e = .returned (.bool (p c)) ∧ w = w' := fun w => ht.tells c w
    have HC := Lib.hid htc; have HS := Lib.hid hS
    clear htc hS hsz hb
    go_enter Tryz.func36, Tryz.ntmps36
    go_wp2_with (refine (HC.out _).mono ?_; rintro e w' ⟨rfl, rfl⟩)
    go_ret
    exact ⟨rfl, rfl⟩
end Go.Proofs.YthkbdbgmfolpeaaGreatDoor
