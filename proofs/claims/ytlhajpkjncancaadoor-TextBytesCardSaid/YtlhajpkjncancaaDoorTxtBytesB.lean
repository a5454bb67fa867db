/- TextBytes' walk, the bytes from 10 to 12. -/
import Derived.Test.YtlhajpkjncancaaDoorTxtPlain
namespace Go.Proofs.YtlhajpkjncancaaDoor
open Go.RowKit
set_option maxHeartbeats 4000000
set_option linter.unusedVariables false

attribute [local irreducible] yielded in
set_option maxRecDepth 100000 in
theorem bytes_walkB {c : UInt8} (w : World) (hT : Tabs w) (hcl : (10 ≤ c.toNat ∧ c.toNat ≤ 10) ∨ (11 ≤ c.toNat ∧ c.toNat ≤ 12)) :
    Calls Tryd.prog 7 #[.int .u8 (c.toNat : Int)] w fun e w' => e = .returned (.bool true) ∧ Fr No w w' := by
  have hfs := byteS c
  have hstr := fun u : World => run_string (P := Tryd.prog) (Rd.one (w := u) (b := c) rfl 5) 30 5 Tryd.underlying30 Tryd.underlying5 9 Tryd.underlying9
  have hszB : (bstr [c]).size ≤ 1 := by simp
  generalize bstr [c] = B at hstr hfs hszB
  obtain ⟨BB, hBB⟩ : ∃ X, B ++ B = X := ⟨_, rfl⟩
  rw [hBB] at hfs
  have HFS := Lib.hid hfs
  have e1 : ansB ByteArray.empty.data.toList 5 = false := by decide
  have e2 : alnB ByteArray.empty.data.toList 0 0 = true := by decide
  have E1 := Lib.hid e1; have E2 := Lib.hid e2
  have hun : ∀ b : Bool, (some undef = some (Value.bool b)) = False := fun b => by simp [undef]
  have tok1 : True := trivial
  have tok2 : True := trivial
  clear e1 e2 hfs
  rcases hcl with ⟨h1, h2⟩ | ⟨h1, h2⟩
  · have u1 : utf8B B.data.toList = true := by rw [HFS.out.f1]; exact decide_eq_true (by omega)
    have u2 : plainB B.data.toList 1 1 = false := by rw [HFS.out.f2]; exact decide_eq_false (by omega)
    have u3 : ansB B.data.toList 1 = false := by rw [HFS.out.f3]; exact decide_eq_false (by omega)
    have u4 : alnB B.data.toList 1 1 = false := by rw [HFS.out.f4]; exact decide_eq_false (by omega)
    have d0 : (c.toNat : Int) < 128 := by omega
    have d1 : decide (32 ≤ (c.toNat : Int)) = false := decide_eq_false (by omega)
    have n1 : ¬ 32 ≤ (c.toNat : Int) := by omega
    have d2 : decide (32 < (c.toNat : Int)) = false := decide_eq_false (by omega)
    have n2 : ¬ 32 < (c.toNat : Int) := by omega
    have d3 : (c.toNat : Int) ≤ 126 := by omega
    have d4 : decide (48 ≤ (c.toNat : Int)) = false := decide_eq_false (by omega)
    have n4 : ¬ 48 ≤ (c.toNat : Int) := by omega
    have d5 : (c.toNat : Int) ≤ 57 := by omega
    have d6 : decide (65 ≤ (c.toNat : Int)) = false := decide_eq_false (by omega)
    have n6 : ¬ 65 ≤ (c.toNat : Int) := by omega
    have d7 : (c.toNat : Int) ≤ 90 := by omega
    have d8 : decide (97 ≤ (c.toNat : Int)) = false := decide_eq_false (by omega)
    have n8 : ¬ 97 ≤ (c.toNat : Int) := by omega
    have d9 : (c.toNat : Int) ≤ 122 := by omega
    have q9 : ((c.toNat : Int) == 9) = false := by rw [beq_eq_false_iff_ne]; omega
    have q10 : ((c.toNat : Int) == 10) = true := by rw [beq_iff_eq]; omega
    have q13 : ((c.toNat : Int) == 13) = false := by rw [beq_eq_false_iff_ne]; omega
    have U1 := Lib.hid u1; have U2 := Lib.hid u2; have U3 := Lib.hid u3; have U4 := Lib.hid u4
    clear u1 u2 u3 u4 h1 h2
    go_enter Tryd.func7, Tryd.ntmps7
    go_wp2_with (first
      | (go_at_call 8; refine (awake_any _).mono ?_; rintro e w0 ⟨rfl, hf0⟩)
      | (go_at_call 9; refine (text_utf8_any B _ HFS.out.zb).mono ?_; rw [U1.out]; rintro e w1 ⟨rfl, hf1⟩)
      | (go_at_call 13; refine (text_plain_any B 1 1 _ HFS.out.zb).mono ?_; rw [U2.out]; rintro e w2 ⟨rfl, hf2⟩)
      | (go_at_call 15; clear tok1; refine (text_ans_any B 1 _ HFS.out.zb).mono ?_; rw [U3.out]; rintro e w3 ⟨rfl, hf3⟩)
      | (go_at_call 17; clear tok2; refine (text_aln_any B 1 1 _ HFS.out.zb).mono ?_; rw [U4.out]; rintro e w4 ⟨rfl, hf4⟩; have tok3 : True := trivial)
      | (go_at_call 15; clear tok3; refine (text_ans_any ByteArray.empty 5 _ (by decide)).mono ?_; rw [E1.out]; rintro e w5 ⟨rfl, hf5⟩)
      | (go_at_call 17; refine (text_aln_any ByteArray.empty 0 0 _ (by decide)).mono ?_; rw [E2.out]; rintro e w6 ⟨rfl, hf6⟩)
      | (go_at_call 15; refine (text_ans_any BB 1 _ HFS.out.zbb).mono ?_; rw [HFS.out.f5]; rintro e w7 ⟨rfl, hf7⟩))
    all_goals
      go_ret
      exact ⟨rfl, ((((((((Fr.refl No w).alloc _).trans hf0).trans hf1).trans hf2).trans hf3).trans hf4).trans hf5).trans hf6 |>.trans hf7⟩
  · have u1 : utf8B B.data.toList = false := by rw [HFS.out.f1]; exact decide_eq_false (by omega)
    have u2 : plainB B.data.toList 1 1 = false := by rw [HFS.out.f2]; exact decide_eq_false (by omega)
    have u3 : ansB B.data.toList 1 = false := by rw [HFS.out.f3]; exact decide_eq_false (by omega)
    have u4 : alnB B.data.toList 1 1 = false := by rw [HFS.out.f4]; exact decide_eq_false (by omega)
    have d0 : (c.toNat : Int) < 128 := by omega
    have d1 : decide (32 ≤ (c.toNat : Int)) = false := decide_eq_false (by omega)
    have n1 : ¬ 32 ≤ (c.toNat : Int) := by omega
    have d2 : decide (32 < (c.toNat : Int)) = false := decide_eq_false (by omega)
    have n2 : ¬ 32 < (c.toNat : Int) := by omega
    have d3 : (c.toNat : Int) ≤ 126 := by omega
    have d4 : decide (48 ≤ (c.toNat : Int)) = false := decide_eq_false (by omega)
    have n4 : ¬ 48 ≤ (c.toNat : Int) := by omega
    have d5 : (c.toNat : Int) ≤ 57 := by omega
    have d6 : decide (65 ≤ (c.toNat : Int)) = false := decide_eq_false (by omega)
    have n6 : ¬ 65 ≤ (c.toNat : Int) := by omega
    have d7 : (c.toNat : Int) ≤ 90 := by omega
    have d8 : decide (97 ≤ (c.toNat : Int)) = false := decide_eq_false (by omega)
    have n8 : ¬ 97 ≤ (c.toNat : Int) := by omega
    have d9 : (c.toNat : Int) ≤ 122 := by omega
    have q9 : ((c.toNat : Int) == 9) = false := by rw [beq_eq_false_iff_ne]; omega
    have q10 : ((c.toNat : Int) == 10) = false := by rw [beq_eq_false_iff_ne]; omega
    have q13 : ((c.toNat : Int) == 13) = false := by rw [beq_eq_false_iff_ne]; omega
    have U1 := Lib.hid u1; have U2 := Lib.hid u2; have U3 := Lib.hid u3; have U4 := Lib.hid u4
    clear u1 u2 u3 u4 h1 h2
    go_enter Tryd.func7, Tryd.ntmps7
    go_wp2_with (first
      | (go_at_call 8; refine (awake_any _).mono ?_; rintro e w0 ⟨rfl, hf0⟩)
      | (go_at_call 9; refine (text_utf8_any B _ HFS.out.zb).mono ?_; rw [U1.out]; rintro e w1 ⟨rfl, hf1⟩)
      | (go_at_call 13; refine (text_plain_any B 1 1 _ HFS.out.zb).mono ?_; rw [U2.out]; rintro e w2 ⟨rfl, hf2⟩)
      | (go_at_call 15; clear tok1; refine (text_ans_any B 1 _ HFS.out.zb).mono ?_; rw [U3.out]; rintro e w3 ⟨rfl, hf3⟩)
      | (go_at_call 17; clear tok2; refine (text_aln_any B 1 1 _ HFS.out.zb).mono ?_; rw [U4.out]; rintro e w4 ⟨rfl, hf4⟩; have tok3 : True := trivial)
      | (go_at_call 15; clear tok3; refine (text_ans_any ByteArray.empty 5 _ (by decide)).mono ?_; rw [E1.out]; rintro e w5 ⟨rfl, hf5⟩)
      | (go_at_call 17; refine (text_aln_any ByteArray.empty 0 0 _ (by decide)).mono ?_; rw [E2.out]; rintro e w6 ⟨rfl, hf6⟩)
      | (go_at_call 15; refine (text_ans_any BB 1 _ HFS.out.zbb).mono ?_; rw [HFS.out.f5]; rintro e w7 ⟨rfl, hf7⟩))
    all_goals
      go_ret
      exact ⟨rfl, ((((((((Fr.refl No w).alloc _).trans hf0).trans hf1).trans hf2).trans hf3).trans hf4).trans hf5).trans hf6 |>.trans hf7⟩
end Go.Proofs.YtlhajpkjncancaaDoor
