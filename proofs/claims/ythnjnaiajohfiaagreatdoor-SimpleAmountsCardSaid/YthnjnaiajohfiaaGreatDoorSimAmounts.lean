/- SimpleAmounts: the walk. -/
import Derived.Test.YthnjnaiajohfiaaGreatDoorSimFix
import Derived.Test.YthnjnaiajohfiaaGreatDoorRefDigits
namespace Go.Proofs.YthnjnaiajohfiaaGreatDoor
open Go.RowKit
set_option maxHeartbeats 2000000
set_option linter.unusedVariables false

set_option maxRecDepth 100000 in
theorem simAmounts_walk {v : Nat} (w : World) (hT : Tabs w) (hv : v < 18446744073709551616) :
    Calls Tryz.prog 5 #[.int .u64 (v : Int)] w fun e w' => e = .returned (.bool true) ∧ Fr No w w' := by
  obtain ⟨S, hS⟩ : ∃ S : ByteArray, S.data.toList = amtR v := ⟨⟨(amtR v).toArray⟩, by simp⟩
  have a1 := fun u (h : Tabs u) => fix_amttext v S u hv hS h
  by_cases hm : v ≤ 999999999999
  · have hSl : S.data.toList = amtL v := by rw [hS]; unfold amtR; rw [if_pos hm]
    have hE : amtE v = 0 := by unfold amtE; rw [if_pos hm]
    rw [hE] at a1
    have hln := amtL_length v hm
    have hd := dec_length v hm
    obtain ⟨X1, e1⟩ : ∃ X, ({ data := #[48] } : ByteArray) ++ S = X := ⟨_, rfl⟩
    obtain ⟨X2, e2⟩ : ∃ X, S ++ ({ data := #[48] } : ByteArray) = X := ⟨_, rfl⟩
    obtain ⟨X3, e3⟩ : ∃ X, ({ data := #[45] } : ByteArray) ++ S = X := ⟨_, rfl⟩
    obtain ⟨X4, e4⟩ : ∃ X, bstr (Lib.decDigits v) = X := ⟨_, rfl⟩
    have l1 : X1.data.toList = 48 :: amtL v := by rw [← e1, s_app, hSl]; rfl
    have l2 : X2.data.toList = amtL v ++ [48] := by rw [← e2, s_app, hSl]
    have l3 : X3.data.toList = 45 :: amtL v := by rw [← e3, s_app, hSl]; rfl
    have l4 : X4.data.toList = Lib.decDigits v := by rw [← e4, bstr_data]
    have hz : S.size ≤ 13 := by rw [← s_size, hSl]; omega
    obtain ⟨y1, y2⟩ := amtB_amtL hm
    have q0 := fun u (h : Tabs u) => fix_amtof S _ 0 v u hSl (by omega) (amtE_yes y1).1 ((amtE_yes y1).2.trans y2) h
    have q1 := fun u (h : Tabs u) => fix_amtof X1 _ 14 0 u l1 (by simp; omega) (amtE_no (amt_nought v)).1 (amtE_no (amt_nought v)).2 h
    have q2 := fun u (h : Tabs u) => fix_amtof X2 _ 14 0 u l2 (by simp; omega) (amtE_no (amt_more v)).1 (amtE_no (amt_more v)).2 h
    have q3 := fun u (h : Tabs u) => fix_amtof X3 _ 14 0 u l3 (by simp; omega) (amtE_no (amt_minus v)).1 (amtE_no (amt_minus v)).2 h
    have q4 := fun u (h : Tabs u) => fix_amtof X4 _ 14 0 u l4 (by have := decDigits_len v hv; omega) (amtE_no (amt_digits v)).1 (amtE_no (amt_digits v)).2 h
    have r4 := fun u => digits_any v u hv
    rw [e4] at r4
    have hi : (v : Int) ≤ 999999999999 := by omega
    have A1 := Lib.hid a1; have Q0 := Lib.hid q0; have Q1 := Lib.hid q1; have Q2 := Lib.hid q2; have Q3 := Lib.hid q3; have Q4 := Lib.hid q4; have R4 := Lib.hid r4; have HV := Lib.hid hv
    clear a1 q0 q1 q2 q3 q4 r4 hS hSl hE hln hd l1 l2 l3 l4 y1 y2 e4 hm hv
    go_enter Tryz.func5, Tryz.ntmps5
    go_wp2_with (first
      | (go_at_call 14; refine (A1.out _ hT).mono ?_; rintro e w1 ⟨rfl, f1⟩; (have t1 := hT.fr f1))
      | (go_at_call 12; (with_reducible refine (Q0.out _ t1).mono ?_); rintro e w2 ⟨rfl, f2⟩; (have t2 := t1.fr f2))
      | (go_at_call 12; (with_reducible refine (Q1.out _ t2).mono ?_); rintro e w3 ⟨rfl, f3⟩; (have t3 := t2.fr f3))
      | (go_at_call 12; (with_reducible refine (Q2.out _ t3).mono ?_); rintro e w4 ⟨rfl, f4⟩; (have t4 := t3.fr f4))
      | (go_at_call 12; (with_reducible refine (Q3.out _ t4).mono ?_); rintro e w5 ⟨rfl, f5⟩; (have t5 := t4.fr f5))
      | (go_at_call 22; refine (R4.out _).mono ?_; rintro e w6 ⟨rfl, f6⟩; (have t6 := t5.fr f6))
      | (go_at_call 12; (with_reducible refine (Q4.out _ t6).mono ?_); rintro e w7 ⟨rfl, f7⟩; (have t7 := t6.fr f7))
      | (go_at_call 7; refine (sim_awake _ t7).mono ?_; rintro e w8 ⟨rfl, f8⟩))
    go_ret
    exact ⟨rfl, ((((((f1.trans f2).trans f3).trans f4).trans f5).trans f6).trans f7).trans f8⟩
  · have hSl : S.data.toList = [] := by rw [hS]; unfold amtR; rw [if_neg hm]
    have hE : amtE v = 4 := by unfold amtE; rw [if_neg hm]
    rw [hE] at a1
    have hq : S.toList = [] := by rw [s_list, hSl]
    have hi : ¬ (v : Int) ≤ 999999999999 := by omega
    have A1 := Lib.hid a1; have HV := Lib.hid hv
    clear a1 hS hSl hE hm hv
    go_enter Tryz.func5, Tryz.ntmps5
    go_wp2_with (first
      | (go_at_call 14; refine (A1.out _ hT).mono ?_; rintro e w1 ⟨rfl, f1⟩; (have t1 := hT.fr f1))
      | (go_at_call 7; refine (sim_awake _ t1).mono ?_; rintro e w8 ⟨rfl, f8⟩))
    go_ret
    exact ⟨rfl, f1.trans f8⟩
end Go.Proofs.YthnjnaiajohfiaaGreatDoor
