/- Package kinds: whether a message has what it must, and may: contracts. -/
import Derived.Test.YtdenaejinlkfgaaDoorKinHas
namespace Go.Proofs.YtdenaejinlkfgaaDoor
open Go.RowKit
set_option maxHeartbeats 1000000
set_option linter.unusedVariables false

theorem k_lets (r : DRow) (h : Nat) (hm : r.must < 2048) (ha : r.may < 2048) (hh : h < 2048) (w : World) : Calls Tryd.prog 33 #[r.val, .int .u16 (h : Int)] w fun e w' => e = .returned (.bool (letsB r h)) ∧ Fr No w w' := by
  obtain ⟨rk, rc, rm, ru, ra⟩ := r
  simp only at hm ha
  unfold DRow.val letsB
  simp only
  have hor := or_u16 ru ra (by omega) (by omega)
  have hj : ru ||| ra < 65536 := Nat.or_lt_two_pow (n := 16) (by omega) (by omega)
  have hand := and_u16 h ru (by omega) (by omega)
  have hnot := not_u16 h (ru ||| ra)
  have hw := without_lt h (ru ||| ra)
  have hx : h &&& ru < 65536 := Nat.and_lt_two_pow (n := 16) h (by omega)
  generalize without h (ru ||| ra) = Z at hnot hw ⊢
  generalize ru ||| ra = Y at hor hnot hj
  generalize h &&& ru = X at hand hx ⊢
  have hb1 : ((X : Int) == (ru : Int)) = (X == ru) := by rw [Bool.eq_iff_iff, beq_iff_eq, beq_iff_eq]; omega
  have hb2 : ((Z : Int) == 0) = (Z == 0) := by rw [Bool.eq_iff_iff, beq_iff_eq, beq_iff_eq]; omega
  generalize (X == ru) = b1 at hb1 ⊢
  generalize (Z == 0) = b2 at hb2 ⊢
  have HFA := Lib.hid ((Fr.refl No w).alloc (.cells #[.int .i64 rk, .string rc, .string rm, .int .u16 (ru : Int), .int .u16 (ra : Int)] 52))
  go_enter Tryd.func33, Tryd.ntmps33
  cases b1 <;> cases b2
  all_goals
    go_wp2
    go_ret
    exact ⟨rfl, HFA.out⟩
set_option maxHeartbeats 4000000 in
set_option maxRecDepth 20000 in
theorem k_whole (m : MsgC) (w : World) : Calls Tryd.prog 35 #[m.val] w fun e w' => e = .returned (.bool (!m.bad)) ∧ Fr No w w' := by
  have hc := fun u => k_currency m u
  have ho := fun u => k_origin m u
  have hb0 : Bk (w.alloc (.cells m.cells.toArray 59)) w.heap.size 59 m.cells := Bk.new w _ _
  have hfa : Fr No w (w.alloc (.cells m.cells.toArray 59)) := (Fr.refl No w).alloc _
  unfold MsgC.bad
  obtain ⟨p1, e1⟩ : ∃ p, (m.cur.toList == []) = p := ⟨_, rfl⟩
  obtain ⟨p2, e2⟩ : ∃ p, (m.amount != 0) = p := ⟨_, rfl⟩
  obtain ⟨p3, e3⟩ : ∃ p, (m.otime.toList == []) = p := ⟨_, rfl⟩
  obtain ⟨p4, e4⟩ : ∃ p, (m.ostan != 0) = p := ⟨_, rfl⟩
  have e2' : (m.amount == 0) = !p2 := by rw [← e2]; simp [bne]
  have e4' : (m.ostan == 0) = !p4 := by rw [← e4]; simp [bne]
  rw [e1, e2, e3, e4]
  rw [e1] at hc
  rw [e3] at ho
  unfold MsgC.val at hc ho ⊢
  unfold MsgC.cells at hfa
  have HC := Lib.hid hc; have HO := Lib.hid ho; have HB0 := Lib.hid hb0; have HFA := Lib.hid hfa
  have HRG := Lib.hid hb0.range
  have t1 : True := trivial
  have t2 : True := trivial
  clear hc ho hb0 hfa e1 e2 e3 e4
  go_enter Tryd.func35, Tryd.ntmps35
  have hfin : (p1 = true ∧ p2 = true) ∨ (p1 = false ∧ p3 = false) ∨ (p1 = false ∧ p3 = true ∧ p4 = false) ∨ (p1 = false ∧ p3 = true ∧ p4 = true) ∨ ((p1 = true ∧ p2 = false) ∧ p3 = false) ∨ ((p1 = true ∧ p2 = false) ∧ p3 = true ∧ p4 = false) ∨ ((p1 = true ∧ p2 = false) ∧ p3 = true ∧ p4 = true) := by
    cases p1 <;> cases p2 <;> cases p3 <;> cases p4 <;> simp
  rcases hfin with ⟨rfl, rfl⟩ | ⟨rfl, rfl⟩ | ⟨rfl, rfl, rfl⟩ | ⟨rfl, rfl, rfl⟩ | ⟨⟨rfl, rfl⟩, rfl⟩ | ⟨⟨rfl, rfl⟩, rfl, rfl⟩ | ⟨⟨rfl, rfl⟩, rfl, rfl⟩
  all_goals
    go_wp2_with (first
      | (clear t1; refine wpList_load_bk rfl 59 _ rfl w.heap.size rfl m.cells _ HB0.out (Tryd.underlying59) rfl (kmsgSize m) ?_)
      | (clear t2; refine wpList_load_bk rfl 59 _ rfl w.heap.size rfl m.cells _ HB1.out (Tryd.underlying59) rfl (kmsgSize m) ?_)
      | (go_at_call 50; refine (HC.out _).mono ?_; rintro e w1 ⟨rfl, f1⟩; have B1 := HB0.out.no f1; have d6 : w1.cell? ⟨w.heap.size, 6, none⟩ = some (.int .u64 m.amount) := B1.cell 6; have d14 : w1.cell? ⟨w.heap.size, 14, none⟩ = some (.int .i64 m.ostan) := B1.cell 14; have HF1 := Lib.hid f1; have HB1 := Lib.hid B1; clear f1 B1)
      | (go_at_call 51; refine (HO.out _).mono ?_; rintro e w2 ⟨rfl, f2⟩; have B2 := HB1.out.no f2; have d14' : w2.cell? ⟨w.heap.size, 14, none⟩ = some (.int .i64 m.ostan) := B2.cell 14; have HF2 := Lib.hid f2; clear f2 B2))
    go_ret
    first | exact ⟨ret_bool (by simp), (HFA.out.trans HF1.out).trans HF2.out⟩ | exact ⟨ret_bool (by simp), HFA.out.trans HF1.out⟩
end Go.Proofs.YtdenaejinlkfgaaDoor
