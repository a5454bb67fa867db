/- A message that comes in: its cells. -/
import Derived.Test.YtdenaejinlkfgaaDoorMsg
namespace Go.Proofs.YtdenaejinlkfgaaDoor
open Go.RowKit Go.WideShapes Go.ChangeShapes
set_option linter.unusedVariables false

theorem cell_int {P : Program} {w : World} {r : Reach} {base : Nat} {t : TypeId} {v : Value} {k : IntKind} (ht : P.underlying t = some (.int k)) (h : Cell.okWide P w r base t v) : ∃ n, v = .int k n ∧ (Lit.int k n).wf = true := by
  simp only [Cell.okWide, ht] at h
  cases v <;> simp_all [Cell.ok, IntKind.has, Lit.wf]
theorem cell_string {P : Program} {w : World} {r : Reach} {base : Nat} {t : TypeId} {v : Value} (ht : P.underlying t = some .string) (h : Cell.okWide P w r base t v) : ∃ s, v = .string s ∧ s.size ≤ maxLen := by
  simp only [Cell.okWide, ht] at h
  have h2 : IntKind.i64.max = 9223372036854775807 := rfl
  cases v <;> simp_all [Cell.ok, maxLen]
  omega
theorem cell_slice {P : Program} {w : World} {r : Reach} {base : Nat} {t e : TypeId} {v : Value} (ht : P.underlying t = some (.slice e)) (h : Cell.okWide P w r base t v) : ∃ a n c, v = .slice a n c := by
  simp only [Cell.okWide, ht] at h
  cases v <;> simp_all [Cell.ok]
theorem array21 {α : Type} {cs : Array α} (h : cs.size = 21) : ∃ c0 c1 c2 c3 c4 c5 c6 c7 c8 c9 c10 c11 c12 c13 c14 c15 c16 c17 c18 c19 c20, cs = #[c0, c1, c2, c3, c4, c5, c6, c7, c8, c9, c10, c11, c12, c13, c14, c15, c16, c17, c18, c19, c20] := by
  obtain ⟨l⟩ := cs
  match l, h with
  | [c0, c1, c2, c3, c4, c5, c6, c7, c8, c9, c10, c11, c12, c13, c14, c15, c16, c17, c18, c19, c20], _ => exact ⟨c0, c1, c2, c3, c4, c5, c6, c7, c8, c9, c10, c11, c12, c13, c14, c15, c16, c17, c18, c19, c20, rfl⟩
theorem msgTypes : Tryd.prog.cellTypes Tryd.prog.depth 29 = some [3, 3, 9, 9, 9, 9, 22, 9, 9, 9, 9, 3, 9, 9, 3, 9, 25, 9, 9, 26, 27] := by kernel_rfl
theorem msgCells : Tryd.prog.cellsOf 29 = 21 := by kernel_rfl
set_option maxRecDepth 20000 in
/-- a message that comes in: its cells -/
theorem open_msg {w : World} {r : Reach} {b0 : Nat} {v : Value} (hv : Value.okWide Tryd.prog w r b0 29 v) : ∃ m : MsgC, v = m.val ∧ (Lit.int .i64 m.kind).wf = true := by
  unfold Value.okWide at hv
  rw [Tryd.underlying29] at hv
  obtain ⟨cs, rfl, hsz, ts, hts, _, hall⟩ := hv
  obtain rfl := Option.some.inj (hts.symm.trans msgTypes)
  obtain ⟨c0, c1, c2, c3, c4, c5, c6, c7, c8, c9, c10, c11, c12, c13, c14, c15, c16, c17, c18, c19, c20, rfl⟩ := array21 (hsz.trans msgCells)
  obtain ⟨u0, e0, q0⟩ := hall 0 c0 rfl
  cases e0
  obtain ⟨x0, rfl, wf0⟩ := cell_int Tryd.underlying3 q0
  obtain ⟨u1, e1, q1⟩ := hall 1 c1 rfl
  cases e1
  obtain ⟨x1, rfl, wf1⟩ := cell_int Tryd.underlying3 q1
  obtain ⟨u2, e2, q2⟩ := hall 2 c2 rfl
  cases e2
  obtain ⟨x2, rfl, hs2⟩ := cell_string Tryd.underlying9 q2
  obtain ⟨u3, e3, q3⟩ := hall 3 c3 rfl
  cases e3
  obtain ⟨x3, rfl, hs3⟩ := cell_string Tryd.underlying9 q3
  obtain ⟨u4, e4, q4⟩ := hall 4 c4 rfl
  cases e4
  obtain ⟨x4, rfl, hs4⟩ := cell_string Tryd.underlying9 q4
  obtain ⟨u5, e5, q5⟩ := hall 5 c5 rfl
  cases e5
  obtain ⟨x5, rfl, hs5⟩ := cell_string Tryd.underlying9 q5
  obtain ⟨u6, e6, q6⟩ := hall 6 c6 rfl
  cases e6
  obtain ⟨x6, rfl, wf6⟩ := cell_int Tryd.underlying22 q6
  obtain ⟨u7, e7, q7⟩ := hall 7 c7 rfl
  cases e7
  obtain ⟨x7, rfl, hs7⟩ := cell_string Tryd.underlying9 q7
  obtain ⟨u8, e8, q8⟩ := hall 8 c8 rfl
  cases e8
  obtain ⟨x8, rfl, hs8⟩ := cell_string Tryd.underlying9 q8
  obtain ⟨u9, e9, q9⟩ := hall 9 c9 rfl
  cases e9
  obtain ⟨x9, rfl, hs9⟩ := cell_string Tryd.underlying9 q9
  obtain ⟨u10, e10, q10⟩ := hall 10 c10 rfl
  cases e10
  obtain ⟨x10, rfl, hs10⟩ := cell_string Tryd.underlying9 q10
  obtain ⟨u11, e11, q11⟩ := hall 11 c11 rfl
  cases e11
  obtain ⟨x11, rfl, wf11⟩ := cell_int Tryd.underlying3 q11
  obtain ⟨u12, e12, q12⟩ := hall 12 c12 rfl
  cases e12
  obtain ⟨x12, rfl, hs12⟩ := cell_string Tryd.underlying9 q12
  obtain ⟨u13, e13, q13⟩ := hall 13 c13 rfl
  cases e13
  obtain ⟨x13, rfl, hs13⟩ := cell_string Tryd.underlying9 q13
  obtain ⟨u14, e14, q14⟩ := hall 14 c14 rfl
  cases e14
  obtain ⟨x14, rfl, wf14⟩ := cell_int Tryd.underlying3 q14
  obtain ⟨u15, e15, q15⟩ := hall 15 c15 rfl
  cases e15
  obtain ⟨x15, rfl, hs15⟩ := cell_string Tryd.underlying9 q15
  obtain ⟨u16, e16, q16⟩ := hall 16 c16 rfl
  cases e16
  obtain ⟨x16, n16, k16, rfl⟩ := cell_slice Tryd.underlying25 q16
  obtain ⟨u17, e17, q17⟩ := hall 17 c17 rfl
  cases e17
  obtain ⟨x17, rfl, hs17⟩ := cell_string Tryd.underlying9 q17
  obtain ⟨u18, e18, q18⟩ := hall 18 c18 rfl
  cases e18
  obtain ⟨x18, rfl, hs18⟩ := cell_string Tryd.underlying9 q18
  obtain ⟨u19, e19, q19⟩ := hall 19 c19 rfl
  cases e19
  obtain ⟨x19, n19, k19, rfl⟩ := cell_slice Tryd.underlying26 q19
  obtain ⟨u20, e20, q20⟩ := hall 20 c20 rfl
  cases e20
  obtain ⟨x20, n20, k20, rfl⟩ := cell_slice Tryd.underlying27 q20
  exact ⟨⟨x0, x1, x2, x3, x4, x5, x6, x7, x8, x9, x10, x11, x12, x13, x14, x15, x16, n16, k16, x17, x18, x19, n19, k19, x20, n20, k20⟩, rfl, wf0⟩
end Go.Proofs.YtdenaejinlkfgaaDoor
