/- An api.Child that comes in: its six cells. -/
import Derived.Test.YthnjnaiajohfiaaGreatDoorBase
namespace Go.Proofs.YthnjnaiajohfiaaGreatDoor
open Go.RowKit Go.WideShapes Go.ChangeShapes
set_option linter.unusedVariables false

theorem ch_int {P : Program} {w : World} {r : Reach} {base : Nat} {t : TypeId} {v : Value} {k : IntKind} (ht : P.underlying t = some (.int k)) (h : Cell.okWide P w r base t v) : ∃ n, v = .int k n ∧ (Lit.int k n).wf = true := by
  simp only [Cell.okWide, ht] at h
  cases v <;> simp_all [Cell.ok, IntKind.has, Lit.wf]
theorem ch_string {P : Program} {w : World} {r : Reach} {base : Nat} {t : TypeId} {v : Value} (ht : P.underlying t = some .string) (h : Cell.okWide P w r base t v) : ∃ s, v = .string s := by
  simp only [Cell.okWide, ht] at h
  cases v <;> simp_all [Cell.ok]
theorem ch_array {α : Type} {cs : Array α} (h : cs.size = 6) : ∃ c0 c1 c2 c3 c4 c5, cs = #[c0, c1, c2, c3, c4, c5] := by
  obtain ⟨l⟩ := cs
  match l, h with
  | [c0, c1, c2, c3, c4, c5], _ => exact ⟨c0, c1, c2, c3, c4, c5, rfl⟩
theorem ch_types : Tryz.prog.cellTypes Tryz.prog.depth 24 = some [9, 3, 3, 3, 3, 3] := by kernel_rfl
theorem ch_cells : Tryz.prog.cellsOf 24 = 6 := by kernel_rfl
set_option maxRecDepth 100000 in
theorem open_child {w : World} {r : Reach} {b0 : Nat} {v : Value} (hv : Value.okWide Tryz.prog w r b0 24 v) : ∃ (nm : ByteArray) (mn mx ty low top : Int), v = .agg #[.string nm, .int .i64 mn, .int .i64 mx, .int .i64 ty, .int .i64 low, .int .i64 top] := by
  unfold Value.okWide at hv
  rw [Tryz.underlying24] at hv
  obtain ⟨cs, rfl, hsz, ts, hts, _, hall⟩ := hv
  obtain rfl := Option.some.inj (hts.symm.trans ch_types)
  obtain ⟨c0, c1, c2, c3, c4, c5, rfl⟩ := ch_array (hsz.trans ch_cells)
  obtain ⟨u0, e0, q0⟩ := hall 0 c0 rfl
  cases e0
  obtain ⟨x0, rfl⟩ := ch_string Tryz.underlying9 q0
  obtain ⟨u1, e1, q1⟩ := hall 1 c1 rfl
  cases e1
  obtain ⟨x1, rfl, _⟩ := ch_int Tryz.underlying3 q1
  obtain ⟨u2, e2, q2⟩ := hall 2 c2 rfl
  cases e2
  obtain ⟨x2, rfl, _⟩ := ch_int Tryz.underlying3 q2
  obtain ⟨u3, e3, q3⟩ := hall 3 c3 rfl
  cases e3
  obtain ⟨x3, rfl, _⟩ := ch_int Tryz.underlying3 q3
  obtain ⟨u4, e4, q4⟩ := hall 4 c4 rfl
  cases e4
  obtain ⟨x4, rfl, _⟩ := ch_int Tryz.underlying3 q4
  obtain ⟨u5, e5, q5⟩ := hall 5 c5 rfl
  cases e5
  obtain ⟨x5, rfl, _⟩ := ch_int Tryz.underlying3 q5
  exact ⟨x0, x1, x2, x3, x4, x5, rfl⟩
end Go.Proofs.YthnjnaiajohfiaaGreatDoor
