/- One data element that comes in (its data of any length). -/
import Derived.Test.YtijlekikmkeihaaDoorTagOpen
import Derived.Test.YtijlekikmkeihaaDoorChildOpen
namespace Go.Proofs.YtijlekikmkeihaaDoor
open Go.RowKit Go.WideShapes Go.ChangeShapes
set_option maxHeartbeats 400000
set_option linter.unusedVariables false

theorem elm_types : Tryd.prog.cellTypes Tryd.prog.depth 24 = some [3, 22] := by kernel_rfl
theorem elm_cells : Tryd.prog.cellsOf 24 = 2 := by kernel_rfl
theorem elm_array {α : Type} {cs : Array α} (h : cs.size = 2) : ∃ c0 c1, cs = #[c0, c1] := by
  obtain ⟨l⟩ := cs
  match l, h with
  | [c0, c1], _ => exact ⟨c0, c1, rfl⟩
theorem elm_slice {P : Program} {w : World} {r : Reach} {base : Nat} {t e : TypeId} {v : Value} (ht : P.underlying t = some (.slice e)) (h : Cell.okWide P w r base t v) : ∃ A n c, v = .slice A n c := by
  simp only [Cell.okWide, ht] at h
  cases v <;> simp_all [Cell.ok]
section
variable {H : Type} {enc : TypeId × Value → H} {W : World}
set_option maxRecDepth 20000 in
theorem open_elem {v : Value} {d : DataW H} {p : List MemPlace} {b0 : Nat} (hv : Value.okWide Tryd.prog W .any b0 24 v) (h : DataW.Trod enc Tryd.prog W 0 (fun _ => true) true 24 v d p) :
    ∃ (no : Int) (A : Option Addr) (n c : Nat) (l : List UInt8), v = .agg #[.int .i64 no, .slice A n c] ∧ Rd W A n c (u8s l) ∧ (Lit.int .i64 no).wf = true := by
  unfold Value.okWide at hv
  rw [Tryd.underlying24] at hv
  obtain ⟨cs, rfl, hsz, ts, hts, _, hall⟩ := hv
  obtain rfl := Option.some.inj (hts.symm.trans elm_types)
  obtain ⟨c0, c1, rfl⟩ := elm_array (hsz.trans elm_cells)
  obtain ⟨u0, e0, q0⟩ := hall 0 c0 rfl
  cases e0
  obtain ⟨x0, rfl, _⟩ := ch_int Tryd.underlying3 q0
  obtain ⟨u1, e1, q1⟩ := hall 1 c1 rfl
  cases e1
  obtain ⟨A1, n1, k1, rfl⟩ := elm_slice Tryd.underlying22 q1
  obtain ⟨fuel, hf⟩ := h
  have hcs : (Value.agg #[Value.int .i64 x0, Value.slice A1 n1 k1]).cells.toList = [Value.int .i64 x0, Value.slice A1 n1 k1] := rfl
  rw [hcs] at hf
  obtain ⟨y0, y1, n, hyy, hl, f0, f1⟩ := trod_struct2 Tryd.underlying24 hf
  obtain ⟨p0, e0, _, hw⟩ := DataW.trod_int Tryd.underlying3 f0
  obtain ⟨A, k, c, l, e1, hr⟩ := tg_u8s Tryd.underlying22 Tryd.underlying5 (show Tryd.prog.cellsOf 5 = 1 by kernel_rfl) f1
  simp only [show Tryd.prog.cellsOf 3 = 1 from by kernel_rfl, show Tryd.prog.cellsOf 22 = 1 from by kernel_rfl, List.drop_zero, List.drop_succ_cons, List.take_succ_cons, List.take_zero, List.cons.injEq, and_true, Value.int.injEq, Value.slice.injEq, true_and] at e0 e1
  obtain ⟨rfl, rfl, rfl⟩ := e1
  subst e0
  exact ⟨_, _, _, _, l, rfl, hr, hw⟩
end
end Go.Proofs.YtijlekikmkeihaaDoor
