/- A list of tokens that comes in. -/
import Derived.Test.YthkjmbkfcnehoaaGreatDoorNodOpen
namespace Go.Proofs.YthkjmbkfcnehoaaGreatDoor
open Go.RowKit Go.WideShapes Go.ChangeShapes
set_option maxHeartbeats 400000
set_option linter.unusedVariables false

def wtB (x : List UInt8 × List UInt8) : Nat := x.1.length + x.2.length + 3
def wtK (t : Tok) : Nat := t.name.length + t.text.length + (t.attrs.map wtB).sum + 1
theorem trod_five {H : Type} {enc : TypeId × Value → H} {P : Program} {W : World} {base : Nat} {sp : Nat → Bool} {held : Bool} {t : TypeId} {f0 f1 f2 f3 f4 : Field} {fuel : Nat} {cs : List Value} {x : DataW H × List MemPlace} (ht : P.underlying t = some (.struct #[f0, f1, f2, f3, f4])) (h : DataW.trod enc P W base sp held fuel t cs = some x) :
    ∃ y0 y1 y2 y3 y4 n, x = (.agg [y0.1, y1.1, y2.1, y3.1, y4.1], y0.2 ++ (y1.2 ++ (y2.2 ++ (y3.2 ++ y4.2)))) ∧ cs.length = P.cellsOf t ∧ DataW.trod enc P W base sp held n f0.type ((cs.drop f0.offset).take (P.cellsOf f0.type)) = some y0 ∧
      DataW.trod enc P W base sp held n f1.type ((cs.drop f1.offset).take (P.cellsOf f1.type)) = some y1 ∧ DataW.trod enc P W base sp held n f2.type ((cs.drop f2.offset).take (P.cellsOf f2.type)) = some y2 ∧ DataW.trod enc P W base sp held n f3.type ((cs.drop f3.offset).take (P.cellsOf f3.type)) = some y3 ∧
      DataW.trod enc P W base sp held n f4.type ((cs.drop f4.offset).take (P.cellsOf f4.type)) = some y4 := by
  obtain ⟨xs, n, _, rfl, hl, hlen, hf⟩ := DataW.trod_struct ht h
  match xs, hlen with
  | [y0, y1, y2, y3, y4], _ => exact ⟨y0, y1, y2, y3, y4, n, by simp, hl, by simpa using hf 0 f0 rfl, by simpa using hf 1 f1 rfl, by simpa using hf 2 f2 rfl, by simpa using hf 3 f3 rfl, by simpa using hf 4 f4 rfl⟩
theorem cs_bool : Tryz.prog.cellsOf 4 = 1 := by kernel_rfl
section
variable {H : Type} {enc : TypeId × Value → H} {W : World} {sp : Nat → Bool} {N : Nat → Prop}
set_option maxRecDepth 20000 in
theorem attr_ofB {m : Nat} {zs : List Value} {y : DataW H × List MemPlace} (h : DataW.trod enc Tryz.prog W 0 sp true m 59 zs = some y) : ∃ a, AttrI W N zs a ∧ wtB a ≤ Rows.uptoBulk y.1 := by
  obtain ⟨x0, x1, n, rfl, hl, f0, f1⟩ := trod_struct2 Tryz.underlying59 h
  rw [show Tryz.prog.cellsOf 59 = 2 from by kernel_rfl] at hl
  match zs, hl with
  | [z0, z1], _ =>
    obtain ⟨s0, e0, e0', _⟩ := DataW.trod_string Tryz.underlying9 f0
    obtain ⟨s1, e1, e1', _⟩ := DataW.trod_string Tryz.underlying9 f1
    simp only [cs_str, List.drop_zero, List.drop_succ_cons, List.take_succ_cons, List.take_zero, List.cons.injEq, and_true] at e0 e1
    subst e0 e1 e0' e1'
    refine ⟨(s0.data.toList, s1.data.toList), ⟨s0, s1, rfl, rfl, rfl⟩, ?_⟩
    simp only [wtB, Rows.uptoBulk, Rows.uptoBulkAll]
    omega
set_option maxRecDepth 20000 in
theorem tok_of (hN : ∀ i, i < W.heap.size → N i) {m : Nat} {zs : List Value} {y : DataW H × List MemPlace} (h : DataW.trod enc Tryz.prog W 0 sp true m 45 zs = some y) : ∃ a, TokI W N zs a ∧ wtK a ≤ Rows.uptoBulk y.1 := by
  obtain ⟨x0, x1, x2, x3, x4, n, rfl, hl, f0, f1, f2, f3, f4⟩ := trod_five Tryz.underlying45 h
  rw [show Tryz.prog.cellsOf 45 = 5 from by kernel_rfl] at hl
  match zs, hl with
  | [z0, z1, z2, z3, z4], _ =>
    obtain ⟨p, e0, e0', _⟩ := DataW.trod_int Tryz.underlying3 f0
    obtain ⟨s1, e1, e1', _⟩ := DataW.trod_string Tryz.underlying9 f1
    obtain ⟨s2, e2, e2', _⟩ := DataW.trod_string Tryz.underlying9 f2
    obtain ⟨A, n3, c3, ats, e3, hr, hw⟩ := open_items (I := AttrI) (s := 2) (N := N) wtB Tryz.underlying30 (by kernel_rfl) (by omega) hN (fun _ _ _ => attr_ofB) f3
    obtain ⟨b4, e4, e4'⟩ := DataW.trod_bool Tryz.underlying4 f4
    simp only [cs_str, cs_int, cs_ats, cs_bool, List.drop_zero, List.drop_succ_cons, List.take_succ_cons, List.take_zero, List.cons.injEq, and_true] at e0 e1 e2 e3 e4
    subst e0 e1 e2 e3 e4 e0' e1' e2' e4'
    refine ⟨⟨p, s1.data.toList, s2.data.toList, ats, b4⟩, ⟨s1, s2, A, n3, c3, rfl, rfl, rfl, hr⟩, ?_⟩
    simp only [wtK, Rows.uptoBulk, Rows.uptoBulkAll] at hw ⊢
    omega
set_option maxRecDepth 20000 in
/-- a list of tokens that came in -/
theorem open_toks {v : Value} {d : DataW H} {p : List MemPlace} {b0 : Nat} (hval : Value.okWide Tryz.prog W .any b0 22 v) (h : DataW.Trod enc Tryz.prog W 0 sp true 22 v d p) :
    ∃ A n c ls, v = .slice A n c ∧ RdI 5 TokI W (fun i => i < W.heap.size) A n c ls ∧ (ls.map wtK).sum ≤ Rows.uptoBulk d := by
  obtain ⟨a0, len, cap, rfl⟩ := okWide_slice Tryz.underlying22 hval
  obtain ⟨fuel, hf⟩ := h
  obtain ⟨A, n, c, ls, e, hr, hw⟩ := open_items (I := TokI) (s := 5) (N := fun i => i < W.heap.size) wtK Tryz.underlying22 (by kernel_rfl) (by omega) (fun _ hi => hi) (fun _ _ _ => tok_of (fun _ hi => hi)) hf
  simp [Value.cells] at e
  obtain ⟨rfl, rfl, rfl⟩ := e
  exact ⟨_, _, _, ls, rfl, hr, hw⟩
end
end Go.Proofs.YthkjmbkfcnehoaaGreatDoor
