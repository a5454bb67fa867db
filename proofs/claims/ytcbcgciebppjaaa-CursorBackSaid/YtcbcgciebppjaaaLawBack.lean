/- CursorBack ('What follows' of layer 1): whatever the bytes, the numbers and the widths, what is put is read, one behind the other; a nil cursor answers as the chapter says. No condition. -/
import Derived.Test.YtcbcgciebppjaaaCurBack
namespace Go.Proofs.Ytcbcgciebppjaaa
open Go.RowKit Go.ChangeShapes Go.WideShapes Go.ChangeAt
set_option linter.unusedVariables false

theorem own_knob : ownKnob Try.prog.godebug = none := by kernel_rfl
theorem laid_out : laidOutB Try.prog = true := by kernel_rfl
theorem cells_int : Try.prog.cellsOf 3 = 1 := by kernel_rfl
theorem cells_uint64 : Try.prog.cellsOf 38 = 1 := by kernel_rfl
theorem cells_uint8 : Try.prog.cellsOf 5 = 1 := by kernel_rfl

set_option maxRecDepth 100000 in
theorem lifted (os : Os) (started : os.Started) (H : Type) (enc : TypeId × Value → H) :
    ReturnsInHanded {} Try.checked os 4 .any (Rows.cursorBackSpec.pre6 enc Try.prog Try.f4 Rows.cursorBackRow.domain false) (Rows.cursorBackSpec.post enc Try.prog Try.f4 false true false false) := by
  refine returnsInHanded_of_change (C := Try.checked) own_knob started (by kernel_rfl) Try.func4
    (ChangeSpec.witness6 (enc := enc) (C := Try.checked) false ⟨#[], #[.slice none 0 0, .slice none 0 0, .slice none 0 0], []⟩ 8 (by kernel_rfl) (by kernel_rfl) (by kernel_rfl) (by kernel_rfl)) ?_
  intro W base args ds gs before hval hW _ _
  obtain ⟨p, q, hA0, hV, hbf, hfz, hnd⟩ := id hW
  obtain ⟨rfl, rfl⟩ := trodVars_none hV
  have hA : DataW.TrodAll enc Try.prog W 0 (fun _ => true) true Try.f4.params.toList args.toList ds p := hA0
  rw [Try.params4] at hA hval
  obtain ⟨v0, v1, v2, d0, d1, d2, p0, p1, p2, rfl, rfl, rfl, h0, h1, h2⟩ := trodAll_three hA
  obtain ⟨A0, n0, c0, l0, rfl, hr0⟩ := open_u8s Try.underlying22 Try.underlying5 cells_uint8 (hval 0 22 v0 rfl rfl) h0
  obtain ⟨A1, n1, c1, l1, rfl, hr1, hw1⟩ := open_rd Try.underlying45 Try.underlying38 cells_uint64 (hval 1 45 v1 rfl rfl) h1
  obtain ⟨A2, n2, c2, l2, rfl, hr2, hw2⟩ := open_rd Try.underlying46 Try.underlying3 cells_int (hval 2 46 v2 rfl rfl) h2
  refine (back_walk W hr0 hr1 hw1 hr2 hw2).mono fun e W' ⟨he, hf⟩ => ?_
  exact ⟨_, he, law_post (tb := 4) laid_out (by kernel_rfl) rfl Try.underlying4 rfl hW rfl hf.toBelow⟩

theorem proved : Rows.CursorBackSaid :=
  OpenClaim.holds_of_wide 4 Try.f4 rfl rfl rfl rfl rfl rfl rfl ⟨rfl, rfl, rfl, rfl, rfl⟩ rfl rfl rfl rfl rfl (by kernel_rfl) Try.func4 (by kernel_rfl)
    (of_decide_eq_true (by kernel_rfl)) (by unfold Func.isWrapper; first | (rw [if_pos (by decide +kernel)]; kernel_rfl) | (rw [if_neg (by decide +kernel)]; exact ⟨rfl, rfl⟩))
    (fun os started H enc _ => lifted os started H enc)
end Go.Proofs.Ytcbcgciebppjaaa
