/- The statements' own formats of data elements: contracts. -/
import Derived.Test.YtijlekikmkeihaaDoorEleDev
import Derived.Test.YtijlekikmkeihaaDoorWhole
import Derived.Test.YtijlekikmkeihaaDoorRefTxt3
import Derived.Test.YtijlekikmkeihaaDoorRefDig
import Derived.Great.CaseRows
import Derived.Great.BuildSlice
import Derived.LoopTactic
import Derived.Deep.CutRange
namespace Go.Proofs.YtijlekikmkeihaaDoor
open Go.RowKit
set_option maxHeartbeats 1000000
set_option linter.unusedVariables false

def FRow.fmtR (r : FRow) : Value := .agg #[.int .i64 r.no, .int .i64 r.kind, .int .i64 (r.dig : Int), .int .i64 (r.top : Int)]
def FRow.fcells (r : FRow) : List Value := [.int .i64 r.no, .int .i64 r.kind, .int .i64 (r.dig : Int), .int .i64 (r.top : Int)]
def fmtV : List Value := elT.flatMap FRow.fcells
theorem fmtSize : (Tryd.prog.info? 27).map (·.size) = some 4 := by kernel_rfl
theorem fmtZero : ((Tryd.prog.info? 27).bind (·.zero)).isSome = true := by kernel_rfl
theorem r_form (a b c d : Int) (w : World) : Calls Tryd.prog 38 #[.int .i64 a, .int .i64 b, .int .i64 c, .int .i64 d] w fun en w' => en = .returned (.agg #[.int .i64 a, .int .i64 b, .int .i64 c, .int .i64 d]) ∧ Fr No w w' := by
  have hfa := (Fr.refl No w).alloc (.cells #[.int .i64 a, .int .i64 b, .int .i64 c, .int .i64 d] 27)
  have HFA := Lib.hid hfa
  clear hfa
  go_enter Tryd.func38, Tryd.ntmps38
  go_wp2
  exact bodyPost_ret (v := .agg #[.int .i64 a, .int .i64 b, .int .i64 c, .int .i64 d]) (results_bk (g := w.heap.size) (cs := [.int .i64 a, .int .i64 b, .int .i64 c, .int .i64 d]) Tryd.results38 rfl (Bk.new w _ _) Tryd.underlying27 rfl fmtSize) rfl ⟨rfl, HFA.out⟩
set_option maxRecDepth 20000 in
theorem r_formats (w : World) : Calls Tryd.prog 24 #[] w fun e w' => ∃ g, e = .returned (.slice (some ⟨g, 0, none⟩) 24 24) ∧ Bk w' g 27 fmtV ∧ w.heap.size ≤ g ∧ Fr No w w' := by
  have HK := Lib.hid r_form
  have HF := Lib.hid (Fr.refl No w)
  go_enter Tryd.func24, Tryd.ntmps24
  go_wp2_with (first
    | (go_at_call 38; refine (HK.out _ _ _ _ _).mono ?_; rintro e w1 ⟨rfl, hf1⟩; have HF := Lib.hid (HF.out.trans hf1); clear hf1)
    | (refine Great.wpList_buildRows rfl 51 27 _ 4 (elT.map FRow.fmtR) rfl (fun i => i + 1) _ rfl _ rfl Tryd.underlying51 fmtSize fmtZero (by omega) (by kernel_rfl) (by kernel_rfl) (by kernel_rfl) ?_ ?_ ?_
       · intro v hv; obtain ⟨c, _, rfl⟩ := List.mem_map.1 hv; rfl
       · intro i hi; have hi24 : i < 24 := hi; (have : i = 0 ∨ i = 1 ∨ i = 2 ∨ i = 3 ∨ i = 4 ∨ i = 5 ∨ i = 6 ∨ i = 7 ∨ i = 8 ∨ i = 9 ∨ i = 10 ∨ i = 11 ∨ i = 12 ∨ i = 13 ∨ i = 14 ∨ i = 15 ∨ i = 16 ∨ i = 17 ∨ i = 18 ∨ i = 19 ∨ i = 20 ∨ i = 21 ∨ i = 22 ∨ i = 23 := by omega); rcases this with rfl | rfl | rfl | rfl | rfl | rfl | rfl | rfl | rfl | rfl | rfl | rfl | rfl | rfl | rfl | rfl | rfl | rfl | rfl | rfl | rfl | rfl | rfl | rfl <;> rfl
       have hcc : ((elT.map FRow.fmtR).flatMap fun v => v.cells.toList) = fmtV := rfl
       rw [hcc]))
  go_ret
  exact ⟨_, rfl, Bk.new _ _ _, HF.out.size, HF.out.alloc _⟩
end Go.Proofs.YtijlekikmkeihaaDoor
