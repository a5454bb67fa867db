/- TreeTells (P8.1, P8.2), where what comes in is of bulk at most 1048576 (values and letters together): whatever the tokens, the text, the nodes and the number, the tree of the tokens, and of the text, or why there is none, and the kids of a node, are as the document says. Condition: the library's variables that the row lists (the two tables of unicode/utf8 and strconv's syntax error, of which the proof speaks, among them) read as the program's text lays them (the card ties them). -/
import Derived.Test.YthkjmbkfcnehoaaGreatDoorTreeTells
import Derived.Test.YthkjmbkfcnehoaaGreatDoorTokOpen
import Derived.Test.YthkjmbkfcnehoaaGreatDoorNodOpen
import Derived.Test.YthkjmbkfcnehoaaGreatDoorTie
import Derived.Test.YthkjmbkfcnehoaaGreatDoorCards
import Derived.ChangeSame
import Derived.ChangeVars
import Derived.JoinedOf
import Derived.RowKit
import Derived.RowKitTokens
import Derived.LaidLaws
import Derived.LaidHandle
import Derived.Stop.Joined
import Derived.SevenTiedAt
import Derived.Lib.LaidTab
import Derived.Lay
import Derived.MakeChecks
import Derived.Lib.LaidU8T
import Derived.Stop.LaidErr
import Derived.Deep.DeepHandedRow
namespace Go.Proofs.YthkjmbkfcnehoaaGreatDoor
open Go.RowKit Go.ChangeShapes Go.WideShapes Go.ChangeAt
set_option linter.unusedVariables false

theorem own_knob : ownKnob Tryz.prog.godebug = none := by kernel_rfl
theorem laid_out : laidOutB Tryz.prog = true := by kernel_rfl

theorem first_same : Rows.laid_unicode_utf8_first = Lib.firstData := by kernel_rfl
theorem accept_same : (Rows.laid_unicode_utf8_acceptRanges : DataW Unit) = Lib.acceptData := by kernel_rfl
theorem err_star : "*" ++ "errors.errorString" = "*errors.errorString" := by decide
theorem err_row (u : TypeId) (h : Tryz.prog.typeName? 3 u = some "*errors.errorString") : u = 171 :=
  typeName_ptr_named (nm := "errors.errorString") (by rw [err_star]; kernel_rfl) (by kernel_rfl) (by decide) u (by rw [err_star]; exact h)
theorem err_named : Tryz.prog.globalNamed "strconv.ErrSyntax" = some 3 := by kernel_rfl
theorem laid_tail {P : Program} {W : World} {x : String × DataW Unit} {l : List (String × DataW Unit)} (h : laidMet P (x :: l) W) : laidMet P l W := by
  obtain ⟨ps, ⟨g, t, cs, fuel, p, q, _, _, _, _, hr, rfl⟩, hd, hc⟩ := h
  exact ⟨q, hr, (List.nodup_append.1 hd).2.1, fun b off hm => hc b off (List.mem_append_right _ hm)⟩

set_option maxRecDepth 100000 in
theorem reads_start (os : Os) {H : Type} (enc : TypeId × Value → H) : ∃ places, DataW.whole enc Tryz.prog ((World.laidAll Tryz.prog os Rows.treeTellsUptoRow.laid).forCall (fun _ _ => 0) ⟨#[], #[.slice none 0 0, .string .empty, .slice none 0 0, .int .i64 0], []⟩).memory Tryz.f3.params.toList Rows.treeTellsSpec.vars false (#[.slice none 0 0, .string .empty, .slice none 0 0, .int .i64 0] : Array Value).toList 8 = some ([.nil, .lit (.string []), .nil, .lit (.int .i64 0)], [], places) := ⟨[], by kernel_rfl⟩
set_option maxRecDepth 100000 in
theorem lifted (os : Os) (started : os.Started) (H : Type) (enc : TypeId × Value → H) (F : Stop.Interp) :
    ReturnsInHanded {} Tryz.checked os 3 .any ((Rows.OpenSpec.upto Rows.treeTellsSpec).preRow enc Tryz.prog Tryz.f3 Rows.treeTellsUptoRow.domain false Rows.treeTellsUptoRow.laid) (((Rows.OpenSpec.upto Rows.treeTellsSpec).at F).post enc Tryz.prog Tryz.f3 false true false false) := by
  obtain ⟨places, hx⟩ := reads_start os enc
  have hwit : ∃ (w : World) (tape : Tape) (i : Input), w.os = os ∧ (w.forCall tape i).Shaped Tryz.checked.prog ∧ i.vars = [] ∧ Input.okWide Tryz.checked.prog (w.forCall tape i) .any w.heap.size 3 i ∧ (Rows.OpenSpec.upto Rows.treeTellsSpec).preRow enc Tryz.checked.prog Tryz.f3 Rows.treeTellsUptoRow.domain false Rows.treeTellsUptoRow.laid (w.forCall tape i).memory i.args ∧ ({} : Assume).holds Tryz.checked.prog (lone (Frame.enter Tryz.checked.prog 3 i.args .normal) [] (w.forCall tape i)) := by
    obtain ⟨w, tape, i, h1, h2, h3, h4, ⟨⟨_, h5⟩, _⟩, h6⟩ := ChangeSpec.witness_shaped (enc := enc) (C := Tryz.checked) (os := os) (f := 3) (fn := Tryz.f3) (s := Rows.treeTellsSpec) (conds := []) (apart := false) (X := fun w args => (Rows.OpenSpec.upto Rows.treeTellsSpec).preRow enc Tryz.checked.prog Tryz.f3 Rows.treeTellsUptoRow.domain false Rows.treeTellsUptoRow.laid w args) false (World.laidAll Tryz.prog os Rows.treeTellsUptoRow.laid) #[.slice none 0 0, .string .empty, .slice none 0 0, .int .i64 0] 8 (World.laidAll_os _ _ _)
      (World.shaped_of_ZipB (by kernel_rfl) (by kernel_rfl)) (by kernel_rfl) (by kernel_rfl) (by kernel_rfl)
      (OpenSpec.preRow_of_cond 8 hx (by kernel_rfl) (fun k hk => by cases hk; kernel_rfl) (by kernel_rfl) (by rw [MakeChecks.laidMetH_plain _ _ _ (by kernel_rfl)]; exact laidMet_laidAll _ (by kernel_rfl) (by kernel_rfl)))
    exact ⟨w, tape, i, h1, h2, h3, h4, h5, h6⟩
  refine returnsInHanded_of_row (C := Tryz.checked) (s := Rows.OpenSpec.upto Rows.treeTellsSpec) own_knob started (by kernel_rfl) Tryz.func3 hwit ?_
  intro W base args ds gs before hval hW _ hcond _ hL0 _ _
  have hbulk : Rows.uptoBulkAll (ds ++ gs) ≤ 1048576 := of_decide_eq_true (hcond _ rfl)
  have hL : laidMet Tryz.prog Rows.treeTellsUptoRow.laid W := hL0
  obtain ⟨p, q, hA0, hV, hbf, hfz, hnd⟩ := id hW
  obtain ⟨rfl, rfl⟩ := trodVars_none hV
  have hA : DataW.TrodAll enc Tryz.prog W 0 (fun _ => true) true Tryz.f3.params.toList args.toList ds p := hA0
  rw [Tryz.params3] at hA hval
  have hErr : ∃ ev, W.cell? ⟨3, 0, none⟩ = some ev ∧ (ev = .nilIface ∨ ∃ te pe, ev = .iface te pe) := by
    obtain ⟨a1, s1, hv1, hc1, hs1, hz1⟩ := laid_sentinel (laid_tail (laid_tail (laid_tail (laid_tail (laid_tail hL))))) err_named (by kernel_rfl) Tryz.underlying106 err_row Tryz.underlying171 Tryz.underlying173 rfl rfl Tryz.underlying9 (by kernel_rfl) (by kernel_rfl)
    exact ⟨_, by simpa using World.var?_cell err_named hv1 0, .inr ⟨_, _, rfl⟩⟩
  have hTabs : Tabs W := ⟨utf8Tabs_of_readsT (ρ := Tryz.lays196_ren) (U8Types.of196 Tryz.lays196) ⟨by kernel_rfl, by kernel_rfl, by kernel_rfl, by kernel_rfl, by kernel_rfl, by kernel_rfl, by kernel_rfl⟩ (Lib.laidMet.reads hL (by rw [← first_same]; simp [Rows.treeTellsUptoRow])) (Lib.laidMet.reads hL (by rw [← accept_same]; simp [Rows.treeTellsUptoRow])), hErr⟩
  obtain ⟨v0, v1, v2, v3, d0, d1, d2, d3, p0, p1, p2, p3, rfl, rfl, rfl, h0, h1, h2, h3⟩ := trodAll_four hA
  have part_le0 : ∀ d : DataW H, d = d0 → Rows.uptoBulk d ≤ Rows.uptoBulkAll ([d0, d1, d2, d3] ++ []) := fun d e => by rw [e]; simp only [List.append_nil, Rows.uptoBulkAll]; omega
  have part_le1 : ∀ d : DataW H, d = d1 → Rows.uptoBulk d ≤ Rows.uptoBulkAll ([d0, d1, d2, d3] ++ []) := fun d e => by rw [e]; simp only [List.append_nil, Rows.uptoBulkAll]; omega
  have part_le2 : ∀ d : DataW H, d = d2 → Rows.uptoBulk d ≤ Rows.uptoBulkAll ([d0, d1, d2, d3] ++ []) := fun d e => by rw [e]; simp only [List.append_nil, Rows.uptoBulkAll]; omega
  have part_le3 : ∀ d : DataW H, d = d3 → Rows.uptoBulk d ≤ Rows.uptoBulkAll ([d0, d1, d2, d3] ++ []) := fun d e => by rw [e]; simp only [List.append_nil, Rows.uptoBulkAll]; omega
  obtain ⟨A0, n0, c0, l0, rfl, hr0, hb0⟩ := open_toks (hval 0 22 v0 rfl rfl) h0
  obtain ⟨s1, rfl, rfl, rfl, hs1⟩ := Go.ChangeMaps.open_string Tryz.underlying9 (hval 1 9 v1 rfl rfl) h1
  obtain ⟨A2, n2, c2, l2, rfl, hr2, hb2⟩ := open_nods (hval 2 23 v2 rfl rfl) h2
  obtain ⟨z3, rfl, rfl, rfl, w3⟩ := open_int Tryz.underlying3 (hval 3 3 v3 rfl rfl) h3
  refine (tells_tree W hTabs hr0 (Nat.le_trans hb0 (Nat.le_trans (part_le0 d0 rfl) hbulk)) hs1 hr2 (Nat.le_trans hb2 (Nat.le_trans (part_le2 d2 rfl) hbulk)) w3).mono fun e W' ⟨he, hf⟩ => ?_
  exact ⟨_, he, law_post (tb := 4) laid_out (by kernel_rfl) rfl Tryz.underlying4 rfl hW rfl hf.toBelow⟩

theorem row_holds : Rows.TreeTellsUptoSaid :=
  OpenClaim.holds_of_cond 3 Tryz.f3 rfl rfl rfl rfl rfl rfl rfl ⟨rfl, rfl, rfl, rfl, rfl⟩ rfl rfl rfl rfl rfl (by kernel_rfl) Tryz.func3 (by kernel_rfl)
    (of_decide_eq_true (by kernel_rfl)) (by unfold Func.isWrapper; first | (rw [if_pos (by decide +kernel)]; kernel_rfl) | (rw [if_neg (by decide +kernel)]; exact ⟨rfl, rfl⟩))
    (fun os started H enc _ F => by rw [OpenClaim.pre_eq_preRow]; exact lifted os started H enc F)

theorem proved : Rows.TreeTellsUptoCardSaid :=
  Claim7.holds_tied_plain_at .later [] Rows.treeTellsUptoCard.laidKinds true Rows.treeTellsUptoCard.stood.harness Rows.treeTellsUptoCard.stood.looks
    row_holds (fun _ h => by cases h) (by kernel_rfl) (fun _ h => by cases h) treeTellsUpto_row_tie rfl ⟨rfl, rfl⟩ (by kernel_rfl) rfl
    (fun f fn hf hfn => by
      obtain rfl : f = 3 := Option.some.inj ((show Tryz.prog.funcNamed Rows.treeTellsUptoRow.func = some 3 by kernel_rfl).symm.trans hf) |>.symm
      obtain rfl : fn = Tryz.f3 := (Option.some.inj (Tryz.func3.symm.trans hfn)).symm
      exact ⟨by kernel_rfl, fun j t ht => by
        have h := List.all_eq_true.1 (show (Tryz.f3.params.toList.all fun t => !Tryz.prog.wantsStandIn t) = true by kernel_rfl) t (by rw [← Array.getElem?_toList] at ht; exact List.mem_of_getElem? ht)
        have h2 : Tryz.prog.wantsStandIn t = false := by simpa using h
        exact h2⟩)
    (by kernel_rfl)
end Go.Proofs.YthkjmbkfcnehoaaGreatDoor
