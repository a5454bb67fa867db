/- CanonTells (P9.1), where what comes in is of bulk at most 1048576 (values and letters together): whatever the nodes, whether they are right, and what they are as a file, or why not, is as the document says. Condition: the library's two tables of unicode/utf8, which the row lists, read as the program's text lays them (the card ties them). -/
import Derived.Test.YtlnjpocidfgloaaDoorCanTells
import Derived.Test.YtlnjpocidfgloaaDoorNodOpen
import Derived.Test.YtlnjpocidfgloaaDoorTie
import Derived.Test.YtlnjpocidfgloaaDoorCards
import Derived.ChangeSame
import Derived.ChangeVars
import Derived.JoinedOf
import Derived.RowKit
import Derived.RowKitTokens
import Derived.LaidLaws
import Derived.LaidHandle
import Derived.Stop.Joined
import Derived.SevenTiedAt
import Derived.Lib.LaidTab
import Derived.Lay
import Derived.MakeChecks
import Derived.Lib.LaidU8T
import Derived.Deep.DeepHandedRow
namespace Go.Proofs.YtlnjpocidfgloaaDoor
open Go.RowKit Go.ChangeShapes Go.WideShapes Go.ChangeAt
set_option linter.unusedVariables false

theorem own_knob : ownKnob Tryd.prog.godebug = none := by kernel_rfl
theorem laid_out : laidOutB Tryd.prog = true := by kernel_rfl

theorem first_same : Rows.laid_unicode_utf8_first = Lib.firstData := by kernel_rfl
theorem accept_same : (Rows.laid_unicode_utf8_acceptRanges : DataW Unit) = Lib.acceptData := by kernel_rfl
theorem laid_tail {P : Program} {W : World} {x : String × DataW Unit} {l : List (String × DataW Unit)} (h : laidMet P (x :: l) W) : laidMet P l W := by
  obtain ⟨ps, ⟨g, t, cs, fuel, p, q, _, _, _, _, hr, rfl⟩, hd, hc⟩ := h
  exact ⟨q, hr, (List.nodup_append.1 hd).2.1, fun b off hm => hc b off (List.mem_append_right _ hm)⟩

set_option maxRecDepth 100000 in
theorem reads_start (os : Os) {H : Type} (enc : TypeId × Value → H) : ∃ places, DataW.whole enc Tryd.prog ((World.laidAll Tryd.prog os Rows.canonTellsUptoRow.laid).forCall (fun _ _ => 0) ⟨#[], #[.slice none 0 0], []⟩).memory Tryd.f3.params.toList Rows.canonTellsSpec.vars false (#[.slice none 0 0] : Array Value).toList 8 = some ([.nil], [], places) := ⟨[], by kernel_rfl⟩
set_option maxRecDepth 100000 in
theorem lifted (os : Os) (started : os.Started) (H : Type) (enc : TypeId × Value → H) (F : Stop.Interp) :
    ReturnsInHanded {} Tryd.checked os 3 .any ((Rows.OpenSpec.upto Rows.canonTellsSpec).preRow enc Tryd.prog Tryd.f3 Rows.canonTellsUptoRow.domain false Rows.canonTellsUptoRow.laid) (((Rows.OpenSpec.upto Rows.canonTellsSpec).at F).post enc Tryd.prog Tryd.f3 false true false false) := by
  obtain ⟨places, hx⟩ := reads_start os enc
  have hwit : ∃ (w : World) (tape : Tape) (i : Input), w.os = os ∧ (w.forCall tape i).Shaped Tryd.checked.prog ∧ i.vars = [] ∧ Input.okWide Tryd.checked.prog (w.forCall tape i) .any w.heap.size 3 i ∧ (Rows.OpenSpec.upto Rows.canonTellsSpec).preRow enc Tryd.checked.prog Tryd.f3 Rows.canonTellsUptoRow.domain false Rows.canonTellsUptoRow.laid (w.forCall tape i).memory i.args ∧ ({} : Assume).holds Tryd.checked.prog (lone (Frame.enter Tryd.checked.prog 3 i.args .normal) [] (w.forCall tape i)) := by
    obtain ⟨w, tape, i, h1, h2, h3, h4, ⟨⟨_, h5⟩, _⟩, h6⟩ := ChangeSpec.witness_shaped (enc := enc) (C := Tryd.checked) (os := os) (f := 3) (fn := Tryd.f3) (s := Rows.canonTellsSpec) (conds := []) (apart := false) (X := fun w args => (Rows.OpenSpec.upto Rows.canonTellsSpec).preRow enc Tryd.checked.prog Tryd.f3 Rows.canonTellsUptoRow.domain false Rows.canonTellsUptoRow.laid w args) false (World.laidAll Tryd.prog os Rows.canonTellsUptoRow.laid) #[.slice none 0 0] 8 (World.laidAll_os _ _ _)
      (World.shaped_of_ZipB (by kernel_rfl) (by kernel_rfl)) (by kernel_rfl) (by kernel_rfl) (by kernel_rfl)
      (OpenSpec.preRow_of_cond 8 hx (by kernel_rfl) (fun k hk => by cases hk; kernel_rfl) (by kernel_rfl) (by rw [MakeChecks.laidMetH_plain _ _ _ (by kernel_rfl)]; exact laidMet_laidAll _ (by kernel_rfl) (by kernel_rfl)))
    exact ⟨w, tape, i, h1, h2, h3, h4, h5, h6⟩
  refine returnsInHanded_of_row (C := Tryd.checked) (s := Rows.OpenSpec.upto Rows.canonTellsSpec) own_knob started (by kernel_rfl) Tryd.func3 hwit ?_
  intro W base args ds gs before hval hW _ hcond _ hL0 _ _
  have hbulk : Rows.uptoBulkAll (ds ++ gs) ≤ 1048576 := of_decide_eq_true (hcond _ rfl)
  have hL : laidMet Tryd.prog Rows.canonTellsUptoRow.laid W := hL0
  obtain ⟨p, q, hA0, hV, hbf, hfz, hnd⟩ := id hW
  obtain ⟨rfl, rfl⟩ := trodVars_none hV
  have hA : DataW.TrodAll enc Tryd.prog W 0 (fun _ => true) true Tryd.f3.params.toList args.toList ds p := hA0
  rw [Tryd.params3] at hA hval
  have hTabs : Tabs W := ⟨utf8Tabs_of_readsT (ρ := Tryd.lays196_ren) (U8Types.of196 Tryd.lays196) ⟨by kernel_rfl, by kernel_rfl, by kernel_rfl, by kernel_rfl, by kernel_rfl, by kernel_rfl, by kernel_rfl⟩ (Lib.laidMet.reads hL (by rw [← first_same]; simp [Rows.canonTellsUptoRow])) (Lib.laidMet.reads hL (by rw [← accept_same]; simp [Rows.canonTellsUptoRow]))⟩
  obtain ⟨v0, d0, rfl, rfl, h0⟩ := trodAll_one hA
  obtain ⟨A0, n0, c0, l0, rfl, hr0, hb0⟩ := open_nods (hval 0 22 v0 rfl rfl) h0
  have part_le0 : ∀ d : DataW H, d = d0 → Rows.uptoBulk d ≤ Rows.uptoBulkAll ([d0] ++ []) := fun d e => by rw [e]; simp only [List.append_nil, Rows.uptoBulkAll]; omega
  refine (tells_card W hTabs hr0 (Nat.le_trans hb0 (Nat.le_trans (part_le0 d0 rfl) hbulk))).mono fun e W' ⟨he, hf⟩ => ?_
  exact ⟨_, he, law_post (tb := 4) laid_out (by kernel_rfl) rfl Tryd.underlying4 rfl hW rfl hf.toBelow⟩

theorem row_holds : Rows.CanonTellsUptoSaid :=
  OpenClaim.holds_of_cond 3 Tryd.f3 rfl rfl rfl rfl rfl rfl rfl ⟨rfl, rfl, rfl, rfl, rfl⟩ rfl rfl rfl rfl rfl (by kernel_rfl) Tryd.func3 (by kernel_rfl)
    (of_decide_eq_true (by kernel_rfl)) (by unfold Func.isWrapper; first | (rw [if_pos (by decide +kernel)]; kernel_rfl) | (rw [if_neg (by decide +kernel)]; exact ⟨rfl, rfl⟩))
    (fun os started H enc _ F => by rw [OpenClaim.pre_eq_preRow]; exact lifted os started H enc F)

theorem proved : Rows.CanonTellsUptoCardSaid :=
  Claim7.holds_tied_plain_at .later [] Rows.canonTellsUptoCard.laidKinds true Rows.canonTellsUptoCard.stood.harness Rows.canonTellsUptoCard.stood.looks
    row_holds (fun _ h => by cases h) (by kernel_rfl) (fun _ h => by cases h) canonTellsUpto_row_tie rfl ⟨rfl, rfl⟩ (by kernel_rfl) rfl
    (fun f fn hf hfn => by
      obtain rfl : f = 3 := Option.some.inj ((show Tryd.prog.funcNamed Rows.canonTellsUptoRow.func = some 3 by kernel_rfl).symm.trans hf) |>.symm
      obtain rfl : fn = Tryd.f3 := (Option.some.inj (Tryd.func3.symm.trans hfn)).symm
      exact ⟨by kernel_rfl, fun j t ht => by
        have h := List.all_eq_true.1 (show (Tryd.f3.params.toList.all fun t => !Tryd.prog.wantsStandIn t) = true by kernel_rfl) t (by rw [← Array.getElem?_toList] at ht; exact List.mem_of_getElem? ht)
        have h2 : Tryd.prog.wantsStandIn t = false := by simpa using h
        exact h2⟩)
    (by kernel_rfl)
end Go.Proofs.YtlnjpocidfgloaaDoor
