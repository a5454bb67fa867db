/- ModelTells (P12.1): whatever the name, the nodes and the text, the model of the name, and whether the nodes, and the file's, are let, or why not, is as the document says. Condition: the library's variables that the row lists (the two tables of unicode/utf8 and strconv's powers of ten, of which the proof speaks, among them) read as the program's text lays them (the card ties them). -/
import Derived.Test.YtbfodbejdaafaaaGreatDoorK50
import Derived.Test.YtbfodbejdaafaaaGreatDoorTie
import Derived.Test.YtbfodbejdaafaaaGreatDoorCards
import Derived.ChangeSame
import Derived.ChangeVars
import Derived.JoinedOf
import Derived.RowKit
import Derived.RowKitTokens
import Derived.LaidLaws
import Derived.LaidHandle
import Derived.Stop.Joined
import Derived.SevenTiedAt
import Derived.Lib.LaidTab
import Derived.Lay
import Derived.MakeChecks
import Derived.Lib.LaidU8T
namespace Go.Proofs.YtbfodbejdaafaaaGreatDoor
open Go.RowKit Go.ChangeShapes Go.WideShapes Go.ChangeAt
set_option linter.unusedVariables false

theorem own_knob : ownKnob Tryz.prog.godebug = none := by kernel_rfl
theorem laid_out : laidOutB Tryz.prog = true := by kernel_rfl

theorem first_same : Rows.laid_unicode_utf8_first = Lib.firstData := by kernel_rfl
theorem accept_same : (Rows.laid_unicode_utf8_acceptRanges : DataW Unit) = Lib.acceptData := by kernel_rfl
theorem laid_tail {P : Program} {W : World} {x : String × DataW Unit} {l : List (String × DataW Unit)} (h : laidMet P (x :: l) W) : laidMet P l W := by
  obtain ⟨ps, ⟨g, t, cs, fuel, p, q, _, _, _, _, hr, rfl⟩, hd, hc⟩ := h
  exact ⟨q, hr, (List.nodup_append.1 hd).2.1, fun b off hm => hc b off (List.mem_append_right _ hm)⟩

set_option maxRecDepth 100000 in
theorem lifted (os : Os) (started : os.Started) (H : Type) (enc : TypeId × Value → H) :
    ReturnsInHanded {} Tryz.checked os 3 .any (fun w args => (Rows.modelTellsSpec.pre enc Tryz.prog Tryz.f3 [] false w args ∧ laidMetH Tryz.prog Rows.modelTellsRow.laid w) ∧ sizedMet enc Tryz.prog Tryz.f3 (OpenSpec.ofChange Rows.modelTellsSpec) false w args)
      (Rows.modelTellsSpec.post enc Tryz.prog Tryz.f3 false true false false) := by
  refine returnsInHanded_of_change_and (C := Tryz.checked) (X := fun w _ => laidMetH Tryz.prog Rows.modelTellsRow.laid w) (fun _ _ _ hh h => h.of_heap hh) own_knob started (by kernel_rfl) Tryz.func3
    (ChangeSpec.witness_shaped (enc := enc) (C := Tryz.checked) (os := os) (X := fun w _ => laidMetH Tryz.prog Rows.modelTellsRow.laid w) false (World.laidAll Tryz.prog os Rows.modelTellsRow.laid) #[.string .empty, .slice none 0 0, .string .empty] 8 (World.laidAll_os _ _ _)
      (World.shaped_of_ZipB (by kernel_rfl) (by kernel_rfl)) (by kernel_rfl) (by kernel_rfl) (by kernel_rfl)
      (by rw [MakeChecks.laidMetH_plain _ _ _ (by kernel_rfl)]; exact laidMet_laidAll _ (by kernel_rfl) (by kernel_rfl))) ?_
  intro W base args ds gs before hval hW _ hSz hL0 _
  have hL : laidMet Tryz.prog Rows.modelTellsRow.laid W := hL0
  obtain ⟨p, q, hA0, hV, hbf, hfz, hnd⟩ := id hW
  obtain ⟨rfl, rfl⟩ := trodVars_none hV
  have hA : DataW.TrodAll enc Tryz.prog W 0 (fun _ => true) true Tryz.f3.params.toList args.toList ds p := hA0
  rw [Tryz.params3] at hA hval
  have hTen : Lib.TabIs Tryz.prog W "internal/strconv.uint64pow10" .u64 Lib.pow10Tab := Lib.tabIs_of_head (g := 3) (t := 187) (e := 88) (n := 20) (by kernel_rfl) (by kernel_rfl) (by kernel_rfl) (by kernel_rfl) (by kernel_rfl) (by kernel_rfl) (laid_tail (laid_tail hL))
  have hTabs : Tabs W := ⟨utf8Tabs_of_readsT (ρ := Tryz.lays196_ren) (U8Types.of196 Tryz.lays196) ⟨by kernel_rfl, by kernel_rfl, by kernel_rfl, by kernel_rfl, by kernel_rfl, by kernel_rfl, by kernel_rfl⟩ (Lib.laidMet.reads hL (by rw [← first_same]; simp [Rows.modelTellsRow])) (Lib.laidMet.reads hL (by rw [← accept_same]; simp [Rows.modelTellsRow])), hTen⟩
  obtain ⟨v0, v1, v2, d0, d1, d2, p0, p1, p2, rfl, rfl, rfl, h0, h1, h2⟩ := trodAll_three hA
  obtain ⟨s0, rfl, rfl, rfl, hs0⟩ := Go.ChangeMaps.open_string Tryz.underlying9 (hval 0 9 v0 rfl rfl) h0
  have hz1 := each_w _ _ _ hSz 1 22 d1 (by kernel_rfl) rfl
  obtain ⟨A1, n1, c1, l1, rfl, hr1, hk1⟩ := open_nodsW (hval 1 22 v1 rfl rfl) h1 hz1
  obtain ⟨s2, rfl, rfl, rfl, hs2⟩ := Go.ChangeMaps.open_string Tryz.underlying9 (hval 2 9 v2 rfl rfl) h2
  refine (tells_mod W hTabs hs0 hr1 hk1 hs2).mono fun e W' ⟨he, hf⟩ => ?_
  exact ⟨_, he, law_post (tb := 4) laid_out (by kernel_rfl) rfl Tryz.underlying4 rfl hW rfl hf.toBelow⟩

theorem fn_named : Tryz.prog.funcNamed Rows.modelTellsRow.func = some 3 := by kernel_rfl
theorem j_in : (Rows.modelTellsRow.inPlace == Tryz.checked.prog.inPlace 3) = true := by kernel_rfl
theorem j_un : (Rows.modelTellsRow.unfollowed == Tryz.checked.prog.unfollowed 3) = true := by kernel_rfl
theorem j_re : (Rows.modelTellsRow.recurses == Tryz.checked.prog.recurses 3) = true := by kernel_rfl
theorem j_na : (Rows.modelTellsRow.named == Tryz.checked.prog.varsNamed 3) = true := by kernel_rfl
theorem j_lo : laidOutB Tryz.checked.prog = true := laid_out
theorem j_all : joinedFacts Tryz.checked.prog 3 Tryz.f3 Rows.modelTellsSpec Rows.modelTellsRow = true := by
  unfold joinedFacts
  rw [j_in, j_un, j_re, j_na, j_lo]
  kernel_rfl
theorem row_holds : Rows.ModelTellsSaid :=
  OpenClaim.holds_of_wide 3 Tryz.f3 rfl rfl rfl rfl rfl rfl rfl ⟨rfl, rfl, rfl, rfl, rfl⟩ rfl rfl rfl rfl rfl fn_named Tryz.func3 j_all
    (of_decide_eq_true (by kernel_rfl)) (by unfold Func.isWrapper; first | (rw [if_pos (by decide +kernel)]; kernel_rfl) | (rw [if_neg (by decide +kernel)]; exact ⟨rfl, rfl⟩))
    (fun os started H enc _ => lifted os started H enc)

theorem main_is : Tryz.checked.prog.mainIs = some (Rows.modelTellsCard.stood.harness.fst, Rows.modelTellsCard.stood.harness.snd.toList) := by kernel_rfl
theorem looks_is : Rows.modelTellsCard.stood.looks = Tryz.checked.prog.looks [] := by kernel_rfl
theorem goes_by : false = Rows.modelTellsRow.goesBy Tryz.checked.prog := by kernel_rfl
theorem proved : Rows.ModelTellsCardSaid :=
  Claim7.holds_tied_plain_at .later [] Rows.modelTellsCard.laidKinds true Rows.modelTellsCard.stood.harness Rows.modelTellsCard.stood.looks
    row_holds (fun _ h => by cases h) (by kernel_rfl) (fun _ h => by cases h) modelTells_row_tie rfl ⟨rfl, rfl⟩ main_is rfl
    (fun f fn hf hfn => by
      obtain rfl : f = 3 := Option.some.inj (fn_named.symm.trans hf) |>.symm
      obtain rfl : fn = Tryz.f3 := (Option.some.inj (Tryz.func3.symm.trans hfn)).symm
      exact ⟨looks_is, fun j t ht => by
        have h := List.all_eq_true.1 (show (Tryz.f3.params.toList.all fun t => !Tryz.prog.wantsStandIn t) = true by kernel_rfl) t (by rw [← Array.getElem?_toList] at ht; exact List.mem_of_getElem? ht)
        have h2 : Tryz.prog.wantsStandIn t = false := by simpa using h
        exact h2⟩)
    goes_by
end Go.Proofs.YtbfodbejdaafaaaGreatDoor
