/- FieldsRefuse (P18.1): whatever the number, a message of elements that lacks, or has, what it may not, is refused for just that. Condition: the program's three tables and the library's, which the row lists, read as the program's text lays them (the card ties them). -/
import Derived.Test.YthlgnmgjfgbffaaGreatDoorL52
import Derived.Test.YthlgnmgjfgbffaaGreatDoorTie
import Derived.Test.YthlgnmgjfgbffaaGreatDoorCards
import Derived.Test.YthlgnmgjfgbffaaGreatDoorL50
import Derived.Test.YthlgnmgjfgbffaaGreatDoorL51
import Derived.ChangeSame
import Derived.ChangeVars
import Derived.JoinedOf
import Derived.RowKit
import Derived.RowKitTokens
import Derived.LaidLaws
import Derived.LaidHandle
import Derived.Stop.Joined
import Derived.SevenTiedAt
import Derived.Lib.LaidTab
import Derived.Lay
import Derived.MakeChecks
import Derived.Lib.LaidU8T
namespace Go.Proofs.YthlgnmgjfgbffaaGreatDoor
open Go.RowKit Go.ChangeShapes Go.WideShapes Go.ChangeAt
set_option linter.unusedVariables false

theorem own_knob : ownKnob Tryz.prog.godebug = none := by kernel_rfl
theorem laid_out : laidOutB Tryz.prog = true := by kernel_rfl

theorem first_same : Rows.laid_unicode_utf8_first = Lib.firstData := by kernel_rfl
theorem accept_same : (Rows.laid_unicode_utf8_acceptRanges : DataW Unit) = Lib.acceptData := by kernel_rfl
theorem dev_same : (Rows.laid_comptoir_kinds_table : DataW Unit) = devData := by kernel_rfl
theorem cod_same : (Rows.laid_comptoir_codes_table : DataW Unit) = codData := by kernel_rfl
theorem ele_same : (Rows.laid_comptoir_element_table : DataW Unit) = eleData := by kernel_rfl
theorem laid_tail {P : Program} {W : World} {x : String × DataW Unit} {l : List (String × DataW Unit)} (h : laidMet P (x :: l) W) : laidMet P l W := by
  obtain ⟨ps, ⟨g, t, cs, fuel, p, q, _, _, _, _, hr, rfl⟩, hd, hc⟩ := h
  exact ⟨q, hr, (List.nodup_append.1 hd).2.1, fun b off hm => hc b off (List.mem_append_right _ hm)⟩

set_option maxRecDepth 100000 in
theorem lifted (os : Os) (started : os.Started) (H : Type) (enc : TypeId × Value → H) :
    ReturnsInHanded {} Tryz.checked os 3 .any (fun w args => (Rows.fieldsRefuseSpec.pre enc Tryz.prog Tryz.f3 [] false w args ∧ laidMetH Tryz.prog Rows.fieldsRefuseRow.laid w) ∧ sizedMet enc Tryz.prog Tryz.f3 (OpenSpec.ofChange Rows.fieldsRefuseSpec) false w args)
      (Rows.fieldsRefuseSpec.post enc Tryz.prog Tryz.f3 false true false false) := by
  refine returnsInHanded_of_change_and (C := Tryz.checked) (X := fun w _ => laidMetH Tryz.prog Rows.fieldsRefuseRow.laid w) (fun _ _ _ hh h => h.of_heap hh) own_knob started (by kernel_rfl) Tryz.func3
    (ChangeSpec.witness_shaped (enc := enc) (C := Tryz.checked) (os := os) (X := fun w _ => laidMetH Tryz.prog Rows.fieldsRefuseRow.laid w) false (World.laidAll Tryz.prog os Rows.fieldsRefuseRow.laid) #[.int .i64 0] 8 (World.laidAll_os _ _ _)
      (World.shaped_of_ZipB (by kernel_rfl) (by kernel_rfl)) (by kernel_rfl) (by kernel_rfl) (by kernel_rfl)
      (by rw [MakeChecks.laidMetH_plain _ _ _ (by kernel_rfl)]; exact laidMet_laidAll _ (by kernel_rfl) (by kernel_rfl))) ?_
  intro W base args ds gs before hval hW _ hSz hL0 _
  have hL : laidMet Tryz.prog Rows.fieldsRefuseRow.laid W := hL0
  obtain ⟨p, q, hA0, hV, hbf, hfz, hnd⟩ := id hW
  obtain ⟨rfl, rfl⟩ := trodVars_none hV
  have hA : DataW.TrodAll enc Tryz.prog W 0 (fun _ => true) true Tryz.f3.params.toList args.toList ds p := hA0
  rw [Tryz.params3] at hA hval
  have hTen : Lib.TabIs Tryz.prog W "internal/strconv.uint64pow10" .u64 Lib.pow10Tab := Lib.tabIs_of_head (g := 5) (t := 291) (e := 32) (n := 20) (by kernel_rfl) (by kernel_rfl) (by kernel_rfl) (by kernel_rfl) (by kernel_rfl) (by kernel_rfl) (laid_tail (laid_tail (laid_tail (laid_tail hL))))
  have hKin := kin_reads (Lib.laidMet.reads hL (d := devData) (by rw [← dev_same]; simp [Rows.fieldsRefuseRow]))
  have hCod := cod_reads (Lib.laidMet.reads hL (d := codData) (by rw [← cod_same]; simp [Rows.fieldsRefuseRow]))
  have hEle := ele_reads (Lib.laidMet.reads hL (d := eleData) (by rw [← ele_same]; simp [Rows.fieldsRefuseRow]))
  have hTabs : Tabs W := ⟨utf8Tabs_of_readsT (ρ := Tryz.lays196_ren) (U8Types.of196 Tryz.lays196) ⟨by kernel_rfl, by kernel_rfl, by kernel_rfl, by kernel_rfl, by kernel_rfl, by kernel_rfl, by kernel_rfl⟩ (Lib.laidMet.reads hL (by rw [← first_same]; simp [Rows.fieldsRefuseRow])) (Lib.laidMet.reads hL (by rw [← accept_same]; simp [Rows.fieldsRefuseRow])), hTen, hKin.1, hKin.2, hCod.1, hCod.2, hEle.1, hEle.2⟩
  obtain ⟨v0, d0, rfl, rfl, h0⟩ := trodAll_one hA
  obtain ⟨z0, rfl, rfl, rfl, w0⟩ := open_int Tryz.underlying3 (hval 0 3 v0 rfl rfl) h0
  refine (refusefld_walk W hTabs w0).mono fun e W' ⟨he, hf⟩ => ?_
  exact ⟨_, he, law_post (tb := 4) laid_out (by kernel_rfl) rfl Tryz.underlying4 rfl hW rfl hf.toBelow⟩

theorem fn_named : Tryz.prog.funcNamed Rows.fieldsRefuseRow.func = some 3 := by kernel_rfl
theorem j_in : (Rows.fieldsRefuseRow.inPlace == Tryz.checked.prog.inPlace 3) = true := by kernel_rfl
theorem j_un : (Rows.fieldsRefuseRow.unfollowed == Tryz.checked.prog.unfollowed 3) = true := by kernel_rfl
theorem j_re : (Rows.fieldsRefuseRow.recurses == Tryz.checked.prog.recurses 3) = true := by kernel_rfl
theorem j_na : (Rows.fieldsRefuseRow.named == Tryz.checked.prog.varsNamed 3) = true := by kernel_rfl
theorem j_lo : laidOutB Tryz.checked.prog = true := laid_out
theorem j_all : joinedFacts Tryz.checked.prog 3 Tryz.f3 Rows.fieldsRefuseSpec Rows.fieldsRefuseRow = true := by
  unfold joinedFacts
  rw [j_in, j_un, j_re, j_na, j_lo]
  kernel_rfl
theorem row_holds : Rows.FieldsRefuseSaid :=
  OpenClaim.holds_of_wide 3 Tryz.f3 rfl rfl rfl rfl rfl rfl rfl ⟨rfl, rfl, rfl, rfl, rfl⟩ rfl rfl rfl rfl rfl fn_named Tryz.func3 j_all
    (of_decide_eq_true (by kernel_rfl)) (by unfold Func.isWrapper; first | (rw [if_pos (by decide +kernel)]; kernel_rfl) | (rw [if_neg (by decide +kernel)]; exact ⟨rfl, rfl⟩))
    (fun os started H enc _ => lifted os started H enc)

theorem main_is : Tryz.checked.prog.mainIs = some (Rows.fieldsRefuseCard.stood.harness.fst, Rows.fieldsRefuseCard.stood.harness.snd.toList) := by kernel_rfl
theorem looks_is : Rows.fieldsRefuseCard.stood.looks = Tryz.checked.prog.looks [] := by kernel_rfl
theorem goes_by : false = Rows.fieldsRefuseRow.goesBy Tryz.checked.prog := by kernel_rfl
theorem proved : Rows.FieldsRefuseCardSaid :=
  Claim7.holds_tied_plain_at .later [] Rows.fieldsRefuseCard.laidKinds true Rows.fieldsRefuseCard.stood.harness Rows.fieldsRefuseCard.stood.looks
    row_holds (fun _ h => by cases h) (by kernel_rfl) (fun _ h => by cases h) fieldsRefuse_row_tie rfl ⟨rfl, rfl⟩ main_is rfl
    (fun f fn hf hfn => by
      obtain rfl : f = 3 := Option.some.inj (fn_named.symm.trans hf) |>.symm
      obtain rfl : fn = Tryz.f3 := (Option.some.inj (Tryz.func3.symm.trans hfn)).symm
      exact ⟨looks_is, fun j t ht => by
        have h := List.all_eq_true.1 (show (Tryz.f3.params.toList.all fun t => !Tryz.prog.wantsStandIn t) = true by kernel_rfl) t (by rw [← Array.getElem?_toList] at ht; exact List.mem_of_getElem? ht)
        have h2 : Tryz.prog.wantsStandIn t = false := by simpa using h
        exact h2⟩)
    goes_by
end Go.Proofs.YthlgnmgjfgbffaaGreatDoor
