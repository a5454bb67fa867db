/- ElementDigits (P16.2): whatever the two numbers, a length is written in as many digits as its format has, with noughts ahead; one of noughts, or that is no number, is refused, and so is another element. Condition: the program's table of data elements and the library's powers of ten, which the row lists, read as the program's text lays them (the card ties them). -/
import Derived.Test.YtijlekikmkeihaaDoorEleDigits
import Derived.Test.YtijlekikmkeihaaDoorTie
import Derived.Test.YtijlekikmkeihaaDoorCards
import Derived.Test.YtijlekikmkeihaaDoorEleLaid
import Derived.ChangeSame
import Derived.ChangeVars
import Derived.JoinedOf
import Derived.RowKit
import Derived.RowKitTokens
import Derived.LaidLaws
import Derived.LaidHandle
import Derived.Stop.Joined
import Derived.SevenTiedAt
import Derived.Lib.LaidTab
import Derived.Lay
import Derived.MakeChecks
namespace Go.Proofs.YtijlekikmkeihaaDoor
open Go.RowKit Go.ChangeShapes Go.WideShapes Go.ChangeAt
set_option linter.unusedVariables false

theorem own_knob : ownKnob Tryd.prog.godebug = none := by kernel_rfl
theorem laid_out : laidOutB Tryd.prog = true := by kernel_rfl

theorem ele_same : (Rows.laid_comptoir_element_table : DataW Unit) = eleData := by kernel_rfl
theorem laid_tail {P : Program} {W : World} {x : String × DataW Unit} {l : List (String × DataW Unit)} (h : laidMet P (x :: l) W) : laidMet P l W := by
  obtain ⟨ps, ⟨g, t, cs, fuel, p, q, _, _, _, _, hr, rfl⟩, hd, hc⟩ := h
  exact ⟨q, hr, (List.nodup_append.1 hd).2.1, fun b off hm => hc b off (List.mem_append_right _ hm)⟩

set_option maxRecDepth 100000 in
theorem lifted (os : Os) (started : os.Started) (H : Type) (enc : TypeId × Value → H) :
    ReturnsInHanded {} Tryd.checked os 8 .any (fun w args => (Rows.elementDigitsSpec.pre enc Tryd.prog Tryd.f8 [] false w args ∧ laidMetH Tryd.prog Rows.elementDigitsRow.laid w) ∧ sizedMet enc Tryd.prog Tryd.f8 (OpenSpec.ofChange Rows.elementDigitsSpec) false w args)
      (Rows.elementDigitsSpec.post enc Tryd.prog Tryd.f8 false true false false) := by
  refine returnsInHanded_of_change_and (C := Tryd.checked) (X := fun w _ => laidMetH Tryd.prog Rows.elementDigitsRow.laid w) (fun _ _ _ hh h => h.of_heap hh) own_knob started (by kernel_rfl) Tryd.func8
    (ChangeSpec.witness_shaped (enc := enc) (C := Tryd.checked) (os := os) (X := fun w _ => laidMetH Tryd.prog Rows.elementDigitsRow.laid w) false (World.laidAll Tryd.prog os Rows.elementDigitsRow.laid) #[.int .i64 0, .int .i64 0] 8 (World.laidAll_os _ _ _)
      (World.shaped_of_ZipB (by kernel_rfl) (by kernel_rfl)) (by kernel_rfl) (by kernel_rfl) (by kernel_rfl)
      (by rw [MakeChecks.laidMetH_plain _ _ _ (by kernel_rfl)]; exact laidMet_laidAll _ (by kernel_rfl) (by kernel_rfl))) ?_
  intro W base args ds gs before hval hW _ hSz hL0 _
  have hL : laidMet Tryd.prog Rows.elementDigitsRow.laid W := hL0
  obtain ⟨p, q, hA0, hV, hbf, hfz, hnd⟩ := id hW
  obtain ⟨rfl, rfl⟩ := trodVars_none hV
  have hA : DataW.TrodAll enc Tryd.prog W 0 (fun _ => true) true Tryd.f8.params.toList args.toList ds p := hA0
  rw [Tryd.params8] at hA hval
  have hTen : Lib.TabIs Tryd.prog W "internal/strconv.uint64pow10" .u64 Lib.pow10Tab := Lib.tabIs_of_head (g := 1) (t := 115) (e := 45) (n := 20) (by kernel_rfl) (by kernel_rfl) (by kernel_rfl) (by kernel_rfl) (by kernel_rfl) (by kernel_rfl) (laid_tail (laid_tail hL))
  have hEle := ele_reads (Lib.laidMet.reads hL (d := eleData) (by rw [← ele_same]; simp [Rows.elementDigitsRow]))
  have hTabs : Tabs W := ⟨hTen, hEle.1, hEle.2⟩
  obtain ⟨v0, v1, d0, d1, p0, p1, rfl, rfl, rfl, h0, h1⟩ := trodAll_two hA
  obtain ⟨z0, rfl, rfl, rfl, w0⟩ := open_int Tryd.underlying3 (hval 0 3 v0 rfl rfl) h0
  obtain ⟨z1, rfl, rfl, rfl, w1⟩ := open_int Tryd.underlying3 (hval 1 3 v1 rfl rfl) h1
  refine (eleDigits_walk W hTabs w0 w1).mono fun e W' ⟨he, hf⟩ => ?_
  exact ⟨_, he, law_post (tb := 4) laid_out (by kernel_rfl) rfl Tryd.underlying4 rfl hW rfl hf.toBelow⟩

theorem fn_named : Tryd.prog.funcNamed Rows.elementDigitsRow.func = some 8 := by kernel_rfl
theorem j_in : (Rows.elementDigitsRow.inPlace == Tryd.checked.prog.inPlace 8) = true := by kernel_rfl
theorem j_un : (Rows.elementDigitsRow.unfollowed == Tryd.checked.prog.unfollowed 8) = true := by kernel_rfl
theorem j_re : (Rows.elementDigitsRow.recurses == Tryd.checked.prog.recurses 8) = true := by kernel_rfl
theorem j_na : (Rows.elementDigitsRow.named == Tryd.checked.prog.varsNamed 8) = true := by kernel_rfl
theorem j_lo : laidOutB Tryd.checked.prog = true := laid_out
theorem j_all : joinedFacts Tryd.checked.prog 8 Tryd.f8 Rows.elementDigitsSpec Rows.elementDigitsRow = true := by
  unfold joinedFacts
  rw [j_in, j_un, j_re, j_na, j_lo]
  kernel_rfl
theorem row_holds : Rows.ElementDigitsSaid :=
  OpenClaim.holds_of_wide 8 Tryd.f8 rfl rfl rfl rfl rfl rfl rfl ⟨rfl, rfl, rfl, rfl, rfl⟩ rfl rfl rfl rfl rfl fn_named Tryd.func8 j_all
    (of_decide_eq_true (by kernel_rfl)) (by unfold Func.isWrapper; first | (rw [if_pos (by decide +kernel)]; kernel_rfl) | (rw [if_neg (by decide +kernel)]; exact ⟨rfl, rfl⟩))
    (fun os started H enc _ => lifted os started H enc)

theorem main_is : Tryd.checked.prog.mainIs = some (Rows.elementDigitsCard.stood.harness.fst, Rows.elementDigitsCard.stood.harness.snd.toList) := by kernel_rfl
theorem looks_is : Rows.elementDigitsCard.stood.looks = Tryd.checked.prog.looks [] := by kernel_rfl
theorem goes_by : false = Rows.elementDigitsRow.goesBy Tryd.checked.prog := by kernel_rfl
theorem proved : Rows.ElementDigitsCardSaid :=
  Claim7.holds_tied_plain_at .later [] Rows.elementDigitsCard.laidKinds true Rows.elementDigitsCard.stood.harness Rows.elementDigitsCard.stood.looks
    row_holds (fun _ h => by cases h) (by kernel_rfl) (fun _ h => by cases h) elementDigits_row_tie rfl ⟨rfl, rfl⟩ main_is rfl
    (fun f fn hf hfn => by
      obtain rfl : f = 8 := Option.some.inj (fn_named.symm.trans hf) |>.symm
      obtain rfl : fn = Tryd.f8 := (Option.some.inj (Tryd.func8.symm.trans hfn)).symm
      exact ⟨looks_is, fun j t ht => by
        have h := List.all_eq_true.1 (show (Tryd.f8.params.toList.all fun t => !Tryd.prog.wantsStandIn t) = true by kernel_rfl) t (by rw [← Array.getElem?_toList] at ht; exact List.mem_of_getElem? ht)
        have h2 : Tryd.prog.wantsStandIn t = false := by simpa using h
        exact h2⟩)
    goes_by
end Go.Proofs.YtijlekikmkeihaaDoor
