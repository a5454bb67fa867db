/- ElementBack ('What follows' of layer 16): whatever the element, the bytes behind it and the place of the cut, what is written is read, with what stands behind it, and cut anywhere it is too short. Condition: the program's table of data elements and the library's powers of ten, which the row lists, read as the program's text lays them (the card ties them). -/
import Derived.Test.YtijlekikmkeihaaDoorEleBack
import Derived.Test.YtijlekikmkeihaaDoorTie
import Derived.Test.YtijlekikmkeihaaDoorCards
import Derived.Test.YtijlekikmkeihaaDoorEleLaid
import Derived.Test.YtijlekikmkeihaaDoorElemOpen
import Derived.ChangeSame
import Derived.ChangeVars
import Derived.JoinedOf
import Derived.RowKit
import Derived.RowKitTokens
import Derived.LaidLaws
import Derived.LaidHandle
import Derived.Stop.Joined
import Derived.SevenTiedAt
import Derived.Lib.LaidTab
import Derived.Lay
import Derived.MakeChecks
namespace Go.Proofs.YtijlekikmkeihaaDoor
open Go.RowKit Go.ChangeShapes Go.WideShapes Go.ChangeAt
set_option linter.unusedVariables false

theorem own_knob : ownKnob Tryd.prog.godebug = none := by kernel_rfl
theorem laid_out : laidOutB Tryd.prog = true := by kernel_rfl
theorem cells_uint8 : Tryd.prog.cellsOf 5 = 1 := by kernel_rfl

theorem ele_same : (Rows.laid_comptoir_element_table : DataW Unit) = eleData := by kernel_rfl
theorem laid_tail {P : Program} {W : World} {x : String × DataW Unit} {l : List (String × DataW Unit)} (h : laidMet P (x :: l) W) : laidMet P l W := by
  obtain ⟨ps, ⟨g, t, cs, fuel, p, q, _, _, _, _, hr, rfl⟩, hd, hc⟩ := h
  exact ⟨q, hr, (List.nodup_append.1 hd).2.1, fun b off hm => hc b off (List.mem_append_right _ hm)⟩

set_option maxRecDepth 100000 in
theorem lifted (os : Os) (started : os.Started) (H : Type) (enc : TypeId × Value → H) :
    ReturnsInHanded {} Tryd.checked os 4 .any (fun w args => (Rows.elementBackSpec.pre enc Tryd.prog Tryd.f4 [] false w args ∧ laidMetH Tryd.prog Rows.elementBackRow.laid w) ∧ sizedMet enc Tryd.prog Tryd.f4 (OpenSpec.ofChange Rows.elementBackSpec) false w args)
      (Rows.elementBackSpec.post enc Tryd.prog Tryd.f4 false true false false) := by
  refine returnsInHanded_of_change_and (C := Tryd.checked) (X := fun w _ => laidMetH Tryd.prog Rows.elementBackRow.laid w) (fun _ _ _ hh h => h.of_heap hh) own_knob started (by kernel_rfl) Tryd.func4
    (ChangeSpec.witness_shaped (enc := enc) (C := Tryd.checked) (os := os) (X := fun w _ => laidMetH Tryd.prog Rows.elementBackRow.laid w) false (World.laidAll Tryd.prog os Rows.elementBackRow.laid) #[.agg #[.int .i64 0, .slice none 0 0], .slice none 0 0, .int .i64 0] 8 (World.laidAll_os _ _ _)
      (World.shaped_of_ZipB (by kernel_rfl) (by kernel_rfl)) (by kernel_rfl) (by kernel_rfl) (by kernel_rfl)
      (by rw [MakeChecks.laidMetH_plain _ _ _ (by kernel_rfl)]; exact laidMet_laidAll _ (by kernel_rfl) (by kernel_rfl))) ?_
  intro W base args ds gs before hval hW _ hSz hL0 _
  have hL : laidMet Tryd.prog Rows.elementBackRow.laid W := hL0
  obtain ⟨p, q, hA0, hV, hbf, hfz, hnd⟩ := id hW
  obtain ⟨rfl, rfl⟩ := trodVars_none hV
  have hA : DataW.TrodAll enc Tryd.prog W 0 (fun _ => true) true Tryd.f4.params.toList args.toList ds p := hA0
  rw [Tryd.params4] at hA hval
  have hTen : Lib.TabIs Tryd.prog W "internal/strconv.uint64pow10" .u64 Lib.pow10Tab := Lib.tabIs_of_head (g := 1) (t := 115) (e := 45) (n := 20) (by kernel_rfl) (by kernel_rfl) (by kernel_rfl) (by kernel_rfl) (by kernel_rfl) (by kernel_rfl) (laid_tail (laid_tail hL))
  have hEle := ele_reads (Lib.laidMet.reads hL (d := eleData) (by rw [← ele_same]; simp [Rows.elementBackRow]))
  have hTabs : Tabs W := ⟨hTen, hEle.1, hEle.2⟩
  obtain ⟨v0, v1, v2, d0, d1, d2, p0, p1, p2, rfl, rfl, rfl, h0, h1, h2⟩ := trodAll_three hA
  obtain ⟨no0, A0, n0, c0, l0, rfl, hr0, hw0⟩ := open_elem (hval 0 24 v0 rfl rfl) h0
  obtain ⟨A1, n1, c1, l1, rfl, hr1⟩ := open_u8s Tryd.underlying22 Tryd.underlying5 cells_uint8 (hval 1 22 v1 rfl rfl) h1
  obtain ⟨z2, rfl, rfl, rfl, w2⟩ := open_int Tryd.underlying3 (hval 2 3 v2 rfl rfl) h2
  refine (eleBack_walk W hTabs hw0 hr0 hr1 w2).mono fun e W' ⟨he, hf⟩ => ?_
  exact ⟨_, he, law_post (tb := 4) laid_out (by kernel_rfl) rfl Tryd.underlying4 rfl hW rfl hf.toBelow⟩

theorem fn_named : Tryd.prog.funcNamed Rows.elementBackRow.func = some 4 := by kernel_rfl
theorem j_in : (Rows.elementBackRow.inPlace == Tryd.checked.prog.inPlace 4) = true := by kernel_rfl
theorem j_un : (Rows.elementBackRow.unfollowed == Tryd.checked.prog.unfollowed 4) = true := by kernel_rfl
theorem j_re : (Rows.elementBackRow.recurses == Tryd.checked.prog.recurses 4) = true := by kernel_rfl
theorem j_na : (Rows.elementBackRow.named == Tryd.checked.prog.varsNamed 4) = true := by kernel_rfl
theorem j_lo : laidOutB Tryd.checked.prog = true := laid_out
theorem j_all : joinedFacts Tryd.checked.prog 4 Tryd.f4 Rows.elementBackSpec Rows.elementBackRow = true := by
  unfold joinedFacts
  rw [j_in, j_un, j_re, j_na, j_lo]
  kernel_rfl
theorem row_holds : Rows.ElementBackSaid :=
  OpenClaim.holds_of_wide 4 Tryd.f4 rfl rfl rfl rfl rfl rfl rfl ⟨rfl, rfl, rfl, rfl, rfl⟩ rfl rfl rfl rfl rfl fn_named Tryd.func4 j_all
    (of_decide_eq_true (by kernel_rfl)) (by unfold Func.isWrapper; first | (rw [if_pos (by decide +kernel)]; kernel_rfl) | (rw [if_neg (by decide +kernel)]; exact ⟨rfl, rfl⟩))
    (fun os started H enc _ => lifted os started H enc)

theorem main_is : Tryd.checked.prog.mainIs = some (Rows.elementBackCard.stood.harness.fst, Rows.elementBackCard.stood.harness.snd.toList) := by kernel_rfl
theorem looks_is : Rows.elementBackCard.stood.looks = Tryd.checked.prog.looks [] := by kernel_rfl
theorem goes_by : false = Rows.elementBackRow.goesBy Tryd.checked.prog := by kernel_rfl
theorem proved : Rows.ElementBackCardSaid :=
  Claim7.holds_tied_plain_at .later [] Rows.elementBackCard.laidKinds true Rows.elementBackCard.stood.harness Rows.elementBackCard.stood.looks
    row_holds (fun _ h => by cases h) (by kernel_rfl) (fun _ h => by cases h) elementBack_row_tie rfl ⟨rfl, rfl⟩ main_is rfl
    (fun f fn hf hfn => by
      obtain rfl : f = 4 := Option.some.inj (fn_named.symm.trans hf) |>.symm
      obtain rfl : fn = Tryd.f4 := (Option.some.inj (Tryd.func4.symm.trans hfn)).symm
      exact ⟨looks_is, fun j t ht => by
        have h := List.all_eq_true.1 (show (Tryd.f4.params.toList.all fun t => !Tryd.prog.wantsStandIn t) = true by kernel_rfl) t (by rw [← Array.getElem?_toList] at ht; exact List.mem_of_getElem? ht)
        have h2 : Tryd.prog.wantsStandIn t = false := by simpa using h
        exact h2⟩)
    goes_by
end Go.Proofs.YtijlekikmkeihaaDoor
