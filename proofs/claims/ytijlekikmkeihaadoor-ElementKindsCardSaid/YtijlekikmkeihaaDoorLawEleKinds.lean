/- ElementKinds (P16.1): whatever the byte, in each kind of element stand the signs that may, and no others. Condition: the program's table of data elements and the library's powers of ten, which the row lists, read as the program's text lays them (the card ties them). -/
import Derived.Test.YtijlekikmkeihaaDoorEleKinds
import Derived.Test.YtijlekikmkeihaaDoorTie
import Derived.Test.YtijlekikmkeihaaDoorCards
import Derived.Test.YtijlekikmkeihaaDoorEleLaid
import Derived.ChangeSame
import Derived.ChangeVars
import Derived.JoinedOf
import Derived.RowKit
import Derived.RowKitTokens
import Derived.LaidLaws
import Derived.LaidHandle
import Derived.Stop.Joined
import Derived.SevenTiedAt
import Derived.Lib.LaidTab
import Derived.Lay
import Derived.MakeChecks
namespace Go.Proofs.YtijlekikmkeihaaDoor
open Go.RowKit Go.ChangeShapes Go.WideShapes Go.ChangeAt
set_option linter.unusedVariables false

theorem own_knob : ownKnob Tryd.prog.godebug = none := by kernel_rfl
theorem laid_out : laidOutB Tryd.prog = true := by kernel_rfl

theorem ele_same : (Rows.laid_comptoir_element_table : DataW Unit) = eleData := by kernel_rfl
theorem laid_tail {P : Program} {W : World} {x : String × DataW Unit} {l : List (String × DataW Unit)} (h : laidMet P (x :: l) W) : laidMet P l W := by
  obtain ⟨ps, ⟨g, t, cs, fuel, p, q, _, _, _, _, hr, rfl⟩, hd, hc⟩ := h
  exact ⟨q, hr, (List.nodup_append.1 hd).2.1, fun b off hm => hc b off (List.mem_append_right _ hm)⟩

set_option maxRecDepth 100000 in
theorem lifted (os : Os) (started : os.Started) (H : Type) (enc : TypeId × Value → H) :
    ReturnsInHanded {} Tryd.checked os 6 .any (fun w args => (Rows.elementKindsSpec.pre enc Tryd.prog Tryd.f6 [] false w args ∧ laidMetH Tryd.prog Rows.elementKindsRow.laid w) ∧ sizedMet enc Tryd.prog Tryd.f6 (OpenSpec.ofChange Rows.elementKindsSpec) false w args)
      (Rows.elementKindsSpec.post enc Tryd.prog Tryd.f6 false true false false) := by
  refine returnsInHanded_of_change_and (C := Tryd.checked) (X := fun w _ => laidMetH Tryd.prog Rows.elementKindsRow.laid w) (fun _ _ _ hh h => h.of_heap hh) own_knob started (by kernel_rfl) Tryd.func6
    (ChangeSpec.witness_shaped (enc := enc) (C := Tryd.checked) (os := os) (X := fun w _ => laidMetH Tryd.prog Rows.elementKindsRow.laid w) false (World.laidAll Tryd.prog os Rows.elementKindsRow.laid) #[.int .u8 0] 8 (World.laidAll_os _ _ _)
      (World.shaped_of_ZipB (by kernel_rfl) (by kernel_rfl)) (by kernel_rfl) (by kernel_rfl) (by kernel_rfl)
      (by rw [MakeChecks.laidMetH_plain _ _ _ (by kernel_rfl)]; exact laidMet_laidAll _ (by kernel_rfl) (by kernel_rfl))) ?_
  intro W base args ds gs before hval hW _ hSz hL0 _
  have hL : laidMet Tryd.prog Rows.elementKindsRow.laid W := hL0
  obtain ⟨p, q, hA0, hV, hbf, hfz, hnd⟩ := id hW
  obtain ⟨rfl, rfl⟩ := trodVars_none hV
  have hA : DataW.TrodAll enc Tryd.prog W 0 (fun _ => true) true Tryd.f6.params.toList args.toList ds p := hA0
  rw [Tryd.params6] at hA hval
  have hTen : Lib.TabIs Tryd.prog W "internal/strconv.uint64pow10" .u64 Lib.pow10Tab := Lib.tabIs_of_head (g := 1) (t := 115) (e := 45) (n := 20) (by kernel_rfl) (by kernel_rfl) (by kernel_rfl) (by kernel_rfl) (by kernel_rfl) (by kernel_rfl) (laid_tail (laid_tail hL))
  have hEle := ele_reads (Lib.laidMet.reads hL (d := eleData) (by rw [← ele_same]; simp [Rows.elementKindsRow]))
  have hTabs : Tabs W := ⟨hTen, hEle.1, hEle.2⟩
  obtain ⟨v0, d0, rfl, rfl, h0⟩ := trodAll_one hA
  obtain ⟨z0, rfl, rfl, rfl, w0⟩ := open_int Tryd.underlying5 (hval 0 5 v0 rfl rfl) h0
  obtain ⟨z0, rfl⟩ := wf_u8 w0
  refine (eleKinds_walk W hTabs).mono fun e W' ⟨he, hf⟩ => ?_
  exact ⟨_, he, law_post (tb := 4) laid_out (by kernel_rfl) rfl Tryd.underlying4 rfl hW rfl hf.toBelow⟩

theorem fn_named : Tryd.prog.funcNamed Rows.elementKindsRow.func = some 6 := by kernel_rfl
theorem j_in : (Rows.elementKindsRow.inPlace == Tryd.checked.prog.inPlace 6) = true := by kernel_rfl
theorem j_un : (Rows.elementKindsRow.unfollowed == Tryd.checked.prog.unfollowed 6) = true := by kernel_rfl
theorem j_re : (Rows.elementKindsRow.recurses == Tryd.checked.prog.recurses 6) = true := by kernel_rfl
theorem j_na : (Rows.elementKindsRow.named == Tryd.checked.prog.varsNamed 6) = true := by kernel_rfl
theorem j_lo : laidOutB Tryd.checked.prog = true := laid_out
theorem j_all : joinedFacts Tryd.checked.prog 6 Tryd.f6 Rows.elementKindsSpec Rows.elementKindsRow = true := by
  unfold joinedFacts
  rw [j_in, j_un, j_re, j_na, j_lo]
  kernel_rfl
theorem row_holds : Rows.ElementKindsSaid :=
  OpenClaim.holds_of_wide 6 Tryd.f6 rfl rfl rfl rfl rfl rfl rfl ⟨rfl, rfl, rfl, rfl, rfl⟩ rfl rfl rfl rfl rfl fn_named Tryd.func6 j_all
    (of_decide_eq_true (by kernel_rfl)) (by unfold Func.isWrapper; first | (rw [if_pos (by decide +kernel)]; kernel_rfl) | (rw [if_neg (by decide +kernel)]; exact ⟨rfl, rfl⟩))
    (fun os started H enc _ => lifted os started H enc)

theorem main_is : Tryd.checked.prog.mainIs = some (Rows.elementKindsCard.stood.harness.fst, Rows.elementKindsCard.stood.harness.snd.toList) := by kernel_rfl
theorem looks_is : Rows.elementKindsCard.stood.looks = Tryd.checked.prog.looks [] := by kernel_rfl
theorem goes_by : false = Rows.elementKindsRow.goesBy Tryd.checked.prog := by kernel_rfl
theorem proved : Rows.ElementKindsCardSaid :=
  Claim7.holds_tied_plain_at .later [] Rows.elementKindsCard.laidKinds true Rows.elementKindsCard.stood.harness Rows.elementKindsCard.stood.looks
    row_holds (fun _ h => by cases h) (by kernel_rfl) (fun _ h => by cases h) elementKinds_row_tie rfl ⟨rfl, rfl⟩ main_is rfl
    (fun f fn hf hfn => by
      obtain rfl : f = 6 := Option.some.inj (fn_named.symm.trans hf) |>.symm
      obtain rfl : fn = Tryd.f6 := (Option.some.inj (Tryd.func6.symm.trans hfn)).symm
      exact ⟨looks_is, fun j t ht => by
        have h := List.all_eq_true.1 (show (Tryd.f6.params.toList.all fun t => !Tryd.prog.wantsStandIn t) = true by kernel_rfl) t (by rw [← Array.getElem?_toList] at ht; exact List.mem_of_getElem? ht)
        have h2 : Tryd.prog.wantsStandIn t = false := by simpa using h
        exact h2⟩)
    goes_by
end Go.Proofs.YtijlekikmkeihaaDoor
