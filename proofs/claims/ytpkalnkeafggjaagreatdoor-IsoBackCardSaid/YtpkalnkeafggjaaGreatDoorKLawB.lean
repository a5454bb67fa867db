/- IsoBack ('What follows' of layer 17): whatever the message, the bytes, what stands behind and the place of the cut, what is packed is parsed, what is parsed is packed as it was, and with something behind it, or cut, it is none. Condition: the program's table of data elements and the library's powers of ten, which the row lists, read as the program's text lays them (the card ties them). -/
import Derived.Test.YtpkalnkeafggjaaGreatDoorK46
import Derived.Test.YtpkalnkeafggjaaGreatDoorTie
import Derived.Test.YtpkalnkeafggjaaGreatDoorCards
import Derived.Test.YtpkalnkeafggjaaGreatDoorK48
import Derived.Test.YtpkalnkeafggjaaGreatDoorK40
import Derived.ChangeSame
import Derived.ChangeVars
import Derived.JoinedOf
import Derived.RowKit
import Derived.RowKitTokens
import Derived.LaidLaws
import Derived.LaidHandle
import Derived.Stop.Joined
import Derived.SevenTiedAt
import Derived.Lib.LaidTab
import Derived.Lay
import Derived.MakeChecks
namespace Go.Proofs.YtpkalnkeafggjaaGreatDoor
open Go.RowKit Go.ChangeShapes Go.WideShapes Go.ChangeAt
set_option linter.unusedVariables false

theorem own_knob : ownKnob Tryz.prog.godebug = none := by kernel_rfl
theorem laid_out : laidOutB Tryz.prog = true := by kernel_rfl
theorem cells_uint8 : Tryz.prog.cellsOf 5 = 1 := by kernel_rfl

theorem ele_same : (Rows.laid_comptoir_element_table : DataW Unit) = eleData := by kernel_rfl
theorem laid_tail {P : Program} {W : World} {x : String × DataW Unit} {l : List (String × DataW Unit)} (h : laidMet P (x :: l) W) : laidMet P l W := by
  obtain ⟨ps, ⟨g, t, cs, fuel, p, q, _, _, _, _, hr, rfl⟩, hd, hc⟩ := h
  exact ⟨q, hr, (List.nodup_append.1 hd).2.1, fun b off hm => hc b off (List.mem_append_right _ hm)⟩

set_option maxRecDepth 100000 in
theorem lifted (os : Os) (started : os.Started) (H : Type) (enc : TypeId × Value → H) :
    ReturnsInHanded {} Tryz.checked os 4 .any (fun w args => (Rows.isoBackSpec.pre enc Tryz.prog Tryz.f4 [] false w args ∧ laidMetH Tryz.prog Rows.isoBackRow.laid w) ∧ sizedMet enc Tryz.prog Tryz.f4 (OpenSpec.ofChange Rows.isoBackSpec) false w args)
      (Rows.isoBackSpec.post enc Tryz.prog Tryz.f4 false true false false) := by
  refine returnsInHanded_of_change_and (C := Tryz.checked) (X := fun w _ => laidMetH Tryz.prog Rows.isoBackRow.laid w) (fun _ _ _ hh h => h.of_heap hh) own_knob started (by kernel_rfl) Tryz.func4
    (ChangeSpec.witness_shaped (enc := enc) (C := Tryz.checked) (os := os) (X := fun w _ => laidMetH Tryz.prog Rows.isoBackRow.laid w) false (World.laidAll Tryz.prog os Rows.isoBackRow.laid) #[.agg #[.string .empty, .slice none 0 0], .slice none 0 0, .slice none 0 0, .int .i64 0] 8 (World.laidAll_os _ _ _)
      (World.shaped_of_ZipB (by kernel_rfl) (by kernel_rfl)) (by kernel_rfl) (by kernel_rfl) (by kernel_rfl)
      (by rw [MakeChecks.laidMetH_plain _ _ _ (by kernel_rfl)]; exact laidMet_laidAll _ (by kernel_rfl) (by kernel_rfl))) ?_
  intro W base args ds gs before hval hW _ hSz hL0 _
  have hL : laidMet Tryz.prog Rows.isoBackRow.laid W := hL0
  obtain ⟨p, q, hA0, hV, hbf, hfz, hnd⟩ := id hW
  obtain ⟨rfl, rfl⟩ := trodVars_none hV
  have hA : DataW.TrodAll enc Tryz.prog W 0 (fun _ => true) true Tryz.f4.params.toList args.toList ds p := hA0
  rw [Tryz.params4] at hA hval
  have hTen : Lib.TabIs Tryz.prog W "internal/strconv.uint64pow10" .u64 Lib.pow10Tab := Lib.tabIs_of_head (g := 1) (t := 165) (e := 80) (n := 20) (by kernel_rfl) (by kernel_rfl) (by kernel_rfl) (by kernel_rfl) (by kernel_rfl) (by kernel_rfl) (laid_tail (laid_tail hL))
  have hEle := ele_reads (Lib.laidMet.reads hL (d := eleData) (by rw [← ele_same]; simp [Rows.isoBackRow]))
  have hTabs : Tabs W := ⟨hTen, hEle.1, hEle.2⟩
  obtain ⟨v0, v1, v2, v3, d0, d1, d2, d3, p0, p1, p2, p3, rfl, rfl, rfl, h0, h1, h2, h3⟩ := trodAll_four hA
  obtain ⟨S0, A0, n0, c0, es0, rfl, hr0, hs0⟩ := open_iso (hval 0 25 v0 rfl rfl) h0
  obtain ⟨A1, n1, c1, l1, rfl, hr1⟩ := open_u8s Tryz.underlying22 Tryz.underlying5 cells_uint8 (hval 1 22 v1 rfl rfl) h1
  obtain ⟨A2, n2, c2, l2, rfl, hr2⟩ := open_u8s Tryz.underlying22 Tryz.underlying5 cells_uint8 (hval 2 22 v2 rfl rfl) h2
  obtain ⟨z3, rfl, rfl, rfl, w3⟩ := open_int Tryz.underlying3 (hval 3 3 v3 rfl rfl) h3
  refine (isoBack_walk W hTabs hr0 hs0 hr1 hr2 w3).mono fun e W' ⟨he, hf⟩ => ?_
  exact ⟨_, he, law_post (tb := 4) laid_out (by kernel_rfl) rfl Tryz.underlying4 rfl hW rfl hf.toBelow⟩

theorem fn_named : Tryz.prog.funcNamed Rows.isoBackRow.func = some 4 := by kernel_rfl
theorem j_in : (Rows.isoBackRow.inPlace == Tryz.checked.prog.inPlace 4) = true := by kernel_rfl
theorem j_un : (Rows.isoBackRow.unfollowed == Tryz.checked.prog.unfollowed 4) = true := by kernel_rfl
theorem j_re : (Rows.isoBackRow.recurses == Tryz.checked.prog.recurses 4) = true := by kernel_rfl
theorem j_na : (Rows.isoBackRow.named == Tryz.checked.prog.varsNamed 4) = true := by kernel_rfl
theorem j_lo : laidOutB Tryz.checked.prog = true := laid_out
theorem j_all : joinedFacts Tryz.checked.prog 4 Tryz.f4 Rows.isoBackSpec Rows.isoBackRow = true := by
  unfold joinedFacts
  rw [j_in, j_un, j_re, j_na, j_lo]
  kernel_rfl
theorem row_holds : Rows.IsoBackSaid :=
  OpenClaim.holds_of_wide 4 Tryz.f4 rfl rfl rfl rfl rfl rfl rfl ⟨rfl, rfl, rfl, rfl, rfl⟩ rfl rfl rfl rfl rfl fn_named Tryz.func4 j_all
    (of_decide_eq_true (by kernel_rfl)) (by unfold Func.isWrapper; first | (rw [if_pos (by decide +kernel)]; kernel_rfl) | (rw [if_neg (by decide +kernel)]; exact ⟨rfl, rfl⟩))
    (fun os started H enc _ => lifted os started H enc)

theorem main_is : Tryz.checked.prog.mainIs = some (Rows.isoBackCard.stood.harness.fst, Rows.isoBackCard.stood.harness.snd.toList) := by kernel_rfl
theorem looks_is : Rows.isoBackCard.stood.looks = Tryz.checked.prog.looks [] := by kernel_rfl
theorem goes_by : false = Rows.isoBackRow.goesBy Tryz.checked.prog := by kernel_rfl
theorem proved : Rows.IsoBackCardSaid :=
  Claim7.holds_tied_plain_at .later [] Rows.isoBackCard.laidKinds true Rows.isoBackCard.stood.harness Rows.isoBackCard.stood.looks
    row_holds (fun _ h => by cases h) (by kernel_rfl) (fun _ h => by cases h) isoBack_row_tie rfl ⟨rfl, rfl⟩ main_is rfl
    (fun f fn hf hfn => by
      obtain rfl : f = 4 := Option.some.inj (fn_named.symm.trans hf) |>.symm
      obtain rfl : fn = Tryz.f4 := (Option.some.inj (Tryz.func4.symm.trans hfn)).symm
      exact ⟨looks_is, fun j t ht => by
        have h := List.all_eq_true.1 (show (Tryz.f4.params.toList.all fun t => !Tryz.prog.wantsStandIn t) = true by kernel_rfl) t (by rw [← Array.getElem?_toList] at ht; exact List.mem_of_getElem? ht)
        have h2 : Tryz.prog.wantsStandIn t = false := by simpa using h
        exact h2⟩)
    goes_by
end Go.Proofs.YtpkalnkeafggjaaGreatDoor
