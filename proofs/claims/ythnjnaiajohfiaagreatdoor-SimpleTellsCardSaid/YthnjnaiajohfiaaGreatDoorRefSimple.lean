/- The statements' own: what a type lets. -/
import Derived.Test.YthnjnaiajohfiaaGreatDoorSimChk
import Derived.Test.YthnjnaiajohfiaaGreatDoorRefTime2
import Derived.Test.YthnjnaiajohfiaaGreatDoorRefAmt
import Derived.Test.YthnjnaiajohfiaaGreatDoorRefDig2
namespace Go.Proofs.YthnjnaiajohfiaaGreatDoor
open Go.RowKit
set_option maxHeartbeats 2000000
set_option linter.unusedVariables false
set_option linter.unusedSimpArgs false

section
variable {nm : ByteArray} {mn mx ty low top : Int}
theorem r_simple (s : ByteArray) (w : World) (hS6 : s.size ≤ 65536) :
    Calls Tryz.prog 19 #[.agg #[.string nm, .int .i64 mn, .int .i64 mx, .int .i64 ty, .int .i64 low, .int .i64 top], .string s] w fun e w' => e = .returned (.int .i64 (chkE ty low top s.data.toList)) ∧ Fr No w w' := by
  have hb0 := Bk.new w 24 #[.string nm, .int .i64 mn, .int .i64 mx, .int .i64 ty, .int .i64 low, .int .i64 top]
  have b3 := hb0.cell 3
  have b4 := hb0.cell 4
  have b5 := hb0.cell 5
  have hfa : Fr No w (w.alloc (.cells #[.string nm, .int .i64 mn, .int .i64 mx, .int .i64 ty, .int .i64 low, .int .i64 top] 24)) := (Fr.refl No w).alloc _
  have HFA := Lib.hid hfa
  clear hfa
  have b3 : (w.alloc (.cells #[.string nm, .int .i64 mn, .int .i64 mx, .int .i64 ty, .int .i64 low, .int .i64 top] 24)).cell? ⟨w.heap.size, 3, none⟩ = some (.int .i64 ty) := b3
  have b4 : (w.alloc (.cells #[.string nm, .int .i64 mn, .int .i64 mx, .int .i64 ty, .int .i64 low, .int .i64 top] 24)).cell? ⟨w.heap.size, 4, none⟩ = some (.int .i64 low) := b4
  have b5 : (w.alloc (.cells #[.string nm, .int .i64 mn, .int .i64 mx, .int .i64 ty, .int .i64 low, .int .i64 top] 24)).cell? ⟨w.heap.size, 5, none⟩ = some (.int .i64 top) := b5
  have hsm : s.size ≤ maxLen := by unfold maxLen; omega
  clear hb0
  unfold chkE chkB
  cases h1 : (ty == 1) with
  | true =>
    simp only [h1, if_true, Bool.false_eq_true, if_false]
    have hc := fun u => ref_right s low top u hsm
    generalize rightB s.data.toList low top = R at hc ⊢
    have HC := Lib.hid hc
    clear hc
    cases R with
    | _ =>
      go_enter Tryz.func19, Tryz.ntmps19
      go_wp2_with (go_at_call 32; refine (HC.out _).mono ?_; rintro e w' ⟨rfl, rfl⟩)
      go_ret
      exact ⟨rfl, HFA.out⟩
  | false =>
  cases h2 : (ty == 2) with
  | true =>
    simp only [h2, if_true, Bool.false_eq_true, if_false]
    have hc := fun u => ref_plain_any s low top u hS6
    generalize plainB s.data.toList low top = R at hc ⊢
    have HC := Lib.hid hc
    clear hc
    cases R with
    | _ =>
      go_enter Tryz.func19, Tryz.ntmps19
      go_wp2_with (go_at_call 36; refine (HC.out _).mono ?_; rintro e w' ⟨rfl, rfl⟩)
      go_ret
      exact ⟨rfl, HFA.out⟩
  | false =>
  cases h3 : (ty == 3) with
  | true =>
    simp only [h3, if_true, Bool.false_eq_true, if_false]
    have hc := fun u => r_capitals s u hS6
    generalize codeB s.data.toList = R at hc ⊢
    have HC := Lib.hid hc
    clear hc
    cases R with
    | _ =>
      go_enter Tryz.func19, Tryz.ntmps19
      go_wp2_with (go_at_call 37; refine (HC.out _).mono ?_; rintro e w' ⟨rfl, rfl⟩)
      go_ret
      exact ⟨rfl, HFA.out⟩
  | false =>
  cases h4 : (ty == 4) with
  | true =>
    simp only [h4, if_true, Bool.false_eq_true, if_false]
    have hc := fun u => r_timeof s u hsm
    have hE : timeOfE s.data.toList = 0 ∨ timeOfE s.data.toList = 14 := by unfold timeOfE; split <;> simp
    generalize timeOfE s.data.toList = R at hc hE ⊢
    have HC := Lib.hid hc
    clear hc
    rcases hE with rfl | rfl
    · go_enter Tryz.func19, Tryz.ntmps19
      go_wp2_with (go_at_call 11; refine (HC.out _).mono ?_; rintro e w' ⟨T, rfl, hT3, hd⟩; clear hT3)
      go_ret
      exact ⟨rfl, HFA.out.dr hd⟩
    · go_enter Tryz.func19, Tryz.ntmps19
      go_wp2_with (go_at_call 11; refine (HC.out _).mono ?_; rintro e w' ⟨T, rfl, hT3, hd⟩; clear hT3)
      go_ret
      exact ⟨rfl, HFA.out.dr hd⟩
  | false =>
  cases h5 : (ty == 5) with
  | true =>
    simp only [h5, if_true, Bool.false_eq_true, if_false]
    have hc := fun u => r_amtof s u hS6
    have hE : amtOfE s.data.toList = 0 ∨ amtOfE s.data.toList = 14 := by unfold amtOfE; split <;> simp
    generalize amtOfE s.data.toList = R at hc hE ⊢
    have HC := Lib.hid hc
    clear hc
    rcases hE with rfl | rfl
    · go_enter Tryz.func19, Tryz.ntmps19
      go_wp2_with (go_at_call 13; refine (HC.out _).mono ?_; rintro e w' ⟨rfl, hf⟩)
      go_ret
      exact ⟨rfl, HFA.out.trans hf⟩
    · go_enter Tryz.func19, Tryz.ntmps19
      go_wp2_with (go_at_call 13; refine (HC.out _).mono ?_; rintro e w' ⟨rfl, hf⟩)
      go_ret
      exact ⟨rfl, HFA.out.trans hf⟩
  | false =>
  cases h6 : (ty == 6) with
  | true =>
    simp only [h6, if_true, Bool.false_eq_true, if_false]
    have hc := fun u => ref_aln_any s low top u hS6
    generalize alnB s.data.toList low top = R at hc ⊢
    have HC := Lib.hid hc
    clear hc
    cases R with
    | _ =>
      go_enter Tryz.func19, Tryz.ntmps19
      go_wp2_with (go_at_call 38; refine (HC.out _).mono ?_; rintro e w' ⟨rfl, rfl⟩)
      go_ret
      exact ⟨rfl, HFA.out⟩
  | false =>
  cases h7 : (ty == 7) with
  | true =>
    simp only [h7, if_true, Bool.false_eq_true, if_false]
    have hc := fun u => ref_unhex s u (by omega)
    have hE : unhexE s.data.toList = 0 ∨ unhexE s.data.toList = 5 := by unfold unhexE; split <;> simp
    rw [s_size]
    generalize unhexE s.data.toList = R at hc hE ⊢
    have HC := Lib.hid hc
    clear hc
    rcases hE with rfl | rfl
    · by_cases g1 : low ≤ (s.size : Int)
      · by_cases g2 : (s.size : Int) ≤ top
        · simp only [g1, g2, decide_true, decide_false, Bool.and_self, Bool.and_false, Bool.false_and, if_true, Bool.false_eq_true, if_false]
          go_enter Tryz.func19, Tryz.ntmps19
          go_wp2_with (go_at_call 39; refine (HC.out _).mono ?_; rintro e w' ⟨v, rfl, hO, hf⟩; (have c4 := hf.cell b4 (fun x => x)); (have c5 := hf.cell b5 (fun x => x)))
          go_ret
          exact ⟨rfl, HFA.out.trans hf⟩
        · simp only [g1, g2, decide_true, decide_false, Bool.and_self, Bool.and_false, Bool.false_and, if_true, Bool.false_eq_true, if_false]
          go_enter Tryz.func19, Tryz.ntmps19
          go_wp2_with (go_at_call 39; refine (HC.out _).mono ?_; rintro e w' ⟨v, rfl, hO, hf⟩; (have c4 := hf.cell b4 (fun x => x)); (have c5 := hf.cell b5 (fun x => x)))
          all_goals
            first
              | (exfalso; rename_i hz; simp at hz; omega)
              | (go_ret; exact ⟨rfl, HFA.out.trans hf⟩)
      · simp only [g1, decide_true, decide_false, Bool.and_self, Bool.and_false, Bool.false_and, if_true, Bool.false_eq_true, if_false]
        go_enter Tryz.func19, Tryz.ntmps19
        go_wp2_with (go_at_call 39; refine (HC.out _).mono ?_; rintro e w' ⟨v, rfl, hO, hf⟩; (have c4 := hf.cell b4 (fun x => x)); (have c5 := hf.cell b5 (fun x => x)))
        go_ret
        exact ⟨rfl, HFA.out.trans hf⟩
    · go_enter Tryz.func19, Tryz.ntmps19
      go_wp2_with (go_at_call 39; refine (HC.out _).mono ?_; rintro e w' ⟨v, rfl, hO, hf⟩; (have c4 := hf.cell b4 (fun x => x)); (have c5 := hf.cell b5 (fun x => x)))
      go_ret
      exact ⟨rfl, HFA.out.trans hf⟩
  | false =>
  simp only [*, if_true, Bool.false_eq_true, if_false]
  go_enter Tryz.func19, Tryz.ntmps19
  go_wp2
  go_ret
  exact ⟨rfl, HFA.out⟩
end
end Go.Proofs.YthnjnaiajohfiaaGreatDoor
