/- What shows that package text does something: it answers true; and its answers beside the statements' own. -/
import Derived.Test.YtlhajpkjncancaaDoorTxtProg
namespace Go.Proofs.YtlhajpkjncancaaDoor
open Go.RowKit
set_option maxHeartbeats 400000
set_option linter.unusedVariables false

set_option maxRecDepth 100000 in
theorem awake_any (w : World) (hT : Tabs w := by repeat' first | with_reducible assumption | with_reducible apply Tabs.drew | with_reducible apply Tabs.drewN | with_reducible apply Tabs.alloc | refine Tabs.fr ?_ (by with_reducible assumption)) : Calls Tryd.prog 8 #[] w fun e w' => e = .returned (.bool true) ∧ Fr No w w' := by
  have e1 : utf8B ({ data := #[97] } : ByteArray).data.toList = true := by decide
  have e2 : runesN ({ data := #[97, 98] } : ByteArray).data.toList = 2 := by decide
  have e3 : plainB ({ data := #[97, 32, 98] } : ByteArray).data.toList 1 3 = true := by decide
  have e4 : ansB ({ data := #[97] } : ByteArray).data.toList 1 = true := by decide
  have e5 : alnB ({ data := #[97, 49] } : ByteArray).data.toList 2 2 = true := by decide
  have E1 := Lib.hid e1; have E2 := Lib.hid e2; have E3 := Lib.hid e3; have E4 := Lib.hid e4; have E5 := Lib.hid e5
  clear e1 e2 e3 e4 e5
  go_enter Tryd.func8, Tryd.ntmps8
  go_wp2_with (first
    | (go_at_call 9; refine (text_utf8_any { data := #[97] } _ (by decide)).mono ?_; rw [E1.out]; rintro e w1 ⟨rfl, hf1⟩)
    | (go_at_call 11; refine (text_runes_any { data := #[97, 98] } _ (by decide)).mono ?_; rw [E2.out]; rintro e w2 ⟨rfl, hf2⟩)
    | (go_at_call 13; refine (text_plain_any { data := #[97, 32, 98] } _ _ _ (by decide)).mono ?_; rw [E3.out]; rintro e w3 ⟨rfl, hf3⟩)
    | (go_at_call 15; refine (text_ans_any { data := #[97] } _ _ (by decide)).mono ?_; rw [E4.out]; rintro e w4 ⟨rfl, hf4⟩)
    | (go_at_call 17; refine (text_aln_any { data := #[97, 49] } _ _ _ (by decide)).mono ?_; rw [E5.out]; rintro e w5 ⟨rfl, hf5⟩))
  go_ret
  exact ⟨rfl, (((hf1.trans hf2).trans hf3).trans hf4).trans hf5⟩

theorem tells_walk {s : ByteArray} {low top : Int} (w : World) (hT : Tabs w) (hs : s.size ≤ maxLen) (hlw : (Lit.int .i64 low).wf = true) (htw : (Lit.int .i64 top).wf = true) :
    Calls Tryd.prog 3 #[.string s, .int .i64 low, .int .i64 top] w fun e w' => e = .returned (.bool true) ∧ Fr No w w' := by
  rcases Nat.lt_or_ge 1000 s.size with hn | hn
  · go_enter Tryd.func3, Tryd.ntmps3
    go_wp2_with (go_at_call 8; refine (awake_any _).mono ?_; rintro e w1 ⟨rfl, hf⟩)
    go_ret
    exact ⟨rfl, hf⟩
  · have h6 : s.size ≤ 65536 := by omega
    have p1 := fun u (hT : Tabs u) => text_utf8_any s u h6
    have p2 := fun u (hT : Tabs u) => text_runes_any s u h6
    have p3 := fun u (hT : Tabs u) => text_plain_any s low top u h6
    have p4 := fun u => text_ans_any s top u h6
    have p5 := fun u => text_aln_any s low top u h6
    have r1 := fun u => ref_utf8_any s u h6
    have r2 := fun u => ref_runes_any s u h6
    have r3 := fun u => ref_plain_any s low top u h6
    have r4 := fun u => ref_ans_any s top u h6
    have r5 := fun u => ref_aln_any s low top u h6
    generalize utf8B s.data.toList = q1 at p1 r1
    generalize runesN s.data.toList = q2 at p2 r2
    generalize plainB s.data.toList low top = q3 at p3 r3
    generalize ansB s.data.toList top = q4 at p4 r4
    generalize alnB s.data.toList low top = q5 at p5 r5
    have P1 := Lib.hid p1; have P2 := Lib.hid p2; have P3 := Lib.hid p3; have P4 := Lib.hid p4; have P5 := Lib.hid p5
    have R1 := Lib.hid r1; have R2 := Lib.hid r2; have R3 := Lib.hid r3; have R4 := Lib.hid r4; have R5 := Lib.hid r5
    clear p1 p2 p3 p4 p5 r1 r2 r3 r4 r5
    go_enter Tryd.func3, Tryd.ntmps3
    go_wp2_with (first
      | (go_at_call 8; refine (awake_any _).mono ?_; rintro e w0 ⟨rfl, hf0⟩)
      | (go_at_call 9; refine (P1.out _ (by repeat' first | with_reducible assumption | with_reducible apply Tabs.drew | with_reducible apply Tabs.drewN | with_reducible apply Tabs.alloc | refine Tabs.fr ?_ (by with_reducible assumption))).mono ?_; rintro e w1 ⟨rfl, hf1⟩)
      | (go_at_call 10; refine (R1.out _).mono ?_; rintro e w' ⟨rfl, rfl⟩)
      | (go_at_call 11; refine (P2.out _ (by repeat' first | with_reducible assumption | with_reducible apply Tabs.drew | with_reducible apply Tabs.drewN | with_reducible apply Tabs.alloc | refine Tabs.fr ?_ (by with_reducible assumption))).mono ?_; rintro e w2 ⟨rfl, hf2⟩)
      | (go_at_call 12; refine (R2.out _).mono ?_; rintro e w' ⟨rfl, rfl⟩)
      | (go_at_call 13; refine (P3.out _ (by repeat' first | with_reducible assumption | with_reducible apply Tabs.drew | with_reducible apply Tabs.drewN | with_reducible apply Tabs.alloc | refine Tabs.fr ?_ (by with_reducible assumption))).mono ?_; rintro e w3 ⟨rfl, hf3⟩)
      | (go_at_call 14; refine (R3.out _).mono ?_; rintro e w' ⟨rfl, rfl⟩)
      | (go_at_call 15; refine (P4.out _).mono ?_; rintro e w4 ⟨rfl, hf4⟩)
      | (go_at_call 16; refine (R4.out _).mono ?_; rintro e w' ⟨rfl, rfl⟩)
      | (go_at_call 17; refine (P5.out _).mono ?_; rintro e w5 ⟨rfl, hf5⟩)
      | (go_at_call 18; refine (R5.out _).mono ?_; rintro e w' ⟨rfl, rfl⟩))
    go_ret
    exact ⟨rfl, ((((hf0.trans hf1).trans hf2).trans hf3).trans hf4).trans hf5⟩
end Go.Proofs.YtlhajpkjncancaaDoor
