/- TokenRefuses: the walk, for every number. -/
import Derived.Test.YthkbdbgmfolpeaaDoorTokAwake
import Derived.Test.YthkbdbgmfolpeaaDoorBits
namespace Go.Proofs.YthkbdbgmfolpeaaDoor
open Go.RowKit
set_option maxHeartbeats 1000000
set_option linter.unusedVariables false

def refL : List (List UInt8) := [[60],
  [60, 97],
  [60, 97, 32, 98, 62],
  [60, 97, 32, 98, 61, 99, 62],
  [60, 97, 32, 98, 61, 34, 49, 34, 99, 61, 34, 50, 34, 62],
  [60, 97, 32, 98, 61, 34, 49, 34, 32, 98, 61, 34, 50, 34, 62],
  [60, 97, 32, 98, 61, 34, 60, 34, 62],
  [60, 33, 45, 45, 32, 97, 32, 45, 45, 62],
  [60, 33, 91, 67, 68, 65, 84, 65, 91, 97, 93, 93, 62],
  [60, 63, 120, 63, 62],
  [32, 60, 63, 120, 109, 108, 32, 118, 101, 114, 115, 105, 111, 110, 61, 34, 49, 46, 48, 34, 32, 101, 110, 99, 111, 100, 105, 110, 103, 61, 34, 85, 84, 70, 45, 56, 34, 63, 62],
  [38, 120, 59],
  [38, 35, 49, 59],
  [60, 47, 32, 97, 62],
  [60, 49, 62],
  [60, 33, 68, 79, 67, 84, 89, 80, 69, 32, 97, 62],
  [38, 35, 49, 50, 51, 52, 53, 54, 55, 56, 59],
  [38]]
def letL : List (List UInt8) := [[],
  [60, 97, 62],
  [60, 97, 32, 98, 61, 39, 99, 39, 62],
  [60, 97, 32, 98, 32, 61, 32, 34, 99, 34, 32, 62],
  [60, 97, 32, 98, 61, 34, 49, 34, 32, 99, 61, 34, 50, 34, 62],
  [60, 97, 32, 98, 61, 34, 49, 34, 32, 99, 61, 39, 49, 39, 47, 62],
  [60, 97, 32, 98, 61, 39, 38, 108, 116, 59, 39, 62],
  [97, 32, 45, 45, 62],
  [91, 67, 68, 65, 84, 65, 91, 97, 93, 93, 62],
  [60, 63, 120, 109, 108, 32, 118, 101, 114, 115, 105, 111, 110, 61, 34, 49, 46, 48, 34, 32, 101, 110, 99, 111, 100, 105, 110, 103, 61, 34, 85, 84, 70, 45, 56, 34, 63, 62],
  [60, 63, 120, 109, 108, 32, 118, 101, 114, 115, 105, 111, 110, 61, 34, 49, 46, 48, 34, 32, 101, 110, 99, 111, 100, 105, 110, 103, 61, 34, 85, 84, 70, 45, 56, 34, 63, 62, 32],
  [38, 97, 109, 112, 59, 120, 59],
  [38, 35, 57, 59],
  [60, 47, 97, 32, 62],
  [60, 95, 49, 62],
  [60, 97, 47, 62],
  [38, 35, 120, 49, 48, 70, 70, 70, 70, 59],
  [38, 97, 109, 112, 59]]
def txts (l : List (List UInt8)) : List Value := l.map fun x => .string (bstr x)
theorem ref_facts : refL.all (fun x => decide (tokE x = 9 ∧ x.length ≤ 100)) = true := by decide +kernel
theorem let_facts : letL.all (fun x => decide (tokE x = 0 ∧ x.length ≤ 100)) = true := by decide +kernel
theorem let_count : (letL.map fun x => decide (0 < (tokL x).length)) = (List.range 18).map fun k => decide (k ≠ 0 ∧ k ≠ 9) := by decide +kernel
theorem txts_at {l : List (List UInt8)} {k : Nat} (h : k < l.length) : (txts l)[k]? = some (.string (bstr l[k])) := by simp [txts, h]

theorem bstr_data (l : List UInt8) : (bstr l).data.toList = l := rfl
def world2 (w : World) : World := (w.alloc (.cells #[.string ⟨#[60]⟩, .string ⟨#[60, 97]⟩, .string ⟨#[60, 97, 32, 98, 62]⟩, .string ⟨#[60, 97, 32, 98, 61, 99, 62]⟩, .string ⟨#[60, 97, 32, 98, 61, 34, 49, 34, 99, 61, 34, 50, 34, 62]⟩, .string ⟨#[60, 97, 32, 98, 61, 34, 49, 34, 32, 98, 61, 34, 50, 34, 62]⟩, .string ⟨#[60, 97, 32, 98, 61, 34, 60, 34, 62]⟩, .string ⟨#[60, 33, 45, 45, 32, 97, 32, 45, 45, 62]⟩, .string ⟨#[60, 33, 91, 67, 68, 65, 84, 65, 91, 97, 93, 93, 62]⟩, .string ⟨#[60, 63, 120, 63, 62]⟩, .string ⟨#[32, 60, 63, 120, 109, 108, 32, 118, 101, 114, 115, 105, 111, 110, 61, 34, 49, 46, 48, 34, 32, 101, 110, 99, 111, 100, 105, 110, 103, 61, 34, 85, 84, 70, 45, 56, 34, 63, 62]⟩, .string ⟨#[38, 120, 59]⟩, .string ⟨#[38, 35, 49, 59]⟩, .string ⟨#[60, 47, 32, 97, 62]⟩, .string ⟨#[60, 49, 62]⟩, .string ⟨#[60, 33, 68, 79, 67, 84, 89, 80, 69, 32, 97, 62]⟩, .string ⟨#[38, 35, 49, 50, 51, 52, 53, 54, 55, 56, 59]⟩, .string ⟨#[38]⟩] 9)).alloc (.cells #[.string ⟨#[]⟩, .string ⟨#[60, 97, 62]⟩, .string ⟨#[60, 97, 32, 98, 61, 39, 99, 39, 62]⟩, .string ⟨#[60, 97, 32, 98, 32, 61, 32, 34, 99, 34, 32, 62]⟩, .string ⟨#[60, 97, 32, 98, 61, 34, 49, 34, 32, 99, 61, 34, 50, 34, 62]⟩, .string ⟨#[60, 97, 32, 98, 61, 34, 49, 34, 32, 99, 61, 39, 49, 39, 47, 62]⟩, .string ⟨#[60, 97, 32, 98, 61, 39, 38, 108, 116, 59, 39, 62]⟩, .string ⟨#[97, 32, 45, 45, 62]⟩, .string ⟨#[91, 67, 68, 65, 84, 65, 91, 97, 93, 93, 62]⟩, .string ⟨#[60, 63, 120, 109, 108, 32, 118, 101, 114, 115, 105, 111, 110, 61, 34, 49, 46, 48, 34, 32, 101, 110, 99, 111, 100, 105, 110, 103, 61, 34, 85, 84, 70, 45, 56, 34, 63, 62]⟩, .string ⟨#[60, 63, 120, 109, 108, 32, 118, 101, 114, 115, 105, 111, 110, 61, 34, 49, 46, 48, 34, 32, 101, 110, 99, 111, 100, 105, 110, 103, 61, 34, 85, 84, 70, 45, 56, 34, 63, 62, 32]⟩, .string ⟨#[38, 97, 109, 112, 59, 120, 59]⟩, .string ⟨#[38, 35, 57, 59]⟩, .string ⟨#[60, 47, 97, 32, 62]⟩, .string ⟨#[60, 95, 49, 62]⟩, .string ⟨#[60, 97, 47, 62]⟩, .string ⟨#[38, 35, 120, 49, 48, 70, 70, 70, 70, 59]⟩, .string ⟨#[38, 97, 109, 112, 59]⟩] 9)
theorem world2_one (w : World) {k : Nat} (h : k < refL.length) : (world2 w).cell? ⟨w.heap.size, k, none⟩ = some (.string (bstr refL[k])) := by
  rw [← txts_at h]
  have h1 : Bk (world2 w) w.heap.size 9 (txts refL) := (Bk.new w 9 #[.string ⟨#[60]⟩, .string ⟨#[60, 97]⟩, .string ⟨#[60, 97, 32, 98, 62]⟩, .string ⟨#[60, 97, 32, 98, 61, 99, 62]⟩, .string ⟨#[60, 97, 32, 98, 61, 34, 49, 34, 99, 61, 34, 50, 34, 62]⟩, .string ⟨#[60, 97, 32, 98, 61, 34, 49, 34, 32, 98, 61, 34, 50, 34, 62]⟩, .string ⟨#[60, 97, 32, 98, 61, 34, 60, 34, 62]⟩, .string ⟨#[60, 33, 45, 45, 32, 97, 32, 45, 45, 62]⟩, .string ⟨#[60, 33, 91, 67, 68, 65, 84, 65, 91, 97, 93, 93, 62]⟩, .string ⟨#[60, 63, 120, 63, 62]⟩, .string ⟨#[32, 60, 63, 120, 109, 108, 32, 118, 101, 114, 115, 105, 111, 110, 61, 34, 49, 46, 48, 34, 32, 101, 110, 99, 111, 100, 105, 110, 103, 61, 34, 85, 84, 70, 45, 56, 34, 63, 62]⟩, .string ⟨#[38, 120, 59]⟩, .string ⟨#[38, 35, 49, 59]⟩, .string ⟨#[60, 47, 32, 97, 62]⟩, .string ⟨#[60, 49, 62]⟩, .string ⟨#[60, 33, 68, 79, 67, 84, 89, 80, 69, 32, 97, 62]⟩, .string ⟨#[38, 35, 49, 50, 51, 52, 53, 54, 55, 56, 59]⟩, .string ⟨#[38]⟩]).no ((Fr.refl No _).alloc _)
  exact h1.cell k
theorem world2_two (w : World) {k : Nat} (h : k < letL.length) : (world2 w).cell? ⟨w.heap.size + 1, k, none⟩ = some (.string (bstr letL[k])) := by
  rw [← txts_at h]
  have h0 := Bk.new (w.alloc (.cells #[.string ⟨#[60]⟩, .string ⟨#[60, 97]⟩, .string ⟨#[60, 97, 32, 98, 62]⟩, .string ⟨#[60, 97, 32, 98, 61, 99, 62]⟩, .string ⟨#[60, 97, 32, 98, 61, 34, 49, 34, 99, 61, 34, 50, 34, 62]⟩, .string ⟨#[60, 97, 32, 98, 61, 34, 49, 34, 32, 98, 61, 34, 50, 34, 62]⟩, .string ⟨#[60, 97, 32, 98, 61, 34, 60, 34, 62]⟩, .string ⟨#[60, 33, 45, 45, 32, 97, 32, 45, 45, 62]⟩, .string ⟨#[60, 33, 91, 67, 68, 65, 84, 65, 91, 97, 93, 93, 62]⟩, .string ⟨#[60, 63, 120, 63, 62]⟩, .string ⟨#[32, 60, 63, 120, 109, 108, 32, 118, 101, 114, 115, 105, 111, 110, 61, 34, 49, 46, 48, 34, 32, 101, 110, 99, 111, 100, 105, 110, 103, 61, 34, 85, 84, 70, 45, 56, 34, 63, 62]⟩, .string ⟨#[38, 120, 59]⟩, .string ⟨#[38, 35, 49, 59]⟩, .string ⟨#[60, 47, 32, 97, 62]⟩, .string ⟨#[60, 49, 62]⟩, .string ⟨#[60, 33, 68, 79, 67, 84, 89, 80, 69, 32, 97, 62]⟩, .string ⟨#[38, 35, 49, 50, 51, 52, 53, 54, 55, 56, 59]⟩, .string ⟨#[38]⟩] 9)) 9 #[.string ⟨#[]⟩, .string ⟨#[60, 97, 62]⟩, .string ⟨#[60, 97, 32, 98, 61, 39, 99, 39, 62]⟩, .string ⟨#[60, 97, 32, 98, 32, 61, 32, 34, 99, 34, 32, 62]⟩, .string ⟨#[60, 97, 32, 98, 61, 34, 49, 34, 32, 99, 61, 34, 50, 34, 62]⟩, .string ⟨#[60, 97, 32, 98, 61, 34, 49, 34, 32, 99, 61, 39, 49, 39, 47, 62]⟩, .string ⟨#[60, 97, 32, 98, 61, 39, 38, 108, 116, 59, 39, 62]⟩, .string ⟨#[97, 32, 45, 45, 62]⟩, .string ⟨#[91, 67, 68, 65, 84, 65, 91, 97, 93, 93, 62]⟩, .string ⟨#[60, 63, 120, 109, 108, 32, 118, 101, 114, 115, 105, 111, 110, 61, 34, 49, 46, 48, 34, 32, 101, 110, 99, 111, 100, 105, 110, 103, 61, 34, 85, 84, 70, 45, 56, 34, 63, 62]⟩, .string ⟨#[60, 63, 120, 109, 108, 32, 118, 101, 114, 115, 105, 111, 110, 61, 34, 49, 46, 48, 34, 32, 101, 110, 99, 111, 100, 105, 110, 103, 61, 34, 85, 84, 70, 45, 56, 34, 63, 62, 32]⟩, .string ⟨#[38, 97, 109, 112, 59, 120, 59]⟩, .string ⟨#[38, 35, 57, 59]⟩, .string ⟨#[60, 47, 97, 32, 62]⟩, .string ⟨#[60, 95, 49, 62]⟩, .string ⟨#[60, 97, 47, 62]⟩, .string ⟨#[38, 35, 120, 49, 48, 70, 70, 70, 70, 59]⟩, .string ⟨#[38, 97, 109, 112, 59]⟩]
  rw [show (w.alloc (.cells #[.string ⟨#[60]⟩, .string ⟨#[60, 97]⟩, .string ⟨#[60, 97, 32, 98, 62]⟩, .string ⟨#[60, 97, 32, 98, 61, 99, 62]⟩, .string ⟨#[60, 97, 32, 98, 61, 34, 49, 34, 99, 61, 34, 50, 34, 62]⟩, .string ⟨#[60, 97, 32, 98, 61, 34, 49, 34, 32, 98, 61, 34, 50, 34, 62]⟩, .string ⟨#[60, 97, 32, 98, 61, 34, 60, 34, 62]⟩, .string ⟨#[60, 33, 45, 45, 32, 97, 32, 45, 45, 62]⟩, .string ⟨#[60, 33, 91, 67, 68, 65, 84, 65, 91, 97, 93, 93, 62]⟩, .string ⟨#[60, 63, 120, 63, 62]⟩, .string ⟨#[32, 60, 63, 120, 109, 108, 32, 118, 101, 114, 115, 105, 111, 110, 61, 34, 49, 46, 48, 34, 32, 101, 110, 99, 111, 100, 105, 110, 103, 61, 34, 85, 84, 70, 45, 56, 34, 63, 62]⟩, .string ⟨#[38, 120, 59]⟩, .string ⟨#[38, 35, 49, 59]⟩, .string ⟨#[60, 47, 32, 97, 62]⟩, .string ⟨#[60, 49, 62]⟩, .string ⟨#[60, 33, 68, 79, 67, 84, 89, 80, 69, 32, 97, 62]⟩, .string ⟨#[38, 35, 49, 50, 51, 52, 53, 54, 55, 56, 59]⟩, .string ⟨#[38]⟩] 9)).heap.size = w.heap.size + 1 from by simp] at h0
  have h1 : Bk (world2 w) (w.heap.size + 1) 9 (txts letL) := h0
  exact h1.cell k
set_option maxRecDepth 100000 in
theorem refuses_walk {z : Int} (w : World) (hT : Tabs w) (hz : (Lit.int .i64 z).wf = true) : Calls Tryd.prog 5 #[.int .i64 z] w fun e w' => e = .returned (.bool true) ∧ Fr No w w' := by
  obtain ⟨k, hk, hk18⟩ := rem_nat z 18 (by omega)
  have hk1 : k < refL.length := by show k < 18; omega
  have hk2 : k < letL.length := by show k < 18; omega
  have f1 := List.all_eq_true.1 ref_facts _ (List.getElem_mem hk1)
  have f2 := List.all_eq_true.1 let_facts _ (List.getElem_mem hk2)
  rw [decide_eq_true_iff] at f1 f2
  have f3 : decide (0 < (tokL letL[k]).length) = decide (k ≠ 0 ∧ k ≠ 9) := by
    have h := congrArg (fun l => l[k]?) let_count
    simp only [List.getElem?_map, List.getElem?_eq_getElem hk2, List.getElem?_range (show k < 18 by omega), Option.map_some, Option.some.injEq] at h
    exact h
  have c1 := world2_one w hk1
  have c2 := world2_two w hk2
  have hfw : Fr No w (world2 w) := ((Fr.refl No w).alloc _).alloc _
  unfold world2 at c1 c2 hfw
  dsimp only at c1 c2 hfw
  generalize refL[k] = x1 at c1 f1
  generalize letL[k] = x2 at c2 f2 f3
  have hp := fun u (hT : Tabs u) => tokens_any (bstr x1) u (by rw [bstr_size]; omega)
  have hq := fun u (hT : Tabs u) => tokens_any (bstr x2) u (by rw [bstr_size]; omega)
  simp only [bstr_data, f1.1] at hp
  simp only [bstr_data, f2.1] at hq
  generalize bstr x1 = P at c1 hp
  generalize bstr x2 = Q at c2 hq
  generalize tokL x1 = ts at hp
  generalize tokL x2 = us at hq f3
  generalize us.length = n at hq f3
  clear f1 f2 hk1 hk2
  have hk3 : k < 18 := by omega
  have HP := Lib.hid hp; have HQ := Lib.hid hq; have HFW := Lib.hid hfw
  have hcase : (((k : Int) != 0) = false ∧ 1 = 1 ∧ n = 0) ∨ (((k : Int) != 0) = true ∧ ((k : Int) != 9) = false ∧ n = 0) ∨ (((k : Int) != 0) = true ∧ ((k : Int) != 9) = true ∧ 0 < n) := by
    rw [Bool.eq_iff_iff, decide_eq_true_iff, decide_eq_true_iff] at f3
    by_cases h0 : k = 0
    · exact .inl ⟨by rw [h0]; rfl, rfl, Nat.eq_zero_of_not_pos fun h => (f3.1 h).1 h0⟩
    by_cases h9 : k = 9
    · exact .inr (.inl ⟨by rw [bne_iff_ne]; omega, by rw [h9]; rfl, Nat.eq_zero_of_not_pos fun h => (f3.1 h).2 h9⟩)
    · exact .inr (.inr ⟨by rw [bne_iff_ne]; omega, by rw [bne_iff_ne]; omega, f3.2 ⟨h0, h9⟩⟩)
  clear hp hq f3 hfw
  have tok1 : True := trivial
  rcases hcase with ⟨g0, -, rfl⟩ | ⟨g0, g9, rfl⟩ | ⟨g0, g9, hn⟩
  all_goals
    go_enter Tryd.func5, Tryd.ntmps5
    go_wp2_with (first
      | (go_at_call 9; clear tok1; refine (HP.out _ (by repeat' first | with_reducible assumption | with_reducible apply Tabs.drew | with_reducible apply Tabs.drewN | with_reducible apply Tabs.alloc | refine Tabs.fr ?_ (by with_reducible assumption) | refine Tabs.dr ?_ (by with_reducible assumption))).mono ?_; rintro e w1 ⟨v1, rfl, ho1, hf1⟩; have d2 := hf1.cell c2 (fun x => x))
      | (go_at_call 9; refine (HQ.out _ (by repeat' first | with_reducible assumption | with_reducible apply Tabs.drew | with_reducible apply Tabs.drewN | with_reducible apply Tabs.alloc | refine Tabs.fr ?_ (by with_reducible assumption) | refine Tabs.dr ?_ (by with_reducible assumption))).mono ?_; rintro e w2 ⟨v2, rfl, ho2, hf2⟩; obtain ⟨A2, x2, rfl, hr2⟩ := toks_rd ho2)
      | (go_at_call 8; refine (awake_any _).mono ?_; rintro e w3 ⟨rfl, hf3⟩))
    go_ret
    exact ⟨rfl, ((HFW.out.trans hf1).trans hf2).trans hf3⟩
end Go.Proofs.YthkbdbgmfolpeaaDoor
