/- ElementKinds: the walk, for any byte. -/
import Derived.Test.YtijlekikmkeihaaDoorEleKindM
import Derived.Test.YtijlekikmkeihaaDoorQuietBelow
namespace Go.Proofs.YtijlekikmkeihaaDoor
open Go.RowKit
set_option maxHeartbeats 16000000
set_option linter.unusedVariables false

set_option maxRecDepth 20000 in
attribute [local irreducible] yielded in
theorem eleKinds_walk {c : UInt8} (w : World) (hT : Tabs w) :
    Calls Tryd.prog 6 #[.int .u8 (c.toNat : Int)] w fun e w' => e = .returned (.bool true) ∧ Fr No w w' := by
  obtain ⟨b1, b2, b3, b4, b5, b6, b7, b8, ⟨h1, h2, h3, h4, h5, h6, h7, h8⟩, ⟨d1, d2, d3⟩, hb⟩ := kinds_cases c
  have hbx : Bk (w.alloc (.cells #[.int .u8 (c.toNat : Int)] 5)) w.heap.size 5 [.int .u8 (c.toNat : Int)] := Bk.new w _ _
  have hf0 := (Fr.refl No w).alloc (.cells #[.int .u8 (c.toNat : Int)] 5)
  have c0 := hbx.cell 0
  have AW := fun u (hu : Fr No (w.alloc (.cells #[.int .u8 (c.toNat : Int)] 5)) u) => below_of (awake_ele u (hT.fr (hf0.trans hu)))
  have A2 := fun u (hu : Fr No (w.alloc (.cells #[.int .u8 (c.toNat : Int)] 5)) u) => below_of (k_ask 2 12 w.heap.size c u (by omega) (hu.cell c0 (fun x => x)) (hT.fr (hf0.trans hu)))
  have A37 := fun u (hu : Fr No (w.alloc (.cells #[.int .u8 (c.toNat : Int)] 5)) u) => below_of (k_ask 37 12 w.heap.size c u (by omega) (hu.cell c0 (fun x => x)) (hT.fr (hf0.trans hu)))
  have A43 := fun u (hu : Fr No (w.alloc (.cells #[.int .u8 (c.toNat : Int)] 5)) u) => below_of (k_ask 43 3 w.heap.size c u (by omega) (hu.cell c0 (fun x => x)) (hT.fr (hf0.trans hu)))
  have A120 := fun u (hu : Fr No (w.alloc (.cells #[.int .u8 (c.toNat : Int)] 5)) u) => below_of (k_ask 120 5 w.heap.size c u (by omega) (hu.cell c0 (fun x => x)) (hT.fr (hf0.trans hu)))
  have A55 := fun u (hu : Fr No (w.alloc (.cells #[.int .u8 (c.toNat : Int)] 5)) u) => below_of (k_ask 55 1 w.heap.size c u (by omega) (hu.cell c0 (fun x => x)) (hT.fr (hf0.trans hu)))
  simp only [kind_2, d1] at A2
  simp only [kind_37, d2] at A37
  simp only [kind_43, d3] at A43
  simp only [kind_120] at A120
  simp only [kind_55] at A55
  obtain ⟨C, hC⟩ : ∃ C : Int, (c.toNat : Int) = C := ⟨_, rfl⟩
  rw [hC] at h1 h2 h3 h4 h5 h6 h7 h8 c0 AW A2 A37 A43 A120 A55 hf0 ⊢
  have F0 := Lib.hid hf0
  have A2 := Lib.hid A2; have A37 := Lib.hid A37; have A43 := Lib.hid A43; have A120 := Lib.hid A120; have A55 := Lib.hid A55; have AW := Lib.hid AW
  clear hbx hf0 hT d1 d2 d3 hC
  unfold kAll at hb
  simp only [List.mem_cons, List.not_mem_nil, or_false] at hb
  rcases hb with hb | hb | hb | hb | hb | hb | hb | hb | hb
  all_goals
    simp only [List.cons.injEq, and_true] at hb
    obtain ⟨rfl, rfl, rfl, rfl, rfl, rfl, rfl, rfl⟩ := hb
    go_enter Tryd.func6, Tryd.ntmps6
    go_wp2
    have g0 := cell_regrown c0
    refine wp_region_quiet_below (by kernel_rfl) (by kernel_rfl) ?_
    repeat (first
      | quiet_step ((first
        | (go_at_call 9; exact Calls.regrown_of (AW.out _ (fr_regrown _ _ _)))
        | (go_at_call 21; with_reducible exact Calls.regrown_of (A2.out _ (fr_regrown _ _ _)))
        | (go_at_call 21; with_reducible exact Calls.regrown_of (A37.out _ (fr_regrown _ _ _)))
        | (go_at_call 21; with_reducible exact Calls.regrown_of (A43.out _ (fr_regrown _ _ _)))
        | (go_at_call 21; with_reducible exact Calls.regrown_of (A120.out _ (fr_regrown _ _ _)))
        | (go_at_call 21; with_reducible exact Calls.regrown_of (A55.out _ (fr_regrown _ _ _))))))
    refine wpQuiet_nil ?_
    intro w9 hw9r
    obtain ⟨⟨nr, osr⟩, hw9r⟩ := hw9r
    have F9 := F0.out.trans (show Fr No _ w9 by rw [hw9r]; exact fr_regrown _ nr osr)
    clear hw9r
    go_wp2
    go_ret
    exact ⟨rfl, F9⟩
end Go.Proofs.YtijlekikmkeihaaDoor
