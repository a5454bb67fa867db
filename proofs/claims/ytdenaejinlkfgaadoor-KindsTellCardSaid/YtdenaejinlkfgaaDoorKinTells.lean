/- KindsTell. -/
import Derived.Test.YtdenaejinlkfgaaDoorKinAwake
import Derived.Test.YtdenaejinlkfgaaDoorQuietBelow
namespace Go.Proofs.YtdenaejinlkfgaaDoor
open Go.RowKit
set_option maxHeartbeats 1000000
set_option linter.unusedVariables false

theorem kinTells_walk {k : Int} {S : ByteArray} {m : MsgC} (w : World) (hT : Tabs w) (hk : (Lit.int .i64 k).wf = true) (hS : S.size ≤ maxLen) (hm : (Lit.int .i64 m.kind).wf = true) :
    Calls Tryd.prog 3 #[.int .i64 k, .string S, m.val] w fun e w' => e = .returned (.bool true) ∧ Fr No w w' := by
  have hk2 := wf_i64 hk
  have hm2 := wf_i64 hm
  have a1 := fun u (h : Tabs u) => below_of (kinds_code_any k hk2.1 hk2.2 u)
  have a2 := fun u => below_of (r_Code k hk2.1 hk2.2 u)
  have a3 := fun u (h : Tabs u) => below_of (kinds_mti_any k hk2.1 hk2.2 u)
  have a4 := fun u => below_of (r_Mti k hk2.1 hk2.2 u)
  have a5 := fun u (h : Tabs u) => below_of (kinds_ofcode_any S u)
  have a6 := fun u => below_of (r_OfCode S u)
  have a7 := fun u (h : Tabs u) => below_of (kinds_ofmti_any S u)
  have a8 := fun u => below_of (r_OfMti S u)
  have a9 := fun u => below_same (kinds_answer_any k hk2.1 hk2.2 u)
  have b1 := fun u => below_same (r_Answer k hk2.1 hk2.2 u)
  have b2 := fun u => below_same (kinds_money_any k u)
  have b3 := fun u => below_same (r_Money k u)
  have b4 := fun u (h : Tabs u) => below_of (kinds_fits_any m hm2.1 hm2.2 u)
  have b5 := fun u => below_of (r_Fits m hm2.1 hm2.2 u)
  unfold fitsM at b4
  generalize cdB k = x1 at a1 a2
  generalize mtB k = x2 at a3 a4
  generalize ofCode S = x3 at a5 a6
  generalize ofMti S = x4 at a7 a8
  generalize ansI k = x5 at a9 b1
  generalize monB k = x6 at b2 b3
  generalize fitsR (rowOf m.kind) (hasL m.there) m.bad = x7 at b4 b5
  have a0 := fun u (h : Tabs u) => below_of (kin_awake u)
  have hb0 : Bk (w.alloc (.cells m.cells.toArray 29)) w.heap.size 29 m.cells := Bk.new w _ _
  have hfa : Fr No w (w.alloc (.cells m.cells.toArray 29)) := (Fr.refl No w).alloc _
  obtain ⟨W, hW⟩ : ∃ W, w.alloc (.cells m.cells.toArray 29) = W := ⟨_, rfl⟩
  rw [hW] at hb0 hfa
  have hT1 : Tabs W := hT.fr hfa
  have HFA := Lib.hid hfa
  have HQ := Lib.hid (show ∀ w' : World, (∃ p : Regrown, w' = Go.Sort.grow (redrawn W p.d) p.os) → w'.rangeAt w.heap.size 0 m.cells from fun w' ⟨p, hp⟩ => by
    rw [hp]; exact range21 (hb0.no (Fr.of_below (below_regrown W p.d p.os))))
  clear hb0 hfa
  unfold MsgC.val at b4 b5 ⊢
  unfold MsgC.cells at hW
  have A0 := Lib.hid a0; have A1 := Lib.hid a1; have A2 := Lib.hid a2; have A3 := Lib.hid a3; have A4 := Lib.hid a4; have A5 := Lib.hid a5; have A6 := Lib.hid a6; have A7 := Lib.hid a7; have A8 := Lib.hid a8; have A9 := Lib.hid a9; have B1 := Lib.hid b1; have B2 := Lib.hid b2; have B3 := Lib.hid b3; have B4 := Lib.hid b4; have B5 := Lib.hid b5
  clear a0 a1 a2 a3 a4 a5 a6 a7 a8 a9 b1 b2 b3 b4 b5 hk hm
  go_enter Tryd.func3, Tryd.ntmps3
  go_wp2
  refine wp_region_quiet_below (by kernel_rfl) (by kernel_rfl) ?_
  repeat (first
    | (refine quiet_load 29 _ rfl (by rfl) w.heap.size (by rfl) m.cells _ HQ.out (Tryd.underlying29) rfl (msgSize m) ?_)
    | quiet_step ((first
      | (go_at_call 8; exact Calls.regrown_of (A0.out _ (hT1.fr (fr_regrown _ _ _))))
      | (go_at_call 9; exact Calls.regrown_of (A1.out _ (hT1.fr (fr_regrown _ _ _))))
      | (go_at_call 10; exact Calls.regrown_of (A2.out _))
      | (go_at_call 11; exact Calls.regrown_of (A3.out _ (hT1.fr (fr_regrown _ _ _))))
      | (go_at_call 12; exact Calls.regrown_of (A4.out _))
      | (go_at_call 13; exact Calls.regrown_of (A5.out _ (hT1.fr (fr_regrown _ _ _))))
      | (go_at_call 14; exact Calls.regrown_of (A6.out _))
      | (go_at_call 15; exact Calls.regrown_of (A7.out _ (hT1.fr (fr_regrown _ _ _))))
      | (go_at_call 16; exact Calls.regrown_of (A8.out _))
      | (go_at_call 17; exact Calls.regrown_of (A9.out _))
      | (go_at_call 18; exact Calls.regrown_of (B1.out _))
      | (go_at_call 19; exact Calls.regrown_of (B2.out _))
      | (go_at_call 20; exact Calls.regrown_of (B3.out _))
      | (go_at_call 21; exact Calls.regrown_of (B4.out _ (hT1.fr (fr_regrown _ _ _))))
      | (go_at_call 22; exact Calls.regrown_of (B5.out _)))))
  refine wpQuiet_nil ?_
  intro w7 hw7r
  obtain ⟨⟨nr, osr⟩, hw7r⟩ := hw7r
  have hf7 : Fr No W w7 := by rw [hw7r]; exact Fr.of_below (below_regrown W nr osr)
  clear hw7r
  go_wp2
  go_ret
  exact ⟨rfl, HFA.out.trans hf7⟩
end Go.Proofs.YtdenaejinlkfgaaDoor
