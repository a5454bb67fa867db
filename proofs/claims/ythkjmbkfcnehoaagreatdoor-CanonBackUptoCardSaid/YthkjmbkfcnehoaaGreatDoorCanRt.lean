/- What package canon does: which rows may be written. -/
import Derived.Test.YthkjmbkfcnehoaaGreatDoorCanNests
namespace Go.Proofs.YthkjmbkfcnehoaaGreatDoor
open Go.RowKit
set_option maxHeartbeats 400000
set_option linter.unusedVariables false

theorem c_right_any (ls : List Nod) (A : Option Addr) (n c : Nat) (N : Nat → Prop) (w : World) (h : RdI 4 NodI w N A n c ls) (hs : ∀ a ∈ ls, NodS a) (hn : n ≤ 1000000) (hT : Tabs w) :
    Calls Tryz.prog 25 #[.slice A n c] w fun e w' => e = .returned (.bool (rightB ls)) ∧ Fr No w w' := by
  have hlen := h.len nod_ok (by omega)
  have hr : rightB ls = (decide (0 < n) && (decide (n ≤ 500) && ((((ls.head?.map (·.parent)) == some (-1)) && nestP ls [0] 1 ls.tail) && ls.all soundB))) := by
    unfold rightB
    rw [hlen]
    ac_rfl
  rw [hr]
  have hne := fun (h0 : 0 < n) => c_nested_any ls A n c N w h hn h0
  have hev := fun u (hf : Fr No w u) (hu : Tabs u) => c_every_node ls A n c N u (h.no nod_ok hf) hs (by omega) hu
  generalize (((ls.head?.map (·.parent)) == some (-1)) && nestP ls [0] 1 ls.tail) = p at *
  generalize ls.all soundB = q at *
  have HN := Lib.hid hne; have HE := Lib.hid hev
  clear h hs hr hne hev hlen
  by_cases h0 : n = 0
  · subst h0
    go_enter Tryz.func25, Tryz.ntmps25
    go_wp2
    go_ret
    exact ⟨rfl, Fr.refl _ _⟩
  have e0 : decide (0 < n) = true := decide_eq_true (by omega)
  have e1 : ((n : Int) == 0) = false := by rw [beq_eq_false_iff_ne]; omega
  rw [e0, Bool.true_and]
  by_cases h5 : n ≤ 500
  · have e2 : ¬ (n : Int) > 500 := by omega
    have HN := Lib.hid (HN.out (by omega))
    rw [decide_eq_true h5, Bool.true_and]
    clear e0 h0 hn h5
    cases p with
    | false =>
      go_enter Tryz.func25, Tryz.ntmps25
      go_wp2_with (go_at_call 42; refine HN.out.mono ?_; rintro e w1 ⟨rfl, hf1⟩)
      go_ret
      exact ⟨rfl, hf1⟩
    | true =>
      go_enter Tryz.func25, Tryz.ntmps25
      go_wp2_with (first
        | (go_at_call 42; refine HN.out.mono ?_; rintro e w1 ⟨rfl, hf1⟩)
        | (go_at_call 43; refine (HE.out _ hf1 (hT.fr hf1)).mono ?_; rintro e w2 ⟨rfl, hf2⟩))
      go_ret
      exact ⟨ret_bool (by simp), hf1.trans hf2⟩
  · have e2 : (n : Int) > 500 := by omega
    rw [decide_eq_false h5, Bool.false_and]
    clear e0 h0 hn h5
    go_enter Tryz.func25, Tryz.ntmps25
    go_wp2
    go_ret
    exact ⟨rfl, Fr.refl _ _⟩
end Go.Proofs.YthkjmbkfcnehoaaGreatDoor
