/- What shows that package token does something; and TokenTells: the walk, for every text. -/
import Derived.Test.YthkbdbgmfolpeaaGreatDoorTokProg
import Derived.Test.YthkbdbgmfolpeaaGreatDoorHelpTok
namespace Go.Proofs.YthkbdbgmfolpeaaGreatDoor
open Go.RowKit
set_option maxHeartbeats 400000
set_option linter.unusedVariables false

/-- <a>x</a> -/
def axL : List UInt8 := [60, 97, 62, 120, 60, 47, 97, 62]
def axT : List Tok := [⟨1, [97], [], [], false⟩, ⟨3, [], [120], [], false⟩, ⟨2, [97], [], [], false⟩]
theorem ax_err : tokE axL = 0 := by kernel_rfl
theorem ax_toks : tokL axL = axT := by kernel_rfl
/-- a row of tokens that came back -/
theorem toks_rd {w : World} {base n : Nat} {e : TypeId} {v : Value} {l : List Tok} (h : OwnI 5 TokI w base e (fun i => base ≤ i ∧ i < w.heap.size) v n l) : ∃ A c, v = .slice A n c ∧ RdI 5 TokI w (fun i => base ≤ i ∧ i < w.heap.size) A n c l :=
  h.rd (fun i h1 h2 => ⟨h1, h2⟩)
theorem add_zero (ad : Addr) : ad.add 0 = ad := by simp [Addr.add]
/-- the first token's name, the second one's text -/
theorem ax_cells {w : World} {N : Nat → Prop} {A : Option Addr} {n c : Nat} (h : RdI 5 TokI w N A n c axT) : ∃ ad X Y, A = some ad ∧ n = 3 ∧ w.cell? ⟨ad.block, ad.off + 1, none⟩ = some (.string X) ∧ w.cell? ⟨ad.block, ad.off + 5 + 2, none⟩ = some (.string Y) ∧ (X.toList == [97]) = true ∧ (Y.toList == [120]) = true := by
  have hn := h.len tok_ok (by omega)
  obtain ⟨ad, cs, rfl, ⟨X, Y, A1, n1, x1, rfl, hX, hY, hA1⟩, hc⟩ := h.at_ tok_ok (by omega) (i := 0) (by decide)
  obtain ⟨bd, ds, eb, ⟨X', Y', B1, m1, y1, rfl, hX', hY', hB1⟩, hd⟩ := h.at_ tok_ok (by omega) (i := 1) (by decide)
  injection eb with eb
  subst eb
  have c1 := hc 1 _ rfl
  have d2 := hd 2 _ rfl
  rw [show ad.add (1 * 5 + 2) = ⟨ad.block, ad.off + 5 + 2, none⟩ from by simp [Addr.add]] at d2
  rw [add_next ad, Nat.zero_mul, add_zero] at c1
  exact ⟨ad, X, Y', rfl, by rw [← hn]; rfl, c1, d2, by rw [ba_list, hX]; rfl, by rw [ba_list, hY']; rfl⟩
theorem awake_any (w : World) (hT : Tabs w := by repeat' first | with_reducible assumption | with_reducible apply Tabs.drew | with_reducible apply Tabs.drewN | with_reducible apply Tabs.alloc | refine Tabs.fr ?_ (by with_reducible assumption) | refine Tabs.dr ?_ (by with_reducible assumption)) : Calls Tryz.prog 5 #[] w fun e w' => e = .returned (.bool true) ∧ Fr No w w' := by
  have hp := fun u (hT : Tabs u) => tokens_any ⟨#[60, 97, 62, 120, 60, 47, 97, 62]⟩ u (by decide)
  rw [show (⟨#[60, 97, 62, 120, 60, 47, 97, 62]⟩ : ByteArray).data.toList = axL from rfl, ax_err, ax_toks] at hp
  have HP := Lib.hid hp
  clear hp
  go_enter Tryz.func5, Tryz.ntmps5
  go_wp2_with (go_at_call 6; refine (HP.out _ (by repeat' first | with_reducible assumption | with_reducible apply Tabs.drew | with_reducible apply Tabs.drewN | with_reducible apply Tabs.alloc | refine Tabs.fr ?_ (by with_reducible assumption) | refine Tabs.dr ?_ (by with_reducible assumption))).mono ?_; rintro e w1 ⟨v, rfl, ho, hf⟩; obtain ⟨A, c, rfl, hr⟩ := toks_rd ho; obtain ⟨ad, X, Y, rfl, hn3, c1, d2, hx, hy⟩ := ax_cells hr)
  go_ret
  exact ⟨rfl, hf⟩

theorem tells_walk {S : ByteArray} (w : World) (hT : Tabs w) (hS : S.size ≤ 9223372036854775807) : Calls Tryz.prog 3 #[.string S] w fun e w' => e = .returned (.bool true) ∧ Fr No w w' := by
  by_cases hl : 5000 < S.size
  · have hlI : (5000 : Int) < (S.size : Int) := by omega
    go_enter Tryz.func3, Tryz.ntmps3
    go_wp2_with (go_at_call 5; refine (awake_any _).mono ?_; rintro e w1 ⟨rfl, hf1⟩)
    go_ret
    exact ⟨rfl, hf1⟩
  · have hlI : ¬ (5000 : Int) < (S.size : Int) := by omega
    have hp := fun u (hT : Tabs u) => tokens_any S u (by omega)
    have hq := fun u => r_Tokens_any S u (by omega)
    generalize tokE S.data.toList = E at hp hq
    generalize tokL S.data.toList = L at hp hq
    have hE : ((E : Int) == E) = true := beq_self_eq_true _
    have HP := Lib.hid hp; have HQ := Lib.hid hq
    clear hp hq
    go_enter Tryz.func3, Tryz.ntmps3
    go_wp2_with (first
      | (go_at_call 6; refine (HP.out _ (by repeat' first | with_reducible assumption | with_reducible apply Tabs.drew | with_reducible apply Tabs.drewN | with_reducible apply Tabs.alloc | refine Tabs.fr ?_ (by with_reducible assumption) | refine Tabs.dr ?_ (by with_reducible assumption))).mono ?_; rintro e w1 ⟨v, rfl, ho1, hf1⟩; obtain ⟨A, c, rfl, hr1⟩ := toks_rd ho1)
      | (go_at_call 7; refine (HQ.out _).mono ?_; rintro e w2 ⟨v2, rfl, ho2, hf2⟩; obtain ⟨A2, c2, rfl, hr2⟩ := toks_rd ho2)
      | (go_at_call 5; refine (awake_any _).mono ?_; rintro e w3 ⟨rfl, hf3⟩)
      | (go_at_call 8; refine (sameT_any _ _ _ _ _ L _ _ _ ((hr1.no tok_ok hf2).no tok_ok hf3) (hr2.no tok_ok hf3)).mono ?_; rintro e w4 ⟨rfl, hf4⟩))
    go_ret
    exact ⟨rfl, (((hf1.trans hf2).trans hf3).trans hf4)⟩
end Go.Proofs.YthkbdbgmfolpeaaGreatDoor
