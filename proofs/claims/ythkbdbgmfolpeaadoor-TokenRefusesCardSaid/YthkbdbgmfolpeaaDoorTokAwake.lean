/- What shows that package token does something; and TokenTells: the walk, for every text. -/
import Derived.Test.YthkbdbgmfolpeaaDoorTokProg
import Derived.Test.YthkbdbgmfolpeaaDoorHelpTok
namespace Go.Proofs.YthkbdbgmfolpeaaDoor
open Go.RowKit
set_option maxHeartbeats 400000
set_option linter.unusedVariables false

/-- <a>x</a> -/
def axL : List UInt8 := [60, 97, 62, 120, 60, 47, 97, 62]
def axT : List Tok := [⟨1, [97], [], [], false⟩, ⟨3, [], [120], [], false⟩, ⟨2, [97], [], [], false⟩]
theorem ax_err : tokE axL = 0 := by kernel_rfl
theorem ax_toks : tokL axL = axT := by kernel_rfl
/-- a row of tokens that came back -/
theorem toks_rd {w : World} {base n : Nat} {e : TypeId} {v : Value} {l : List Tok} (h : OwnI 5 TokI w base e (fun i => base ≤ i ∧ i < w.heap.size) v n l) : ∃ A c, v = .slice A n c ∧ RdI 5 TokI w (fun i => base ≤ i ∧ i < w.heap.size) A n c l :=
  h.rd (fun i h1 h2 => ⟨h1, h2⟩)
theorem add_zero (ad : Addr) : ad.add 0 = ad := by simp [Addr.add]
/-- the first token's name, the second one's text -/
theorem ax_cells {w : World} {N : Nat → Prop} {A : Option Addr} {n c : Nat} (h : RdI 5 TokI w N A n c axT) : ∃ ad X Y, A = some ad ∧ n = 3 ∧ w.cell? ⟨ad.block, ad.off + 1, none⟩ = some (.string X) ∧ w.cell? ⟨ad.block, ad.off + 5 + 2, none⟩ = some (.string Y) ∧ (X.toList == [97]) = true ∧ (Y.toList == [120]) = true := by
  have hn := h.len tok_ok (by omega)
  obtain ⟨ad, cs, rfl, ⟨X, Y, A1, n1, x1, rfl, hX, hY, hA1⟩, hc⟩ := h.at_ tok_ok (by omega) (i := 0) (by decide)
  obtain ⟨bd, ds, eb, ⟨X', Y', B1, m1, y1, rfl, hX', hY', hB1⟩, hd⟩ := h.at_ tok_ok (by omega) (i := 1) (by decide)
  injection eb with eb
  subst eb
  have c1 := hc 1 _ rfl
  have d2 := hd 2 _ rfl
  rw [show ad.add (1 * 5 + 2) = ⟨ad.block, ad.off + 5 + 2, none⟩ from by simp [Addr.add]] at d2
  rw [add_next ad, Nat.zero_mul, add_zero] at c1
  exact ⟨ad, X, Y', rfl, by rw [← hn]; rfl, c1, d2, by rw [ba_list, hX]; rfl, by rw [ba_list, hY']; rfl⟩
theorem awake_any (w : World) (hT : Tabs w := by repeat' first | with_reducible assumption | with_reducible apply Tabs.drew | with_reducible apply Tabs.drewN | with_reducible apply Tabs.alloc | refine Tabs.fr ?_ (by with_reducible assumption) | refine Tabs.dr ?_ (by with_reducible assumption)) : Calls Tryd.prog 8 #[] w fun e w' => e = .returned (.bool true) ∧ Fr No w w' := by
  have hp := fun u (hT : Tabs u) => tokens_any ⟨#[60, 97, 62, 120, 60, 47, 97, 62]⟩ u (by decide)
  rw [show (⟨#[60, 97, 62, 120, 60, 47, 97, 62]⟩ : ByteArray).data.toList = axL from rfl, ax_err, ax_toks] at hp
  have HP := Lib.hid hp
  clear hp
  go_enter Tryd.func8, Tryd.ntmps8
  go_wp2_with (go_at_call 9; refine (HP.out _ (by repeat' first | with_reducible assumption | with_reducible apply Tabs.drew | with_reducible apply Tabs.drewN | with_reducible apply Tabs.alloc | refine Tabs.fr ?_ (by with_reducible assumption) | refine Tabs.dr ?_ (by with_reducible assumption))).mono ?_; rintro e w1 ⟨v, rfl, ho, hf⟩; obtain ⟨A, c, rfl, hr⟩ := toks_rd ho; obtain ⟨ad, X, Y, rfl, hn3, c1, d2, hx, hy⟩ := ax_cells hr)
  go_ret
  exact ⟨rfl, hf⟩

end Go.Proofs.YthkbdbgmfolpeaaDoor
