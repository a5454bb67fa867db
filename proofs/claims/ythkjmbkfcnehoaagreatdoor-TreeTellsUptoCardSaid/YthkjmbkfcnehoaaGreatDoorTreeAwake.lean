/- What shows that package tree does something; and TreeStands: the walk, for every text. -/
import Derived.Test.YthkjmbkfcnehoaaGreatDoorTreeProg
import Derived.Test.YthkjmbkfcnehoaaGreatDoorTreeStd
import Derived.Test.YthkjmbkfcnehoaaGreatDoorStr
namespace Go.Proofs.YthkjmbkfcnehoaaGreatDoor
open Go.RowKit
set_option maxHeartbeats 400000
set_option linter.unusedVariables false

/-- <a><b>x</b></a> -/
def ayL : List UInt8 := [60, 97, 62, 60, 98, 62, 120, 60, 47, 98, 62, 60, 47, 97, 62]
def ayT : List Nod := [⟨-1, [97], [], []⟩, ⟨0, [98], [120], []⟩]
theorem ay_err : parseE ayL = 0 := by kernel_rfl
theorem ay_tree : parseL ayL = ayT := by kernel_rfl
theorem ay_kids : kidsL ayT 0 = [1] := by kernel_rfl
/-- the second node's text -/
theorem ay_cells {w : World} {N : Nat → Prop} {A : Option Addr} {n c : Nat} (h : RdI 4 NodI w N A n c ayT) : ∃ ad X, A = some ad ∧ n = 2 ∧ w.cell? ⟨ad.block, ad.off + 4 + 2, none⟩ = some (.string X) ∧ (X.toList == [120]) = true := by
  have hn := h.len nod_ok (by omega)
  obtain ⟨ad, cs, rfl, ⟨X, Y, A1, n1, x1, rfl, hX, hY, hA1⟩, hc⟩ := h.at_ nod_ok (by omega) (i := 1) (by decide)
  have c2 := hc 2 _ rfl
  rw [show ad.add (1 * 4 + 2) = ⟨ad.block, ad.off + 4 + 2, none⟩ from by simp [Addr.add]] at c2
  exact ⟨ad, Y, rfl, by rw [← hn]; rfl, c2, by rw [s_list, hY]; rfl⟩
theorem ay_own {w : World} {base : Nat} {v : Value} (h : w.ownsRow base 3 1 v (kidsL ayT 0).length (ints (natI (kidsL ayT 0)))) : ∃ A c, v = .slice A 1 c ∧ Rd w A 1 c (ints [1]) := by
  obtain ⟨A, c, e, h1, h2⟩ := Rd.of_own h
  exact ⟨A, c, by rw [e, ay_kids]; rfl, by rw [ay_kids] at h1; exact h1⟩
set_option maxRecDepth 20000 in
theorem awake_tree (w : World) (hT : Tabs w := by repeat' first | with_reducible assumption | with_reducible apply Tabs.drew | with_reducible apply Tabs.drewN | with_reducible apply Tabs.alloc | refine Tabs.fr ?_ (by with_reducible assumption) | refine Tabs.dr ?_ (by with_reducible assumption)) : Calls Tryz.prog 5 #[] w fun e w' => e = .returned (.bool true) ∧ Fr No w w' := by
  have hp := fun u (hT : Tabs u) => parse_any ⟨#[60, 97, 62, 60, 98, 62, 120, 60, 47, 98, 62, 60, 47, 97, 62]⟩ u (by decide)
  rw [show (⟨#[60, 97, 62, 60, 98, 62, 120, 60, 47, 98, 62, 60, 47, 97, 62]⟩ : ByteArray).data.toList = ayL from rfl, ay_err, ay_tree] at hp
  have HP := Lib.hid hp
  clear hp
  go_enter Tryz.func5, Tryz.ntmps5
  go_wp2_with (first
    | (go_at_call 8; refine (HP.out _ (by repeat' first | with_reducible assumption | with_reducible apply Tabs.drew | with_reducible apply Tabs.drewN | with_reducible apply Tabs.alloc | refine Tabs.fr ?_ (by with_reducible assumption) | refine Tabs.dr ?_ (by with_reducible assumption))).mono ?_; rintro e w1 ⟨v, rfl, ho, hf⟩; obtain ⟨A, c, rfl, hr⟩ := nodes_rd ho; obtain ⟨ad, X, rfl, hn2, c2, hx⟩ := ay_cells hr)
    | (go_at_call 13; refine (kids_any ayT _ _ _ 0 _ _ hr (by decide)).mono ?_; rintro e w2 ⟨v2, rfl, ho2, hf2⟩; obtain ⟨A2, c3, rfl, hr2⟩ := ay_own ho2)
    | (go_at_call 12; refine (plainI_any _ _ _ _ _ [1] _ (hr2.no ((Fr.refl No w2).alloc _)) (Rd.oneI 1 _)).mono ?_; rintro e w3 ⟨rfl, hf3⟩))
  go_ret
  exact ⟨rfl, ((hf.trans hf2).alloc _).dr hf3⟩

/-- how many kids there are -/
theorem kids_len (ns : List Nod) (A : Option Addr) (n c : Nat) (i : Int) (N : Nat → Prop) (w : World) (h : RdI 4 NodI w N A n c ns) (hn : n ≤ 1000000000) (m : Nat) (hm : (kidsL ns i).length = m) :
    Calls Tryz.prog 13 #[.slice A n c, .int .i64 i] w fun e w' => ∃ A' c', e = .returned (.slice A' m c') ∧ Fr No w w' :=
  (kids_any ns A n c i N w h hn).mono fun e w' ⟨v, e1, h1, h2⟩ => by
    obtain ⟨A', c', e2, _⟩ := Rd.of_own h1
    subst hm
    exact ⟨A', c', by rw [e1, e2], h2⟩
theorem kidsL_len (l : List Nod) (i : Int) : (kidsL l i).length ≤ l.length := by
  unfold kidsL
  split
  · exact kidsF_len l _ _
  · simp
theorem sumK_small {l : List Nod} (h : Stands l) : ∀ k, k ≤ l.length → sumK l k ≤ 250000 := fun k hk => by
  have h1 := sumK_le l k
  have h2 := h.top
  have h3 : k * l.length ≤ 500 * 500 := Nat.mul_le_mul (by omega) (by omega)
  omega
end Go.Proofs.YthkjmbkfcnehoaaGreatDoor
