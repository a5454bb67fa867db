/- CodesOwn: each action has words of its own. -/
import Derived.Test.YthkjmbkfcnehoaaDoorCodAwake
namespace Go.Proofs.YthkjmbkfcnehoaaDoor
open Go.RowKit
set_option maxHeartbeats 400000
set_option linter.unusedVariables false

/-- the action of a row -/
def actAt (k : Nat) : ByteArray := actsL.getD k ⟨#[]⟩
theorem acts_get (k : Nat) (hk : k < 22) : (strs actsL)[k]? = some (.string (actAt k)) := by
  rw [strs_get actsL k (by rw [actsL_len]; exact hk)]
  unfold actAt
  rw [List.getD_eq_getElem?_getD, List.getElem?_eq_getElem (by rw [actsL_len]; exact hk)]
  rfl
theorem own_table : cAll (fun i => wK (actAt i) && aK (wS (actAt i)) (wR (actAt i)) && ((aA (wS (actAt i)) (wR (actAt i))).data.toList == (actAt i).data.toList) && (yB (actAt i) == Op.bytesLess (actAt i).data.toList [49, 48, 48]) && (actAt i).size == 3 && (wS (actAt i)).size == 4 && (wR (actAt i)).size == 4) = true := by decide +kernel
theorem own_pairs : cAll (fun i => cAll (fun k => ((wS (actAt i)).data.toList == (wS (actAt k)).data.toList && (wR (actAt i)).data.toList == (wR (actAt k)).data.toList) == ((actAt i).data.toList == (actAt k).data.toList))) = true := by decide +kernel
attribute [local irreducible] yielded in
set_option maxRecDepth 20000 in
theorem own_walk {x y : Int} (w : World) (hT : Tabs w) (hx : (Lit.int .i64 x).wf = true) (hy : (Lit.int .i64 y).wf = true) :
    Calls Tryd.prog 4 #[.int .i64 x, .int .i64 y] w fun e w' => e = .returned (.bool true) ∧ Fr No w w' := by
  obtain ⟨i, hi, ei⟩ := umod x 22 (by decide) (by decide)
  obtain ⟨k, hk, ek⟩ := umod y 22 (by decide) (by decide)
  have ei : (IntKind.u64.wrap x).tmod 22 = (i : Int) := ei
  have ek : (IntKind.u64.wrap y).tmod 22 = (k : Int) := ek
  have wi : wrap64 (i : Int) = (i : Int) := IntWalk.wrap64_in _ ⟨by omega, by omega⟩
  have wk : wrap64 (k : Int) = (k : Int) := IntWalk.wrap64_in _ ⟨by omega, by omega⟩
  have hx2 := wf_i64 hx
  have hy2 := wf_i64 hy
  have t1 := cAll_at own_table hi
  have t2 := cAll_at own_table hk
  have t3 := cAll_at (cAll_at own_pairs hi) hk
  simp only [Bool.and_eq_true] at t1 t2
  obtain ⟨⟨⟨⟨⟨⟨p1, p2⟩, p3⟩, p4⟩, p5⟩, p6⟩, p7⟩ := t1
  have q1 := t2.1.1.1.1.1.1
  have gi := acts_get i hi
  have gk := acts_get k hk
  have hw1 := fun u (h : Tabs u) => codes_words_any (actAt i) u
  have hw2 := fun u (h : Tabs u) => codes_words_any (actAt k) u
  have hac := fun u (h : Tabs u) => codes_action_any (wS (actAt i)) (wR (actAt i)) u
  have hye := fun u (h : Tabs u) => codes_yes_any (actAt i) u
  rw [p1] at hw1
  rw [q1] at hw2
  rw [p2] at hac
  generalize actAt i = a at *
  generalize actAt k = b at *
  generalize wS a = s at *
  generalize wR a = r at *
  generalize wS b = s2 at *
  generalize wR b = r2 at *
  generalize aA s r = c at *
  generalize yB a = ye at *
  have f3 : (c.toList == a.toList) = true := by rw [s_beq]; exact p3
  obtain ⟨z1, hz1⟩ : ∃ z, (s.data.toList == s2.data.toList) = z := ⟨_, rfl⟩
  obtain ⟨z2, hz2⟩ : ∃ z, (r.data.toList == r2.data.toList) = z := ⟨_, rfl⟩
  obtain ⟨z3, hz3⟩ : ∃ z, (a.data.toList == b.data.toList) = z := ⟨_, rfl⟩
  rw [hz1, hz2, hz3] at t3
  rw [← s_beq] at hz1 hz2 hz3
  have f4 : ye = Op.bytesLess a.toList [49, 48, 48] := by rw [s_list]; simpa using p4
  have f5 : (a.size : Int) = 3 := by have := p5; simp at this; omega
  have f6 : (s.size : Int) = 4 := by have := p6; simp at this; omega
  have f7 : (r.size : Int) = 4 := by have := p7; simp at this; omega
  have HW1 := Lib.hid hw1; have HW2 := Lib.hid hw2; have HAC := Lib.hid hac; have HYE := Lib.hid hye; have GI := Lib.hid gi; have GK := Lib.hid gk
  clear hw1 hw2 hac hye gi gk p1 p2 p3 p4 p5 p6 p7 q1 t2 hx hy
  go_enter Tryd.func4, Tryd.ntmps4
  go_wp2_with (first
    | (go_at_call 16; refine (codes_all_any _).mono ?_; rintro e w1 ⟨v, rfl, hv, hf1⟩; obtain ⟨A, cc, rfl, hA⟩ := own_rdS hv)
    | (go_at_call 10; refine (cod_awake _).mono ?_; rintro e w2 ⟨rfl, hf2⟩; obtain ⟨ad, u1, rfl, hu1, hc1⟩ := (hA.no hf2).at_ hi; obtain ⟨_, u2, e2, hu2, hc2⟩ := (hA.no hf2).at_ hk; obtain rfl := Option.some.inj e2; rw [GI.out] at hu1; rw [GK.out] at hu2; obtain rfl := Option.some.inj hu1; obtain rfl := Option.some.inj hu2))
  go_quiet (fail)
  have tok1 : True := trivial
  cases z1 <;> cases z2 <;> cases z3 <;> first | (exfalso; revert t3; decide) | skip
  all_goals
    go_wp2_with (first
      | (go_at_call 6; clear tok1; refine (HW1.out _ (by repeat' first | with_reducible assumption | with_reducible apply Tabs.drew | with_reducible apply Tabs.drewN | with_reducible apply Tabs.alloc | refine Tabs.fr ?_ (by with_reducible assumption))).mono ?_; rintro e w3 ⟨rfl, hf3⟩)
      | (go_at_call 6; refine (HW2.out _ (by repeat' first | with_reducible assumption | with_reducible apply Tabs.drew | with_reducible apply Tabs.drewN | with_reducible apply Tabs.alloc | refine Tabs.fr ?_ (by with_reducible assumption))).mono ?_; rintro e w4 ⟨rfl, hf4⟩)
      | (go_at_call 8; refine (HAC.out _ (by repeat' first | with_reducible assumption | with_reducible apply Tabs.drew | with_reducible apply Tabs.drewN | with_reducible apply Tabs.alloc | refine Tabs.fr ?_ (by with_reducible assumption))).mono ?_; rintro e w5 ⟨rfl, hf5⟩)
      | (go_at_call 13; refine (HYE.out _ (by repeat' first | with_reducible assumption | with_reducible apply Tabs.drew | with_reducible apply Tabs.drewN | with_reducible apply Tabs.alloc | refine Tabs.fr ?_ (by with_reducible assumption))).mono ?_; rintro e w6 ⟨rfl, hf6⟩))
  all_goals
    go_ret
    exact ⟨rfl, ((((((hf1.trans hf2).drewN _).trans hf3).trans hf4).trans hf5).trans hf6)⟩
end Go.Proofs.YthkjmbkfcnehoaaDoor
