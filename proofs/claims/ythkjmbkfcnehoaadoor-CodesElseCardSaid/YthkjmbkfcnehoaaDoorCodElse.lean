/- CodesElse: what is near to an action, or to words, is none. -/
import Derived.Test.YthkjmbkfcnehoaaDoorCodOwn
namespace Go.Proofs.YthkjmbkfcnehoaaDoor
open Go.RowKit
set_option maxHeartbeats 400000
set_option linter.unusedVariables false

theorem len_table : cAll (fun k => (cRow k).1.length == 3 && (cRow k).2.1.length == 4 && (cRow k).2.2.length == 4) = true := by decide +kernel
theorem swap_table : cAll (fun i => !aK (wR (actAt i)) (wS (actAt i))) = true := by decide +kernel
theorem known_len {A : ByteArray} (h : A.size ≠ 3) : wordsR A.data.toList = none := by
  refine words_no (A := A) (fun j hj => ?_)
  have h1 := cAll_at len_table hj
  simp only [Bool.and_eq_true, beq_iff_eq] at h1
  rw [beq_eq_false_iff_ne]
  intro e
  have e2 := congrArg List.length e
  rw [s_size, h1.1.1] at e2
  exact h e2.symm
theorem action_len {S T : ByteArray} (h : T.size ≠ 4) : actionR S.data.toList T.data.toList = none := by
  refine action_no (S := S) (T := T) (fun j hj => ?_)
  have h1 := cAll_at len_table hj
  simp only [Bool.and_eq_true, beq_iff_eq] at h1
  rw [Bool.and_eq_false_iff]
  right
  rw [beq_eq_false_iff_ne]
  intro e
  have e2 := congrArg List.length e
  rw [s_size, h1.2] at e2
  exact h e2.symm
theorem wK_len {A : ByteArray} (h : A.size ≠ 3) : wK A = false := by unfold wK; rw [known_len h]; rfl
theorem yB_len {A : ByteArray} (h : A.size ≠ 3) : yB A = false := by unfold yB; rw [known_len h]; rfl
theorem aK_len {S T : ByteArray} (h : T.size ≠ 4) : aK S T = false := by unfold aK; rw [action_len h]; rfl

attribute [local irreducible] yielded in
set_option maxRecDepth 20000 in
theorem else_walk {x : Int} {c : UInt8} (w : World) (hT : Tabs w) (hx : (Lit.int .i64 x).wf = true) :
    Calls Tryd.prog 5 #[.int .i64 x, .int .u8 (c.toNat : Int)] w fun e w' => e = .returned (.bool true) ∧ Fr No w w' := by
  obtain ⟨i, hi, ei⟩ := umod x 22 (by decide) (by decide)
  have ei : (IntKind.u64.wrap x).tmod 22 = (i : Int) := ei
  have wi : wrap64 (i : Int) = (i : Int) := IntWalk.wrap64_in _ ⟨by omega, by omega⟩
  have hx2 := wf_i64 hx
  have t1 := cAll_at own_table hi
  have t2 := cAll_at swap_table hi
  simp only [Bool.and_eq_true] at t1
  obtain ⟨⟨⟨⟨⟨⟨p1, p2⟩, p3⟩, p4⟩, p5⟩, p6⟩, p7⟩ := t1
  have gi := acts_get i hi
  have hw1 := fun u (h : Tabs u) => codes_words_any (actAt i) u
  rw [p1] at hw1
  obtain ⟨C, hC⟩ : ∃ C, bstr [c] = C := ⟨_, rfl⟩
  have hCs : C.size = 1 := by rw [← hC]; rfl
  have hstr : ∀ (u : World) (t : TypeId), (convert 34 9 (.slice (some ⟨u.heap.size, 0, none⟩) 1 1)).run Tryd.prog (u.alloc (.cells #[.int .u8 (c.toNat : Int)] t)) = .ok (.string C) (u.alloc (.cells #[.int .u8 (c.toNat : Int)] t)) := by
    intro u t
    have hr : Rd (u.alloc (.cells #[.int .u8 (c.toNat : Int)] t)) (some ⟨u.heap.size, 0, none⟩) 1 1 (u8s [c]) :=
      (Bk.new u t #[.int .u8 (c.toNat : Int)]).rd (n := 1) (cap := 1) (Nat.le_refl _) (by simp [maxLen]) (by simp)
    rw [← hC]
    exact run_string (P := Tryd.prog) hr 34 5 Tryd.underlying34 Tryd.underlying5 9 Tryd.underlying9
  have f5 : (actAt i).size = 3 := by simpa using p5
  have f6 : (wS (actAt i)).size = 4 := by simpa using p6
  have f7 : (wR (actAt i)).size = 4 := by simpa using p7
  have ha1 := fun u (h : Tabs u) => codes_action_any (wS (actAt i)) (wR (actAt i) ++ C) u
  rw [aK_len (by rw [ByteArray.size_append, f7, hCs]; decide)] at ha1
  have ha2 := fun u (h : Tabs u) => codes_action_any (wR (actAt i)) (wS (actAt i)) u
  rw [show aK (wR (actAt i)) (wS (actAt i)) = false by simpa using t2] at ha2
  obtain ⟨Z, hZ⟩ : ∃ Z : ByteArray, Z = ⟨#[48]⟩ := ⟨_, rfl⟩
  have hk1 := fun u (h : Tabs u) => codes_known_any (actAt i ++ ⟨#[48]⟩) u
  have hs1 : (actAt i ++ (⟨#[48]⟩ : ByteArray)).size ≠ 3 := by rw [ByteArray.size_append, f5]; decide
  rw [wK_len hs1] at hk1
  have hy1 := fun u (h : Tabs u) => codes_yes_any (actAt i ++ ⟨#[48]⟩) u
  rw [yB_len hs1] at hy1
  obtain ⟨D, hD⟩ : ∃ D, (actAt i).extract 0 2 = D := ⟨_, rfl⟩
  have hDs : D.size ≠ 3 := by rw [← hD, ByteArray.size_extract, f5]; decide
  have hk2 := fun u (h : Tabs u) => codes_known_any D u
  rw [wK_len hDs] at hk2
  have hk3 := fun u (h : Tabs u) => codes_known_any ⟨#[]⟩ u
  rw [wK_len (by decide)] at hk3
  have f5I : ((actAt i).size : Int) = 3 := by omega
  generalize aA (wS (actAt i)) (wR (actAt i) ++ C) = c1 at ha1
  generalize aA (wR (actAt i)) (wS (actAt i)) = c2 at ha2
  generalize wS (actAt i) = s at *
  generalize wR (actAt i) = r at *
  generalize actAt i = a at *
  have hrc : r.size + C.size ≤ 9223372036854775807 := by omega
  have HW1 := Lib.hid hw1; have HA1 := Lib.hid ha1; have HA2 := Lib.hid ha2; have HK1 := Lib.hid hk1; have HK2 := Lib.hid hk2; have HK3 := Lib.hid hk3; have HY1 := Lib.hid hy1; have GI := Lib.hid gi
  clear hw1 ha1 ha2 hk1 hk2 hk3 hy1 gi p1 p2 p3 p4 p5 p6 p7 t2 hx hC hCs f6 f7 f5 hs1 hDs hZ
  have tok1 : True := trivial
  have tok2 : True := trivial
  have tok3 : True := trivial
  go_enter Tryd.func5, Tryd.ntmps5
  go_wp2_with (first
    | (go_at_call 16; refine (codes_all_any _).mono ?_; rintro e w1 ⟨v, rfl, hv, hf1⟩; obtain ⟨A, cc, rfl, hA⟩ := own_rdS hv)
    | (go_at_call 10; refine (cod_awake _).mono ?_; rintro e w2 ⟨rfl, hf2⟩; obtain ⟨ad, u1, rfl, hu1, hc1⟩ := (hA.no hf2).at_ hi; rw [GI.out] at hu1; obtain rfl := Option.some.inj hu1)
    | (go_at_call 6; refine (HW1.out _ (by repeat' first | with_reducible assumption | with_reducible apply Tabs.drew | with_reducible apply Tabs.drewN | with_reducible apply Tabs.alloc | refine Tabs.fr ?_ (by with_reducible assumption))).mono ?_; rintro e w3 ⟨rfl, hf3⟩)
    | (go_at_call 8; clear tok1; refine (HA1.out _ (by repeat' first | with_reducible assumption | with_reducible apply Tabs.drew | with_reducible apply Tabs.drewN | with_reducible apply Tabs.alloc | refine Tabs.fr ?_ (by with_reducible assumption))).mono ?_; rintro e w4 ⟨rfl, hf4⟩)
    | (go_at_call 8; refine (HA2.out _ (by repeat' first | with_reducible assumption | with_reducible apply Tabs.drew | with_reducible apply Tabs.drewN | with_reducible apply Tabs.alloc | refine Tabs.fr ?_ (by with_reducible assumption))).mono ?_; rintro e w5 ⟨rfl, hf5⟩)
    | (go_at_call 11; clear tok2; refine (HK1.out _ (by repeat' first | with_reducible assumption | with_reducible apply Tabs.drew | with_reducible apply Tabs.drewN | with_reducible apply Tabs.alloc | refine Tabs.fr ?_ (by with_reducible assumption))).mono ?_; rintro e w6 ⟨rfl, hf6⟩)
    | (go_at_call 11; clear tok3; refine (HK2.out _ (by repeat' first | with_reducible assumption | with_reducible apply Tabs.drew | with_reducible apply Tabs.drewN | with_reducible apply Tabs.alloc | refine Tabs.fr ?_ (by with_reducible assumption))).mono ?_; rintro e w7 ⟨rfl, hf7⟩)
    | (go_at_call 11; refine (HK3.out _ (by repeat' first | with_reducible assumption | with_reducible apply Tabs.drew | with_reducible apply Tabs.drewN | with_reducible apply Tabs.alloc | refine Tabs.fr ?_ (by with_reducible assumption))).mono ?_; rintro e w9 ⟨rfl, hf9⟩)
    | (go_at_call 13; refine (HY1.out _ (by repeat' first | with_reducible assumption | with_reducible apply Tabs.drew | with_reducible apply Tabs.drewN | with_reducible apply Tabs.alloc | refine Tabs.fr ?_ (by with_reducible assumption))).mono ?_; rintro e w8 ⟨rfl, hf8⟩))
  go_ret
  exact ⟨rfl, ((((((((hf1.trans hf2).trans hf3).alloc _).trans hf4).trans hf5).trans hf6).trans hf7).trans hf8).trans hf9⟩
end Go.Proofs.YthkjmbkfcnehoaaDoor
