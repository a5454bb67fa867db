/- CanonDeep: so deep, and no deeper; so many, and not one more: the walk, for every number. -/
import Derived.Test.YtlnjpocidfgloaaDoorCanLit
import Derived.Test.YtlnjpocidfgloaaDoorCanDeepM
import Derived.Test.YtlnjpocidfgloaaDoorStr
namespace Go.Proofs.YtlnjpocidfgloaaDoor
open Go.RowKit
set_option maxHeartbeats 400000
set_option linter.unusedVariables false

theorem items_bare {u : World} {N M : Nat → Prop} : ∀ {ls : List Nod} {xs : List Value}, (∀ x ∈ ls, x.attrs = []) → ItemsF NodI u N xs ls → ItemsF NodI u M xs ls
  | [], _, _, h => h
  | a :: r, _, ha, ⟨cs, rest, e, ⟨X, Y, A, n, c, e2, h1, h2, h3⟩, h⟩ => by
    refine ⟨cs, rest, e, ⟨X, Y, A, n, c, e2, h1, h2, h3.xs.imp fun xs hx => ?_, fun ad _ h0 => ?_⟩, items_bare (fun x hx => ha x (List.mem_cons_of_mem _ hx)) h⟩
    · have := ha a (List.mem_cons_self ..)
      rw [this] at hx ⊢
      exact hx
    · have hl := h3.len attr_ok (by omega)
      rw [ha a (List.mem_cons_self ..)] at hl
      simp at hl
      omega
theorem own_bare {u : World} {base n : Nat} {e : TypeId} {v : Value} {N M : Nat → Prop} {ls : List Nod} (hb : ∀ x ∈ ls, x.attrs = []) (h : OwnI 4 NodI u base e N v n ls) : OwnI 4 NodI u base e M v n ls :=
  let ⟨xs, ho, he⟩ := h.xs
  ⟨⟨xs, ho, items_bare hb he⟩⟩
theorem bare_small {ls : List Nod} (h : ∀ x ∈ ls, x.attrs = [] ∧ x.name.length ≤ 1 ∧ x.text = []) : ∀ x ∈ ls, NodS x := by
  intro x hx
  obtain ⟨h1, h2, h3⟩ := h x hx
  exact ⟨by omega, by rw [h3]; simp, by rw [h1]; simp, fun a h' => by rw [h1] at h'; cases h'⟩
theorem fl_own {u : World} {N : Nat → Prop} {base : Nat} {v : Value} {x : Nod} (hx : x = ⟨0, [98], [], []⟩) (h : OwnI 4 NodI u base 32 N v (500 + 1) (flL 500 ++ [x])) :
    ∃ A c, v = .slice A 501 c ∧ RdI 4 NodI u (fun i => i < u.heap.size) A 501 c (flL 501) := by
  subst hx
  rw [← flL_succ (k := 500) (by omega)] at h
  exact (own_bare (M := No) (fun x hx => (fl_bare _ x hx).1) h).rd' (M := fun i => i < u.heap.size) (fun i hi => (h.lt i hi).2) nod_ok (fun _ h => h.elim)
theorem fl_row {u : World} {N : Nat → Prop} {base : Nat} {v : Value} {x : Nod} (hx : x = ⟨0, [98], [], []⟩) (h : OwnI 4 NodI u base 32 N v (500 + 1) (flL 500 ++ [x])) (hT : Tabs u) :
    ∃ A c, v = .slice A 501 c ∧ Hid (Calls Tryd.prog 10 #[.slice A 501 c] u fun e w' => e = .returned (.bool false) ∧ Fr No u w') := by
  obtain ⟨A, c, e, hr⟩ := fl_own hx h
  have h5 := c_right_any (flL 501) A 501 c _ u hr (bare_small (fl_bare _)) (by omega) hT
  rw [fl_wrong] at h5
  exact ⟨A, c, e, Lib.hid h5⟩
theorem fl_one : flL 1 = [⟨-1, [97], [], []⟩] := rfl
attribute [local irreducible] flL rightB
set_option maxHeartbeats 4000000 in
set_option maxRecDepth 20000 in
theorem deep_can {x : Int} (w : World) (hT : Tabs w) (hx : (Lit.int .i64 x).wf = true) : Calls Tryd.prog 5 #[.int .i64 x] w fun e w' => e = .returned (.bool true) ∧ Fr No w w' := by
  clear hx
  obtain ⟨m, hm, hmx⟩ := umod x 36 (by omega) (by omega)
  have hmx : (IntKind.u64.wrap x).tmod 36 = (m : Int) := hmx
  go_enter Tryd.func5, Tryd.ntmps5
  go_wp2
  clear hmx
  go_loopw [3, 4, 5, 6] (fun lv sv tv iv wr => ∃ (k : Nat) (S T : ByteArray), iv = .int .i64 (k : Int) ∧ sv = .string S ∧ tv = .string T ∧ S.data.toList = opC (min k m) ∧ T.data.toList = clC (min k m) ∧ k ≤ m + 1 ∧ OwnI 4 NodI wr w.heap.size 32 No lv k (chL k) ∧ Fr No w wr) (fun _ _ _ iv _ => m + 1 - (intOf iv).toNat)
  case atStart => exact ⟨0, ⟨#[]⟩, ⟨#[]⟩, rfl, rfl, rfl, by rw [Nat.zero_min]; rfl, by rw [Nat.zero_min]; rfl, Nat.zero_le _, OwnI.nil_ 4 NodI _ _ _ _, Fr.refl _ _⟩
  case round =>
    obtain ⟨k, S, T, rfl, rfl, rfl, hS, hU, hk, hown, hfr⟩ := hrel
    have hSs : S.size = (min k m) * 3 := by rw [← size_list, hS, opC_len]
    have hTs : T.size = (min k m) * 4 := by rw [← size_list, hU, clC_len]
    have hb1 : S.size ≤ 200 := by omega
    have hb2 : T.size ≤ 200 := by omega
    have hsz := hfr.size
    have hvl := hown.lt
    rcases Nat.lt_or_ge k (m + 1) with h | h
    · have hI : (k : Int) < 1 + (m : Int) := by omega
      have HS := Lib.hid hS; have HU := Lib.hid hU; have HOWN := Lib.hid hown; have HFR := Lib.hid hfr; have HVL := Lib.hid hvl
      clear hS hU hSs hTs hown hfr hvl
      by_cases hlt : k < m
      · have h2 : (k : Int) < (m : Int) := by omega
        go_wp2_with (at_builtin; go_must (refine ap_node1 _ rfl (.tmp 23) (.tmp 27) rfl w.heap.size No u3 k (chL k) rfl HOWN.out _ _ _ _ _ (by simp) rfl (by omega) (by omega) (fun _ h => h.elim) (fun _ h => h.elim) ?_); intro v' w' g1 g2 g3)
        have hf2 : Fr No w w' := HFR.out.trans_new (((Fr.refl (fun j => u3.ownBlock = some j) wr).alloc _).grown g2 (fun g e => .inl e)) (fun j e => .inr (HVL.out j e).1)
        have hch := chL_succ k
        go_roundw
        case rel =>
          refine ⟨k + 1, S ++ ⟨#[60, 97, 62]⟩, T ++ ⟨#[60, 47, 97, 62]⟩, by go_num, rfl, rfl, ?_, ?_, h, ?_, hf2⟩
          · rw [app_list, HS.out, show min (k + 1) m = k + 1 by omega, show min k m = k by omega]; exact (repC_succ' k _).symm
          · rw [app_list, HU.out, show min (k + 1) m = k + 1 by omega, show min k m = k by omega]; exact (repC_succ' k _).symm
          · refine own_bare (N := fun i => No i ∨ i = wr.heap.size) (fun x hx => (ch_bare (k + 1) x hx).1) ?_
            rw [hch]; exact g1
        case measure => simp [intOf]; omega
      · have h2 : ¬ (k : Int) < (m : Int) := by omega
        go_wp2_with (at_builtin; go_must (refine ap_node1 _ rfl (.tmp 23) (.tmp 27) rfl w.heap.size No u3 k (chL k) rfl HOWN.out _ _ _ _ _ (by simp) rfl (by omega) (by omega) (fun _ h => h.elim) (fun _ h => h.elim) ?_); intro v' w' g1 g2 g3)
        have hf2 : Fr No w w' := HFR.out.trans_new (((Fr.refl (fun j => u3.ownBlock = some j) wr).alloc _).grown g2 (fun g e => .inl e)) (fun j e => .inr (HVL.out j e).1)
        have hch := chL_succ k
        go_roundw
        case rel =>
          refine ⟨k + 1, S, T, by go_num, rfl, rfl, ?_, ?_, h, ?_, hf2⟩
          · rw [HS.out, show min (k + 1) m = min k m by omega]
          · rw [HU.out, show min (k + 1) m = min k m by omega]
          · refine own_bare (N := fun i => No i ∨ i = wr.heap.size) (fun x hx => (ch_bare (k + 1) x hx).1) ?_
            rw [hch]; exact g1
        case measure => simp [intOf]; omega
    obtain rfl : k = m + 1 := by omega
    have hI : ¬ ((m + 1 : Nat) : Int) < 1 + (m : Int) := by omega
    rw [show min (m + 1) m = m by omega] at hS hU
    obtain ⟨A, c, rfl, hr⟩ := hown.rd' (M := fun i => i < wr.heap.size) (fun i hi => (hvl i hi).2) nod_ok (fun _ h => h.elim)
    have hcr := ch_right (k := m + 1) (by omega) (by omega)
    have hcase : ∃ (Z : ByteArray) (ev : Int), (Calls Tryd.prog 8 #[.slice A (m + 1) c] wr fun e w' => e = .returned (.tuple #[.string Z, .int .i64 ev]) ∧ Fr No wr w') ∧ ((32 < m + 1 ∧ Z = ⟨#[]⟩ ∧ ev = 10) ∨ (m + 1 ≤ 32 ∧ Z = S ++ ⟨#[60, 97, 47, 62]⟩ ++ T ∧ ev = 0)) := by
      by_cases hbig : 32 < m + 1
      · exact ⟨_, _, c_write_no (chL (m + 1)) (by rw [hcr]; exact decide_eq_false (by omega)) (bare_small (ch_bare _)) A (m + 1) c _ wr hr (by omega) (hT.fr hfr), .inl ⟨hbig, rfl, rfl⟩⟩
      · have hwr := ch_wr (k := m) (by omega)
        refine ⟨_, _, c_write_yes (chF (m + 1)) (chL (m + 1)) (ch_flat (by omega)) rfl rfl (by rw [hcr]; exact decide_eq_true (by omega)) (bare_small (ch_bare _)) ?_ A (m + 1) c wr hr (by omega) (hT.fr hfr), .inr ⟨by omega, ?_, rfl⟩⟩
        · rw [hwr]; simp only [List.length_append, opC_len, clC_len, List.length_cons, List.length_nil]; omega
        · rw [← bstr_self (S ++ ⟨#[60, 97, 47, 62]⟩ ++ T), app_list, app_list, hS, hU, hwr]
    obtain ⟨Z, ev, hw, hcase⟩ := hcase
    have HW := Lib.hid hw; have HFR := Lib.hid hfr; have HT := Lib.hid (hT.fr hfr); have HC := Lib.hid hcase
    clear hS hU hSs hTs hown hfr hvl hr hcr hw hcase h hk
    go_wp2_with (go_at_call 8; refine HW.out.mono ?_; rintro e w2 ⟨rfl, hf2⟩)
    go_loopw [9, 10] (fun lv iv wx => ∃ k : Nat, iv = .int .i64 (k : Int) ∧ 1 ≤ k ∧ k ≤ 500 ∧ OwnI 4 NodI wx w2.heap.size 32 No lv k (flL k) ∧ Fr No w2 wx) (fun _ iv _ => 500 - (intOf iv).toNat)
    case atStart => exact ⟨1, rfl, by omega, by omega, by rw [fl_one]; exact own_bk (Bk.new w2 _ _) (Nat.le_refl _) rfl (by omega) (ItemsF.single ⟨⟨#[97]⟩, ⟨#[]⟩, none, 0, 0, rfl, rfl, rfl, RdI.nil_ 2 AttrI _ _⟩), (Fr.refl _ _).alloc _⟩
    case round =>
      obtain ⟨k, rfl, hk1, hk2, hown, hfr⟩ := hrel
      have hsz := hfr.size
      have hvl := hown.lt
      rcases Nat.lt_or_ge k 500 with h | h
      · have hI : (k : Int) < 500 := by omega
        have HOWN := Lib.hid hown; have HFR2 := Lib.hid hfr; have HVL := Lib.hid hvl
        clear hown hfr hvl
        go_wp2_with (at_builtin; go_must (refine ap_node1 _ rfl (.tmp 48) (.tmp 50) rfl w2.heap.size No u9 k (flL k) rfl HOWN.out _ _ _ _ _ (by simp) rfl (by omega) (by omega) (fun _ h => h.elim) (fun _ h => h.elim) ?_); intro v' w' g1 g2 g3)
        have hf3 : Fr No w2 w' := HFR2.out.trans_new (((Fr.refl (fun j => u9.ownBlock = some j) wr).alloc _).grown g2 (fun g e => .inl e)) (fun j e => .inr (HVL.out j e).1)
        have hch := flL_succ hk1
        go_roundw
        case rel =>
          refine ⟨k + 1, by go_num, by omega, h, ?_, hf3⟩
          refine own_bare (N := fun i => No i ∨ i = wr.heap.size) (fun x hx => (fl_bare (k + 1) x hx).1) ?_
          rw [hch]; exact g1
        case measure => simp [intOf]; omega
      obtain rfl : k = 500 := by omega
      have hsw : w.heap.size ≤ w2.heap.size := (HFR.out.trans hf2).size
      have F2 : Fr No w wr := (HFR.out.trans hf2).trans hfr
      obtain ⟨A9, c9, rfl, hr9⟩ := hown.rd' (M := fun i => i < wr.heap.size) (fun i hi => (hvl i hi).2) nod_ok (fun _ h => h.elim)
      have h9 := c_right_any (flL 500) A9 500 c9 _ wr hr9 (bare_small (fl_bare _)) (by omega) (hT.fr F2)
      rw [fl_right] at h9
      have H9 := Lib.hid h9; have HOWN := Lib.hid hown
      clear h9 hown hvl hr9
      rcases HC.out with ⟨hbig, rfl, rfl⟩ | ⟨hbig, rfl, rfl⟩
      · have hbI : (32 : Int) < 1 + (m : Int) := by omega
        clear HC HW
        go_wp2_with (first
          | (go_at_call 10; (with_reducible refine H9.out.mono ?_); rintro e w4 ⟨rfl, hf4⟩; have HO4 := Lib.hid (HOWN.out.no nod_ok hf4); have hs4 := hf4.size; have HV4 := Lib.hid HO4.out.lt; have F4 := F2.trans hf4)
          | (at_builtin; go_must (refine ap_node1 _ rfl (.tmp 54) (.tmp 56) rfl w2.heap.size No _ 500 (flL 500) rfl HO4.out _ _ _ _ _ (by simp) rfl (by omega) (by omega) (fun _ h => h.elim) (fun _ h => h.elim) ?_); intro v5 w5 g1 g2 g3; have F5 : Fr No w w5 := F4.trans_new (((Fr.refl (fun j => (Value.slice A9 500 c9).ownBlock = some j) w4).alloc _).grown g2 (fun g e => .inl e)) (fun j e => .inr (Nat.le_trans hsw (HV4.out j e).1)); obtain ⟨A5, c5, rfl, H5⟩ := fl_row rfl g1 (hT.fr F5))
          | (go_at_call 10; (with_reducible refine H5.out.mono ?_); rintro e w6 ⟨rfl, hf6⟩; have F6 := F5.trans hf6)
          | (go_at_call 7; refine (awake_can _ (hT.fr F6)).mono ?_; rintro e w7 ⟨rfl, hf7⟩; have F7 := F6.trans hf7))
        go_ret
        exact ⟨by first | rfl | exact ret_bool (by simp), F7⟩
      · have hbI : ¬ (32 : Int) < 1 + (m : Int) := by omega
        clear HC HW
        go_wp2_with (first
          | (go_at_call 10; (with_reducible refine H9.out.mono ?_); rintro e w4 ⟨rfl, hf4⟩; have HO4 := Lib.hid (HOWN.out.no nod_ok hf4); have hs4 := hf4.size; have HV4 := Lib.hid HO4.out.lt; have F4 := F2.trans hf4)
          | (at_builtin; go_must (refine ap_node1 _ rfl (.tmp 54) (.tmp 56) rfl w2.heap.size No _ 500 (flL 500) rfl HO4.out _ _ _ _ _ (by simp) rfl (by omega) (by omega) (fun _ h => h.elim) (fun _ h => h.elim) ?_); intro v5 w5 g1 g2 g3; have F5 : Fr No w w5 := F4.trans_new (((Fr.refl (fun j => (Value.slice A9 500 c9).ownBlock = some j) w4).alloc _).grown g2 (fun g e => .inl e)) (fun j e => .inr (Nat.le_trans hsw (HV4.out j e).1)); obtain ⟨A5, c5, rfl, H5⟩ := fl_row rfl g1 (hT.fr F5))
          | (go_at_call 10; (with_reducible refine H5.out.mono ?_); rintro e w6 ⟨rfl, hf6⟩; have F6 := F5.trans hf6)
          | (go_at_call 7; refine (awake_can _ (hT.fr F6)).mono ?_; rintro e w7 ⟨rfl, hf7⟩; have F7 := F6.trans hf7))
        go_ret
        exact ⟨by first | rfl | exact ret_bool (by simp), F7⟩
end Go.Proofs.YtlnjpocidfgloaaDoor
