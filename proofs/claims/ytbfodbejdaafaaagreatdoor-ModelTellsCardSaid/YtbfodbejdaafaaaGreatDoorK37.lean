/- The texts CanNest2, CanRt, joined. -/
import Derived.Test.YtbfodbejdaafaaaGreatDoorK36
/- What package canon does: nested; which rows may be written. -/
namespace Go.Proofs.YtbfodbejdaafaaaGreatDoor
open Go.RowKit
set_option maxHeartbeats 400000
set_option linter.unusedVariables false

theorem add_far (ad : Addr) (i j : Nat) (h : 0 < i) (e : i = j) : ad.add i = ⟨ad.block, ad.off + j, none⟩ := by
  subst e
  unfold Addr.add
  rw [if_neg (by omega)]
set_option maxRecDepth 20000 in
theorem c_nested_any (ls : List Nod) (A : Option Addr) (n c : Nat) (N : Nat → Prop) (w : World) (h : RdI 4 NodI w N A n c ls) (hn : n ≤ 1000000) (h0 : 0 < n) :
    Calls Tryz.prog 33 #[.slice A n c] w fun e w' => e = .returned (.bool (((ls.head?.map (·.parent)) == some (-1)) && nestP ls [0] 1 ls.tail)) ∧ Fr No w w' := by
  have hlen := h.len nod_ok (by omega)
  obtain ⟨ad, cs, rfl, ⟨X, Y, A1, n1, c1, rfl, hX, hY, hA1⟩, hc⟩ := h.at_ nod_ok (by omega) (i := 0) (by omega)
  have x0 := hc 0 _ rfl
  rw [show ad.add (0 * 4 + 0) = ad from rfl] at x0
  have hcap : n ≤ c ∧ c ≤ 9223372036854775807 := by
    obtain ⟨xs, hr, _⟩ := h.xs
    have := hr.cap; have := hr.max; simp only [maxLen] at this; omega
  have hhead : ls.head?.map (·.parent) = some (ls[0]'(by omega)).parent := by
    rw [List.head?_eq_getElem?, List.getElem?_eq_getElem (by omega)]; rfl
  rw [hhead]
  obtain ⟨q0, hq0⟩ : ∃ q, (ls[0]'(by omega)).parent = q := ⟨_, rfl⟩
  rw [hq0] at x0 ⊢
  have HR := Lib.hid h
  clear h hc hX hY hA1 hhead
  by_cases hq : q0 = -1
  · subst hq
    have hz : ((some (-1 : Int)) == some (-1)) = true := by decide
    rw [hz, Bool.true_and]
    have htl : nestP ls [0] 1 ls.tail = nestP ls [0] (0 + 1) (ls.drop (0 + 1)) := by rw [← List.drop_one]
    obtain ⟨V, hV⟩ : ∃ V, nestP ls [0] 1 ls.tail = V := ⟨_, rfl⟩
    rw [hV]
    rw [hV] at htl
    have HV := Lib.hid htl
    clear hq0 hz htl hV
    by_cases hc1 : c = 1
    · have hn1 : n = 1 := by omega
      have hnil : ls.drop (0 + 1) = [] := List.drop_eq_nil_of_le (by omega)
      have hVt : V = true := by rw [HV.out, hnil]; rfl
      subst hc1 hn1
      clear HV hnil
      go_enter Tryz.func33, Tryz.ntmps33
      go_wp2
      refine wp_loop_rounds 1 ?_
      rw [rounds_succ]
      go_wp2
      go_ret
      exact ⟨ret_bool hVt.symm, (Fr.refl _ _).alloc _⟩
    go_enter Tryz.func33, Tryz.ntmps33
    go_wp2
    go_loopw [3, 16] (fun ov iv wr => ∃ (k : Nat) (o : List Int), iv = .int .i64 (k : Int) ∧ k + 1 ≤ n ∧ wr.ownsRow w.heap.size 3 1 ov o.length (ints o) ∧ 0 < o.length ∧ o.length ≤ 32 ∧ (∀ x ∈ o, 0 ≤ x ∧ x ≤ (k : Int)) ∧ Fr No w wr ∧ V = nestP ls o (k + 1) (ls.drop (k + 1))) (fun _ iv _ => n - (intOf iv).toNat)
    case atStart => exact ⟨0, [0], rfl, h0, World.ownsRow_lit w _ 1 (Nat.le_refl _) (by decide) (by decide), by decide, by decide, by simp, (Fr.refl _ _).alloc _, HV.out⟩
    case round =>
      obtain ⟨k, o, rfl, hk, hown, ho0, ho32, hin, hfr, hst⟩ := hrel
      rcases Nat.lt_or_ge (k + 1) n with hlt | hge
      · have hltI : (k : Int) < (n : Int) - 1 := by omega
        have hkl : k + 1 < ls.length := by omega
        obtain ⟨b2, c2, rfl, hb2, hnc, hcl, hfz, -⟩ := own_open hown ho0
        obtain ⟨ad', cs', e', ⟨X', Y', A1', n1', c1', rfl, hX', hY', hA1'⟩, hc'⟩ := (HR.out.no nod_ok hfr).at_ nod_ok (by omega) (i := k + 1) hkl
        injection e' with e'
        subst e'
        have y0 := hc' 0 _ rfl
        have y1 := hc' 1 _ rfl
        have y2 := hc' 2 _ rfl
        have y3 := hc' 3 _ rfl
        rw [add_far ad _ _ (by omega : 0 < (k + 1) * 4 + 0) (by omega : (k + 1) * 4 + 0 = 4 + k * 4)] at y0
        rw [add_far ad _ _ (by omega : 0 < (k + 1) * 4 + 1) (by omega : (k + 1) * 4 + 1 = 4 + k * 4 + 1)] at y1
        rw [add_far ad _ _ (by omega : 0 < (k + 1) * 4 + 2) (by omega : (k + 1) * 4 + 2 = 4 + k * 4 + 2)] at y2
        rw [add_far ad _ _ (by omega : 0 < (k + 1) * 4 + 3) (by omega : (k + 1) * 4 + 3 = 4 + k * 4 + 3)] at y3
        simp only [← Nat.add_assoc] at y0 y1 y2 y3
        have hdrop : ls.drop (k + 1) = ls[k + 1] :: ls.drop (k + 1 + 1) := List.drop_eq_getElem_cons hkl
        rw [hdrop, nestP_cons] at hst
        have hbare : bareB ls ls[k + 1] = decide (textAt ls (ls[k + 1]).parent = []) := rfl
        rw [hbare] at hst
        generalize (ls[k + 1]).parent = p at *
        obtain ⟨A', c', e', hrd, -⟩ := Rd.of_own hown
        injection e' with e1 _ e2
        subst e1 e2
        have hix := fun u (hf : Fr No wr u) => c_idx_any o p (some ⟨b2, 0, none⟩) o.length c2 u (hrd.no hf) (by omega)
        have hsz := hfr.size
        have HFR := Lib.hid hfr; have HOWN := Lib.hid hown; have HIN := Lib.hid hin
        by_cases hp : p ∈ o
        · obtain ⟨m, hm, hne, hmp⟩ := in_first hp
          have hidx := idx_at hm hne hmp
          rw [hidx] at hix
          obtain ⟨hp0, hpk⟩ := hin p hp
          obtain ⟨q, rfl⟩ := Int.eq_ofNat_of_zero_le hp0
          have hql : q < ls.length := by omega
          obtain ⟨ad'', cs'', e'', ⟨X'', Y'', A1'', n1'', c1'', rfl, hX'', hY'', hA1''⟩, hc''⟩ := (HR.out.no nod_ok hfr).at_ nod_ok (by omega) (i := q) hql
          injection e'' with e''
          subst e''
          have z2 := hc'' 2 _ rfl
          rw [add_next ad] at z2
          obtain ⟨P, hP⟩ : ∃ P, ad.add (q * 4) = P := ⟨_, rfl⟩
          rw [hP] at z2
          have z2b : ∀ ob, (wr.alloc ob).cell? ⟨P.block, P.off + 2, none⟩ = some (.string Y'') := fun ob => ((Fr.refl No wr).alloc ob).cell z2 (fun x => x)
          clear z2
          have htx : textAt ls (q : Int) = Y''.data.toList := by
            unfold textAt
            rw [Int.toNat_natCast, List.getElem?_eq_getElem hql, hY'']
            rfl
          have hcon : o.contains (q : Int) = true := by rw [List.contains_iff_mem]; exact hp
          have hnx : nextO o (k + 1) (q : Int) = o.take (m + 1) ++ [((k + 1 : Nat) : Int)] := next_take hm hne hmp
          rw [hcon, htx, hnx, Bool.true_and] at hst
          have HST := Lib.hid hst; have HIX := Lib.hid hix
          clear hst hix hfr hown hin hX' hY' hA1' hc' hX'' hY'' hA1'' hc'' htx hcon hnx hp hidx hne hmp hdrop hbare hcl hfz hrd
          by_cases hte : Y''.data.toList = []
          · have hem : Y''.toList.isEmpty = true := by rw [ba_list, hte]; rfl
            rw [decide_eq_true hte, Bool.true_and] at HST
            have hpre := fun u (hf : Fr No wr u) => own_pre (m + 1) (by omega) (hf.own HOWN.out (fun _ _ x => x))
            have hlen2 : (o.take (m + 1) ++ [((k + 1 : Nat) : Int)]).length = m + 2 := by simp; omega
            rw [hlen2] at HST
            have HPRE := Lib.hid hpre
            clear hte hpre
            go_wp2_with (first
              | (go_at_call 57; refine (HIX.out _ ((Fr.refl _ wr).alloc _)).mono ?_; rintro e w1 ⟨rfl, rfl⟩)
              | (at_builtin; go_must (refine apI_one' _ rfl (.tmp 39) (.tmp 42) rfl w.heap.size (.slice (some ⟨b2, 0, none⟩) (m + 1) c2) (m + 1) (o.take (m + 1)) rfl (HPRE.out _ ((Fr.refl _ wr).alloc _)) ((k : Int) + 1) _ _ (by simp) rfl (by omega) (by simp; omega) ?_; intro v' w' ho' hg' hv'; obtain ⟨Av, cv, ev, -, -⟩ := Rd.of_own ho'; subst ev)))
            · have hle : ¬ m + 2 ≤ 32 := by omega
              rw [decide_eq_false hle, Bool.false_and] at HST
              have hf2 : Fr No w w' := HFR.out.trans_new ((((Fr.refl (fun j => j = b2) wr).alloc _).alloc _).grown hg' (fun g e => by injection e with e; exact .inl e.symm)) (fun j e => .inr (by rw [show j = b2 from e]; exact hb2))
              go_ret
              exact ⟨ret_bool HST.out.symm, hf2⟩
            · have hle : m + 2 ≤ 32 := by omega
              rw [decide_eq_true hle, Bool.true_and] at HST
              have hf2 : Fr No w w' := HFR.out.trans_new ((((Fr.refl (fun j => j = b2) wr).alloc _).alloc _).grown hg' (fun g e => by injection e with e; exact .inl e.symm)) (fun j e => .inr (by rw [show j = b2 from e]; exact hb2))
              go_roundw
              case rel =>
                refine ⟨k + 1, o.take (m + 1) ++ [((k + 1 : Nat) : Int)], by go_num, by omega, ?_, by rw [hlen2]; omega, by rw [hlen2]; exact hle, ?_, hf2, HST.out⟩
                · rw [hlen2]
                  exact ho'
                · intro x hx
                  rcases List.mem_append.1 hx with hx | hx
                  · have := HIN.out x (List.mem_of_mem_take hx)
                    omega
                  · simp at hx
                    omega
              case measure => simp [intOf]; omega
          · have hem : Y''.toList.isEmpty = false := by rw [ba_list]; cases hh : Y''.data.toList with
              | nil => exact absurd hh hte
              | cons => rfl
            rw [decide_eq_false hte, Bool.false_and] at HST
            clear hte
            go_wp2_with (go_at_call 57; refine (HIX.out _ ((Fr.refl _ wr).alloc _)).mono ?_; rintro e w1 ⟨rfl, rfl⟩)
            go_ret
            exact ⟨ret_bool HST.out.symm, HFR.out.alloc _⟩
        · have hidx : idxI o p = -1 := idx_none (fun x hx e => hp (by rw [← e]; exact hx))
          rw [hidx] at hix
          have hcon : o.contains p = false := by rw [← Bool.not_eq_true, List.contains_iff_mem]; exact hp
          rw [hcon, Bool.false_and] at hst
          have HST := Lib.hid hst; have HIX := Lib.hid hix
          clear hst hix hfr hown hin hX' hY' hA1' hc' hcon hp hidx hdrop hbare hcl hfz hrd
          go_wp2_with (go_at_call 57; refine (HIX.out _ ((Fr.refl _ wr).alloc _)).mono ?_; rintro e w1 ⟨rfl, rfl⟩)
          go_ret
          exact ⟨ret_bool HST.out.symm, HFR.out.alloc _⟩
      · have hke : k + 1 = n := by omega
        have hltI : ¬ (k : Int) < (n : Int) - 1 := by omega
        have hnil : ls.drop (k + 1) = [] := List.drop_eq_nil_of_le (by omega)
        rw [hnil] at hst
        have HST := Lib.hid hst; have HFR := Lib.hid hfr
        clear hst hfr hown hin
        go_wp2
        go_ret
        exact ⟨ret_bool HST.out.symm, HFR.out⟩
  · have hz : ((some q0) == some (-1)) = false := by simpa using hq
    have hz1 : (q0 != -1) = true := by simpa using hq
    rw [hz, Bool.false_and]
    clear hq0 hz hq
    go_enter Tryz.func33, Tryz.ntmps33
    go_wp2
    go_ret
    exact ⟨rfl, Fr.refl _ _⟩
end Go.Proofs.YtbfodbejdaafaaaGreatDoor
/- What package canon does: which rows may be written. -/
namespace Go.Proofs.YtbfodbejdaafaaaGreatDoor
open Go.RowKit
set_option maxHeartbeats 400000
set_option linter.unusedVariables false

theorem c_right_wide (ls : List Nod) (A : Option Addr) (n c : Nat) (N : Nat → Prop) (w : World) (h : RdI 4 NodI w N A n c ls) (hs : ∀ a ∈ ls, NodW a) (hn : n ≤ 1000000) (hT : Tabs w) :
    Calls Tryz.prog 20 #[.slice A n c] w fun e w' => e = .returned (.bool (rightN ls)) ∧ Fr No w w' := by
  have hlen := h.len nod_ok (by omega)
  have hr : rightN ls = (decide (0 < n) && (decide (n ≤ 500) && ((((ls.head?.map (·.parent)) == some (-1)) && nestP ls [0] 1 ls.tail) && ls.all soundB))) := by
    unfold rightN
    rw [hlen]
    ac_rfl
  rw [hr]
  have hne := fun (h0 : 0 < n) => c_nested_any ls A n c N w h hn h0
  have hev := fun u (hf : Fr No w u) (hu : Tabs u) => c_every_node ls A n c N u (h.no nod_ok hf) hs (by omega) hu
  generalize (((ls.head?.map (·.parent)) == some (-1)) && nestP ls [0] 1 ls.tail) = p at *
  generalize ls.all soundB = q at *
  have HN := Lib.hid hne; have HE := Lib.hid hev
  clear h hs hr hne hev hlen
  by_cases h0 : n = 0
  · subst h0
    go_enter Tryz.func20, Tryz.ntmps20
    go_wp2
    go_ret
    exact ⟨rfl, Fr.refl _ _⟩
  have e0 : decide (0 < n) = true := decide_eq_true (by omega)
  have e1 : ((n : Int) == 0) = false := by rw [beq_eq_false_iff_ne]; omega
  rw [e0, Bool.true_and]
  by_cases h5 : n ≤ 500
  · have e2 : ¬ (n : Int) > 500 := by omega
    have HN := Lib.hid (HN.out (by omega))
    rw [decide_eq_true h5, Bool.true_and]
    clear e0 h0 hn h5
    cases p with
    | false =>
      go_enter Tryz.func20, Tryz.ntmps20
      go_wp2_with (go_at_call 33; refine HN.out.mono ?_; rintro e w1 ⟨rfl, hf1⟩)
      go_ret
      exact ⟨rfl, hf1⟩
    | true =>
      go_enter Tryz.func20, Tryz.ntmps20
      go_wp2_with (first
        | (go_at_call 33; refine HN.out.mono ?_; rintro e w1 ⟨rfl, hf1⟩)
        | (go_at_call 34; refine (HE.out _ hf1 (hT.fr hf1)).mono ?_; rintro e w2 ⟨rfl, hf2⟩))
      go_ret
      exact ⟨ret_bool (by simp), hf1.trans hf2⟩
  · have e2 : (n : Int) > 500 := by omega
    rw [decide_eq_false h5, Bool.false_and]
    clear e0 h0 hn h5
    go_enter Tryz.func20, Tryz.ntmps20
    go_wp2
    go_ret
    exact ⟨rfl, Fr.refl _ _⟩
theorem c_right_any (ls : List Nod) (A : Option Addr) (n c : Nat) (N : Nat → Prop) (w : World) (h : RdI 4 NodI w N A n c ls) (hs : ∀ a ∈ ls, NodS a) (hn : n ≤ 1000000) (hT : Tabs w) :
    Calls Tryz.prog 20 #[.slice A n c] w fun e w' => e = .returned (.bool (rightN ls)) ∧ Fr No w w' :=
  c_right_wide ls A n c N w h (fun a ha => (hs a ha).wide) hn hT
end Go.Proofs.YtbfodbejdaafaaaGreatDoor
