/- The texts RefCan3, joined. -/
import Derived.Test.YtbfodbejdaafaaaGreatDoorK28
/- The statements' own answer to which rows may be written. -/
namespace Go.Proofs.YtbfodbejdaafaaaGreatDoor
open Go.RowKit
set_option maxHeartbeats 400000
set_option linter.unusedVariables false

theorem all_tail {l : List Nod} (p : Nod → Bool) {i : Nat} (h1 : 1 ≤ i) (h : i < l.length) : (l.tail.take i).all p = ((l.tail.take (i - 1)).all p && p l[i]) := by
  have e : l.tail.take i = l.tail.take (i - 1) ++ [l[i]] := by
    obtain ⟨k, rfl⟩ : ∃ k, i = k + 1 := ⟨i - 1, by omega⟩
    rw [Nat.add_sub_cancel, List.take_succ_eq_append_getElem (by rw [List.length_tail]; omega)]
    simp
  rw [e, List.all_append]
  simp
theorem tail_false {l : List Nod} {p : Nod → Bool} {i : Nat} (h1 : 1 ≤ i) (h : i < l.length) (hp : p l[i] = false) : l.tail.all p = false := by
  rw [List.all_eq_false]
  refine ⟨l[i], ?_, by rw [hp]; simp⟩
  obtain ⟨k, rfl⟩ : ∃ k, i = k + 1 := ⟨i - 1, by omega⟩
  have : l[k + 1] = l.tail[k]'(by rw [List.length_tail]; omega) := by simp
  rw [this]
  exact List.getElem_mem _
theorem oks_false {l : List Nod} {i : Nat} (h : i < l.length) (hf : okB l i l[i] = false) : oksB l l.length = false := by
  rw [← Bool.not_eq_true, oks_at _ (Nat.le_refl _)]
  intro ha
  rw [ha i h h] at hf
  cases hf
theorem valid_ahead {l : List Nod} (h0 : (l.head?.map (·.parent)) = some (-1)) {i : Nat} (h1 : 1 ≤ i) (hi : i < l.length) (h : oksB l i = true) : Valid l (i - 1) := by
  cases l with
  | nil => cases h0
  | cons n0 r =>
    simp only [List.head?_cons, Option.map_some, Option.some.injEq] at h0
    simp only [List.length_cons] at hi
    exact oks_valid h0 (by omega) (by rw [Nat.sub_add_cancel h1]; exact h)
theorem par_ahead {l : List Nod} {i : Nat} (h1 : 1 ≤ i) (hi : i < l.length) (h : oksB l l.length = true) : 0 ≤ (l[i]).parent ∧ (l[i]).parent < (i : Int) := by
  have := (oks_at _ (Nat.le_refl _)).1 h i hi hi
  unfold okB parOk at this
  simp only [Bool.and_eq_true, Bool.or_eq_true, decide_eq_true_eq] at this
  obtain ⟨h2 | ⟨h2, h3, _⟩, _⟩ := this
  · omega
  · exact ⟨h2, h3⟩
attribute [local irreducible] yielded in
set_option maxHeartbeats 4000000 in
set_option maxRecDepth 20000 in
theorem r_right_wide (ls : List Nod) (A : Option Addr) (n c : Nat) (N : Nat → Prop) (w : World) (h : RdI 4 NodI w N A n c ls) (hs : ∀ a ∈ ls, NodW a) (hn : n ≤ 1000000) :
    Calls Tryz.prog 22 #[.slice A n c] w fun e w' => e = .returned (.bool (rightN ls)) ∧ Fr No w w' := by
  rw [← ref_rightN]
  have hlen := h.len nod_ok (by omega)
  have hrf : refB ls = (decide (0 < n) && (decide (n ≤ 500) && (((ls.head?.map (·.parent)) == some (-1)) && (oksB ls n && ls.tail.all (bareB ls))))) := by unfold refB; rw [hlen]
  rw [hrf]
  clear hrf
  by_cases h0 : n = 0
  · subst h0
    clear h hs
    go_enter Tryz.func22, Tryz.ntmps22
    go_wp2
    go_ret
    exact ⟨rfl, Fr.refl _ _⟩
  have e0 : decide (0 < n) = true := decide_eq_true (by omega)
  have e1 : ((n : Int) == 0) = false := by rw [beq_eq_false_iff_ne]; omega
  rw [e0, Bool.true_and]
  by_cases h5 : n ≤ 500
  · have e2 : ¬ (n : Int) > 500 := by omega
    rw [decide_eq_true h5, Bool.true_and]
    have hl0 : 0 < ls.length := by omega
    have hhead : ls.head?.map (·.parent) = some (ls[0]'hl0).parent := by rw [List.head?_eq_getElem?, List.getElem?_eq_getElem hl0]; rfl
    obtain ⟨ad, cs, rfl, ⟨X, Y, A1, n1, c1, rfl, hX, hY, hA1⟩, hc⟩ := h.at_ nod_ok (by omega) (i := 0) hl0
    have x0 := hc 0 _ rfl
    rw [show ad.add (0 * 4 + 0) = ad from rfl] at x0
    by_cases hq : (ls[0]'hl0).parent = -1
    · rw [hq] at hhead x0
      have hz : ((some (-1 : Int)) == some (-1)) = true := by decide
      rw [hhead, hz, Bool.true_and]
      obtain ⟨V, hV⟩ : ∃ V, (oksB ls n && ls.tail.all (bareB ls)) = V := ⟨_, rfl⟩
      rw [hV]
      have HVV := Lib.hid hV
      have e3 : (0 : Int) < (n : Int) := by omega
      have HR := Lib.hid h; have HS := Lib.hid hs; have HH := Lib.hid hhead; have HL := Lib.hid hlen
      clear h hs hc hX hY hA1 hhead hq e0 hz hl0 hV
      go_enter Tryz.func22, Tryz.ntmps22
      go_wp2
      go_loopw [3] (fun iv wr => ∃ i : Nat, iv = .int .i64 (i : Int) ∧ i ≤ n ∧ Fr No w wr ∧ oksB ls i = true) (fun iv _ => n - (intOf iv).toNat)
      case atStart => exact ⟨0, rfl, Nat.zero_le _, Fr.refl _ _, rfl⟩
      case round =>
        obtain ⟨i, rfl, hi, hfr, hok⟩ := hrel
        rcases Nat.lt_or_ge i n with hlt | hge
        · have hltI : (i : Int) < (n : Int) := by omega
          have hil : i < ls.length := by rw [HL.out]; exact hlt
          obtain ⟨ad2, cs2, ea, ⟨X, Y, A1, n1, c1, rfl, hX, hY, hA1⟩, hc⟩ := (HR.out.no nod_ok hfr).at_ nod_ok (by omega) (i := i) hil
          injection ea with ea
          subst ea
          clear x0
          have x0 := hc 0 _ rfl
          have x1 := hc 1 _ rfl
          have x2 := hc 2 _ rfl
          have x3 := hc 3 _ rfl
          rw [add_next ad] at x1 x2 x3
          obtain ⟨P, hP⟩ : ∃ P, ad.add (i * 4) = P := ⟨_, rfl⟩
          rw [Nat.add_zero, hP] at x0
          rw [hP] at x1 x2 x3
          replace x1 : wr.cell? ⟨P.block, P.off + 1, none⟩ = some (.string X) := x1
          replace x2 : wr.cell? ⟨P.block, P.off + 2, none⟩ = some (.string Y) := x2
          replace x3 : wr.cell? ⟨P.block, P.off + 3, none⟩ = some (.slice A1 n1 c1) := x3
          have hsm := HS.out _ (List.getElem_mem hil)
          have hokn : okB ls i ls[i] = ((decide (i = 0) || parOk ls i (ls[i]).parent) && (nameOk X.data.toList && (utf8B Y.data.toList && (attrsB (ls[i]).attrs && decide ((chainF ls 34 (i : Int)).length ≤ 32))))) := by rw [hX, hY]; rfl
          have hno := fun h : okB ls i ls[i] = false => show V = false by rw [← HVV.out, ← HL.out, oks_false hil h, Bool.false_and]
          have hyes := fun h : okB ls i ls[i] = true => show oksB ls (i + 1) = true by rw [oks_succ ls i hil, hok, h]; rfl
          have hnm := fun u => r_Name_any X u (by rw [← size_list, hX]; exact hsm.name)
          have hut := fun u => ref_utf8_any Y u (by rw [← size_list, hY]; have := hsm.text; omega)
          have hm : n1 ≤ 140737488355328 := by rw [← hA1.len attr_ok (by omega)]; exact hsm.many
          have hat := fun u (hf : Fr No wr u) => r_attrs_any (ls[i]).attrs A1 n1 c1 N u (hA1.no attr_ok hf) hsm.attrs hm
          have hdp := fun u (hf : Fr No wr u) => r_depth_any ls (some ad) n c (i : Int) N u ((HR.out.no nod_ok hfr).no nod_ok hf) (by omega)
          have hop := fun (h1 : 1 ≤ i) u (hf : Fr No wr u) => r_opens_any ls (some ad) n c (ls[i]).parent (i - 1) N u ((HR.out.no nod_ok hfr).no nod_ok hf) (by omega) (valid_ahead HH.out h1 hil hok) (by omega)
          have hpk : parOk ls i (ls[i]).parent = (decide (0 ≤ (ls[i]).parent) && (decide ((ls[i]).parent < (i : Int)) && (chainL ls (i - 1)).contains (ls[i]).parent)) := rfl
          have hid : ((i - 1 : Nat) : Int) = (i : Int) - 1 ∨ i = 0 := by omega
          generalize okB ls i ls[i] = okv at *
          generalize (ls[i]).parent = p at *
          generalize (ls[i]).attrs = at_ at *
          generalize (chainL ls (i - 1)).contains p = cb at *
          generalize (chainF ls 34 (i : Int)).length = D at *
          generalize nameOk X.data.toList = q1 at *
          generalize utf8B Y.data.toList = q2 at *
          generalize attrsB at_ = q3 at *
          generalize parOk ls i p = pk at *
          have HN := Lib.hid hnm; have HU := Lib.hid hut; have HAT := Lib.hid hat; have HD := Lib.hid hdp; have HNO := Lib.hid hno; have HYES := Lib.hid hyes; have HFR := Lib.hid hfr
          clear hnm hut hat hdp hno hyes hfr hc hX hY hA1 hsm hm hok
          by_cases hi0 : i = 0
          · have hi0I : ¬ (i : Int) > 0 := by omega
            rw [decide_eq_true hi0, Bool.true_or, Bool.true_and] at hokn
            have HOK := Lib.hid hokn
            clear hokn hpk hop hid hi0
            cases q1 with
            | false =>
              go_wp2_with (first
                | (go_at_call 40; refine (HOP.out _ ((Fr.refl No wr).alloc _)).mono ?_; rintro e w1 ⟨rfl, rfl⟩)
                | (go_at_call 41; refine (HN.out _).mono ?_; rintro e w2 ⟨rfl, hd2⟩; have B2 := (Bk.new wr _ _).no hd2.fr; have v2 : w2.cell? ⟨wr.heap.size, 2, none⟩ = some (.string Y) := B2.cell 2; have v3 : w2.cell? ⟨wr.heap.size, 3, none⟩ = some (.slice A1 n1 c1) := B2.cell 3; have F2 : Fr No wr w2 := ((Fr.refl No wr).alloc _).dr hd2; clear B2)
                | (go_at_call 29; refine (HU.out _).mono ?_; rintro e w3 ⟨rfl, rfl⟩)
                | (go_at_call 42; refine (HAT.out _ F2).mono ?_; rintro e w4 ⟨rfl, hf4⟩; have F4 := F2.trans hf4)
                | (go_at_call 43; refine (HD.out _ F4).mono ?_; rintro e w5 ⟨rfl, rfl⟩))
              go_ret
              exact ⟨ret_bool (HNO.out (by rw [HOK.out]; simp)).symm, HFR.out.trans F2⟩
            | true =>
              cases q2 with
              | false =>
                go_wp2_with (first
                  | (go_at_call 40; refine (HOP.out _ ((Fr.refl No wr).alloc _)).mono ?_; rintro e w1 ⟨rfl, rfl⟩)
                  | (go_at_call 41; refine (HN.out _).mono ?_; rintro e w2 ⟨rfl, hd2⟩; have B2 := (Bk.new wr _ _).no hd2.fr; have v2 : w2.cell? ⟨wr.heap.size, 2, none⟩ = some (.string Y) := B2.cell 2; have v3 : w2.cell? ⟨wr.heap.size, 3, none⟩ = some (.slice A1 n1 c1) := B2.cell 3; have F2 : Fr No wr w2 := ((Fr.refl No wr).alloc _).dr hd2; clear B2)
                  | (go_at_call 29; refine (HU.out _).mono ?_; rintro e w3 ⟨rfl, rfl⟩)
                  | (go_at_call 42; refine (HAT.out _ F2).mono ?_; rintro e w4 ⟨rfl, hf4⟩; have F4 := F2.trans hf4)
                  | (go_at_call 43; refine (HD.out _ F4).mono ?_; rintro e w5 ⟨rfl, rfl⟩))
                go_ret
                exact ⟨ret_bool (HNO.out (by rw [HOK.out]; simp)).symm, HFR.out.trans F2⟩
              | true =>
                cases q3 with
                | false =>
                  go_wp2_with (first
                    | (go_at_call 40; refine (HOP.out _ ((Fr.refl No wr).alloc _)).mono ?_; rintro e w1 ⟨rfl, rfl⟩)
                    | (go_at_call 41; refine (HN.out _).mono ?_; rintro e w2 ⟨rfl, hd2⟩; have B2 := (Bk.new wr _ _).no hd2.fr; have v2 : w2.cell? ⟨wr.heap.size, 2, none⟩ = some (.string Y) := B2.cell 2; have v3 : w2.cell? ⟨wr.heap.size, 3, none⟩ = some (.slice A1 n1 c1) := B2.cell 3; have F2 : Fr No wr w2 := ((Fr.refl No wr).alloc _).dr hd2; clear B2)
                    | (go_at_call 29; refine (HU.out _).mono ?_; rintro e w3 ⟨rfl, rfl⟩)
                    | (go_at_call 42; refine (HAT.out _ F2).mono ?_; rintro e w4 ⟨rfl, hf4⟩; have F4 := F2.trans hf4)
                    | (go_at_call 43; refine (HD.out _ F4).mono ?_; rintro e w5 ⟨rfl, rfl⟩))
                  go_ret
                  exact ⟨ret_bool (HNO.out (by rw [HOK.out]; simp)).symm, HFR.out.trans F4⟩
                | true =>
                  by_cases hD : D ≤ 32
                  · have hDI : ¬ (D : Int) > 32 := by omega
                    have HOK := Lib.hid (show okv = true by rw [HOK.out, decide_eq_true hD]; rfl)
                    clear hD
                    go_wp2_with (first
                      | (go_at_call 40; refine (HOP.out _ ((Fr.refl No wr).alloc _)).mono ?_; rintro e w1 ⟨rfl, rfl⟩)
                      | (go_at_call 41; refine (HN.out _).mono ?_; rintro e w2 ⟨rfl, hd2⟩; have B2 := (Bk.new wr _ _).no hd2.fr; have v2 : w2.cell? ⟨wr.heap.size, 2, none⟩ = some (.string Y) := B2.cell 2; have v3 : w2.cell? ⟨wr.heap.size, 3, none⟩ = some (.slice A1 n1 c1) := B2.cell 3; have F2 : Fr No wr w2 := ((Fr.refl No wr).alloc _).dr hd2; clear B2)
                      | (go_at_call 29; refine (HU.out _).mono ?_; rintro e w3 ⟨rfl, rfl⟩)
                      | (go_at_call 42; refine (HAT.out _ F2).mono ?_; rintro e w4 ⟨rfl, hf4⟩; have F4 := F2.trans hf4)
                      | (go_at_call 43; refine (HD.out _ F4).mono ?_; rintro e w5 ⟨rfl, rfl⟩))
                    go_roundw
                    case rel => exact ⟨i + 1, by go_num, hlt, HFR.out.trans F4, HYES.out HOK.out⟩
                    case measure => simp [intOf]; omega
                  · have hDI : (D : Int) > 32 := by omega
                    have HOK := Lib.hid (show okv = false by rw [HOK.out, decide_eq_false hD]; rfl)
                    clear hD
                    go_wp2_with (first
                      | (go_at_call 40; refine (HOP.out _ ((Fr.refl No wr).alloc _)).mono ?_; rintro e w1 ⟨rfl, rfl⟩)
                      | (go_at_call 41; refine (HN.out _).mono ?_; rintro e w2 ⟨rfl, hd2⟩; have B2 := (Bk.new wr _ _).no hd2.fr; have v2 : w2.cell? ⟨wr.heap.size, 2, none⟩ = some (.string Y) := B2.cell 2; have v3 : w2.cell? ⟨wr.heap.size, 3, none⟩ = some (.slice A1 n1 c1) := B2.cell 3; have F2 : Fr No wr w2 := ((Fr.refl No wr).alloc _).dr hd2; clear B2)
                      | (go_at_call 29; refine (HU.out _).mono ?_; rintro e w3 ⟨rfl, rfl⟩)
                      | (go_at_call 42; refine (HAT.out _ F2).mono ?_; rintro e w4 ⟨rfl, hf4⟩; have F4 := F2.trans hf4)
                      | (go_at_call 43; refine (HD.out _ F4).mono ?_; rintro e w5 ⟨rfl, rfl⟩))
                    go_ret
                    exact ⟨ret_bool (HNO.out HOK.out).symm, HFR.out.trans F4⟩
          have hi0I : (i : Int) > 0 := by omega
          rw [decide_eq_false hi0, Bool.false_or] at hokn
          by_cases hp0 : 0 ≤ p
          · have hp0I : ¬ p < 0 := by omega
            by_cases hpi : p < (i : Int)
            · have hp0I : ¬ p < 0 := by omega
              have hpiI : ¬ p ≥ (i : Int) := by omega
              rw [decide_eq_true hp0, decide_eq_true hpi, Bool.true_and, Bool.true_and] at hpk
              rw [hpk] at hokn
              have hop2 := hop (by omega)
              rw [show ((i - 1 : Nat) : Int) = (i : Int) - 1 from by omega] at hop2
              have HOP := Lib.hid hop2
              clear hop hop2 hpk hid hi0
              cases cb with
              | false =>
                have HOK := Lib.hid hokn
                clear hokn
                go_wp2_with (first
                  | (go_at_call 40; refine (HOP.out _ ((Fr.refl No wr).alloc _)).mono ?_; rintro e w1 ⟨rfl, rfl⟩)
                  | (go_at_call 41; refine (HN.out _).mono ?_; rintro e w2 ⟨rfl, hd2⟩; have B2 := (Bk.new wr _ _).no hd2.fr; have v2 : w2.cell? ⟨wr.heap.size, 2, none⟩ = some (.string Y) := B2.cell 2; have v3 : w2.cell? ⟨wr.heap.size, 3, none⟩ = some (.slice A1 n1 c1) := B2.cell 3; have F2 : Fr No wr w2 := ((Fr.refl No wr).alloc _).dr hd2; clear B2)
                  | (go_at_call 29; refine (HU.out _).mono ?_; rintro e w3 ⟨rfl, rfl⟩)
                  | (go_at_call 42; refine (HAT.out _ F2).mono ?_; rintro e w4 ⟨rfl, hf4⟩; have F4 := F2.trans hf4)
                  | (go_at_call 43; refine (HD.out _ F4).mono ?_; rintro e w5 ⟨rfl, rfl⟩))
                go_ret
                exact ⟨ret_bool (HNO.out (by rw [HOK.out]; simp)).symm, HFR.out.alloc _⟩
              | true =>
                rw [Bool.true_and] at hokn
                have HOK := Lib.hid hokn
                clear hokn
                cases q1 with
                | false =>
                  go_wp2_with (first
                    | (go_at_call 40; refine (HOP.out _ ((Fr.refl No wr).alloc _)).mono ?_; rintro e w1 ⟨rfl, rfl⟩)
                    | (go_at_call 41; refine (HN.out _).mono ?_; rintro e w2 ⟨rfl, hd2⟩; have B2 := (Bk.new wr _ _).no hd2.fr; have v2 : w2.cell? ⟨wr.heap.size, 2, none⟩ = some (.string Y) := B2.cell 2; have v3 : w2.cell? ⟨wr.heap.size, 3, none⟩ = some (.slice A1 n1 c1) := B2.cell 3; have F2 : Fr No wr w2 := ((Fr.refl No wr).alloc _).dr hd2; clear B2)
                    | (go_at_call 29; refine (HU.out _).mono ?_; rintro e w3 ⟨rfl, rfl⟩)
                    | (go_at_call 42; refine (HAT.out _ F2).mono ?_; rintro e w4 ⟨rfl, hf4⟩; have F4 := F2.trans hf4)
                    | (go_at_call 43; refine (HD.out _ F4).mono ?_; rintro e w5 ⟨rfl, rfl⟩))
                  go_ret
                  exact ⟨ret_bool (HNO.out (by rw [HOK.out]; simp)).symm, HFR.out.trans F2⟩
                | true =>
                  cases q2 with
                  | false =>
                    go_wp2_with (first
                      | (go_at_call 40; refine (HOP.out _ ((Fr.refl No wr).alloc _)).mono ?_; rintro e w1 ⟨rfl, rfl⟩)
                      | (go_at_call 41; refine (HN.out _).mono ?_; rintro e w2 ⟨rfl, hd2⟩; have B2 := (Bk.new wr _ _).no hd2.fr; have v2 : w2.cell? ⟨wr.heap.size, 2, none⟩ = some (.string Y) := B2.cell 2; have v3 : w2.cell? ⟨wr.heap.size, 3, none⟩ = some (.slice A1 n1 c1) := B2.cell 3; have F2 : Fr No wr w2 := ((Fr.refl No wr).alloc _).dr hd2; clear B2)
                      | (go_at_call 29; refine (HU.out _).mono ?_; rintro e w3 ⟨rfl, rfl⟩)
                      | (go_at_call 42; refine (HAT.out _ F2).mono ?_; rintro e w4 ⟨rfl, hf4⟩; have F4 := F2.trans hf4)
                      | (go_at_call 43; refine (HD.out _ F4).mono ?_; rintro e w5 ⟨rfl, rfl⟩))
                    go_ret
                    exact ⟨ret_bool (HNO.out (by rw [HOK.out]; simp)).symm, HFR.out.trans F2⟩
                  | true =>
                    cases q3 with
                    | false =>
                      go_wp2_with (first
                        | (go_at_call 40; refine (HOP.out _ ((Fr.refl No wr).alloc _)).mono ?_; rintro e w1 ⟨rfl, rfl⟩)
                        | (go_at_call 41; refine (HN.out _).mono ?_; rintro e w2 ⟨rfl, hd2⟩; have B2 := (Bk.new wr _ _).no hd2.fr; have v2 : w2.cell? ⟨wr.heap.size, 2, none⟩ = some (.string Y) := B2.cell 2; have v3 : w2.cell? ⟨wr.heap.size, 3, none⟩ = some (.slice A1 n1 c1) := B2.cell 3; have F2 : Fr No wr w2 := ((Fr.refl No wr).alloc _).dr hd2; clear B2)
                        | (go_at_call 29; refine (HU.out _).mono ?_; rintro e w3 ⟨rfl, rfl⟩)
                        | (go_at_call 42; refine (HAT.out _ F2).mono ?_; rintro e w4 ⟨rfl, hf4⟩; have F4 := F2.trans hf4)
                        | (go_at_call 43; refine (HD.out _ F4).mono ?_; rintro e w5 ⟨rfl, rfl⟩))
                      go_ret
                      exact ⟨ret_bool (HNO.out (by rw [HOK.out]; simp)).symm, HFR.out.trans F4⟩
                    | true =>
                      by_cases hD : D ≤ 32
                      · have hDI : ¬ (D : Int) > 32 := by omega
                        have HOK := Lib.hid (show okv = true by rw [HOK.out, decide_eq_true hD]; rfl)
                        clear hD
                        go_wp2_with (first
                          | (go_at_call 40; refine (HOP.out _ ((Fr.refl No wr).alloc _)).mono ?_; rintro e w1 ⟨rfl, rfl⟩)
                          | (go_at_call 41; refine (HN.out _).mono ?_; rintro e w2 ⟨rfl, hd2⟩; have B2 := (Bk.new wr _ _).no hd2.fr; have v2 : w2.cell? ⟨wr.heap.size, 2, none⟩ = some (.string Y) := B2.cell 2; have v3 : w2.cell? ⟨wr.heap.size, 3, none⟩ = some (.slice A1 n1 c1) := B2.cell 3; have F2 : Fr No wr w2 := ((Fr.refl No wr).alloc _).dr hd2; clear B2)
                          | (go_at_call 29; refine (HU.out _).mono ?_; rintro e w3 ⟨rfl, rfl⟩)
                          | (go_at_call 42; refine (HAT.out _ F2).mono ?_; rintro e w4 ⟨rfl, hf4⟩; have F4 := F2.trans hf4)
                          | (go_at_call 43; refine (HD.out _ F4).mono ?_; rintro e w5 ⟨rfl, rfl⟩))
                        go_roundw
                        case rel => exact ⟨i + 1, by go_num, hlt, HFR.out.trans F4, HYES.out HOK.out⟩
                        case measure => simp [intOf]; omega
                      · have hDI : (D : Int) > 32 := by omega
                        have HOK := Lib.hid (show okv = false by rw [HOK.out, decide_eq_false hD]; rfl)
                        clear hD
                        go_wp2_with (first
                          | (go_at_call 40; refine (HOP.out _ ((Fr.refl No wr).alloc _)).mono ?_; rintro e w1 ⟨rfl, rfl⟩)
                          | (go_at_call 41; refine (HN.out _).mono ?_; rintro e w2 ⟨rfl, hd2⟩; have B2 := (Bk.new wr _ _).no hd2.fr; have v2 : w2.cell? ⟨wr.heap.size, 2, none⟩ = some (.string Y) := B2.cell 2; have v3 : w2.cell? ⟨wr.heap.size, 3, none⟩ = some (.slice A1 n1 c1) := B2.cell 3; have F2 : Fr No wr w2 := ((Fr.refl No wr).alloc _).dr hd2; clear B2)
                          | (go_at_call 29; refine (HU.out _).mono ?_; rintro e w3 ⟨rfl, rfl⟩)
                          | (go_at_call 42; refine (HAT.out _ F2).mono ?_; rintro e w4 ⟨rfl, hf4⟩; have F4 := F2.trans hf4)
                          | (go_at_call 43; refine (HD.out _ F4).mono ?_; rintro e w5 ⟨rfl, rfl⟩))
                        go_ret
                        exact ⟨ret_bool (HNO.out HOK.out).symm, HFR.out.trans F4⟩
            · have hpiI : p ≥ (i : Int) := by omega
              rw [decide_eq_false hpi, Bool.false_and, Bool.and_false] at hpk
              rw [hpk, Bool.false_and] at hokn
              have HOK := Lib.hid hokn
              clear hokn hpk hop hid hi0 hpi
              go_wp2
              go_ret
              exact ⟨ret_bool (HNO.out HOK.out).symm, HFR.out.alloc _⟩
          · have hp0I : p < 0 := by omega
            rw [decide_eq_false hp0, Bool.false_and] at hpk
            rw [hpk, Bool.false_and] at hokn
            have HOK := Lib.hid hokn
            clear hokn hpk hop hid hi0 hp0
            go_wp2
            go_ret
            exact ⟨ret_bool (HNO.out HOK.out).symm, HFR.out.alloc _⟩
        · have hie : i = n := by omega
          subst hie
          have hVt : V = ls.tail.all (bareB ls) := by rw [← HVV.out, hok, Bool.true_and]
          have HVT := Lib.hid hVt
          have hpa := fun k (h1 : 1 ≤ k) (h2 : k < ls.length) => par_ahead h1 h2 (by rw [HL.out]; exact hok)
          have HFR := Lib.hid hfr; have HPA := Lib.hid hpa
          clear hfr hok hpa x0 hge hVt
          go_wp2
          go_loopw [5] (fun kv wr => ∃ k : Nat, kv = .int .i64 (k : Int) ∧ 1 ≤ k ∧ k ≤ i ∧ Fr No w wr ∧ (ls.tail.take (k - 1)).all (bareB ls) = true) (fun kv _ => i - (intOf kv).toNat)
          case atStart => exact ⟨1, rfl, Nat.le_refl _, by omega, HFR.out, rfl⟩
          case round =>
            obtain ⟨k, rfl, hk1, hk, hfk, hall⟩ := hrel
            rcases Nat.lt_or_ge k i with hki | hki
            · have hkiI : (k : Int) < (i : Int) := by omega
              have hkl : k < ls.length := by rw [HL.out]; exact hki
              obtain ⟨ad2, cs2, ea, ⟨X, Y, A1, n1, c1, rfl, hX, hY, hA1⟩, hc⟩ := (HR.out.no nod_ok hfk).at_ nod_ok (by omega) (i := k) hkl
              injection ea with ea
              subst ea
              have x0 := hc 0 _ rfl
              obtain ⟨P, hP⟩ : ∃ P, ad.add (k * 4) = P := ⟨_, rfl⟩
              rw [Nat.add_zero, hP] at x0
              obtain ⟨hp0, hpk⟩ := HPA.out k hk1 hkl
              have hbare : bareB ls ls[k] = decide (textAt ls (ls[k]).parent = []) := rfl
              have hat := all_tail (bareB ls) hk1 hkl
              have hno := fun h : bareB ls ls[k] = false => tail_false hk1 hkl h
              rw [hall, Bool.true_and] at hat
              generalize bareB ls ls[k] = bv at *
              generalize (ls[k]).parent = p at *
              obtain ⟨q, rfl⟩ := Int.eq_ofNat_of_zero_le hp0
              have hql : q < ls.length := by omega
              obtain ⟨ad3, cs3, eb, ⟨X3, Y3, A3, n3, c3, rfl, hX3, hY3, hA3⟩, hc3⟩ := (HR.out.no nod_ok hfk).at_ nod_ok (by omega) (i := q) hql
              injection eb with eb
              subst eb
              have z2 := hc3 2 _ rfl
              rw [add_next ad] at z2
              obtain ⟨P3, hP3⟩ : ∃ P3, ad.add (q * 4) = P3 := ⟨_, rfl⟩
              rw [hP3] at z2
              replace z2 : wr.cell? ⟨P3.block, P3.off + 2, none⟩ = some (.string Y3) := z2
              have htx : textAt ls (q : Int) = Y3.data.toList := by
                unfold textAt
                rw [Int.toNat_natCast, List.getElem?_eq_getElem hql, hY3]
                rfl
              have hqi : (q : Int) < (i : Int) := by omega
              rw [htx] at hbare
              have HAL := Lib.hid hat; have HNO := Lib.hid hno; have HFK := Lib.hid hfk
              by_cases hte : Y3.data.toList = []
              · have hem : Y3.toList.isEmpty = true := by rw [ba_list, hte]; rfl
                rw [decide_eq_true hte] at hbare
                subst hbare
                clear hat hno hfk hall hte hc hX hY hA1 hc3 hX3 hY3 hA3 htx
                go_wp2
                go_roundw
                case rel => exact ⟨k + 1, by go_num, by omega, hki, HFK.out, HAL.out⟩
                case measure => simp [intOf]; omega
              · have hem : Y3.toList.isEmpty = false := by rw [ba_list]; cases hh : Y3.data.toList with
                  | nil => exact absurd hh hte
                  | cons => rfl
                rw [decide_eq_false hte] at hbare
                subst hbare
                clear hat hfk hall hte hc hX hY hA1 hc3 hX3 hY3 hA3 htx hno
                go_wp2
                go_ret
                exact ⟨ret_bool (by rw [HVT.out, HNO.out (by trivial)]), HFK.out⟩
            · have hke : k = i := by omega
              subst hke
              have hta : ls.tail.all (bareB ls) = true := by
                rw [← hall, List.take_of_length_le (by rw [List.length_tail, HL.out]; exact Nat.le_refl _)]
              have HT := Lib.hid hta; have HFK := Lib.hid hfk
              clear hta hfk hall
              go_wp2
              go_ret
              exact ⟨ret_bool (by rw [HVT.out, HT.out]), HFK.out⟩
    · have hz : ((some (ls[0]'hl0).parent) == some (-1)) = false := by simpa using hq
      have hz1 : ((ls[0]'hl0).parent != -1) = true := by simpa using hq
      rw [hhead, hz, Bool.false_and]
      generalize (ls[0]'hl0).parent = q0 at *
      clear h hs hc hX hY hA1 hhead hq e0 hz
      go_enter Tryz.func22, Tryz.ntmps22
      go_wp2
      go_ret
      exact ⟨rfl, Fr.refl _ _⟩
  · have e2 : (n : Int) > 500 := by omega
    rw [decide_eq_false h5, Bool.false_and]
    clear h hs e0 h0 hn h5
    go_enter Tryz.func22, Tryz.ntmps22
    go_wp2
    go_ret
    exact ⟨rfl, Fr.refl _ _⟩
theorem r_right_any (ls : List Nod) (A : Option Addr) (n c : Nat) (N : Nat → Prop) (w : World) (h : RdI 4 NodI w N A n c ls) (hs : ∀ a ∈ ls, NodS a) (hn : n ≤ 1000000) :
    Calls Tryz.prog 22 #[.slice A n c] w fun e w' => e = .returned (.bool (rightN ls)) ∧ Fr No w w' :=
  r_right_wide ls A n c N w h (fun a ha => (hs a ha).wide) hn
end Go.Proofs.YtbfodbejdaafaaaGreatDoor
