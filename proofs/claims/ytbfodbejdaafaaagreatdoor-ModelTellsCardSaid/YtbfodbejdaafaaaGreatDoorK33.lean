/- The texts RefMod5, joined. -/
import Derived.Test.YtbfodbejdaafaaaGreatDoorK24
import Derived.Test.YtbfodbejdaafaaaGreatDoorK26
import Derived.Test.YtbfodbejdaafaaaGreatDoorK29
import Derived.Test.YtbfodbejdaafaaaGreatDoorK32
/- The statements' own answer to whether nodes are a file as the models have it. -/
namespace Go.Proofs.YtbfodbejdaafaaaGreatDoor
open Go.RowKit
set_option maxHeartbeats 2000000
set_option linter.unusedVariables false

/-- the cells of a node -/
theorem nod_cells {w : World} {N : Nat → Prop} {A : Option Addr} {n c : Nat} {ns : List Nod} (h : RdI 4 NodI w N A n c ns) {k : Nat} (hk : k < ns.length) : ∃ ad, A = some ad ∧ ∃ (P : Addr) (X Y : ByteArray) (A1 : Option Addr) (n1 c1 : Nat), ad.add (k * 4) = P ∧ w.cell? P = some (.int .i64 ns[k].parent) ∧
    w.cell? ⟨P.block, P.off + 1, none⟩ = some (.string X) ∧ w.cell? ⟨P.block, P.off + 2, none⟩ = some (.string Y) ∧ w.cell? ⟨P.block, P.off + 3, none⟩ = some (.slice A1 n1 c1) ∧
    X.data.toList = ns[k].name ∧ Y.data.toList = ns[k].text ∧ RdI 2 AttrI w N A1 n1 c1 ns[k].attrs := by
  obtain ⟨ad, ds, rfl, ⟨X, Y, A1, n1, c1, rfl, hX, hY, hA1⟩, hc⟩ := h.at_ nod_ok (by omega) hk
  have x0 := hc 0 _ rfl
  have x1 := hc 1 _ rfl
  have x2 := hc 2 _ rfl
  have x3 := hc 3 _ rfl
  rw [add_next ad] at x1 x2 x3
  rw [Nat.add_zero] at x0
  exact ⟨ad, rfl, _, X, Y, A1, n1, c1, rfl, x0, x1, x2, x3, hX, hY, hA1⟩
theorem first_name {ns : List Nod} (h0 : 0 < ns.length) : firstB ns = (decide (ns[0].name = docS) && decide (ns[0].attrs = [(xmlnsS, caaaS)])) := by
  cases ns with
  | nil => simp at h0
  | cons n r => rfl
theorem attrs_one {l : List (List UInt8 × List UInt8)} (h : l.length = 1) (p q : List UInt8) : l = [(p, q)] ↔ (l[0].1 = p ∧ l[0].2 = q) := by
  obtain ⟨y, rfl⟩ := List.length_eq_one_iff.1 h
  simp [Prod.ext_iff]
theorem chk_tree {ns : List Nod} (h : rightN ns = false) : chkN ns = 10 := by unfold chkN; rw [h]; rfl
theorem chk_first {ns : List Nod} (h : rightN ns = true) (h1 : firstB ns = false) : chkN ns = 13 := by unfold chkN; rw [h, h1]; rfl
theorem chk_all {ns : List Nod} (h : rightN ns = true) (h1 : firstB ns = true) : chkN ns = nodF ns ns.length := by unfold chkN; rw [h, h1]; rfl
set_option maxRecDepth 20000 in
theorem r_chk_any (ns : List Nod) (A : Option Addr) (n c : Nat) (N : Nat → Prop) (w : World) (h : RdI 4 NodI w N A n c ns) (hs : ∀ a ∈ ns, NodW a) (hn : n ≤ 1000000) :
    Calls Tryz.prog 10 #[.slice A n c] w fun e w' => e = .returned (.int .i64 (chkN ns)) ∧ Fr No w w' := by
  have hlen := h.len nod_ok (by omega)
  have hri := r_right_wide ns A n c N w h hs hn
  have HRI := Lib.hid hri; have HR := Lib.hid h; have HS := Lib.hid hs
  clear hri h hs
  cases hr : rightN ns with
  | false =>
    rw [chk_tree hr]
    rw [hr] at HRI
    clear hr
    go_enter Tryz.func10, Tryz.ntmps10
    go_wp2_with (go_at_call 22; refine HRI.out.mono ?_; rintro e w1 ⟨rfl, hf1⟩)
    go_ret
    exact ⟨rfl, hf1⟩
  | true =>
    rw [hr] at HRI
    have HT := Lib.hid hr
    clear hr
    obtain ⟨hl0, hl5⟩ := right_len HT.out
    have hn0 : 0 < n := by omega
    have hn0I : (0 : Int) < (n : Int) := by omega
    obtain ⟨ad, rfl, P, X, Y, A1, n1, c1, hP, x0, x1, x2, x3, hX, hY, hA1⟩ := nod_cells HR.out hl0
    have hla := hA1.len attr_ok (by omega)
    have hfb := first_name hl0
    have X0 := Lib.hid x0; have X1 := Lib.hid x1; have X2 := Lib.hid x2; have X3 := Lib.hid x3
    clear x0 x1 x2 x3
    by_cases q1 : ns[0].name = docS
    case neg =>
      have hch : chkN ns = 13 := chk_first HT.out (by rw [hfb, decide_eq_false q1, Bool.false_and])
      rw [hch]
      have hq : (X.toList == [68, 111, 99, 117, 109, 101, 110, 116]) = false := by
        rw [beq_eq_false_iff_ne, s_list, hX]; exact q1
      clear hch hfb q1 hX hA1
      go_enter Tryz.func10, Tryz.ntmps10
      go_wp2_with (go_at_call 22; refine HRI.out.mono ?_; rintro e w1 ⟨rfl, hf1⟩; have x1 := hf1.cell X1.out (fun x => x); have x3 := hf1.cell X3.out (fun x => x))
      go_ret
      exact ⟨rfl, hf1⟩
    have hq : (X.toList == [68, 111, 99, 117, 109, 101, 110, 116]) = true := by
      rw [beq_iff_eq, s_list, hX]; exact q1
    by_cases q2 : n1 = 1
    case neg =>
      have hch : chkN ns = 13 := chk_first HT.out (by
        rw [hfb, decide_eq_true q1, Bool.true_and, decide_eq_false_iff_not]
        intro e
        rw [e] at hla
        exact q2 hla.symm)
      rw [hch]
      have hq2 : ¬ (n1 : Int) = 1 := by omega
      clear hch hfb q1 q2 hX hA1
      go_enter Tryz.func10, Tryz.ntmps10
      go_wp2_with (go_at_call 22; refine HRI.out.mono ?_; rintro e w1 ⟨rfl, hf1⟩; have x1 := hf1.cell X1.out (fun x => x); have x3 := hf1.cell X3.out (fun x => x))
      go_ret
      exact ⟨rfl, hf1⟩
    subst q2
    obtain ⟨ad1, ds, rfl, ⟨XA, YA, rfl, hXA, hYA⟩, hca⟩ := hA1.at_ attr_ok (by omega) (show 0 < ns[0].attrs.length by omega)
    have xa0 := hca 0 _ rfl
    have xa1 := hca 1 _ rfl
    rw [add_next ad1] at xa1
    obtain ⟨PA, hPA⟩ : ∃ P, ad1.add (0 * 2) = P := ⟨_, rfl⟩
    rw [Nat.add_zero, hPA] at xa0
    rw [hPA] at xa1
    have XA0 := Lib.hid xa0; have XA1 := Lib.hid (show w.cell? ⟨PA.block, PA.off + 1, none⟩ = some (.string YA) from xa1)
    have hPA0 : ad1 = PA := by rw [← hPA, Nat.zero_mul]; unfold Addr.add; simp
    clear xa0 xa1 hca hPA
    subst hPA0
    have hat : (ns[0].attrs = [(xmlnsS, caaaS)]) ↔ (XA.data.toList = xmlnsS ∧ YA.data.toList = caaaS) := by
      rw [hXA, hYA]
      exact attrs_one hla _ _
    have hbad : ¬ (XA.data.toList = xmlnsS ∧ YA.data.toList = caaaS) → chkN ns = 13 := fun hb => chk_first HT.out (by
      rw [hfb, decide_eq_true q1, Bool.true_and, decide_eq_false_iff_not, hat]
      exact hb)
    have hgood : (XA.data.toList = xmlnsS ∧ YA.data.toList = caaaS) → chkN ns = nodF ns n := fun hb => by
      rw [chk_all HT.out (by rw [hfb, decide_eq_true q1, Bool.true_and, decide_eq_true_iff, hat]; exact hb), hlen]
    have HBAD := Lib.hid hbad; have HGOOD := Lib.hid hgood
    have HL := Lib.hid hlen; have HQ1 := Lib.hid q1
    clear hbad hgood hat hfb hXA hYA hA1 hla hX hY q1 hlen
    have PRE := True.intro
    by_cases q3 : XA.data.toList = xmlnsS
    case neg =>
      have hch := HBAD.out (fun hb => q3 hb.1)
      rw [hch]
      have hq3 : (XA.toList == [120, 109, 108, 110, 115]) = false := by
        rw [beq_eq_false_iff_ne, s_list]; exact q3
      clear hch q3
      go_enter Tryz.func10, Tryz.ntmps10
      go_wp2_with (go_at_call 22; refine HRI.out.mono ?_; rintro e w1 ⟨rfl, hf1⟩; have x1 := hf1.cell X1.out (fun x => x); have x3 := hf1.cell X3.out (fun x => x); have y0 := hf1.cell XA0.out (fun x => x); have y1 := hf1.cell XA1.out (fun x => x))
      go_ret
      exact ⟨rfl, hf1⟩
    have hq3 : (XA.toList == [120, 109, 108, 110, 115]) = true := by
      rw [beq_iff_eq, s_list]; exact q3
    by_cases q4 : YA.data.toList = caaaS
    case neg =>
      have hch := HBAD.out (fun hb => q4 hb.2)
      rw [hch]
      have hq4 : (YA.toList == [117, 114, 110, 58, 99, 111, 109, 112, 116, 111, 105, 114, 58, 99, 97, 97, 97]) = false := by
        rw [beq_eq_false_iff_ne, s_list]; exact q4
      clear hch q3 q4
      go_enter Tryz.func10, Tryz.ntmps10
      go_wp2_with (go_at_call 22; refine HRI.out.mono ?_; rintro e w1 ⟨rfl, hf1⟩; have x1 := hf1.cell X1.out (fun x => x); have x3 := hf1.cell X3.out (fun x => x); have y0 := hf1.cell XA0.out (fun x => x); have y1 := hf1.cell XA1.out (fun x => x))
      go_ret
      exact ⟨rfl, hf1⟩
    have hq4 : (YA.toList == [117, 114, 110, 58, 99, 111, 109, 112, 116, 111, 105, 114, 58, 99, 97, 97, 97]) = true := by
      rw [beq_iff_eq, s_list]; exact q4
    have hch := HGOOD.out ⟨q3, q4⟩
    obtain ⟨R, hR⟩ : ∃ R, chkN ns = R := ⟨_, rfl⟩
    rw [hR]
    rw [hR] at hch
    have HCH := Lib.hid hch
    clear hch hR q3 q4 HBAD HGOOD
    go_enter Tryz.func10, Tryz.ntmps10
    go_wp2_with (go_at_call 22; refine HRI.out.mono ?_; rintro e w1 ⟨rfl, hf1⟩; have x1 := hf1.cell X1.out (fun x => x); have x3 := hf1.cell X3.out (fun x => x); have y0 := hf1.cell XA0.out (fun x => x); have y1 := hf1.cell XA1.out (fun x => x))
    clear x1 x3 y0 y1 hq hq3 hq4 X0 X1 X2 X3 XA0 XA1
    go_loopw [3] (fun iv wr => ∃ i : Nat, iv = .int .i64 (i : Int) ∧ i ≤ n ∧ Fr No w wr ∧ nodF ns i = 0) (fun iv _ => n - (intOf iv).toNat)
    case atStart => exact ⟨0, rfl, Nat.zero_le _, hf1, rfl⟩
    case round =>
      obtain ⟨i, rfl, hi, hfr, hok⟩ := hrel
      rcases Nat.lt_or_ge i n with hlt | hge
      · have hltI : (i : Int) < (n : Int) := by omega
        have hil : i < ns.length := by rw [HL.out]; exact hlt
        obtain ⟨ad', e', PN, XN, YN, AN, nn, cn, hPN, z0, z1, z2, z3, hXN, hYN, hAN⟩ := nod_cells (HR.out.no nod_ok hfr) hil
        injection e' with e'
        subst e'
        have hsm := HS.out _ (List.getElem_mem hil)
        have herr : nodE ns i ≠ 0 → R = nodE ns i := fun h => by rw [HCH.out, ← HL.out]; exact nodF_err hok h hil
        have hnext : nodE ns i = 0 → nodF ns (i + 1) = 0 := fun h => by rw [nodF_at hok]; exact h
        have hnn := hAN.len attr_ok (by omega)
        have HERR := Lib.hid herr; have HNEXT := Lib.hid hnext; have HFR := Lib.hid hfr; have HOK := Lib.hid hok
        clear herr hnext hfr hok hAN
        by_cases a0 : 0 < i ∧ nn ≠ 0
        · have hg : (i : Int) > 0 := by omega
          have hg2 : (nn : Int) > 0 := by omega
          have hE := nodE_attrs hil a0.1 (fun e => a0.2 (by rw [← hnn, e]; rfl))
          have hR := HERR.out (by rw [hE]; decide)
          rw [hE] at hR
          subst hR
          clear hE a0 hsm hXN hYN hnn
          go_wp2
          go_ret
          exact ⟨rfl, HFR.out⟩
        · have ha : ¬ (0 < i ∧ ns[i].attrs ≠ []) := fun h => a0 ⟨h.1, fun e => h.2 (List.eq_nil_of_length_eq_zero (by rw [hnn]; exact e))⟩
          have HA := Lib.hid ha
          clear ha hnn
          have hYs : YN.size ≤ 140737488355328 := by rw [← size_list, hYN]; exact hsm.text
          cases hm : modelL ns[i].name with
          | some cs =>
            have hE := nodE_model hil HA.out hm
            have hcl : cs.length ≤ 16 := by rcases model_some hm with rfl | rfl | rfl | rfl | rfl <;> decide
            have hmd := fun u => r_Model_any XN u
            rw [hXN, hm] at hmd
            have hbl := fun u => r_Blank_any YN u (by omega)
            rw [hYN] at hbl
            have hkd := fun u B m d M (hf : Fr No w u) (hB : RdI 6 ChdI u M B m d cs) => r_kids_any ns cs (some ad) B n c m d i N M u (HR.out.no nod_ok hf) hB hlt hn (by rw [← hB.len chd_ok (by omega)]; omega) (small_of hm)
            have hrow : modelL ns[i].name = some cs := hm
            generalize blankB ns[i].text = bb at *
            generalize fillB cs (namesK ns i) = fb at *
            have HMD := Lib.hid hmd; have HBL := Lib.hid hbl; have HKD := Lib.hid hkd; have HE := Lib.hid hE
            clear hmd hbl hkd hE hsm hXN hYN hrow hm hYs
            rcases (show ¬ ((i : Int) > 0) ∨ ((i : Int) > 0 ∧ ¬ (nn : Int) > 0) by omega) with hg | ⟨hg, hg2⟩
            all_goals
              clear a0
              cases bb with
              | false =>
                have hR := HERR.out (by rw [HE.out]; simp)
                rw [HE.out] at hR
                subst hR
                go_wp2_with (first
                  | (go_at_call 6; refine (HMD.out _).mono ?_; rintro e w2 ⟨B, m, d, rfl, hB, hf2⟩; have F2 := Lib.hid (HFR.out.trans hf2); have t2 := hf2.cell z2 (fun x => x); have HB2 := Lib.hid hB; clear hB)
                  | (go_at_call 23; refine (HBL.out _).mono ?_; rintro e w3 ⟨rfl, rfl⟩))
                go_ret
                exact ⟨rfl, F2.out⟩
              | true =>
                cases fb with
                | false =>
                  have hR := HERR.out (by rw [HE.out]; simp)
                  rw [HE.out] at hR
                  subst hR
                  go_wp2_with (first
                    | (go_at_call 6; refine (HMD.out _).mono ?_; rintro e w2 ⟨B, m, d, rfl, hB, hf2⟩; have F2 := Lib.hid (HFR.out.trans hf2); have t2 := hf2.cell z2 (fun x => x); have HB2 := Lib.hid hB; clear hB)
                    | (go_at_call 23; refine (HBL.out _).mono ?_; rintro e w3 ⟨rfl, rfl⟩)
                    | (go_at_call 24; refine (HKD.out _ _ _ _ _ F2.out HB2.out).mono ?_; rintro e w4 ⟨rfl, hf4⟩))
                  go_ret
                  exact ⟨rfl, F2.out.trans hf4⟩
                | true =>
                  have hN := HNEXT.out (by rw [HE.out]; rfl)
                  have HN := Lib.hid hN
                  clear hN
                  go_wp2_with (first
                    | (go_at_call 6; refine (HMD.out _).mono ?_; rintro e w2 ⟨B, m, d, rfl, hB, hf2⟩; have F2 := Lib.hid (HFR.out.trans hf2); have t2 := hf2.cell z2 (fun x => x); have HB2 := Lib.hid hB; clear hB)
                    | (go_at_call 23; refine (HBL.out _).mono ?_; rintro e w3 ⟨rfl, rfl⟩)
                    | (go_at_call 24; refine (HKD.out _ _ _ _ _ F2.out HB2.out).mono ?_; rintro e w4 ⟨rfl, hf4⟩))
                  go_roundw
                  case rel => exact ⟨i + 1, by go_num, hlt, F2.out.trans hf4, HN.out⟩
                  case measure => simp [intOf]; omega
          | none =>
            have hmd := fun u => r_Model_any XN u
            rw [hXN, hm] at hmd
            have hi0 : 0 < i := by
              rcases Nat.eq_zero_or_pos i with h0 | h0
              · subst h0
                rw [HQ1.out] at hm
                cases (show modelL docS = some docC from rfl).symm.trans hm
              · exact h0
            have hg : (i : Int) > 0 := by omega
            have hg2 : ¬ (nn : Int) > 0 := by omega
            have hpar := right_par HT.out hil hi0
            obtain ⟨p, hp⟩ := Int.eq_ofNat_of_zero_le hpar.1
            have hpi : p < i := by omega
            have hpl : p < ns.length := by omega
            have hpnI : (p : Int) < (n : Int) := by omega
            have hE := nodE_leaf hil hpl HA.out hm hp
            rw [hp] at z0
            have hkd := fun u (hf : Fr No w u) => r_Kids_any ns (some ad) n c (i : Int) N u (HR.out.no nod_ok hf) (by omega)
            have HMD := Lib.hid hmd; have HKD := Lib.hid hkd
            clear hmd hkd a0 hsm
            by_cases hk0 : kidsL ns (i : Int) = []
            case neg =>
              have hq0 : ((kidsL ns (i : Int)).length : Int) > 0 := by have := List.length_pos_iff.2 hk0; omega
              rw [if_pos hk0] at hE
              have hR := HERR.out (by rw [hE]; decide)
              rw [hE] at hR
              subst hR
              clear hE hk0 hp hm hXN hYN
              generalize (kidsL ns (i : Int)).length = q at *
              go_wp2_with (first
                | (go_at_call 6; refine (HMD.out _).mono ?_; rintro e w2 ⟨B, m, d, rfl, hB, hf2⟩; have F2 := Lib.hid (HFR.out.trans hf2); clear hB)
                | (go_at_call 25; refine (HKD.out _ F2.out).mono ?_; rintro e w3 ⟨v, rfl, ho3, hf3⟩; obtain ⟨K, ck, rfl, hrk, -⟩ := Rd.of_own ho3; clear ho3 hrk))
              go_ret
              exact ⟨rfl, F2.out.trans hf3⟩
            rw [hk0] at HKD
            rw [if_neg (by simpa using hk0)] at hE
            obtain ⟨ad'', e'', PP, XP, YP, AP, np, cp, hPP, v0, v1, v2, v3, hXP, hYP, hAP⟩ := nod_cells (HR.out.no nod_ok HFR.out) hpl
            injection e'' with e''
            subst e''
            have hm2 := fun u => r_Model_any XP u
            rw [hXP] at hm2
            obtain ⟨cs, hcs⟩ : ∃ cs, (modelL ns[p].name).getD [] = cs := ⟨_, rfl⟩
            have hcl : cs.length ≤ 16 := by
              rw [← hcs]
              cases hmp : modelL ns[p].name with
              | none => decide
              | some ds => rcases model_some hmp with rfl | rfl | rfl | rfl | rfl <;> decide
            have hch := fun u B m d M (hB : RdI 6 ChdI u M B m d cs) => below_of (r_child_any cs XN B m d M u hB (by rw [← hB.len chd_ok (by omega)]; omega))
            rw [hXN] at hch
            rw [hcs] at hE
            obtain ⟨D, hD⟩ : ∃ D, childL cs ns[i].name = D := ⟨_, rfl⟩
            rw [hD] at hch hE
            obtain ⟨dnm, dmn, dmx, dty, dlow, dtop⟩ := D
            have hsi := fun u => below_of (r_simple (nm := dnm) (mn := dmn) (mx := dmx) (ty := dty) (low := dlow) (top := dtop) YN u hYs)
            rw [hYN] at hsi
            have hE : nodE ns i = chkE dty dlow dtop ns[i].text := hE
            generalize chkE dty dlow dtop ns[i].text = E at *
            have HM2 := Lib.hid hm2; have HCHD := Lib.hid hch; have HSI := Lib.hid hsi; have HE := Lib.hid hE; have HCS := Lib.hid hcs
            clear hm2 hch hsi hE hcs hD hXN hYN hXP hYP hAP hm hp hk0 hpar
            have tok1 := True.intro
            have tok2 := True.intro
            go_wp2_with (first
              | (go_at_call 6; clear tok1; refine (HMD.out _).mono ?_; rintro e w2 ⟨B, m, d, rfl, hB, hf2⟩; have F2 := Lib.hid (HFR.out.trans hf2); have G2 := Lib.hid hf2; clear hB hf2)
              | (go_at_call 6; clear tok2; refine (HM2.out _).mono ?_; rintro e w4 ⟨B, m, d, rfl, hB, hf4⟩; rw [HCS.out] at hB; have HB4 := Lib.hid hB; have F4 := Lib.hid (F3.out.trans hf4); have s1 := hf4.cell r1 (fun x => x); have s2 := hf4.cell r2 (fun x => x); clear hB r1 r2 hf4)
              | (go_at_call 25; refine (HKD.out _ F2.out).mono ?_; rintro e w3 ⟨v, rfl, ho3, hf3⟩; obtain ⟨K, ck, rfl, hrk, -⟩ := Rd.of_own ho3; have F3 := Lib.hid (F2.out.trans hf3); have r0 := (G2.out.trans hf3).cell z0 (fun x => x); have r1 := (G2.out.trans hf3).cell z1 (fun x => x); have r2 := (G2.out.trans hf3).cell z2 (fun x => x); have t1 := (G2.out.trans hf3).cell v1 (fun x => x); clear ho3 hrk hf3))
            have g1 := cell_regrown s1
            have g2 := cell_regrown s2
            refine wp_region_quiet_below (by kernel_rfl) (by kernel_rfl) ?_
            repeat (first
              | quiet_step ((first
                | (go_at_call 27; exact Calls.regrown_of (HCHD.out _ _ _ _ _ (HB4.out.no chd_ok (fr_regrown _ _ _))))
                | (go_at_call 26; exact Calls.regrown_of (HSI.out _)))))
            refine wpQuiet_nil ?_
            intro w9 hw9r
            obtain ⟨⟨nr, osr⟩, hw9r⟩ := hw9r
            have hf9 : Fr No w4 w9 := by rw [hw9r]; exact fr_regrown w4 nr osr
            have F9 := Lib.hid (F4.out.trans hf9)
            clear hw9r hf9
            by_cases hE0 : E = 0
            · subst hE0
              have HN := Lib.hid (HNEXT.out HE.out)
              go_wp2
              go_roundw
              case rel => exact ⟨i + 1, by go_num, hlt, F9.out, HN.out⟩
              case measure => simp [intOf]; omega
            · have hEb : (E != 0) = true := by rw [bne_iff_ne]; exact hE0
              have hR := HERR.out (by rw [HE.out]; exact hE0)
              rw [HE.out] at hR
              subst hR
              clear hE0
              go_wp2
              go_ret
              exact ⟨rfl, F9.out⟩
      · have hke : i = n := by omega
        subst hke
        have HFR := Lib.hid hfr
        have hR : R = 0 := by rw [HCH.out, hok]
        subst hR
        clear hfr hok
        go_wp2
        go_ret
        exact ⟨rfl, HFR.out⟩
end Go.Proofs.YtbfodbejdaafaaaGreatDoor
