/- The texts RefIso2, joined. -/
import Derived.Test.YthlgnmgjfgbffaaGreatDoorL32
import Derived.Test.YthlgnmgjfgbffaaGreatDoorL09
import Derived.Test.YthlgnmgjfgbffaaGreatDoorL47
import Derived.Test.YthlgnmgjfgbffaaGreatDoorL45
/- The statements' own PackIso. -/
namespace Go.Proofs.YthlgnmgjfgbffaaGreatDoor
open Go.RowKit
set_option maxHeartbeats 1000000
set_option linter.unusedVariables false
set_option maxRecDepth 20000

theorem nos_rel_next {w wr w2 : World} {n k : Nat} {es : List El} {q : Int} {LA LA2 : Option Addr} {lc lc2 : Nat} {t : TypeId} (hF : Fr No w wr) (hO : wr.ownsRow w.heap.size 3 1 (.slice LA k lc) k (ints (nosOf (es.take k)))) (hG : (wr.alloc (.cells #[.int .i64 q] t)).grownBy w2 (Value.slice LA k lc).ownBlock)
    (hO2 : w2.ownsRow w.heap.size 3 1 (.slice LA2 (k + 1) lc2) (k + 1) (ints (nosOf (es.take (k + 1))))) (hk : k < n) : NosRel w n es (.slice LA2 (k + 1) lc2) (.int .i64 ((k + 1 : Nat) : Int)) w2 :=
  ⟨k + 1, hk, rfl, hF.trans_new (((Fr.refl (fun i => (Value.slice LA k lc).ownBlock = some i) wr).alloc _).grown hG (fun i e => .inl e)) (fun i e => .inr (hO.lt i e).1), hO2⟩
/-- the second loop: what is written -/
def RkRel (w : World) (n : Nat) (es : List El) (l : List UInt8) (base : Nat) (vb iv : Value) (wr : World) : Prop :=
  ∃ k : Nat, k ≤ n ∧ iv = .int .i64 (k : Int) ∧ Fr No w wr ∧ chkAll es = chkAll (es.drop k) ∧ OwnM wr base vb (l ++ wrtAll (es.take k))
theorem r_PackIso (S : ByteArray) (A : Option Addr) (n c : Nat) (es : List El) (w : World) (he : RdI 2 TagI w (fun i => i < w.heap.size) A n c es) (hn : n ≤ 1000) (hz : S.size ≤ maxLen) :
    Calls Tryz.prog 5 #[.agg #[.string S, .slice A n c]] w (PacTo S.data.toList es w) := by
  obtain ⟨t, ht⟩ : ∃ t, S.data.toList = t := ⟨_, rfl⟩
  have hS : S = bstr t := by rw [← ht, bstr_self']
  have hlen := he.len tag_ok (by omega)
  have HR := Lib.hid (fun u => ref_right S 4 4 u hz)
  have hbk0 : Bk (w.alloc (.cells #[.string S, .slice A n c] 27)) w.heap.size 27 [.string S, .slice A n c] := Bk.new w _ _
  have HB := Lib.hid hbk0
  have HF0 := Lib.hid ((Fr.refl No w).alloc (.cells #[.string S, .slice A n c] 27))
  rw [ht] at HR ⊢
  have HE := Lib.hid he; have HL := Lib.hid hlen
  cases hR : rightB t 4 4 with
  | false =>
    have HPE := Lib.hid (show pacE t es = 5 by unfold pacE; rw [if_pos hR])
    rw [hR] at HR
    clear hR he hz ht hS hlen hbk0
    go_enter Tryz.func5, Tryz.ntmps5
    go_wp2_with (go_at_call 11; refine (HR.out _).mono ?_; rintro e w1 ⟨rfl, rfl⟩)
    go_ret2
    exact pac_no HPE.out (by decide) HF0.out
  | true =>
    rw [hR] at HR
    have ht4 := rightB_len hR
    subst hS
    have HW := Lib.hid (fun (u : World) (V : Option Addr) (vc : Nat) (hr : Rd u V n vc (ints (nosOf es))) => ref_write V n vc (nosOf es) u hr (by omega))
    have HR4 := Lib.hid hR; have HT4 := Lib.hid ht4
    clear hR he hz ht ht4 hlen
    go_enter Tryz.func5, Tryz.ntmps5
    have c0 := Bk.cell hbk0 0; have c1 := Bk.cell hbk0 1
    clear hbk0
    obtain ⟨w0, hw0⟩ : ∃ w0, w.alloc (.cells #[.string (bstr t), .slice A n c] 27) = w0 := ⟨_, rfl⟩
    rw [hw0] at c0 c1 HB HF0
    go_upto_region 4 with (go_at_call 11; refine (HR.out _).mono ?_; rintro e w1 ⟨rfl, rfl⟩)
    clear hw0
    go_wp2
    go_loopw [4, 5] (fun vl iv wr => NosRel w0 n es vl iv wr) (fun _ v _ => n - (intOf v).toNat)
    case atStart => exact ⟨0, by omega, rfl, Fr.refl _ _, World.ownsRow_nil _ _ _ _⟩
    case round =>
      obtain ⟨k, hk, rfl, hf, hown⟩ := hrel
      obtain ⟨LA, lc, rfl, hrl, -⟩ := Rd.of_own hown
      have b0 := Bk.cell (HB.out.no hf) 0
      have b1 := Bk.cell (HB.out.no hf) 1
      clear c0 c1
      rcases Nat.lt_or_ge k n with hkn | hge
      · obtain ⟨ad, cs, a, rfl, ⟨B, m, dc, rfl, -, -, -, -⟩, hak, hc0, hc1⟩ := two_cells tag_ok (HE.out.no tag_ok (HF0.out.trans hf)) hkn
        have c0 := hc0 _ rfl
        obtain ⟨P, hP⟩ : ∃ P, ad.add (k * 2) = P := ⟨_, rfl⟩
        rw [hP] at c0
        have hkI : (k : Int) < (n : Int) := by omega
        have hnt := nos_take hak
        obtain ⟨q, d⟩ := a
        dsimp only at c0 hnt
        have HF := Lib.hid hf; have HO := Lib.hid hown; have HNT := Lib.hid hnt; have HKN := Lib.hid hkn
        clear hf hown hnt hak hc0 hc1 hrl hkn
        go_wp2_with (at_builtin; go_must (refine apI_one wr rfl (.tmp 23) (.tmp 30) rfl w0.heap.size (.slice LA k lc) k (nosOf (es.take k)) rfl HO.out q 3 rfl (by omega) HF.out.size ?_); intro v2 w2 o2 g2 q2; rw [← HNT.out] at o2; obtain ⟨LA2, lc2, rfl, -, -⟩ := Rd.of_own o2; have O2 := Lib.hid o2; have G2 := Lib.hid g2; clear o2 g2 q2)
        have HMORE := nos_rel_next HF.out HO.out G2.out O2.out HKN.out
        go_roundw
        case rel => exact HMORE
        case measure => simp [intOf]; have := HKN.out; omega
      · obtain rfl : k = n := by omega
        rw [List.take_of_length_le (by rw [HL.out]; exact Nat.le_refl _)] at hrl
        have HRL := Lib.hid hrl; have HF := Lib.hid hf
        clear hown hrl hf
        rcases wm_cases (nosOf es) with ⟨q1, q2, q3⟩ | q1
        · rw [q1, q2] at HW
          have hml : (mapOf (nosOf es)).length ≤ 16 := by omega
          have HQ1 := Lib.hid q1; have HML := Lib.hid hml
          clear q1 q2 q3 hml
          generalize hmo : mapOf (nosOf es) = MO at *
          have HMO := Lib.hid hmo
          clear hmo
          go_wp2_with (first
            | (go_at_call 12; refine (HW.out _ _ _ HRL.out).mono ?_; rintro e w2 ⟨v, rfl, o2, f2⟩; obtain ⟨V2, d2, rfl, hr2, -⟩ := Rd.of_own o2; have R2 := Lib.hid hr2; have F2 := Lib.hid (HF.out.trans f2); have m0 := Bk.cell (HB.out.no (HF.out.trans f2)) 0; clear o2 f2 hr2)
            | (refine convM w2 rfl (.tmp 41) rfl t rfl (by have := HT4.out; omega) ?_; intro cc w3 o3 f3 z3; have O3 := Lib.hid (ownM_low o3 F2.out.size); have F3 := Lib.hid (F2.out.trans f3); have R3 := Lib.hid (R2.out.no f3); clear o3 f3 z3)
            | (at_builtin; go_must (refine apM w3 rfl (.tmp 42) (.tmp 43) rfl w0.heap.size _ t rfl O3.out V2 MO.length d2 MO rfl R3.out (by have := HT4.out; have := HML.out; omega) F3.out.size ?_); intro v4 w4 o4 g4 q4; have O4 := Lib.hid o4; have F4 := Lib.hid (F3.out.grown g4 (fun g e => .inr (ownM_lt O3.out g e).1)); obtain ⟨V4, d4, rfl, -, -⟩ := ownM_rd o4; clear o4 g4 q4))
          have hl4 : (t ++ MO).length ≤ 100 := by rw [List.length_append]; have := HT4.out; have := HML.out; omega
          have HL4 := Lib.hid hl4
          obtain ⟨L4, hL4⟩ : ∃ L4, t ++ MO = L4 := ⟨_, rfl⟩
          rw [hL4] at O4 HL4
          have HLL4 := Lib.hid hL4
          have HWI := Lib.hid (show wrtI t es = L4 ++ wrtAll es by unfold wrtI; rw [HMO.out, hL4])
          clear hL4 hl4
          go_loopw [8, 9] (fun vb iv wr2 => RkRel w0 k es L4 w0.heap.size vb iv wr2) (fun _ v _ => k - (intOf v).toNat)
          case atStart => exact ⟨0, by omega, rfl, F4.out, rfl, by rw [List.take_zero]; show OwnM _ _ _ (L4 ++ []); rw [List.append_nil]; first | exact O4.out | (have h := O4.out; simpa [← HLL4.out] using h)⟩
          case round =>
            obtain ⟨j, hj, rfl, hf, hck, hown⟩ := hrel
            obtain ⟨vA, vc, rfl, -, -⟩ := ownM_rd hown
            have b0 := Bk.cell (HB.out.no hf) 0
            have b1 := Bk.cell (HB.out.no hf) 1
            have hwl : (L4 ++ wrtAll (es.take j)).length ≤ 2000000 := by
              rw [List.length_append]
              have h1 := wrtAll_len (es.take j)
              rw [List.length_take] at h1
              have h2 : min j es.length ≤ 1000 := by omega
              have := HL4.out
              omega
            rcases Nat.lt_or_ge j k with hjk | hge
            · obtain ⟨ad, cs, a, rfl, ⟨D, dl, dc, rfl, hd1, -, -, -⟩, hak, hc0, hc1⟩ := two_cells tag_ok (HE.out.no tag_ok (HF0.out.trans hf)) hjk
              have e0 := hc0 _ rfl
              have e1 := hc1 _ rfl
              obtain ⟨P, hP⟩ : ∃ P, ad.add (j * 2) = P := ⟨_, rfl⟩
              rw [hP] at e0 e1
              have hjI : (j : Int) < (k : Int) := by omega
              have hca := chkAll_at hak
              have hwt := wrtAll_take hak
              obtain ⟨q, d⟩ := a
              dsimp only at e0 e1 hd1 hca hwt
              obtain rfl : d.length = dl := by simpa using hd1.len
              have hwe := fun u (hu : Fr No wr u) => r_WriteElement q D dc d u (hd1.no hu) (rd_len63 hd1)
              have hwel := wrtEl_len q d
              have HF2 := Lib.hid hf; have HO := Lib.hid hown; have HCK := Lib.hid hck; have HWL := Lib.hid hwl; have HJK := Lib.hid hjk; have HWT := Lib.hid hwt; have HWEL := Lib.hid hwel
              obtain ⟨XL, hXL⟩ : ∃ XL, L4 ++ wrtAll (es.take j) = XL := ⟨_, rfl⟩
              have HXL := Lib.hid hXL
              rw [hXL] at HO HWL
              by_cases hE : chkEl q d = 0
              · rw [if_neg (by rw [hE]; decide)] at hca
                have HCA := Lib.hid hca
                rw [hE] at hwe
                generalize wrtEl q d = EL at *
                generalize d.length = dl at *
                have HWE := Lib.hid hwe
                clear hf hown hck hwl hjk hwt hwel hXL hca hwe hE hak hc0 hc1 hd1 HW HRL HR HF R2 F2 O3 F3 R3 F4 O4
                rw [HXL.out]
                go_wp2_with (first
                  | (go_at_call 13; refine (HWE.out _ (Fr.refl No wr)).mono ?_; rintro e w6 ⟨v, rfl, o6, f6⟩; obtain ⟨V6, d6, rfl, hr6, -⟩ := ownM_rd o6; have R6 := Lib.hid hr6; have F6 := Lib.hid f6; clear o6 f6 hr6)
                  | (at_builtin; go_must (refine apM w6 rfl (.tmp 64) (.tmp 65) rfl w0.heap.size (.slice vA XL.length vc) XL rfl (ownM_fr HO.out F6.out (fun _ _ x => x)) V6 EL.length d6 EL rfl R6.out (by have := HWL.out; have := HWEL.out; omega) (HF2.out.trans F6.out).size ?_); intro v7 w7 o7 g7 q7; have O7 := Lib.hid o7; have F7 := Lib.hid ((HF2.out.trans F6.out).grown g7 (fun g e => .inr (ownM_lt HO.out g e).1)); obtain ⟨V7, d7, rfl, -, -⟩ := ownM_rd o7; clear o7 g7 q7))
                have HMORE : RkRel w0 k es L4 w0.heap.size (.slice V7 (XL ++ EL).length d7) (.int .i64 ((j + 1 : Nat) : Int)) w7 := ⟨j + 1, HJK.out, rfl, F7.out, by rw [HCK.out, HCA.out], by rw [HWT.out, ← List.append_assoc, HXL.out]; exact O7.out⟩
                rw [List.length_append] at HMORE
                go_roundw
                case rel => exact HMORE
                case measure => simp [intOf]; have := HJK.out; omega
              · have hEb := st_ne0 hE
                rw [if_pos hE] at hca
                have HPE := Lib.hid (show pacE t es = chkEl q d by unfold pacE; rw [if_neg (by rw [HR4.out]; decide), if_neg (by rw [HQ1.out]; decide), if_pos (by rw [hck, hca]; exact hE), hck, hca])
                have HNE := Lib.hid hE
                generalize chkEl q d = E at *
                generalize wrtEl q d = EL at *
                generalize d.length = dl at *
                have HWE := Lib.hid hwe
                clear hf hown hck hwl hjk hwt hwel hXL hca hwe hE hak hc0 hc1 hd1 HW HRL HR HF R2 F2 O3 F3 R3 F4 O4
                go_wp2_with (go_at_call 13; refine (HWE.out _ (Fr.refl No wr)).mono ?_; rintro e w6 ⟨v, rfl, o6, f6⟩; obtain ⟨V6, d6, rfl, -, -⟩ := ownM_rd o6; have F6 := Lib.hid f6; clear o6 f6)
                go_ret2
                exact pac_no HPE.out HNE.out ((HF0.out.trans HF2.out).trans F6.out)
            · obtain rfl : j = k := by omega
              rw [List.drop_eq_nil_of_le (by rw [HL.out]; exact Nat.le_refl _)] at hck
              rw [List.take_of_length_le (by rw [HL.out]; exact Nat.le_refl _), ← HWI.out] at hown
              rw [List.take_of_length_le (by rw [HL.out]; exact Nat.le_refl _), ← HWI.out] at hwl ⊢
              have hpe : pacE t es = if 4096 < (wrtI t es).length then 4 else 0 := by
                unfold pacE
                rw [if_neg (by rw [HR4.out]; decide), if_neg (by rw [HQ1.out]; decide), if_neg (by rw [hck]; decide)]
              have HO := Lib.hid hown; have HF2 := Lib.hid (HF0.out.trans hf)
              have HB0 := Lib.hid (HF0.out.size)
              by_cases h4 : 4096 < (wrtI t es).length
              · rw [if_pos h4] at hpe
                have HPE := Lib.hid hpe
                have h4I : 4096 < ((wrtI t es).length : Int) := by omega
                clear hck hown hpe hf h4 HW HRL HR HF R2 F2 O3 F3 R3 F4 O4
                generalize (wrtI t es).length = wl at *
                go_wp2
                go_ret2
                exact pac_no HPE.out (by decide) HF2.out
              · rw [if_neg h4] at hpe
                have HPE := Lib.hid hpe
                have h4I : ¬ 4096 < ((wrtI t es).length : Int) := by omega
                have HFIN := Lib.hid (pac_yes hpe (ownM_low hown HF0.out.size) (HF0.out.trans hf))
                clear hck hown hpe hf h4 HW HRL HR HF R2 F2 O3 F3 R3 F4 O4 HO HPE
                generalize (wrtI t es).length = wl at *
                go_wp2
                go_ret2
                exact HFIN.out
        · have HPE := Lib.hid (show pacE t es = 1 by unfold pacE; rw [if_neg (by rw [HR4.out]; decide), if_pos (by rw [q1]; decide)])
          rw [q1] at HW
          clear q1
          go_wp2_with (go_at_call 12; refine (HW.out _ _ _ HRL.out).mono ?_; rintro e w2 ⟨v, rfl, o2, f2⟩; obtain ⟨V2, d2, rfl, -, -⟩ := Rd.of_own o2; have F2 := Lib.hid ((HF0.out.trans HF.out).trans f2); clear o2 f2)
          go_ret2
          exact pac_no HPE.out (by decide) F2.out
end Go.Proofs.YthlgnmgjfgbffaaGreatDoor
