/- The statements' own tags as bytes. -/
import Derived.Test.YtbfodbejdaafaaaRefTag
import Derived.Test.YtbfodbejdaafaaaRefPut
import Derived.Deep.RegionLaw
namespace Go.Proofs.Ytbfodbejdaafaaa
open Go.RowKit
set_option maxHeartbeats 2000000
set_option linter.unusedVariables false

theorem rt_own_low {w : World} {b base : Nat} {v : Value} {n : Nat} {l : List UInt8} (h : w.ownsRow base 5 1 v n (u8s l)) (hb : b ≤ base) : w.ownsRow b 5 1 v n (u8s l) := by
  refine ⟨h.1, ?_⟩
  rcases h.2 with hn | ⟨g, cap, cur, e1, hg, r⟩
  · exact .inl hn
  · exact .inr ⟨g, cap, cur, e1, Nat.le_trans hb hg, r⟩
theorem wrT_app : ∀ a b : List TagL, wrT (a ++ b) = wrT a ++ wrT b
  | [], b => rfl
  | x :: a, b => by
    show wr1T x ++ wrT (a ++ b) = (wr1T x ++ wrT a) ++ wrT b
    rw [wrT_app a b, List.append_assoc]
theorem low_tag (t : Int) (v : Nat) (hv : t = (v : Int)) (h : tgN t ≠ 0) : low v (held8 (tgN t : Int)) = tagB t := by
  have hle := (tgN_le t).1
  subst hv
  unfold tagB
  rw [Int.toNat_natCast]
  rcases (show tgN (v : Int) = 1 ∨ tgN (v : Int) = 2 by omega) with h1 | h1
  · rw [h1]
    show (List.range 1).map (lowB v 1) = _
    simp [lowB, List.range_succ]
  · rw [h1]
    show (List.range 2).map (lowB v 2) = _
    simp [lowB, List.range_succ]
theorem wrF_step (p : List TagL) (a : TagL) (l : List TagL) : wrF p (a :: l) = if tgN a.1 = 0 ∨ p.any (fun x => x.1 == a.1) = true then 18 else if 255 < a.2.length then 17 else wrF (p ++ [a]) l := rfl
def WroteT (ls : List TagL) (w : World) (e : Ending) (w' : World) : Prop := ∃ v : Value, e = .returned (.tuple #[v, .int .i64 (wrE ls)]) ∧ w'.ownsRow w.heap.size 5 1 v (wrL ls).length (u8s (wrL ls)) ∧ Fr No w w'
theorem wrote_err {ls : List TagL} {w w' : World} {z : Int} (h : wrE ls = z) (hz : z ≠ 0) (hf : Fr No w w') : WroteT ls w (.returned (.tuple #[.slice none 0 0, .int .i64 z])) w' := by
  have hL : wrL ls = [] := by unfold wrL; rw [if_neg (by rw [h]; exact hz)]
  refine ⟨_, by rw [h], ?_, hf⟩
  rw [hL]
  exact World.ownsRow_nil _ _ _ _
set_option maxRecDepth 20000 in
theorem r_WriteTags_any {N : Nat → Prop} {A : Option Addr} {n c : Nat} {ls : List (Int × List UInt8)} (w : World) (h : RdI 2 TagI w N A n c ls) :
    Calls Try.prog 12 #[.slice A n c] w (WroteT ls w) := by
  have htop := h.top
  have hcap : n ≤ c := by obtain ⟨xs, hr, _⟩ := h.xs; exact hr.cap
  have hlen := h.len tag_ok (by omega)
  have H := Lib.hid h; have HLEN := Lib.hid hlen
  clear h hlen
  go_enter Try.func12, Try.ntmps12
  by_cases hn : 20 < n
  · have hnI : 20 < (n : Int) := by omega
    go_wp2
    go_ret2
    exact wrote_err (by unfold wrE; rw [if_pos (by rw [HLEN.out]; exact hn)]) (by decide) (Fr.refl _ _)
  · have hnI : ¬ 20 < (n : Int) := by omega
    go_wp2
    go_loopw [4, 5] (fun bv v wr => ∃ (k nb : Nat) (lb : List UInt8), k ≤ n ∧ v = .int .i64 (k : Int) ∧ wr.ownsRow w.heap.size 5 1 bv nb (u8s lb) ∧ nb ≤ 300 * k ∧ Fr No w wr ∧ lb = wrT (ls.take k) ∧ wrE ls = wrF (ls.take k) (ls.drop k)) (fun _ v _ => n - (intOf v).toNat)
    case atStart => exact ⟨0, 0, [], by omega, rfl, World.ownsRow_nil _ _ _ _, by omega, Fr.refl _ _, rfl, by unfold wrE; rw [if_neg (by rw [HLEN.out]; exact hn)]; rfl⟩
    case round =>
      obtain ⟨k, nb, lb, hk, rfl, ho, hnb, hfr, hlb, hwe⟩ := hrel
      have HFR := Lib.hid hfr; have HLB := Lib.hid hlb
      clear hlb
      rcases Nat.lt_or_ge k n with hkn | hge
      · obtain ⟨ad, cs, a, rfl, ⟨B, m, d, rfl, h1, h2, h3, h4⟩, hak, hc0, hc1⟩ := two_cells tag_ok H.out hkn
        have c0w := hc0 _ rfl
        have c1w := hc1 _ rfl
        obtain ⟨P, hP⟩ : ∃ P, ad.add (k * 2) = P := ⟨_, rfl⟩
        rw [hP] at c0w c1w
        have hkI : (k : Int) < (n : Int) := by omega
        have e4 : (k : Int) ≤ (c : Int) := by omega
        have e5 : (0 : Int) ≤ (k : Int) := by omega
        obtain ⟨q, hq⟩ : ∃ q : Int, a.1 = q := ⟨_, rfl⟩
        rw [hq] at c0w h3
        have c0 := hfr.cell c0w (fun x => x)
        have c1 := hfr.cell c1w (fun x => x)
        have C1W := Lib.hid c1w
        clear c0w c1w
        have hq2 := wf_i64 h3
        have htg := fun u => r_tagged q hq2.1 hq2.2 u
        have hkw := fun u (hu : Fr No w u) => r_known q u ((H.out.no tag_ok hu).take2 (i := k) (by omega))
        have hkl : k < ls.length := by rw [HLEN.out]; exact hkn
        have hak2 : ls[k] = a := by
          rw [List.getElem?_eq_getElem hkl] at hak
          exact Option.some.inj hak
        have hml : a.2.length = m := by simpa using h1.len
        have htake : ls.take (k + 1) = ls.take k ++ [a] := by rw [List.take_succ_eq_append_getElem hkl, hak2]
        have hdrop : ls.drop k = a :: ls.drop (k + 1) := by rw [List.drop_eq_getElem_cons hkl, hak2]
        rw [hdrop, wrF_step, ← htake, hq, hml] at hwe
        have hwt : wrT (ls.take (k + 1)) = wrT (ls.take k) ++ (tagB q ++ (lenB m ++ a.2)) := by
          rw [htake, wrT_app]
          show _ ++ (wr1T a ++ []) = _
          rw [List.append_nil]
          unfold wr1T
          rw [hq, hml]
        obtain ⟨kb, hkb⟩ : ∃ kb, (ls.take k).any (fun a => a.1 == q) = kb := ⟨_, rfl⟩
        rw [hkb] at hkw hwe
        have htl := tgN_le q
        have hlow := fun v hv hz => low_tag q v hv hz
        obtain ⟨tg, hte⟩ : ∃ tg, tgN q = tg := ⟨_, rfl⟩
        rw [hte] at htg htl hwe
        have HWE := Lib.hid hwe; have HWT := Lib.hid hwt; have HLOW := Lib.hid hlow; have HTE := Lib.hid hte
        clear hwe hwt hlow hkb hkl hak2 hml htake hdrop hte
        have HTG := Lib.hid htg; have HKW := Lib.hid hkw; have HO := Lib.hid ho; have H1 := Lib.hid h1
        clear htg hkw hc0 hc1 hak ho h1 h2 hfr hq h3
        by_cases ht0 : tg = 0
        · subst ht0
          go_wp2_with (go_at_call 26; refine (HTG.out _).mono ?_; rintro e w1 ⟨rfl, rfl⟩)
          go_quiet (fail)
          go_wp2
          go_ret2
          exact wrote_err (by rw [HWE.out, if_pos (by simp)]) (by decide) (HFR.out.drewN _)
        · have htne : ((tg : Int) == 0) = false := by rw [beq_eq_false_iff_ne]; omega
          have htne2 : ¬ (tg : Int) = 0 := by omega
          cases kb with
          | true =>
            go_wp2_with (go_at_call 26; refine (HTG.out _).mono ?_; rintro e w1 ⟨rfl, rfl⟩)
            go_quiet ((go_at_call 27; exact quiet_same (HKW.out _ (HFR.out.drewN _))))
            go_wp2
            go_ret2
            exact wrote_err (by rw [HWE.out, if_pos (by simp)]) (by decide) (HFR.out.drewN _)
          | false =>
            go_wp2_with (go_at_call 26; refine (HTG.out _).mono ?_; rintro e w1 ⟨rfl, rfl⟩)
            go_quiet ((go_at_call 27; exact quiet_same (HKW.out _ (HFR.out.drewN _))))
            have hfq := HFR.out.drewN nq
            have HFQ := Lib.hid hfq
            have ho := (Dr.refl wr).drewN nq |>.fr.own (S := No) HO.out (fun _ _ x => x)
            obtain ⟨B2, cap2, rfl, hr2, hb2⟩ := Rd.of_own ho
            obtain ⟨v, rfl⟩ : ∃ v : Nat, q = (v : Int) := ⟨q.toNat, by have := (htl.2 ht0).1; omega⟩
            have hv6 : v < 65536 := by have := (htl.2 ht0).2; omega
            have hput := ref_put_any B2 nb cap2 lb v (tg : Int) (wr.drewN nq) hr2 (by omega) (by omega)
            have hlw : low v (held8 (tg : Int)) = tagB (v : Int) := by have h := HLOW.out v rfl (by rw [HTE.out]; exact ht0); rwa [HTE.out] at h
            rw [hlw] at hput
            have HLW := Lib.hid hlw
            clear hlw
            have h8 := held8_cases (tg : Int)
            have hz8 : held8 (tg : Int) ≤ 8 := by omega
            generalize held8 (tg : Int) = z8 at hput hz8 HLW
            obtain ⟨TB, hTB⟩ : ∃ TB, tagB (v : Int) = TB := ⟨_, rfl⟩
            rw [hTB] at hput HLW
            have HTB := Lib.hid hTB
            clear hTB
            have hvw : IntKind.u64.wrap (v : Int) = (v : Int) := by show (v : Int) % 18446744073709551616 = v; omega
            have HPUT := Lib.hid hput
            clear hfq ho hr2 hb2 hput h8 htl hq2
            by_cases hm255 : 255 < m
            · have hmI : 255 < (m : Int) := by omega
              go_wp2
              go_ret2
              exact wrote_err (by rw [HWE.out, if_neg (by rintro (h | h); exact ht0 h; cases h), if_pos hm255]) (by decide) HFQ.out
            · have hmI : ¬ 255 < (m : Int) := by omega
              have hmw : IntKind.u8.wrap (m : Int) = (m : Int) := IntWalk.u8_in _ ⟨by omega, by omega⟩
              have hmb : (m : Int) = ((UInt8.ofNat m).toNat : Int) := by rw [UInt8.toNat_ofNat']; omega
              have HMB := Lib.hid hmb
              clear hmb
              have hcs : (127 < (m : Int)) ∨ ¬ (127 < (m : Int)) := by omega
              rcases hcs with h127 | h127
              · go_wp2_with (first
                  | (go_at_call 32; refine HPUT.out.mono ?_; rintro e w2 ⟨r2, rfl, o2, f2⟩; have c12 := (HFQ.out.trans f2).cell C1W.out (fun x => x); have F2 := Lib.hid (HFQ.out.trans f2); have O2 := Lib.hid (rt_own_low o2 HFQ.out.size); clear o2 f2)
                  | (at_builtin; go_must (refine ap8_one w2 rfl (.tmp 58) (.tmp 59) rfl w.heap.size r2 (nb + z8) _ rfl O2.out 129 129 rfl _ rfl (by omega) F2.out.size ?_); intro r3 w3 o3 g3 q3; have F3 := Lib.hid ((F2.out.alloc _).grown g3 (fun g e => .inr (O2.out.lt g e).1)); have c13 := F3.out.cell C1W.out (fun x => x); have O3 := Lib.hid o3; clear o3 g3 q3))
                have cD : w3.drew.cell? ⟨P.block, P.off + 1, none⟩ = some (.slice B m d) := F3.out.drew.cell C1W.out (fun x => x)
                have cA : ∀ o, (w3.alloc o).cell? ⟨P.block, P.off + 1, none⟩ = some (.slice B m d) := fun o => (F3.out.alloc o).cell C1W.out (fun x => x)
                have hls := F3.out.size
                go_region_law (first
                  | (refine step8 rfl (.tmp 61) (.tmp 69) rfl w.heap.size r3 (nb + z8 + 1) _ (by rfl) ((O3.out.alloc _).drew) (some ⟨w3.heap.size, 0, none⟩) 1 1 [UInt8.ofNat m] (by rfl) ((Rd.one HMB.out _).dr (Dr.refl _).drew) (by omega) (by simp; omega) ?_; intro r4 w4 o4 g4 q4; have F4 := Lib.hid ((F3.out.drew.alloc _).grown g4 (fun g e => .inr (O3.out.lt g e).1)); have c14 := F4.out.cell C1W.out (fun x => x); have O4 := Lib.hid o4; clear o4 g4 q4)
                  | (refine step8 rfl (.tmp 70) (.tmp 75) rfl w.heap.size r4 (nb + z8 + 1 + 1) _ (by rfl) O4.out B m d a.2 (by rfl) (H1.out.no F4.out) (by omega) F4.out.size ?_; intro r5 w5 o5 g5 q5; have F5 := Lib.hid (F4.out.grown g5 (fun g e => .inr (O4.out.lt g e).1)); have O5 := Lib.hid o5; clear o5 g5 q5))
                all_goals
                  go_wp2
                  go_roundw
                  case rel => exact ⟨k + 1, _, _, by omega, by go_num, O5.out, by omega, F5.out, by rw [HWT.out, HLB.out, HTB.out]; unfold lenB; rw [if_neg (by omega)]; simp, by rw [HWE.out, if_neg (by rintro (h | h); exact ht0 h; cases h), if_neg hm255]⟩
                  case measure => simp [intOf]; omega
              · go_wp2_with (go_at_call 32; refine HPUT.out.mono ?_; rintro e w2 ⟨r2, rfl, o2, f2⟩; have c12 := (HFQ.out.trans f2).cell C1W.out (fun x => x); have F2 := Lib.hid (HFQ.out.trans f2); have O2 := Lib.hid (rt_own_low o2 HFQ.out.size); clear o2 f2)
                have cD : w2.drew.cell? ⟨P.block, P.off + 1, none⟩ = some (.slice B m d) := F2.out.drew.cell C1W.out (fun x => x)
                have cA : ∀ o, (w2.alloc o).cell? ⟨P.block, P.off + 1, none⟩ = some (.slice B m d) := fun o => (F2.out.alloc o).cell C1W.out (fun x => x)
                have hls := F2.out.size
                go_region_law (first
                  | (refine step8 rfl (.tmp 61) (.tmp 69) rfl w.heap.size r2 (nb + z8) _ (by rfl) ((O2.out.alloc _).drew) (some ⟨w2.heap.size, 0, none⟩) 1 1 [UInt8.ofNat m] (by rfl) ((Rd.one HMB.out _).dr (Dr.refl _).drew) (by omega) (by simp; omega) ?_; intro r4 w4 o4 g4 q4; have F4 := Lib.hid ((F2.out.drew.alloc _).grown g4 (fun g e => .inr (O2.out.lt g e).1)); have c14 := F4.out.cell C1W.out (fun x => x); have O4 := Lib.hid o4; clear o4 g4 q4)
                  | (refine step8 rfl (.tmp 70) (.tmp 75) rfl w.heap.size r4 (nb + z8 + 1) _ (by rfl) O4.out B m d a.2 (by rfl) (H1.out.no F4.out) (by omega) F4.out.size ?_; intro r5 w5 o5 g5 q5; have F5 := Lib.hid (F4.out.grown g5 (fun g e => .inr (O4.out.lt g e).1)); have O5 := Lib.hid o5; clear o5 g5 q5))
                all_goals
                  go_wp2
                  go_roundw
                  case rel => exact ⟨k + 1, _, _, by omega, by go_num, O5.out, by omega, F5.out, by rw [HWT.out, HLB.out, HTB.out]; unfold lenB; rw [if_pos (by omega)]; simp, by rw [HWE.out, if_neg (by rintro (h | h); exact ht0 h; cases h), if_neg hm255]⟩
                  case measure => simp [intOf]; omega
      · obtain rfl : k = n := by omega
        have HO := Lib.hid ho; have HWE := Lib.hid hwe
        clear ho hwe
        go_wp2
        go_ret2
        have hE : wrE ls = 0 := by rw [HWE.out, List.drop_eq_nil_of_le (by rw [HLEN.out]; exact Nat.le_refl _)]; rfl
        have hL : wrL ls = lb := by unfold wrL; rw [if_pos hE, HLB.out, List.take_of_length_le (by rw [HLEN.out]; exact Nat.le_refl _)]
        have hnl : lb.length = nb := by have := HO.out.1; simpa using this
        refine ⟨_, by rw [hE]; rfl, ?_, HFR.out⟩
        rw [hL, hnl]
        exact HO.out
end Go.Proofs.Ytbfodbejdaafaaa
