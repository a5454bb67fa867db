/- LinkParts: in whatever parts frames come, they are the same, in order: the walk, for all rows of numbers. -/
import Derived.Test.YtpoaifibomiiaaaLnkAwake
import Derived.Test.YtpoaifibomiiaaaLnkFar
import Derived.Test.YtpoaifibomiiaaaHelpInt
import Derived.Test.YtpoaifibomiiaaaLnkGrow
import Derived.Test.YtpoaifibomiiaaaBits
namespace Go.Proofs.Ytpoaifibomiiaaa
open Go.RowKit
set_option maxHeartbeats 4000000
set_option linter.unusedVariables false

set_option maxRecDepth 100000 in
theorem lparts_walk {A B : Option Addr} {n c m d : Nat} {zs ys : List Int} (w : World) (ha : Rd w A n c (ints zs)) (hz : ∀ z ∈ zs, (Lit.int .i64 z).wf = true) (hb : Rd w B m d (ints ys)) (hy : ∀ z ∈ ys, (Lit.int .i64 z).wf = true) :
    Calls Try.prog 4 #[.slice A n c, .slice B m d] w fun e w' => e = .returned (.bool true) ∧ Fr No w w' := by
  go_enter Try.func4, Try.ntmps4
  go_wp2
  have hnlen : zs.length = n := by simpa using ha.len
  have HA := Lib.hid ha; have HB := Lib.hid hb; have HZ := Lib.hid hz; have HY := Lib.hid hy
  clear ha hb hz hy
  go_loopw [5, 6, 7] (fun av wv iv wr => ∃ (k an : Nat) (ms : List (List UInt8)), iv = .int .i64 (k : Int) ∧ k ≤ 12 ∧ k ≤ n ∧ Grow w wr av wv k an ms) (fun _ _ iv _ => 12 - (intOf iv).toNat)
  case atStart => exact ⟨0, 0, [], rfl, by omega, by omega, Grow.nil_ w⟩
  case round =>
    obtain ⟨k, an, ms, rfl, hk, hkn, hG⟩ := hrel
    have HG := Lib.hid hG
    clear hG
    by_cases hgo : k < n ∧ k < 12
    · have hgo1 : (k : Int) < (n : Int) := by omega
      have hgo2 : (k : Int) < 12 := by omega
      obtain ⟨ad, u, hA, hu, hcell⟩ := (HA.out.no HG.out.fr).at_ (k := k) (by omega)
      subst hA
      obtain ⟨z, rfl, hzw⟩ : ∃ z, u = .int .i64 z ∧ (Lit.int .i64 z).wf = true := by
        unfold ints at hu
        rw [List.getElem?_map] at hu
        obtain ⟨z, h1, rfl⟩ := Option.map_eq_some_iff.1 hu
        exact ⟨z, rfl, HZ.out z (List.mem_of_getElem? h1)⟩
      obtain ⟨q0, hq, hq1⟩ := rem_nat z 300 (by omega)
      obtain ⟨q, hq2⟩ : ∃ q, q = 1 + q0 := ⟨_, rfl⟩
      have hq3 : (1 : Int) + (q0 : Int) = (q : Int) := by omega
      have hq4 : 1 ≤ q := by omega
      have hq5 : q ≤ 300 := by omega
      clear hu hgo hq2 hq1 hzw
      go_wp2_with (refine mk8 wr rfl _ _ rfl .i64 .i64 _ _ q q rfl rfl rfl rfl (Nat.le_refl _) (by omega) ?_; intro w1 hb1 hf1 hs1)
      obtain ⟨wo, hwo⟩ : ∃ x : World, x = wr := ⟨_, rfl⟩
      subst hwo
      have hg1 : wo.heap.size < w1.heap.size := by omega
      obtain ⟨g1, hg1e⟩ : ∃ g1, wo.heap.size = g1 := ⟨_, rfl⟩
      have HG1 := Lib.hid hg1e
      have HS1 := Lib.hid hs1
      have hF1 := Lib.hid hf1
      clear hs1 hf1 hcell
      rw [hg1e] at hb1 hg1 ⊢
      go_loopw [40] (fun jv wi => ∃ j : Nat, jv = .int .i64 (j : Int) ∧ j ≤ q ∧ Bk wi g1 5 (u8s (fillL k j ++ List.replicate (q - j) 0)) ∧ Fr (Just g1) w1 wi) (fun jv _ => q - (intOf jv).toNat)
      case atStart => exact ⟨0, rfl, by omega, by simpa [fillL] using hb1, Fr.refl _ _⟩
      case round =>
        obtain ⟨j, rfl, hj, hbi, hfi⟩ := hrel
        by_cases hjq : j < q
        · have hjI : (j : Int) < (q : Int) := by omega
          obtain ⟨u0, hu0⟩ : ∃ u0, (u8s (fillL k j ++ List.replicate (q - j) 0))[j]? = some u0 := ⟨_, List.getElem?_eq_getElem (by rw [u8s_length, List.length_append, fill_len, List.length_replicate]; omega)⟩
          have hc : wr.cell? ⟨g1, j, none⟩ = some u0 := by rw [hbi.cell, hu0]
          have hz := hbi.frozen j
          have HBI := Lib.hid hbi
          clear hbi hu0
          go_wp2
          go_roundw
          case rel =>
            refine ⟨j + 1, by go_num, by omega, ?_, hfi.setCell (p := ⟨g1, j, none⟩) (.inl (Just.at g1)) _⟩
            have h := HBI.out.set_ j (.int .u8 (IntKind.u8.wrap ((k : Int) + (j : Int))))
            rw [fill_step k j q hjq] at h
            exact h
          case measure => simp [intOf]; omega
        · obtain rfl : j = q := by omega
          have hjI : ¬ (j : Int) < (j : Int) := by omega
          have hM : Rd wr (some ⟨g1, 0, none⟩) j j (u8s (fillL k j)) := by
            have h := hbi.rd (n := j) (cap := j) (Nat.le_refl _) (by simp only [maxLen]; omega) (by rw [u8s_length, List.length_append, fill_len]; omega)
            rwa [show (u8s (fillL k j ++ List.replicate (j - j) 0)).take j = u8s (fillL k j) from by simp [u8s, List.take_of_length_le, fill_len]] at h
          have hfwi : Fr No wo wr := hF1.out.trans_new hfi (fun i hi => .inr (by rw [HG1.out, show i = g1 from hi]; exact Nat.le_refl _))
          obtain ⟨e1, e2⟩ := frm_ok (b := fillL k j) (by rw [fill_len]; omega) (by rw [fill_len]; omega)
          have E1 := Lib.hid e1; have E2 := Lib.hid e2; have hsi := hfi.size
          have tok1 : True := trivial
          clear e1 e2 hbi hb1
          go_wp2_with (first
            | (go_at_call 9; refine (link_frame_any _ j _ (fillL k j) _ hM (by omega)).mono ?_; rw [E1.out, E2.out]; rintro e w2 ⟨X, xm, xd, rfl, hx2, -, hf2⟩; obtain rfl : xm = 2 + j := (by have h := hx2.len; rw [u8s_length, List.length_append, fill_len, low_length] at h; exact h.symm); have hM2 := hM.no hf2; have hfw2 := hfwi.trans hf2; have hs2 := hf2.size)
            | (at_builtin; clear tok1; refine ap8 w2 rfl _ _ rfl w.heap.size u5 an (joinF ms) rfl (HG.out.no hfw2) X (2 + j) xd _ rfl hx2 (by have := HG.out.top; omega) (HG.out.fr.trans hfw2).size ?_; intro av w3 ha3 hg3 hav3; obtain ⟨hO5, hL5⟩ := Grow.mid (t := 23) (q := j) HG.out hfw2 hg3 (fun i e => (ha3.lt i e).2) hav3 (Nat.le_of_eq HG1.out) (Nat.lt_of_lt_of_le hg1 (Nat.le_trans hsi hs2)) hM2; have hfw3 : w.heap.size ≤ w3.heap.size := Nat.le_trans (HG.out.fr.trans hfw2).size hg3.size)
            | (at_builtin; refine apL _ rfl _ _ rfl w.heap.size _ u6 k ms rfl hO5 _ 1 1 _ rfl hL5 (by omega) (by simp; omega) (fun i h => h.2.2.2) ?_; intro wv w4 ho4 hg4 hwv4))
          go_roundw
          case rel => exact ⟨k + 1, an + (2 + j), ms ++ [fillL k j], by go_num, by omega, by omega, Grow.next (t := 23) (q := j) HG.out hfw2 ha3 hg3 hav3 ho4 hg4 (by simpa using hwv4) (by rw [fill_len]; omega) (by have := HG.out.top; omega)⟩
          case measure => simp [intOf]; omega
    · obtain ⟨G1, G2, G3, G4, G5, G6⟩ := HG.out
      have hgoI : ¬ (k : Int) < (n : Int) ∨ ((k : Int) < (n : Int) ∧ ¬ (k : Int) < 12) := by omega
      have hanb : an ≤ 3624 := by have := G6; omega
      have hcut : cutL (joinF ms) = some (ms, []) := cut_join ms (fun x hx => by have := G5 x hx; omega)
      obtain ⟨AA, ac, rfl, har, hab⟩ := Rd.of_own G1
      obtain ⟨WA, wc, rfl, hwr⟩ := (G2.mono (M := fun i => w.heap.size ≤ i ∧ i < wr.heap.size) (fun i h => ⟨h.1, h.2.1⟩)).rd (fun i h1 h2 => ⟨h1, h2⟩)
      have hlen : (joinF ms).length = an := by simpa using har.len
      rcases hgoI with hgoI | ⟨hgoI, hgoI2⟩
      all_goals
        go_wp2_with (first
          | (go_at_call 7; refine (link_new_any _).mono ?_; rintro e w5 ⟨p1, rfl, K1, hl1, hK1, hf5⟩; obtain ⟨pd, rfl⟩ := hl1.ptr)
          | (go_at_call 8; refine (awake_any _).mono ?_; rintro e w6 ⟨rfl, hf6⟩))
        have hs5 := hf5.size
        have hs6 := hf6.size
        have hG0 : Got wr w6 w6 (.slice none 0 0) 0 [] K1 := ⟨OwnL.nil_ _ _ _, fun _ e => by simp [Value.ownBlock] at e, hK1, hf5.trans hf6, by omega, Nat.le_refl _⟩
        have hL0 := hl1.no hf6
        have H0 := Lib.hid hG0; have HL0 := Lib.hid hL0; have HC := Lib.hid hcut; have HAR := Lib.hid har; have HAB := Lib.hid hab; have HWR := Lib.hid hwr; have HLEN := Lib.hid hlen; have G4h := Lib.hid G4; have G6h := Lib.hid G6; have HW56 := Lib.hid (hf5.trans hf6)
        clear hG0 hL0 hcut har hab hwr hlen G1 G2 G3 G4 G5 G6 hl1 hK1 hf5 hf6
        obtain ⟨wo, hwo⟩ : ∃ x : World, x = wr := ⟨_, rfl⟩
        subst hwo
        go_loopw [13, 14, 15] (fun gv tv jv w8 => ∃ (t j gk : Nat) (fs : List (List UInt8)) (r : List UInt8) (K : Nat → Prop), tv = .int .i64 (t : Int) ∧ jv = .int .i64 (j : Int) ∧ t ≤ an ∧ j ≤ 81 ∧ (j ≤ 80 ∨ t = an) ∧
          Got wo w6 w8 gv gk fs K ∧ Lnk w8 (.pointer (some pd)) K (some r) ∧ cutL ((joinF ms).take t) = some (fs, r)) (fun _ tv jv _ => (80 - (intOf jv).toNat) + (an - (intOf tv).toNat))
        case atStart => exact ⟨0, 0, 0, [], [], K1, rfl, rfl, by omega, by omega, by omega, H0.out, HL0.out, rfl⟩
        case round =>
          obtain ⟨t, j, gk, fs, r, K, rfl, rfl, ht, hj, hjt, hG, hL, hct⟩ := hrel
          have HG2 := Lib.hid hG; have HL2 := Lib.hid hL; have HCT := Lib.hid hct
          clear hG hL hct
          by_cases hta : t < an
          · have htaI : (t : Int) < (an : Int) := by omega
            by_cases hjm : j < m ∧ j < 80
            · have hj1 : (j : Int) < (m : Int) := by omega
              have hj2 : (j : Int) < 80 := by omega
              have hfw8 : Fr No w wr := G4h.out.trans HG2.out.fr
              obtain ⟨bd, u, hB, hu, hcell⟩ := (HB.out.no hfw8).at_ (k := j) (by omega)
              subst hB
              obtain ⟨z, rfl, hzw⟩ : ∃ z, u = .int .i64 z ∧ (Lit.int .i64 z).wf = true := by
                unfold ints at hu
                rw [List.getElem?_map] at hu
                obtain ⟨z, h1, rfl⟩ := Option.map_eq_some_iff.1 hu
                exact ⟨z, rfl, HY.out z (List.mem_of_getElem? h1)⟩
              obtain ⟨q, hq, hq1⟩ := rem_nat z 200 (by omega)
              clear hu hjm hzw
              have hpq : (∃ p : Nat, p = q ∧ t + p ≤ an ∧ (p : Int) < (an : Int) - (t : Int)) ∨ (∃ p : Nat, (an : Int) - (t : Int) = (p : Int) ∧ t + p ≤ an ∧ ¬ (q : Int) < (p : Int)) := by
                by_cases h : q < an - t
                · exact .inl ⟨q, rfl, by omega, by omega⟩
                · exact .inr ⟨an - t, by omega, by omega, by omega⟩
              rcases hpq with ⟨p, rfl, hpl, hpn⟩ | ⟨p, hp, hpl, hpn⟩
              all_goals
                obtain ⟨fs2, r2, e1, e2, e3, hct2⟩ := part_next (n := p) HC.out HCT.out
                have hcapA := HAR.out.cap
                have hact : ¬ ac = t := by omega
                have hq0 : Rd wo (Option.map (fun x => x.add t) AA) p (ac - t) (u8s (((joinF ms).drop t).take p)) := by
                  have h := HAR.out.cut (k := t) (m := t + p) (by omega) (by omega)
                  rwa [if_neg hact, u8s_cut, Nat.add_sub_cancel_left] at h
                have hbd : gk + fs2.length ≤ 10000 := by
                  have h1 := HG2.out.own.len
                  have h2 := cut_len _ _ (Nat.le_refl _) _ hct2
                  simp only [List.length_append, List.length_take] at h2
                  have h3 := G6h.out
                  have h4 := HLEN.out
                  omega
                have E1 := Lib.hid e1; have E2 := Lib.hid e2; have E3 := Lib.hid e3; have HCT2 := Lib.hid hct2; have HQ := Lib.hid hq0; have HBD := Lib.hid hbd; have HOLD := Lib.hid HG2.out.old
                clear e1 e2 e3 hct2 hq0 hbd
                go_wp2_with (first
                  | (go_at_call 13; have t1 := HL2.out; have t2 := HQ.out.no HG2.out.fr; have t3 : ∀ ad, Option.map (fun x => x.add t) AA = some ad → 0 < p → ¬ K ad.block := Rd.far HQ.out HG2.out.far; refine (link_feed_any (K := K) (st := some r) _ p (ac - t) _ _ t1 t2 (by omega) t3).mono ?_; clear t1 t2 t3; rw [E1.out, E2.out, E3.out]
                     rintro e w9 ⟨B9, m9, d9, rfl, K9, hR9, hl9, hf9, hk9⟩; obtain ⟨hO9, hL9⟩ := HG2.out.mid hf9 hk9 hR9; have hm9 := hR9.len; have hs9 := hf9.size; have HK9 := Lib.hid hk9; clear hk9 hR9)
                  | (at_builtin; refine apL _ rfl _ _ rfl w6.heap.size _ u13 gk fs rfl hO9 _ m9 d9 fs2 rfl hL9 (by have := HBD.out; omega) (by have := HOLD.out.2; omega) (fun i h => h.2.2.2) ?_; intro gv w10 ho10 hg10 hgv10))
                go_roundw
                case rel =>
                  have hn := HG2.out.next hf9 HK9.out hl9.low ho10 hg10 hgv10
                  have hap := HG2.out.apart2 HK9.out
                  exact ⟨t + p, j + 1, gk + m9, fs ++ fs2, r2, K9, by go_num, by go_num, by omega, by omega, by first | omega | (have := HPL.out; omega), hn, hl9.fr ((Fr.refl (fun i => u13.ownBlock = some i) w9).grown hg10 (fun g e => .inl e)) (fun i h x => hap i h x), HCT2.out⟩
                case measure => simp [intOf]; first | omega | (have := HPL.out; omega)
            · obtain ⟨p, hp⟩ : ∃ p : Nat, (an : Int) - (t : Int) = (p : Int) := ⟨an - t, by omega⟩
              have hpl0 : t + p = an := by omega
              have HPL := Lib.hid hpl0
              have hpl : t + p ≤ an := by omega
              clear hpl0
              have hjI : ¬ (j : Int) < (m : Int) ∨ ((j : Int) < (m : Int) ∧ ¬ (j : Int) < 80) := by omega
              rcases hjI with hjI | ⟨hjI, hjI2⟩
              all_goals
                obtain ⟨fs2, r2, e1, e2, e3, hct2⟩ := part_next (n := p) HC.out HCT.out
                have hcapA := HAR.out.cap
                have hact : ¬ ac = t := by omega
                have hq0 : Rd wo (Option.map (fun x => x.add t) AA) p (ac - t) (u8s (((joinF ms).drop t).take p)) := by
                  have h := HAR.out.cut (k := t) (m := t + p) (by omega) (by omega)
                  rwa [if_neg hact, u8s_cut, Nat.add_sub_cancel_left] at h
                have hbd : gk + fs2.length ≤ 10000 := by
                  have h1 := HG2.out.own.len
                  have h2 := cut_len _ _ (Nat.le_refl _) _ hct2
                  simp only [List.length_append, List.length_take] at h2
                  have h3 := G6h.out
                  have h4 := HLEN.out
                  omega
                have E1 := Lib.hid e1; have E2 := Lib.hid e2; have E3 := Lib.hid e3; have HCT2 := Lib.hid hct2; have HQ := Lib.hid hq0; have HBD := Lib.hid hbd; have HOLD := Lib.hid HG2.out.old
                clear e1 e2 e3 hct2 hq0 hbd
                go_wp2_with (first
                  | (go_at_call 13; have t1 := HL2.out; have t2 := HQ.out.no HG2.out.fr; have t3 : ∀ ad, Option.map (fun x => x.add t) AA = some ad → 0 < p → ¬ K ad.block := Rd.far HQ.out HG2.out.far; refine (link_feed_any (K := K) (st := some r) _ p (ac - t) _ _ t1 t2 (by omega) t3).mono ?_; clear t1 t2 t3; rw [E1.out, E2.out, E3.out]
                     rintro e w9 ⟨B9, m9, d9, rfl, K9, hR9, hl9, hf9, hk9⟩; obtain ⟨hO9, hL9⟩ := HG2.out.mid hf9 hk9 hR9; have hm9 := hR9.len; have hs9 := hf9.size; have HK9 := Lib.hid hk9; clear hk9 hR9)
                  | (at_builtin; refine apL _ rfl _ _ rfl w6.heap.size _ u13 gk fs rfl hO9 _ m9 d9 fs2 rfl hL9 (by have := HBD.out; omega) (by have := HOLD.out.2; omega) (fun i h => h.2.2.2) ?_; intro gv w10 ho10 hg10 hgv10))
                go_roundw
                case rel =>
                  have hn := HG2.out.next hf9 HK9.out hl9.low ho10 hg10 hgv10
                  have hap := HG2.out.apart2 HK9.out
                  exact ⟨t + p, j + 1, gk + m9, fs ++ fs2, r2, K9, by go_num, by go_num, by omega, by omega, by first | omega | (have := HPL.out; omega), hn, hl9.fr ((Fr.refl (fun i => u13.ownBlock = some i) w9).grown hg10 (fun g e => .inl e)) (fun i h x => hap i h x), HCT2.out⟩
                case measure => simp [intOf]; first | omega | (have := HPL.out; omega)
          · obtain rfl : t = an := by omega
            have hend := part_end HC.out (by rw [HLEN.out]; exact Nat.le_refl _) HCT.out
            have hms : (fs == ms) = true := by rw [hend]; simp
            obtain ⟨GA, gc, rfl, hgr⟩ := (HG2.out.own.mono (M := fun i => w6.heap.size ≤ i ∧ i < wr.heap.size) (fun i h => ⟨h.1, h.2.1⟩)).rd (fun i h1 h2 => ⟨h1, h2⟩)
            have hsm := fun u (hd : Fr No wr u) => same_rows_any GA WA gk gc k wc _ _ fs ms u (hgr.no hd) (HWR.out.no (HG2.out.fr.trans hd)) (by have h := HG2.out.own.len; have h2 := cut_len _ _ (Nat.le_refl _) _ HCT.out; simp only [List.length_take] at h2; have h3 := G6h.out; omega)
            rw [hms] at hsm
            have HSM := Lib.hid hsm
            have htI : ¬ (t : Int) < (t : Int) := by omega
            clear hsm hms hend hgr
            go_wp2_with (go_at_call 15; refine (HSM.out _ (Fr.refl No _)).mono ?_; rintro e w11 ⟨rfl, hd⟩)
            go_ret
            exact ⟨rfl, (G4h.out.trans HG2.out.fr).dr hd⟩
end Go.Proofs.Ytpoaifibomiiaaa
