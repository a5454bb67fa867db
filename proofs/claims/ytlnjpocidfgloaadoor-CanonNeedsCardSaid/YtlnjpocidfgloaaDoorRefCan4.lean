/- The statements' own file of a node, with all that stands in it; of right nodes. -/
import Derived.Test.YtlnjpocidfgloaaDoorRefCan3
import Derived.Test.YtlnjpocidfgloaaDoorRefEsc
import Derived.Test.YtlnjpocidfgloaaDoorCanM
import Derived.Test.YtlnjpocidfgloaaDoorCanNode
namespace Go.Proofs.YtlnjpocidfgloaaDoor
open Go.RowKit
set_option maxHeartbeats 400000
set_option linter.unusedVariables false

def RefCon (F : Fo) (A : Option Addr) (n c : Nat) (N : Nat → Prop) (m : Nat) : Prop :=
  ∀ (nm t : List UInt8) (a : List (List UInt8 × List UInt8)) (k r : Fo) (pp : Int) (b : Nat), At F (-1) 0 (.cons nm t a k r) pp b → 1 + k.size ≤ m → ∀ (w : World),
    RdI 4 NodI w N A n c (F.flat (-1) 0) → (wr1 nm t a k).length ≤ 1000000000000 →
    Calls Tryd.prog 15 #[.slice A n c, .int .i64 (b : Int)] w fun e w' => e = .returned (.string (bstr (wr1 nm t a k))) ∧ Fr No w w'
variable {F : Fo} {A : Option Addr} {n c : Nat} {N : Nat → Prop} {m : Nat}
theorem ret_str {O : ByteArray} {L : List UInt8} (h : O.data.toList = L) : Ending.returned (.string O) = .returned (.string (bstr L)) := by subst h; rfl
theorem wr_tail (k : Fo) : ∀ (f : Fo), f.wr.length ≤ f.wr.length := fun _ => Nat.le_refl _
set_option maxHeartbeats 4000000 in
set_option maxRecDepth 20000 in
theorem r_write_step (hcon : RefCon F A n c N m) (hsmall : ∀ x ∈ F.flat (-1) 0, NodS x) (hbig : n ≤ 1000000) : RefCon F A n c N (m + 1) := by
  intro nm t a k r pp i hat hkm w hR hlo
  have hlen := hR.len nod_ok (by omega)
  obtain ⟨hnode, hkids⟩ := hat.node
  obtain ⟨ls, hls⟩ : ∃ ls, F.flat (-1) 0 = ls := ⟨_, rfl⟩
  rw [hls] at hnode hkids hR hlen hsmall
  have hil : i < ls.length := by
    rcases Nat.lt_or_ge i ls.length with h1 | h1
    · exact h1
    · rw [List.getElem?_eq_none h1] at hnode; cases hnode
  have hnd : ls[i] = ⟨pp, nm, t, a⟩ := by rw [List.getElem?_eq_getElem hil] at hnode; injection hnode
  have hsm := hsmall _ (List.getElem_mem hil)
  rw [hnd] at hsm
  obtain ⟨ad, cs, rfl, ⟨X, Y, A1, n1, c1, rfl, hX, hY, hA1⟩, hc⟩ := hR.at_ nod_ok (by omega) (i := i) hil
  have x0 := hc 0 _ rfl
  have x1 := hc 1 _ rfl
  have x2 := hc 2 _ rfl
  have x3 := hc 3 _ rfl
  rw [add_next ad] at x1 x2 x3
  obtain ⟨P, hP⟩ : ∃ P, ad.add (i * 4) = P := ⟨_, rfl⟩
  rw [Nat.add_zero, hP] at x0
  obtain ⟨q0, hq0⟩ : ∃ q, ls[i].parent = q := ⟨_, rfl⟩
  rw [hq0] at x0
  rw [hP] at x1 x2 x3
  replace x1 : w.cell? ⟨P.block, P.off + 1, none⟩ = some (.string X) := x1
  replace x2 : w.cell? ⟨P.block, P.off + 2, none⟩ = some (.string Y) := x2
  replace x3 : w.cell? ⟨P.block, P.off + 3, none⟩ = some (.slice A1 n1 c1) := x3
  rw [hnd] at hX hY hA1
  replace hX : X.data.toList = nm := hX
  replace hY : Y.data.toList = t := hY
  replace hA1 : RdI 2 AttrI w N A1 n1 c1 a := hA1
  have hin2 : i < n := by omega
  have hkd := fun u (hf : Fr No w u) => r_Kids_any ls (some ad) n c (i : Int) N u (hR.no nod_ok hf) (by omega)
  rw [hkids] at hkd
  have hn1 : n1 ≤ 1000000000 := by rw [← hA1.len attr_ok (by omega)]; exact hsm.many
  have hYs : Y.size ≤ 1000000000 := by rw [← size_list, hY]; exact hsm.text
  have hnl : nm.length = X.size := by rw [← size_list, hX]
  have hw1 : wr1 nm t a k = 60 :: (nm ++ (attrW a ++ (if t = [] ∧ k.isNil = true then [47, 62] else 62 :: (escL t ++ (k.wr ++ (60 :: 47 :: (nm ++ [62]))))))) := rfl
  obtain ⟨tl, htl⟩ : ∃ tl, (if t = [] ∧ k.isNil = true then [47, 62] else 62 :: (escL t ++ (k.wr ++ (60 :: 47 :: (nm ++ [62]))))) = tl := ⟨_, rfl⟩
  rw [htl] at hw1
  obtain ⟨R, hRe⟩ : ∃ R, wr1 nm t a k = R := ⟨_, rfl⟩
  rw [hRe]
  rw [hw1] at hlo hRe
  simp only [List.length_cons, List.length_append] at hlo
  rw [hnl] at hlo
  have HK := Lib.hid hkd; have HR := Lib.hid hR; have HX := Lib.hid hX; have HY := Lib.hid hY; have HA1 := Lib.hid hA1; have HSM := Lib.hid hsm; have HC := Lib.hid hcon; have HAT := Lib.hid hat; have HLS := Lib.hid hls; have HTL := Lib.hid htl; have HRE := Lib.hid hRe; have HNL := Lib.hid hnl
  clear hkd hR hX hY hc hA1 hsm hcon hat hls hnd hnode hsmall hq0 hlen hil hkids htl hw1 hRe hnl
  have hiI : (i : Int) < (n : Int) := by omega
  go_enter Tryd.func15, Tryd.ntmps15
  go_wp2
  have hbk0 := Bk.new w 32 #[.int .i64 q0, .string X, .string Y, .slice A1 n1 c1]
  have hf0 := (Fr.refl No w).alloc (.cells #[.int .i64 q0, .string X, .string Y, .slice A1 n1 c1] 32)
  have HBK0 := Lib.hid hbk0; have HF0 := Lib.hid hf0
  clear hbk0 hf0
  go_loopw [6, 7] (fun sv jv wr => ∃ (j : Nat) (O : ByteArray), jv = .int .i64 (j : Int) ∧ sv = .string O ∧ j ≤ n1 ∧ O.data.toList = 60 :: (nm ++ attrW (a.take j)) ∧ Bk wr w.heap.size 32 [.int .i64 q0, .string X, .string Y, .slice A1 n1 c1] ∧ Fr No w wr) (fun _ jv _ => n1 - (intOf jv).toNat)
  case atStart => exact ⟨0, ⟨#[60]⟩ ++ X, rfl, rfl, Nat.zero_le _, by rw [app_list, HX.out]; simp [attrW], HBK0.out, HF0.out⟩
  case round =>
    obtain ⟨j, O, rfl, rfl, hj, hO, hbk, hfr⟩ := hrel
    have hOs : O.size ≤ 1000000000000 := by
      have h9 := congrArg List.length hO
      have h8 := attrW_le a j
      simp only [size_list, List.length_cons, List.length_append, HNL.out] at h9
      omega
    have han := HA1.out.len attr_ok (by omega)
    have b1 : wr.cell? ⟨w.heap.size, 1, none⟩ = some (.string X) := hbk.cell 1
    have b2 : wr.cell? ⟨w.heap.size, 2, none⟩ = some (.string Y) := hbk.cell 2
    have b3 : wr.cell? ⟨w.heap.size, 3, none⟩ = some (.slice A1 n1 c1) := hbk.cell 3
    rcases Nat.lt_or_ge j n1 with hlt | hge
    · have hltI : (j : Int) < (n1 : Int) := by omega
      have hjl : j < a.length := by omega
      obtain ⟨ad1, cs1, rfl, ⟨X1, Y1, rfl, hX1, hY1⟩, hc1⟩ := (HA1.out.no attr_ok hfr).at_ attr_ok (by omega) (i := j) hjl
      have y0 := hc1 0 _ rfl
      have y1 := hc1 1 _ rfl
      rw [add_next ad1] at y1
      obtain ⟨P1, hP1⟩ : ∃ P1, ad1.add (j * 2) = P1 := ⟨_, rfl⟩
      rw [Nat.add_zero, hP1] at y0
      rw [hP1] at y1
      replace y1 : wr.cell? ⟨P1.block, P1.off + 1, none⟩ = some (.string Y1) := y1
      obtain ⟨s1, s2⟩ := HSM.out.attrs _ (List.getElem_mem hjl)
      obtain ⟨E, hE⟩ : ∃ E, bstr (escL Y1.data.toList) = E := ⟨_, rfl⟩
      have hEl : E.data.toList = escL Y1.data.toList := by rw [← hE]; rfl
      have hes := fun u => r_esc_any Y1 E u (by rw [← size_list, hY1]; exact s2) hEl
      have hnx := attrW_next a j hjl
      have hat1 : attr1 a[j] = 32 :: (X1.data.toList ++ (61 :: 34 :: (E.data.toList ++ [34]))) := by unfold attr1; rw [hX1, hEl, hY1]
      have hO2 : (O ++ ⟨#[32]⟩ ++ X1 ++ ⟨#[61, 34]⟩ ++ E ++ ⟨#[34]⟩ : ByteArray).data.toList = 60 :: (nm ++ attrW (a.take (j + 1))) := by
        rw [app_list, app_list, app_list, app_list, app_list, hO, hnx, hat1]; simp
      have hX1s : X1.size ≤ 1000000000 := by rw [← size_list, hX1]; exact s1
      have hEs : E.size ≤ 6000000000 := by rw [← size_list, hEl, hY1]; have := (escL_len a[j].2).2; omega
      have HES := Lib.hid hes; have HO2 := Lib.hid hO2; have HB := Lib.hid hbk; have HF := Lib.hid hfr
      clear hes hO2 hbk hfr hc1 hX1 hY1 s1 s2 hE hEl hnx hat1 hO han b1 b2
      go_wp2
      go_quiet ((go_at_call 12; exact quiet_same (HES.out _)))
      go_wp2
      go_roundw
      case rel => exact ⟨j + 1, _, by go_num, rfl, hlt, HO2.out, HB.out.no ((Fr.refl No wr).drewN _), HF.out.drewN _⟩
      case measure => simp [intOf]; omega
    · have hje : j = n1 := by omega
      subst hje
      rw [List.take_of_length_le (by omega)] at hO
      have htn := tops_nil k (i + 1)
      have hkc := HK.out wr hfr
      obtain ⟨kn, hkn⟩ : ∃ kn, (k.tops (i + 1)).length = kn := ⟨_, rfl⟩
      rw [hkn] at hkc
      have hk0 : kn = 0 ↔ k.isNil = true := by rw [← hkn, List.length_eq_zero_iff]; exact htn
      have hyt : Y.toList = t := by rw [ba_list, HY.out]
      have hRO : ∀ Z : ByteArray, Z.data.toList = tl → (O ++ Z).data.toList = R := by intro Z hZ; rw [app_list, hO, hZ, ← HRE.out]; simp
      have HKC := Lib.hid hkc; have HB := Lib.hid hbk; have HF := Lib.hid hfr; have HO := Lib.hid hO; have HRO := Lib.hid hRO; have HKN := Lib.hid hkn
      clear hkc hbk hfr hO hRO htn hkn han b1
      by_cases he : t = [] ∧ k.isNil = true
      · have hem : Y.toList.isEmpty = true := by rw [hyt, he.1]; rfl
        have he0 : ((kn : Int) == 0) = true := by rw [hk0.2 he.2]; rfl
        have htl2 : [47, 62] = tl := by have := HTL.out; rw [if_pos he] at this; exact this
        have HZ := Lib.hid (HRO.out ⟨#[47, 62]⟩ htl2)
        clear he hyt hk0 htl2
        go_wp2_with (go_at_call 28; refine HKC.out.mono ?_; rintro e w2 ⟨vk, rfl, hok, hf2⟩; obtain ⟨KA, kc, ev, hkr, -⟩ := Rd.of_own hok; subst ev; have b2' : w2.cell? ⟨w.heap.size, 2, none⟩ = some (.string Y) := (HB.out.no hf2).cell 2)
        go_ret
        exact ⟨ret_str HZ.out, HF.out.trans hf2⟩
      · have htl2 : 62 :: (escL t ++ (k.wr ++ (60 :: 47 :: (nm ++ [62])))) = tl := by have := HTL.out; rw [if_neg he] at this; exact this
        have htlen : tl.length = 1 + ((escL t).length + (k.wr.length + (X.size + 3))) := by rw [← htl2]; simp only [List.length_append, List.length_cons, List.length_nil, HNL.out]; omega
        rw [htlen] at hlo
        obtain ⟨E, hE⟩ : ∃ E, bstr (escL Y.data.toList) = E := ⟨_, rfl⟩
        have hEl : E.data.toList = escL Y.data.toList := by rw [← hE]; rfl
        have hEs : E.size ≤ 6000000000 := by rw [← size_list, hEl]; have := (escL_len Y.data.toList).2; rw [size_list] at this; omega
        have hes := fun u => r_esc_any Y E u hYs hEl
        rw [HY.out] at hEl
        have hOE : (O ++ ⟨#[62]⟩ ++ E : ByteArray).data.toList = 60 :: (nm ++ attrW a) ++ (62 :: escL t) := by rw [app_list, app_list, HO.out, hEl]; simp
        have hOEs : (O ++ ⟨#[62]⟩ ++ E : ByteArray).size + k.wr.length ≤ 1000000000000 := by
          have h9 := congrArg List.length hOE
          rw [size_list] at h9
          simp only [List.length_append, List.length_cons, HNL.out] at h9
          omega
        have hcs : (Y.toList.isEmpty = false) ∨ (Y.toList.isEmpty = true ∧ ((kn : Int) == 0) = false) := by
          rw [hyt]
          by_cases h1 : t = []
          · refine .inr ⟨by rw [h1]; rfl, ?_⟩
            rw [beq_eq_false_iff_ne]
            intro e
            exact he ⟨h1, hk0.1 (by omega)⟩
          · refine .inl ?_
            cases t with
            | nil => exact absurd rfl h1
            | cons => rfl
        obtain ⟨O1, hO1⟩ : ∃ O1, (O ++ ⟨#[62]⟩ ++ E : ByteArray) = O1 := ⟨_, rfl⟩
        rw [hO1] at hOE hOEs
        have HES := Lib.hid hes; have HOE := Lib.hid hOE; have HT2 := Lib.hid htl2
        clear hes hOE htl2 htlen he hyt hk0 hE hEl
        rcases hcs with hem | ⟨hem, he0⟩
        all_goals
          go_wp2_with (first
            | (go_at_call 28; refine HKC.out.mono ?_; rintro e w2 ⟨vk, rfl, hok, hf2⟩; obtain ⟨KA, kc, ev, hkr, -⟩ := Rd.of_own hok; subst ev; have b2' : w2.cell? ⟨w.heap.size, 2, none⟩ = some (.string Y) := (HB.out.no hf2).cell 2; have HKRD := Lib.hid hkr; have F2 := Lib.hid (HF.out.trans hf2); have B2 := Lib.hid (HB.out.no hf2); clear hok hkr hf2)
            | (go_at_call 12; refine (HES.out _).mono ?_; rintro e w3 ⟨rfl, rfl⟩))
          obtain ⟨T, hT⟩ : ∃ T, natI (k.tops (i + 1)) = T := ⟨_, rfl⟩
          have hTl : T.length = kn := by rw [← hT, ← HKN.out]; simp [natI]
          have HT := Lib.hid hT
          have HKR3 : Hid (Rd w2 KA kn kc (ints T)) := Lib.hid (by rw [← hT]; exact HKRD.out)
          have hknm : kn ≤ 9223372036854775807 := by have := HKR3.out.cap; have := HKR3.out.max; simp only [maxLen] at this; omega
          clear hT HKRD b2 b2' b3
          go_loopw [6, 9] (fun sv jv wr => ∃ (j2 : Nat) (f' : Fo) (p' : Int) (b' : Nat) (out : List UInt8) (O2 : ByteArray), jv = .int .i64 (j2 : Int) ∧ sv = .string O2 ∧ j2 ≤ kn ∧ T.drop j2 = natI (f'.tops b') ∧ At F (-1) 0 f' p' b' ∧ f'.size ≤ m ∧ O2.data.toList = (60 :: (nm ++ attrW a) ++ (62 :: escL t)) ++ out ∧ out ++ f'.wr = k.wr ∧ O2.size + f'.wr.length ≤ 1000000000000 ∧ Fr No w2 wr) (fun _ jv _ => kn - (intOf jv).toNat)
          case atStart => exact ⟨0, k, (i : Int), i + 1, [], O1, rfl, by first | rfl | rw [hO1], Nat.zero_le _, by rw [List.drop_zero, HT.out], At.kids HAT.out, by omega, by rw [HOE.out, List.append_nil], rfl, hOEs, Fr.refl _ _⟩
          case round =>
            obtain ⟨j2, f', p', b', out, O2, rfl, rfl, hj2, hdr, hat', hm', hO2, hout, hO2s, hfr2⟩ := hrel
            have b1' : wr.cell? ⟨w.heap.size, 1, none⟩ = some (.string X) := (B2.out.no hfr2).cell 1
            rcases Nat.lt_or_ge j2 kn with hlt2 | hge2
            · have hltI2 : (j2 : Int) < (kn : Int) := by omega
              have hjl2 : j2 < T.length := by omega
              obtain ⟨ad4, u4, rfl, hu4, hc4⟩ := (HKR3.out.no hfr2).at_ hlt2
              rw [ints_get T j2 hjl2] at hu4
              injection hu4 with hu4
              subst hu4
              cases f' with
              | nil =>
                have := congrArg List.length hdr
                simp [Fo.tops, natI] at this
                omega
              | cons nm2 t2 a2 k2 r2 =>
                have hdr2 : T.drop j2 = (b' : Int) :: natI (r2.tops (b' + 1 + k2.size)) := hdr
                obtain ⟨e1, e2⟩ := drop_one hdr2
                have e3 : T[j2] = (b' : Int) := by rw [List.getElem?_eq_getElem hjl2] at e1; injection e1
                rw [e3] at hc4
                rw [Fo.wr_one, ← List.append_assoc] at hout
                rw [Fo.wr_one, List.length_append] at hO2s
                have hsz : 1 + k2.size ≤ m := by simp only [Fo.size] at hm'; omega
                have hms : r2.size ≤ m := by simp only [Fo.size] at hm'; omega
                have hcal := HC.out nm2 t2 a2 k2 r2 p' b' hat' hsz wr (by rw [HLS.out]; exact HR.out.no nod_ok (F2.out.trans hfr2)) (by omega)
                obtain ⟨Z, hZ⟩ : ∃ Z, bstr (wr1 nm2 t2 a2 k2) = Z := ⟨_, rfl⟩
                rw [hZ] at hcal
                have hZl : Z.data.toList = wr1 nm2 t2 a2 k2 := by rw [← hZ]; rfl
                have hZs : Z.size = (wr1 nm2 t2 a2 k2).length := by rw [← size_list, hZl]
                have hO3 : (O2 ++ Z : ByteArray).data.toList = (60 :: (nm ++ attrW a) ++ (62 :: escL t)) ++ (out ++ wr1 nm2 t2 a2 k2) := by rw [app_list, hO2, hZl]; simp
                have hO3s : (O2 ++ Z : ByteArray).size + r2.wr.length ≤ 1000000000000 := by
                  have : (O2 ++ Z : ByteArray).size = O2.size + Z.size := by rw [← size_list, app_list, List.length_append, size_list, size_list]
                  omega
                have hrest := At.rest hat'
                rw [← hZs] at hO2s
                have HCAL := Lib.hid hcal; have HRS := Lib.hid hrest; have HOU := Lib.hid hout; have HD := Lib.hid e2; have HO3 := Lib.hid hO3; have HO3S := Lib.hid hO3s; have HFR2 := Lib.hid hfr2
                clear hcal hrest hout e2 e1 e3 hdr hdr2 hat' hm' hO3 hO3s hfr2 hZ hZl hZs hO2
                go_wp2_with (go_at_call 15; refine HCAL.out.mono ?_; rintro e w4 ⟨rfl, hf4⟩)
                go_roundw
                case rel => exact ⟨j2 + 1, r2, p', b' + 1 + k2.size, _, _, by go_num, rfl, hlt2, HD.out, HRS.out, hms, HO3.out, HOU.out, HO3S.out, HFR2.out.trans hf4⟩
                case measure => simp [intOf]; omega
            · have hke : j2 = kn := by omega
              subst hke
              have hnil : f'.wr = [] := by
                rw [List.drop_eq_nil_of_le (by omega)] at hdr
                cases f' with
                | nil => rfl
                | cons => simp [Fo.tops, natI] at hdr
              rw [hnil, List.append_nil] at hout
              have hO3 : (O2 ++ ⟨#[60, 47]⟩ ++ X ++ ⟨#[62]⟩ : ByteArray).data.toList = R := by
                rw [app_list, app_list, app_list, hO2, hout, HX.out, ← HRE.out, ← HT2.out]
                simp
              have HO3 := Lib.hid hO3; have HFR2 := Lib.hid hfr2
              clear hO3 hfr2 hnil hout hdr hat' hO2
              go_wp2
              go_ret
              exact ⟨ret_str HO3.out, F2.out.trans HFR2.out⟩
theorem ref_all (hsmall : ∀ x ∈ F.flat (-1) 0, NodS x) (hbig : n ≤ 1000000) : ∀ m, RefCon F A n c N m
  | 0 => by intro nm t a k r pp b _ h; omega
  | m + 1 => r_write_step (ref_all hsmall hbig m) hsmall hbig
/-- the file of right nodes -/
theorem r_canon_yes (F : Fo) (ls : List Nod) (hF : ls = F.flat (-1) 0) (hs1 : F.single = true) (hn1 : F.isNil = false) (hright : rightB ls = true) (hsmall : ∀ x ∈ ls, NodS x) (hfit : F.wr.length ≤ 1000000000000)
    (A : Option Addr) (n c : Nat) (N : Nat → Prop) (w : World) (hR : RdI 4 NodI w N A n c ls) (hbig : n ≤ 1000000) :
    Calls Tryd.prog 9 #[.slice A n c] w fun e w' => e = .returned (.tuple #[.string (bstr F.wr), .int .i64 0]) ∧ Fr No w w' := by
  have hri := r_right_any ls A n c _ w hR hsmall hbig
  rw [hright] at hri
  obtain ⟨nm, t, a, k, hFe⟩ : ∃ nm t a k, F = .cons nm t a k .nil := by
    cases F with
    | nil => cases hn1
    | cons nm t a k r =>
      cases r with
      | nil => exact ⟨nm, t, a, k, rfl⟩
      | cons => cases hs1
  have hwr : F.wr = wr1 nm t a k := by rw [hFe, Fo.wr_one]; show _ ++ [] = _; rw [List.append_nil]
  have hat : At F (-1) 0 (.cons nm t a k .nil) (-1) 0 := by
    have := At.refl (F := F) (p0 := -1) (b0 := 0)
    rw [hFe] at this ⊢
    exact this
  have hnode := fun u (hf : Fr No w u) => ref_all (F := F) (A := A) (n := n) (c := c) (N := N) (by rw [← hF]; exact hsmall) hbig (1 + k.size) nm t a k .nil (-1) 0 hat (Nat.le_refl _) u (by rw [← hF]; exact hR.no nod_ok hf) (by rw [← hwr]; exact hfit)
  rw [← hwr] at hnode
  have HRI := Lib.hid hri; have HND := Lib.hid hnode
  clear hri hnode hR hF hwr hat hFe hsmall hright hs1 hn1 hfit
  generalize F.wr = out at *
  go_enter Tryd.func9, Tryd.ntmps9
  go_wp2_with (first
    | (go_at_call 11; refine HRI.out.mono ?_; rintro e w1 ⟨rfl, hf1⟩)
    | (go_at_call 15; refine (HND.out _ hf1).mono ?_; rintro e w2 ⟨rfl, hf2⟩))
  go_ret2
  exact ⟨rfl, hf1.trans hf2⟩
theorem r_canon_no (ls : List Nod) (hright : rightB ls = false) (hsmall : ∀ x ∈ ls, NodS x) (A : Option Addr) (n c : Nat) (N : Nat → Prop) (w : World) (hR : RdI 4 NodI w N A n c ls) (hbig : n ≤ 1000000) :
    Calls Tryd.prog 9 #[.slice A n c] w fun e w' => e = .returned (.tuple #[.string ⟨#[]⟩, .int .i64 10]) ∧ Fr No w w' := by
  have hri := r_right_any ls A n c _ w hR hsmall hbig
  rw [hright] at hri
  have HRI := Lib.hid hri
  clear hri hR hsmall hright
  go_enter Tryd.func9, Tryd.ntmps9
  go_wp2_with (go_at_call 11; refine HRI.out.mono ?_; rintro e w1 ⟨rfl, hf1⟩)
  go_ret2
  exact ⟨rfl, hf1⟩
end Go.Proofs.YtlnjpocidfgloaaDoor
