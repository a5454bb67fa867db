/- The statements' own tags of bytes: ParseTags. -/
import Derived.Test.YtbfodbejdaafaaaRefTlv3
import Derived.Test.YtbfodbejdaafaaaTagItems
import Derived.Deep.CutRange

namespace Go.Proofs.Ytbfodbejdaafaaa
open Go.RowKit
set_option maxHeartbeats 2000000
set_option linter.unusedVariables false

theorem sh8 (x : Nat) (h : x < 256) : IntKind.i64.wrap ((x : Int) * 256) = (x : Int) * 256 := IntWalk.i64_in _ ⟨by omega, by omega⟩
theorem tlv_nums {k2 h n : Nat} (hn : n ≤ 100000) (hk : k2 ≤ n) (hh : h ≤ n - k2) : ∃ k3 : Nat, k2 + h = k3 ∧ (k2 : Int) + (h : Int) = (k3 : Int) ∧ wrap64 (k3 : Int) = (k3 : Int) ∧ wrap64 ((n : Int) - (k3 : Int)) = (n : Int) - (k3 : Int) ∧ k3 ≤ n :=
  ⟨k2 + h, rfl, by omega, IntWalk.wrap64_in _ ⟨by omega, by omega⟩, IntWalk.wrap64_in _ ⟨by omega, by omega⟩, by omega⟩
theorem tlv_end {k3 m n c : Nat} (hn : n ≤ 100000) (h : ¬ n - k3 < m) (hk : k3 ≤ n) (hc : n ≤ c) : ∃ k4 : Nat, k3 + m = k4 ∧ (k3 : Int) + (m : Int) = (k4 : Int) ∧ wrap64 (k4 : Int) = (k4 : Int) ∧ k4 ≤ n ∧ k3 ≤ k4 ∧ (k3 : Int) ≤ (k4 : Int) ∧ (k4 : Int) ≤ (c : Int) ∧ (0 : Int) ≤ (k3 : Int) ∧ k4 - k3 = m :=
  ⟨k3 + m, rfl, by omega, IntWalk.wrap64_in _ ⟨by omega, by omega⟩, by omega, by omega, by omega, by omega, by omega, by omega⟩
theorem tlv_two {k j n : Nat} (hn : n ≤ 100000) (hj : k + 1 = j) (h : j < n) : ∃ k2 : Nat, k + 2 = k2 ∧ (j : Int) + 1 = (k2 : Int) ∧ wrap64 (k2 : Int) = (k2 : Int) ∧ ¬ (n : Int) ≤ (j : Int) ∧ (j : Int) < (n : Int) ∧ (0 : Int) ≤ (j : Int) ∧ k < k2 ∧ k2 ≤ n :=
  ⟨k + 2, rfl, by omega, IntWalk.wrap64_in _ ⟨by omega, by omega⟩, by omega, by omega, by omega, by omega, by omega⟩
theorem tlv_bit31 {x : Nat} (hx : x < 256) : (bits .and .i64 (x : Int) 31 == 31) = decide (x % 32 = 31) := by
  have h : bits .and .i64 (x : Int) 31 = (x : Int) % 32 := and_i64b 5 (by decide) _ (by omega) (by omega)
  rw [h, Bool.eq_iff_iff, beq_iff_eq, decide_eq_true_iff]; omega
theorem tlv_b255 (x : Nat) : ((x : Int) != 255) = decide (x ≠ 255) := by
  rw [Bool.eq_iff_iff, bne_iff_ne, decide_eq_true_iff]; omega
theorem int_ne0 {E : Int} (h : E ≠ 0) : (E != 0) = true := by rw [bne_iff_ne]; exact h
theorem nat_ne0 {t : Nat} (h : t ≠ 0) : ((t : Int) == 0) = false := by rw [beq_eq_false_iff_ne]; omega
theorem tlv_jn {k j n bl : Nat} (hj : k + 1 = j) (hb : bl = n) (h : bl ≤ k + 1) : (n : Int) ≤ (j : Int) := by omega
theorem tlv_j {k n : Nat} (hn : n ≤ 100000) (h : k < n) : ∃ j : Nat, k + 1 = j ∧ wrap64 (j : Int) = (j : Int) ∧ (k : Int) + 1 = (j : Int) ∧ (k : Int) < (n : Int) ∧ k < j ∧ j ≤ n :=
  ⟨k + 1, rfl, IntWalk.wrap64_in _ ⟨by omega, by omega⟩, by omega, by omega, by omega, by omega⟩
theorem two_num {x y : Nat} (hx : x < 256) (hy : y < 256) : 0 ≤ ((x * 256 + y : Nat) : Int) ∧ ((x * 256 + y : Nat) : Int) < 65536 := by omega
theorem one_num {x : Nat} (hx : x < 256) : 0 ≤ (x : Int) ∧ (x : Int) < 65536 := by omega
theorem tt_wide {t : Int} (h0 : 0 ≤ t) (h1 : t < 65536) : -9223372036854775808 ≤ t ∧ t ≤ 9223372036854775807 := by omega
theorem tlv_lt {n k3 m : Nat} (h : n - k3 < m) (hk : k3 ≤ n) : (n : Int) - (k3 : Int) < (m : Int) := by omega
theorem tlv_nlt {n k3 m : Nat} (h : ¬ n - k3 < m) (hk : k3 ≤ n) : ¬ (n : Int) - (k3 : Int) < (m : Int) := by omega
theorem nat_le_m {a : Nat} (h : a ≤ 100000) : a ≤ 1000000 := by omega
theorem i20 {p : Nat} (h : 20 ≤ p) : (20 : Int) ≤ (p : Int) := by omega
theorem n20 {p : Nat} (h : ¬ 20 ≤ p) : ¬ (20 : Int) ≤ (p : Int) := by omega
theorem u8_lt (x : UInt8) : x.toNat < 256 := x.toNat_lt
def TagD (w wr : World) (v : Value) : Nat → Prop := fun i => w.heap.size ≤ i ∧ i < wr.heap.size ∧ v.ownBlock ≠ some i
theorem tt_wf {t : Int} (h0 : 0 ≤ t) (h1 : t < 65536) : (Lit.int .i64 t).wf = true := by simp [Lit.wf, IntKind.min, IntKind.max, IntKind.signed, IntKind.bits]; omega
theorem tags_room {p : Nat} (h : ¬ 20 ≤ p) : p + 1 ≤ 1000000000 := by omega
theorem tags_own {w wc w1 w2 : World} {Ao : Option Addr} {k co : Nat} {v2 : Value} {t : TypeId} {cs : Array Value} {ls : List TagL} {n : Nat} (h : OwnI 2 TagI w2 w.heap.size 33 (fun i => TagD w wc (.slice Ao k co) i ∨ wc.heap.size ≤ i ∧ i < w1.heap.size) v2 n ls)
    (hg : (w1.alloc (.cells cs t)).grownBy w2 (Value.slice Ao k co).ownBlock) (hr : v2.ownBlock = (Value.slice Ao k co).ownBlock ∨ v2.ownBlock = some (w1.heap.size + 1)) (hlt : ∀ i, (Value.slice Ao k co).ownBlock = some i → w.heap.size ≤ i ∧ i < wc.heap.size) (hf : Fr No w wc) (hf1 : Fr No wc w1) :
    OwnI 2 TagI w2 w.heap.size 33 (TagD w w2 v2) v2 n ls := by
  have h1 := hf.size
  have h2 := hf1.size
  have h3 : w1.heap.size + 1 ≤ w2.heap.size := by have := ((Fr.refl (fun _ => True) (w1.alloc (.cells cs t))).grown hg (fun _ _ => .inl trivial)).size; simpa using this
  refine h.mono tag_ok (fun i hi => ?_)
  rcases hi with ⟨a1, a2, a3⟩ | ⟨a1, a2⟩
  · refine ⟨a1, by omega, fun e => ?_⟩
    rcases hr with hr | hr
    · rw [hr] at e; exact a3 e
    · rw [hr] at e; injection e with e; omega
  · refine ⟨by omega, by omega, fun e => ?_⟩
    rcases hr with hr | hr
    · rw [hr] at e; have := (hlt i e).2; omega
    · rw [hr] at e; injection e with e; omega
theorem tags_fr {w wc w1 w2 : World} {v : Value} {t : TypeId} {cs : Array Value} (hg : (w1.alloc (.cells cs t)).grownBy w2 v.ownBlock) (hlt : ∀ i, v.ownBlock = some i → w.heap.size ≤ i ∧ i < wc.heap.size) (hf : Fr No w wc) (hf1 : Fr No wc w1) : Fr No w w2 :=
  ((hf.trans hf1).alloc _).grown hg (fun g e => .inr (hlt g e).1)
theorem tags_less {k k2 h k3 k4 m n q : Nat} (h2 : k < k2 ∧ k2 ≤ n) (h3 : k2 + h = k3 ∧ 1 ≤ q) (h4 : k3 + m = k4 ∧ k4 ≤ n ∧ k3 ≤ k4 ∧ k4 - k3 = m) : n - (intOf (.int .i64 (k4 : Int))).toNat < n - (intOf (.int .i64 (k : Int))).toNat := by
  simp only [intOf, Int.toNat_natCast]; omega
set_option maxRecDepth 20000 in
theorem r_ParseTags_any (A : Option Addr) (n c : Nat) (b : List UInt8) (w : World) (hb : Rd w A n c (u8s b)) (hn : n ≤ 100000) :
    Calls Try.prog 10 #[.slice A n c] w (TagsTo (tlvL b) (tlvE b) w) := by
  have hl : b.length = n := by simpa using hb.len
  have hcap := hb.cap
  have HB := Lib.hid hb; have HL := Lib.hid hl
  have hPA : tlvL b = (parA b).2 ∧ tlvE b = (parA b).1 := ⟨rfl, rfl⟩
  have HPA := Lib.hid hPA
  clear hb hl hPA
  go_enter Try.func10, Try.ntmps10
  go_wp2
  go_loopw [4, 5] (fun lv av wr => ∃ (k : Nat) (p : List TagL), av = .int .i64 (k : Int) ∧ k ≤ n ∧ OwnI 2 TagI wr w.heap.size 33 (TagD w wr lv) lv p.length p ∧ Fr No w wr ∧ parA b = parF b.length p (b.drop k) ∧ p.length ≤ 20) (fun _ v _ => n - (intOf v).toNat)
  case atStart => exact ⟨0, [], rfl, Nat.zero_le _, OwnI.nil_ _ _ _ _ _ _, Fr.refl _ _, rfl, Nat.zero_le _⟩
  case round =>
    obtain ⟨k, p, rfl, hk, ho, hfr, hpa, hp20⟩ := hrel
    have HFR := Lib.hid hfr
    obtain ⟨Ao, co, rfl, hrd⟩ : ∃ A' c', u4 = .slice A' p.length c' ∧ RdI 2 TagI wr (fun _ => True) A' p.length c' p := by
      obtain ⟨A', c', e, h⟩ := ho.rd' (M := fun _ => True) (fun _ _ => trivial) tag_ok (fun _ _ => trivial)
      exact ⟨A', c', e, h⟩
    rcases Nat.lt_or_ge k n with hkn | hge
    · have hkb : k < b.length := by rw [HL.out]; exact hkn
      rw [parF_at b p k hkb] at hpa
      have hta := tagP_at b k hkb
      obtain ⟨ad, u, rfl, hu, hc⟩ := (HB.out.no hfr).at_ hkn
      rw [u8s_get b k hkb] at hu
      injection hu with hu
      subst hu
      have hc2 : ∀ h : k + 1 < b.length, wr.cell? (ad.add (k + 1)) = some (.int .u8 (b[k + 1].toNat : Int)) := by
        intro h
        obtain ⟨ad', u, e', hu, hc2⟩ := (HB.out.no hfr).at_ (k := k + 1) (by rw [← HL.out]; exact h)
        injection e' with e'
        subst e'
        rw [u8s_get b (k + 1) h] at hu
        injection hu with hu
        rw [hu]
        exact hc2
      have HO := Lib.hid ho; have HRD := Lib.hid hrd; have HPAR := Lib.hid hpa; have HC2 := Lib.hid hc2; have HTA := Lib.hid hta
      obtain ⟨j, hj, hwk, hjI, hkI, hkj, hjn0⟩ := tlv_j hn hkn
      have HJ := Lib.hid (And.intro hj (And.intro hkj hjn0))
      obtain ⟨x, hx⟩ : ∃ x : UInt8, b[k] = x := ⟨_, rfl⟩
      have HXE := Lib.hid hx
      rw [hx] at hc
      obtain ⟨x0, x1⟩ := u8c x
      have HXL := Lib.hid (u8_lt x)
      clear ho hrd hpa hfr hc2 hta hx hj hkj hjn0
      by_cases h20 : 20 ≤ p.length
      · have h20I := i20 h20
        go_wp2
        go_ret2
        have e := HPAR.out
        rw [if_pos h20] at e
        rw [HPA.out.1, HPA.out.2, e]
        exact tags_err HFR.out
      have h20I := n20 h20
      have hpar : parA b = match tagP (b.drop k) with
          | none => (3, [])
          | some (t, q) => if tgN t = 0 ∨ p.any (fun x => x.1 == t) = true then (18, []) else
            if (lenP q).1 ≠ 0 then ((lenP q).1, []) else
            if (lenP q).2.2.length < (lenP q).2.1 then (3, []) else parF b.length (p ++ [(t, (lenP q).2.2.take (lenP q).2.1)]) ((lenP q).2.2.drop (lenP q).2.1) := by
        have e := HPAR.out
        rw [if_neg h20] at e
        exact e
      have HPAR := Lib.hid hpar
      have H20 := Lib.hid h20
      clear hpar h20 hk
      obtain ⟨cc, hcc⟩ : ∃ cc : Bool, decide (x.toNat % 32 = 31 ∧ x.toNat ≠ 255) = cc := ⟨_, rfl⟩
      have HCC := Lib.hid hcc
      clear hcc
      go_upto_region 8 with fail
      go_cut [30] from 10 to 86 (fun v wx => v = .bool cc ∧ wx = wr)
      case first =>
        -- SLOW
        have e31 := tlv_bit31 HXL.out
        have e255 := tlv_b255 x.toNat
        have hcc := HCC.out
        by_cases c31 : x.toNat % 32 = 31
        · by_cases c255 : x.toNat = 255
          · rw [decide_eq_true c31] at e31
            rw [decide_eq_false (fun h => h c255)] at e255
            rw [decide_eq_false (fun h => h.2 c255)] at hcc
            have HC := Lib.hid hcc
            clear hcc c31 c255
            go_wp2_with fail
            go_meet
            exact ⟨by rw [← HC.out], rfl⟩
          · rw [decide_eq_true c31] at e31
            rw [decide_eq_true c255] at e255
            rw [decide_eq_true (And.intro c31 c255)] at hcc
            have HC := Lib.hid hcc
            clear hcc c31 c255
            go_wp2_with fail
            go_meet
            exact ⟨by rw [← HC.out], rfl⟩
        · rw [decide_eq_false c31] at e31
          rw [decide_eq_false (fun h => c31 h.1)] at hcc
          have HC := Lib.hid hcc
          clear hcc c31 e255
          go_wp2_with fail
          go_meet
          exact ⟨by rw [← HC.out], rfl⟩
        -- WOLS
      case rest =>
        obtain ⟨rfl, rfl⟩ := hcut
        go_upto_if 30 with fail
        go_cut [5, 6] from 10 to 86 (fun av tv wx => ∃ (k2 : Nat) (tt : Int), av = .int .i64 (k2 : Int) ∧ tv = .int .i64 tt ∧ wx = wc ∧ Hid (k < k2 ∧ k2 ≤ n ∧ tagP (b.drop k) = some (tt, b.drop k2) ∧ 0 ≤ tt ∧ tt < 65536))
        case first =>
          -- SLOW
          cases cc with
          | true =>
            have hcc := of_decide_eq_true HCC.out
            rcases HTA.out with ⟨t1, t2, t3, t4⟩ | hor
            · have hjn : (n : Int) ≤ (j : Int) := tlv_jn HJ.out.1 HL.out t3
              have T4 := Lib.hid t4
              clear t1 t2 t3 t4 hcc
              go_wp2_with fail
              go_ret2
              have e := HPAR.out
              rw [T4.out] at e
              rw [HPA.out.1, HPA.out.2, e]
              exact tags_err HFR.out
            · rcases hor with ⟨t1, t2⟩ | ⟨h1, t1, t2, t3⟩
              · rw [HXE.out] at t1
                exact absurd hcc t1
              · have hc3 : wc.cell? (ad.add j) = some (.int .u8 (b[k + 1].toNat : Int)) := by rw [← HJ.out.1]; exact HC2.out h1
                rw [HXE.out] at t3
                obtain ⟨y, hy⟩ : ∃ y : UInt8, b[k + 1] = y := ⟨_, rfl⟩
                rw [hy] at hc3 t3
                have hor := or_i64 x.toNat y.toNat HXL.out (u8_lt y)
                have hsh := sh8 x.toNat HXL.out
                obtain ⟨k2, hkk2, hk2I, hwj, hjn, hjn2, hj0, ha, hb⟩ := tlv_two hn HJ.out.1 (by rw [← HJ.out.1, ← HL.out]; exact h1)
                have h2 := two_num HXL.out (u8_lt y)
                rw [hkk2] at t3
                obtain ⟨y0, y1⟩ := u8c y
                obtain ⟨tt, htt⟩ : ∃ tt : Int, ((x.toNat * 256 + y.toNat : Nat) : Int) = tt := ⟨_, rfl⟩
                rw [htt] at hor t3 h2
                have FIN := Lib.hid (And.intro ha (And.intro hb (And.intro t3 h2)))
                clear t1 t2 t3 hcc htt h1 hy ha hb h2 hkk2
                go_wp2_with fail
                go_meet
                exact ⟨k2, tt, rfl, rfl, rfl, FIN⟩
          | false =>
            have hcc := of_decide_eq_false HCC.out
            have htp : tagP (b.drop k) = some ((x.toNat : Int), b.drop j) := by
              rcases HTA.out with ⟨t1, t2, t3, t4⟩ | ⟨t1, t2⟩ | ⟨h1, t1, t2, t3⟩
              · rw [HXE.out] at t1 t2
                exact absurd ⟨t1, t2⟩ hcc
              · rw [HXE.out, HJ.out.1] at t2
                exact t2
              · rw [HXE.out] at t1 t2
                exact absurd ⟨t1, t2⟩ hcc
            have FIN := Lib.hid (And.intro HJ.out.2.1 (And.intro HJ.out.2.2 (And.intro htp (one_num HXL.out))))
            clear hcc htp
            go_wp2_with fail
            go_meet
            exact ⟨j, (x.toNat : Int), rfl, rfl, rfl, FIN⟩
          -- WOLS
        case rest =>
          obtain ⟨k2, tt, rfl, rfl, rfl, hf⟩ := hcut
          obtain ⟨hk2, hk2n, htp, htl0, htl1⟩ := hf.out
          have hpar := HPAR.out
          rw [htp] at hpar
          dsimp only at hpar
          have htg := fun u => r_tagged tt (tt_wide htl0 htl1).1 (tt_wide htl0 htl1).2 u
          have hkw := fun u (hu : Fr No wc u) => r_known tt u (HRD.out.no tag_ok hu)
          have hln := fun u (hu : Fr No wc u) => r_length (some ad) n c b k2 u ((HB.out.no HFR.out).no hu) (nat_le_m hn) (nat_le_m (Nat.le_trans hk2n hn))
          have hrest := fun h => lenH_rest (l := b.drop k2) h
          have hcnt := lenP_count (b.drop k2)
          obtain ⟨tg, hte⟩ : ∃ tg, tgN tt = tg := ⟨_, rfl⟩
          obtain ⟨kb, hkb2⟩ : ∃ kb, p.any (fun x => x.1 == tt) = kb := ⟨_, rfl⟩
          rw [hte, hkb2] at hpar
          rw [hte] at htg
          rw [hkb2] at hkw
          have HTG := Lib.hid htg; have HKW := Lib.hid hkw; have HLN := Lib.hid hln; have HP2 := Lib.hid hpar; have HRS := Lib.hid hrest; have HCNT := Lib.hid hcnt; have HT01 := Lib.hid (And.intro htl0 htl1)
          have HK2 := Lib.hid (And.intro hk2 hk2n)
          clear htg hkw hln hpar hrest hte hkb2 hcnt HPAR HTA HCC HC2 HXE HXL hc x0 x1 hwk hjI HJ htp htl0 htl1 hf hk2 hk2n hkI
          by_cases ht0 : tg = 0
          · subst ht0
            go_wp2_with (go_at_call 26; refine (HTG.out _).mono ?_; rintro e w1 ⟨rfl, rfl⟩)
            go_ret2
            rw [HPA.out.1, HPA.out.2, HP2.out, if_pos (by simp)]
            exact tags_err HFR.out
          have htne := nat_ne0 ht0
          cases kb with
          | true =>
            clear ht0
            go_wp2_with (first
              | (go_at_call 26; refine (HTG.out _).mono ?_; rintro e w1 ⟨rfl, rfl⟩)
              | (go_at_call 27; refine (HKW.out _ (Fr.refl _ _)).mono ?_; rintro e w1 ⟨rfl, rfl⟩))
            go_ret2
            rw [HPA.out.1, HPA.out.2, HP2.out, if_pos (by simp)]
            exact tags_err HFR.out
          | false =>
            have hp3 := HP2.out
            rw [if_neg (by rintro (h | h); exact ht0 h; cases h)] at hp3
            have HP3 := Lib.hid hp3
            clear hp3 HP2 ht0
            obtain ⟨E, hE⟩ : ∃ E, (lenP (b.drop k2)).1 = E := ⟨_, rfl⟩
            obtain ⟨m, hm⟩ : ∃ m, (lenP (b.drop k2)).2.1 = m := ⟨_, rfl⟩
            obtain ⟨h, hh⟩ : ∃ h, lenH (b.drop k2) = h := ⟨_, rfl⟩
            have hln := HLN.out
            rw [hE, hm, hh] at hln
            have HLN2 := Lib.hid hln
            have HM := Lib.hid hm; have HH := Lib.hid hh; have HE := Lib.hid hE
            clear hln hm hh hE HLN
            go_upto_region 16 with (first
              | (go_at_call 26; refine (HTG.out _).mono ?_; rintro e w1 ⟨rfl, rfl⟩)
              | (go_at_call 27; refine (HKW.out _ (Fr.refl _ _)).mono ?_; rintro e w1 ⟨rfl, rfl⟩)
              | (go_at_call 28; refine (HLN2.out _ (Fr.refl _ _)).mono ?_; rintro e w1 ⟨rfl, rfl⟩))
            clear HTG HKW HLN2 htne
            by_cases hE0 : E = 0
            · subst hE0
              obtain ⟨q1, q2, q3, q4⟩ := HRS.out HE.out
              have hp4 := HP3.out
              have hcnt := HCNT.out
              have hbn := HL.out
              rw [HM.out] at hcnt
              rw [List.length_drop, HH.out, hbn] at q2
              rw [if_neg (by rw [HE.out]; simp), q1, HM.out, HH.out, List.drop_drop, List.length_drop, hbn] at hp4
              obtain ⟨k3, hk3, hk3I, hw3, hw4, hk3n⟩ := tlv_nums hn HK2.out.2 q2
              rw [hk3] at hp4
              have HP4 := Lib.hid hp4
              have HK3 := Lib.hid (And.intro hk3n (And.intro hk3 q3)); have HCN := Lib.hid hcnt
              clear q1 q2 q3 q4 hp4 hbn hk3 HP3 HRS HM HH HE HCNT hcnt
              go_upto_region 18 with fail
              go_cut [5] from 10 to 86 (fun av wx => av = .int .i64 (k3 : Int) ∧ wx = wc)
              case first =>
                go_wp2_with fail
                go_meet
                exact ⟨by first | rfl | rw [hw3], rfl⟩
              case rest =>
                obtain ⟨rfl, rfl⟩ := hcut
                clear hw3 hk3I
                by_cases hsh : n - k3 < m
                · have hshI := tlv_lt hsh HK3.out.1
                  have HSH := Lib.hid hsh
                  clear hsh
                  go_wp2_with fail
                  go_ret2
                  rw [HPA.out.1, HPA.out.2, HP4.out, if_pos HSH.out]
                  exact tags_err HFR.out
                · have hshI := tlv_nlt hsh HK3.out.1
                  obtain ⟨k4, hk4, hk4I, hw5, hk4n, hk34, hk34I, hk4nI, hk30, hk4m⟩ := tlv_end hn hsh HK3.out.1 hcap
                  have HSH := Lib.hid hsh
                  have HK4 := Lib.hid (And.intro hk4 (And.intro hk4n (And.intro hk34 hk4m)))
                  clear hsh hk4 hk4n hk34 hk4m
                  go_upto_region 21 with fail
                  clear hshI hw4 h20I
                  have hcr : Rd wc (if c = k3 then some ad else some (ad.add k3)) (k4 - k3) (c - k3) (u8s ((b.drop k3).take m)) := by
                    have h := Rd.cut (HB.out.no HFR.out) HK4.out.2.2.1 HK4.out.2.1
                    have e : ((u8s b).take k4).drop k3 = u8s ((b.drop k3).take m) := by
                      unfold u8s
                      rw [← List.map_take, ← List.map_drop, List.drop_take, HK4.out.2.2.2]
                    rw [e] at h
                    exact h
                  have hsl : k4 - k3 ≤ 255 := by rw [HK4.out.2.2.2]; exact HCN.out
                  have HCR := Lib.hid hcr; have HSL := Lib.hid hsl
                  clear hcr hsl
                  have tokA := True.intro
                  go_wp2_with (first
                    | (at_builtin; clear tokA; go_must (refine ap8 _ rfl (.const (.slice none 0 0)) (.tmp 79) rfl wc.heap.size (.slice none 0 0) 0 [] rfl (World.ownsRow_nil _ _ _ _) _ _ _ _ rfl HCR.out (by have := HSL.out; omega) (Nat.le_refl _) ?_); intro v1 w1 ho1 hg1 hr1; rw [Nat.zero_add, List.nil_append] at ho1; obtain ⟨D, dc, rfl, hrD, hbD⟩ := Rd.of_own ho1; have hf1 : Fr No wc w1 := (Fr.refl _ _).grown hg1 (fun g e => nomatch e); have F1 := Lib.hid hf1; have HRDD := Lib.hid hrD; have HBD := Lib.hid hbD; have tokB := True.intro; clear hf1 hrD hbD ho1 hg1 hr1)
                    | (at_builtin; clear tokB; go_must (refine ap_tag1 w1 rfl (.tmp 72) (.tmp 82) rfl w.heap.size (.slice Ao p.length co) p.length p _ (fun i => wc.heap.size ≤ i ∧ i < w1.heap.size) rfl (HO.out.no tag_ok F1.out) (tt, (b.drop k3).take m) [.int .i64 tt, .slice D (k4 - k3) dc] ⟨D, _, dc, rfl, HRDD.out, fun ad e _ => HBD.out ad e, by have := HT01.out; exact tt_wf this.1 this.2, by have := HSL.out; omega⟩ _ _ rfl rfl (tags_room H20.out) (Nat.le_trans HFR.out.size F1.out.size) (fun i hi => hi.2.2) (fun i hi e => by have := (HO.out.lt i e).2; omega) ?_); intro v2 w2 ho2 hg2 hr2; have HO2 := Lib.hid ho2; have HG2 := Lib.hid hg2; have HR2 := Lib.hid hr2; clear ho2 hg2 hr2))
                  go_roundw
                  case rel =>
                    have hp := HP4.out
                    rw [if_neg HSH.out, List.drop_drop, HK4.out.1] at hp
                    exact ⟨k4, p ++ [(tt, (b.drop k3).take m)], by first | rfl | rw [hw5], HK4.out.2.1, by simpa using tags_own HO2.out HG2.out HR2.out HO.out.lt HFR.out F1.out, tags_fr HG2.out HO.out.lt HFR.out F1.out, by rw [HL.out]; exact hp, by have := H20.out; simp; omega⟩
                  case measure =>
                    have e : (n - (intOf (.int .i64 (k4 : Int))).toNat < n - (intOf (.int .i64 (k : Int))).toNat) := tags_less HK2.out HK3.out.2 HK4.out
                    first | exact e | (rw [hw5]; exact e)
            · have hEb := int_ne0 hE0
              have HE0 := Lib.hid hE0
              clear hE0
              go_wp2_with fail
              go_ret2
              rw [HPA.out.1, HPA.out.2, HP3.out, if_pos (by rw [HE.out]; exact HE0.out), HE.out]
              exact tags_err HFR.out
    · obtain rfl : k = n := by omega
      have HO := Lib.hid ho; have HPAR := Lib.hid hpa
      clear ho hpa hrd hfr
      go_wp2
      go_ret2
      have e := HPAR.out
      rw [List.drop_eq_nil_of_le (by rw [HL.out]; exact Nat.le_refl _), parF_nil] at e
      rw [HPA.out.1, HPA.out.2, e]
      exact ⟨_, rfl, HO.out.mono tag_ok (fun i hi => ⟨hi.1, hi.2.1⟩), HFR.out⟩
end Go.Proofs.Ytbfodbejdaafaaa
