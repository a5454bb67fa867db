/- The texts RefIso1, joined. -/
import Derived.Test.YtpkalnkeafggjaaGreatDoorK27
import Derived.Test.YtpkalnkeafggjaaGreatDoorK32
import Derived.Test.YtpkalnkeafggjaaGreatDoorK41
import Derived.Test.YtpkalnkeafggjaaGreatDoorK38
import Derived.Test.YtpkalnkeafggjaaGreatDoorK35
/- The statements' own ParseIso. -/
namespace Go.Proofs.YtpkalnkeafggjaaGreatDoor
open Go.RowKit
set_option maxHeartbeats 1000000
set_option linter.unusedVariables false
set_option maxRecDepth 20000

theorem reN_le (no : Int) (x : List UInt8) : reN no x ≤ x.length := by
  by_cases h : reE no x = 0
  · exact rdEl_len no x h
  · have h0 : reN no x = 0 := by
      unfold reE rdEl at h
      unfold reN rdEl
      cases hf : elFind no with
      | none => rfl
      | some r =>
        rw [hf] at h
        dsimp only at h ⊢
        unfold rdR at h ⊢
        split
        · rfl
        · rename_i h0
          rw [if_neg h0] at h
          split
          · rfl
          · rename_i h1
            rw [if_neg h1] at h
            split
            · rfl
            · rename_i h2
              rw [if_neg h2] at h
              split
              · rfl
              · rename_i h3
                rw [if_neg h3] at h
                exact absurd rfl h
    omega
theorem owne_moreW {w w2 W w4 : World} {base : Nat} {va v2 : Value} {es : List El} {a : El} (hf : Fr No w w2) (ho : OwnE w base va es)
    (h4 : OwnI 2 TagI w4 base 40 (fun i => IsoN base w va i ∨ (w.heap.size ≤ i ∧ i < w2.heap.size)) v2 (es.length + 1) (es ++ [a])) (hWz : W.heap.size = w2.heap.size + 1) (hg : W.grownBy w4 va.ownBlock) (hv : v2.ownBlock = va.ownBlock ∨ v2.ownBlock = some (w2.heap.size + 1)) (hb : base ≤ w.heap.size) : OwnE w4 base v2 (es ++ [a]) := by
  have hsz : w2.heap.size + 1 ≤ w4.heap.size := by
    have h1 := ((Fr.refl (fun i => va.ownBlock = some i) W).grown hg (fun i e => .inl e)).size
    omega
  have h1 := hf.size
  show OwnI 2 TagI w4 base 40 _ v2 (es ++ [a]).length (es ++ [a])
  rw [show (es ++ [a]).length = es.length + 1 by simp]
  refine h4.mono tag_ok (fun i hi => ?_)
  rcases hi with ⟨i1, i2, i3⟩ | ⟨i1, i2⟩
  · refine ⟨i1, by omega, fun e => ?_⟩
    rcases hv with hv | hv
    · exact i3 (by rw [← hv]; exact e)
    · rw [hv] at e; injection e with e; omega
  · refine ⟨by omega, by omega, fun e => ?_⟩
    rcases hv with hv | hv
    · rw [hv] at e
      have := (ho.lt i e).2
      omega
    · rw [hv] at e; injection e with e; omega
theorem cut_four (A : Option Addr) (c : Nat) : cutA A c 4 = if c = 4 then A else Option.map (fun x => (⟨x.block, x.off + 4, none⟩ : Addr)) A := by
  unfold cutA
  by_cases h : c = 4
  · rw [if_pos h, if_pos h]
  · rw [if_neg h, if_neg h]
    rfl
/-- the loop: i numbers were taken, q bytes; E: what was wrong -/
def RpRel (w : World) (b : List UInt8) (rb B : Nat) (S : ByteArray) (E0 : Int) (ns : List Int) (p : Nat) (ev av iv : Value) (wr : World) : Prop :=
  ∃ (E : Int) (q i : Nat) (es : List El) (va : Value), ev = .int .i64 E ∧ av = .int .i64 (q : Int) ∧ iv = .int .i64 (i : Int) ∧ i ≤ ns.length ∧ q ≤ b.length ∧ es.length = i ∧ Fr No w wr ∧ Bk wr rb 25 [.string ⟨#[]⟩, .slice none 0 0] ∧ Bk wr (rb + 1) 25 [.string S, va] ∧ OwnE wr B va es ∧
    (E = 0 → E0 = 0 ∧ p ≤ q ∧ elsF ns (b.drop p) = elsQ es (q - p) (elsF (ns.drop i) (b.drop q))) ∧ (E ≠ 0 → (E0 ≠ 0 ∧ E = E0) ∨ (E0 = 0 ∧ (elsF ns (b.drop p)).1 = E))
theorem rp_next {w w1 wr w2 w4 : World} {b : List UInt8} {rb : Nat} {S : ByteArray} {E0 : Int} {ns : List Int} {p q i q2 : Nat} {es : List El} {va va4 : Value} {v XE : Int} {x XD : List UInt8} {XN : Nat} (hrb : w.heap.size = rb) (hlt : rb + 1 < w1.heap.size)
    (hf1 : Fr (Just (rb + 1)) w1 wr) (hf : Fr No w wr) (hb1 : Bk wr rb 25 [.string ⟨#[]⟩, .slice none 0 0]) (F2 : Fr No wr w2) (F4 : Fr (fun i => va.ownBlock = some i) w2 w4) (VB : ∀ i, va.ownBlock = some i → w1.heap.size ≤ i ∧ i < wr.heap.size)
    (B4 : Bk w4 (rb + 1) 25 [.string S, va]) (O4 : OwnE w4 w1.heap.size va4 (es ++ [(v, XD)])) (hes : es.length = i) (hin : i < ns.length) (hq2 : q + XN = q2) (hq2b : q2 ≤ b.length) (hpq : p ≤ q) (hx : b.drop q = x) (hE0 : E0 = 0)
    (hen : XE = 0 → elsF ns (b.drop p) = elsQ (es ++ [(v, XD)]) (q - p + XN) (elsF (ns.drop (i + 1)) (x.drop XN))) (hef : XE ≠ 0 → (elsF ns (b.drop p)).1 = XE) (iv : Value) (hiv : iv = .int .i64 ((i + 1 : Nat) : Int)) :
    Fr (Just (rb + 1)) w1 (w4.setCell ⟨rb + 1, 1, none⟩ va4) ∧ RpRel w b rb w1.heap.size S E0 ns p (.int .i64 XE) (.int .i64 (q2 : Int)) iv (w4.setCell ⟨rb + 1, 1, none⟩ va4) := by
  have hs : Fr (Just (rb + 1)) w4 (w4.setCell ⟨rb + 1, 1, none⟩ va4) := (Fr.refl (Just (rb + 1)) w4).setCell (p := ⟨rb + 1, 1, none⟩) (.inl (Just.at _)) _
  have h1 : Fr (Just (rb + 1)) w1 w4 := (hf1.trans (F2.no)).trans_new F4 (fun j hj => .inr (VB j hj).1)
  have h2 : Fr No w w4 := (hf.trans F2).trans_new F4 (fun j hj => .inr (by have := (VB j hj).1; omega))
  refine ⟨h1.trans hs, XE, q2, i + 1, es ++ [(v, XD)], va4, rfl, rfl, hiv, hin, hq2b, by simp [hes], h2.trans_just hs (by omega), ?_, B4.set_ 1 _, O4.far hs (fun j hj x => by have : j = rb + 1 := x; omega), fun h => ⟨hE0, by omega, ?_⟩, fun h => .inr ⟨hE0, hef h⟩⟩
  · exact ((hb1.no F2).fr F4 (fun e => by have := (VB _ e).1; omega)).fr hs (fun e => by have : rb = rb + 1 := e; omega)
  · have := hen h
    rw [← hx, List.drop_drop, hq2, show q - p + XN = q2 - p by omega] at this
    exact this
/-- an end with nothing -/
theorem rp_no {w wr : World} {E : Int} {T : Int × List UInt8 × List El} (hf : Fr No w wr) (hT : T = (E, [], [])) :
    IsoTo T.2.1 T.2.2 T.1 w (.returned (.tuple #[.agg #[.string ⟨#[]⟩, .slice none 0 0], .int .i64 E])) ((wr.setCell ⟨w.heap.size, 0, none⟩ (.string ⟨#[]⟩)).setCell ⟨w.heap.size, 1, none⟩ (.slice none 0 0)) := by
  rw [hT]
  exact iso_no ((hf.setCell (.inr (Nat.le_refl _)) _).setCell (.inr (Nat.le_refl _)) _)
theorem rp_yes {w w1 wr : World} {S : ByteArray} {b : List UInt8} {T : Int × List UInt8 × List El} {es : List El} {va : Value} (hf : Fr No w wr) (hw : w.heap.size + 1 < w1.heap.size) (ho : OwnE wr w1.heap.size va es) (hS : bstr (b.take 4) = S) (hT : T = (0, b.take 4, es)) :
    IsoTo T.2.1 T.2.2 T.1 w (.returned (.tuple #[.agg #[.string S, va], .int .i64 0])) ((wr.setCell ⟨w.heap.size, 0, none⟩ (.string S)).setCell ⟨w.heap.size, 1, none⟩ va) := by
  rw [hT, ← hS]
  have hs : Fr (Just w.heap.size) wr ((wr.setCell ⟨w.heap.size, 0, none⟩ (.string (bstr (b.take 4)))).setCell ⟨w.heap.size, 1, none⟩ va) := ((Fr.refl (Just w.heap.size) wr).setCell (p := ⟨w.heap.size, 0, none⟩) (.inl (Just.at _)) _).setCell (p := ⟨w.heap.size, 1, none⟩) (.inl (Just.at _)) _
  exact ⟨va, rfl, (ho.far hs (fun j hj x => by have : j = w.heap.size := x; omega)).low (by omega), hf.trans_just hs (Nat.le_refl _)⟩
theorem r_ParseIso (A : Option Addr) (c : Nat) (b : List UInt8) (w : World) (hr : Rd w A b.length c (u8s b)) :
    Calls Tryz.prog 9 #[.slice A b.length c] w (IsoTo (parI b).2.1 (parI b).2.2 (parI b).1 w) := by
  by_cases hb : 4096 < b.length
  · have e : parI b = (4, [], []) := by unfold parI; rw [if_pos hb]
    rw [e]
    have hbI : (4096 : Int) < (b.length : Int) := by omega
    generalize b.length = m at *
    clear hr hb e
    go_enter Tryz.func9, Tryz.ntmps9
    go_wp2
    refine bodyPost_ret (results_bk2 (t := 25) (g := w.heap.size) (cs := [.string .empty, .slice none 0 0]) (Tryz.results9) (by rfl) (Bk.new w _ _) Tryz.underlying25 rfl (isoSize _ _)) rfl ?_
    exact iso_no ((Fr.refl No w).alloc _)
  have hbI : ¬ (4096 : Int) < (b.length : Int) := by omega
  by_cases h4 : b.length < 4
  · have e : parI b = (3, [], []) := by unfold parI; rw [if_neg hb, if_pos h4]
    rw [e]
    have h4I : (b.length : Int) < 4 := by omega
    generalize b.length = m at *
    clear hr hb e h4
    go_enter Tryz.func9, Tryz.ntmps9
    go_wp2
    refine bodyPost_ret (results_bk2 (t := 25) (g := w.heap.size) (cs := [.string .empty, .slice none 0 0]) (Tryz.results9) (by rfl) (Bk.new w _ _) Tryz.underlying25 rfl (isoSize _ _)) rfl ?_
    exact iso_no ((Fr.refl No w).alloc _)
  have h4I : ¬ (b.length : Int) < 4 := by omega
  have hh := rd_head hr (k := 4) (by omega)
  have hcv := fun u (hf : Fr No w u) => rd_str (hh.no hf)
  have hcap := hr.cap
  have hmx : c ≤ 9223372036854775807 := by have := hr.max; simpa [maxLen] using this
  have hrt := fun u => ref_right (bstr (b.take 4)) 4 4 u (by rw [bstr_size, List.length_take]; simp only [maxLen]; omega)
  rw [show (bstr (b.take 4)).data.toList = b.take 4 by simp [bstr]] at hrt
  cases hR : rightB (b.take 4) 4 4 with
  | false =>
    have e : parI b = (5, [], []) := by unfold parI; rw [if_neg hb, if_neg h4, if_pos hR]
    rw [e]
    rw [hR] at hrt
    have hz : (bstr (b.take 4)).size ≤ 9223372036854775807 := by rw [bstr_size, List.length_take]; omega
    generalize bstr (b.take 4) = S at *
    generalize b.length = m at *
    have hcv0 := hcv _ ((Fr.refl No w).alloc (.cells #[.string ⟨#[]⟩, .slice none 0 0] 25))
    have HRT := Lib.hid hrt
    have hI : (4 : Int) ≤ (m : Int) := by omega
    clear hr hb e h4 hR hh hcv hrt
    go_enter Tryz.func9, Tryz.ntmps9
    go_wp2_with (go_at_call 22; refine (HRT.out _).mono ?_; rintro e w1 ⟨rfl, rfl⟩)
    refine bodyPost_ret (results_bk2 (t := 25) (g := w.heap.size) (cs := [.string .empty, .slice none 0 0]) (Tryz.results9) (by rfl) (Bk.new w _ _) Tryz.underlying25 rfl (isoSize _ _)) rfl ?_
    exact iso_no ((Fr.refl No w).alloc _)
  | true =>
    rw [hR] at hrt
    have hx := rd_rest hr (k := 4) (by omega)
    have hpm := fun u (hf : Fr No w u) => ref_parse _ _ _ _ u (hx.no hf) (by omega)
    have hle : (if parE (b.drop 4) = 0 then 4 + parN (b.drop 4) else 4) ≤ b.length := by
      split
      · have := par_len (x := b.drop 4) (by assumption)
        rw [List.length_drop] at this
        omega
      · omega
    have hn0 : parE (b.drop 4) ≠ 0 → parN (b.drop 4) = 0 ∧ parL (b.drop 4) = [] := fun h => ⟨by unfold parN; rw [if_neg h], by unfold parL; rw [if_neg h]⟩
    have hcv0 := hcv _ ((Fr.refl No w).alloc (.cells #[.string ⟨#[]⟩, .slice none 0 0] 25))
    have hpi : parI b = if parE (b.drop 4) ≠ 0 then (parE (b.drop 4), [], []) else if (elsF (parL (b.drop 4)) (b.drop (4 + parN (b.drop 4)))).1 ≠ 0 then ((elsF (parL (b.drop 4)) (b.drop (4 + parN (b.drop 4)))).1, [], [])
        else if 4 + parN (b.drop 4) + (elsF (parL (b.drop 4)) (b.drop (4 + parN (b.drop 4)))).2.2 < b.length then (17, [], []) else (0, b.take 4, (elsF (parL (b.drop 4)) (b.drop (4 + parN (b.drop 4)))).2.1) := by
      unfold parI
      rw [if_neg hb, if_neg h4, if_neg (by rw [hR]; decide)]
    have hwf := fun v (hv : v ∈ parL (b.drop 4)) => parL_num hv
    have hll := parL_len (b.drop 4)
    have hz : (bstr (b.take 4)).size ≤ 9223372036854775807 := by rw [bstr_size, List.length_take]; omega
    obtain ⟨T, hT⟩ : ∃ T, parI b = T := ⟨_, rfl⟩
    rw [hT] at hpi ⊢
    obtain ⟨S, hS⟩ : ∃ S, bstr (b.take 4) = S := ⟨_, rfl⟩
    rw [hS] at hcv0 hrt hz
    have HRX := Lib.hid (fun (k : Nat) (hk : k ≤ b.length) u (hf : Fr No w u) => rd_rest (hr.no hf) hk)
    obtain ⟨m, hm⟩ : ∃ m, b.length = m := ⟨_, rfl⟩
    have hbm : m ≤ 4096 := by omega
    rw [hm] at hbI h4I hcap hpm
    rw [cut_four] at hpm
    have HRT := Lib.hid hrt; have HPM := Lib.hid hpm; have HS := Lib.hid hS; have HM := Lib.hid hm; have HLE := Lib.hid hle; have HN0 := Lib.hid hn0; have HWF := Lib.hid hwf; have HLL := Lib.hid hll; have HPI := Lib.hid hpi
    rw [hm]
    have hI : (4 : Int) ≤ (m : Int) := by omega
    have f0 := (Fr.refl No w).alloc (.cells #[.string ⟨#[]⟩, .slice none 0 0] 25)
    have F1 := Lib.hid (f0.alloc (.cells #[.string S, .slice none 0 0] 25))
    have hb1 : Bk ((w.alloc (.cells #[.string ⟨#[]⟩, .slice none 0 0] 25)).alloc (.cells #[.string S, .slice none 0 0] 25)) w.heap.size 25 [.string ⟨#[]⟩, .slice none 0 0] := (Bk.new w 25 #[.string ⟨#[]⟩, .slice none 0 0]).no ((Fr.refl No _).alloc _)
    have hb2 := Bk.new (w.alloc (.cells #[.string ⟨#[]⟩, .slice none 0 0] 25)) 25 #[.string S, .slice none 0 0]
    have hz1 : (w.alloc (.cells #[.string ⟨#[]⟩, .slice none 0 0] 25)).heap.size = w.heap.size + 1 := by simp
    rw [hz1] at hb2
    have B1 := Lib.hid hb1; have B2 := Lib.hid hb2
    clear hr hb h4 hR hh hcv hrt hx hpm hle hn0 hpi hS hm hwf hll f0 hb1 hb2 hz1 hz hT
    generalize parL (b.drop 4) = ns at *
    generalize parE (b.drop 4) = E0 at *
    generalize parN (b.drop 4) = N at *
    obtain ⟨p, hp⟩ : ∃ p, 4 + N = p := ⟨_, rfl⟩
    have hadd : (4 : Int) + (N : Int) = (p : Int) := by omega
    have hNb : 4 + N ≤ 5000 := by
      have h1 := HLE.out
      have h2 := HM.out
      by_cases h : E0 = 0
      · rw [if_pos h] at h1; omega
      · have := (HN0.out h).1; omega
    rw [hp] at hNb HLE HPI
    have HPP := Lib.hid hp
    clear hp
    go_enter Tryz.func9, Tryz.ntmps9
    go_upto_region 10 with (first
      | (go_at_call 22; refine (HRT.out _).mono ?_; rintro e w1 ⟨rfl, rfl⟩)
      | (go_at_call 23; refine (HPM.out _ F1.out).mono ?_; rintro e w1 ⟨v, rfl, o1, f1⟩; obtain ⟨L, lc, rfl, hrl, hbl⟩ := Rd.of_own o1; have RL := Lib.hid hrl; have B11 := Lib.hid (B1.out.no f1); have B12 := Lib.hid (B2.out.no f1); have F2 := Lib.hid (F1.out.trans f1); have BLL := Lib.hid (fun (ad : Addr) (e : L = some ad) => (show w.heap.size + 2 ≤ ad.block by have := (hbl ad e).1; simp at this; omega)); clear o1 f1 hrl hbl))
    generalize (if c = 4 then A else Option.map (fun x => (⟨x.block, x.off + 4, none⟩ : Addr)) A) = B4
    have hpb : p ≤ b.length := by
      have h1 := HLE.out
      have h2 := HM.out
      have h3 := HPP.out
      by_cases h : E0 = 0
      · rw [if_pos h] at h1; omega
      · have := (HN0.out h).1; omega
    have HPB := Lib.hid hpb
    have hlr : ∀ wr, Fr (Just (w.heap.size + 1)) w1 wr → Rd wr L ns.length lc (ints ns) := fun wr hf => rd_far RL.out hf (fun _ ad e x => by have := BLL.out ad e; have : ad.block = w.heap.size + 1 := x; omega)
    have HW1 := Lib.hid B12.out.lt
    have HLR := Lib.hid hlr
    have HF2 := Lib.hid F2.out.size
    clear hpb hlr HRT HPM B1 B2 F1 hcv0 hadd
    go_wp2
    go_loopw [7, 8, 9] (fun ev av iv wr => Fr (Just (w.heap.size + 1)) w1 wr ∧ RpRel w b w.heap.size w1.heap.size S E0 ns p ev av iv wr) (fun ev _ iv _ => (ns.length - (intOf iv).toNat))
    case atStart => exact ⟨Fr.refl _ _, E0, p, 0, [], _, rfl, rfl, rfl, Nat.zero_le _, HPB.out, rfl, F2.out, B11.out, B12.out, OwnE.nil_ _ _, fun h => ⟨h, Nat.le_refl _, by rw [Nat.sub_self]; exact els_start _ _⟩, fun h => .inl ⟨h, rfl⟩⟩
    case round =>
      obtain ⟨hf1, E, q, i, es, va, rfl, rfl, rfl, hi, hq, hes, hf, hb1, hb2, ho, hz, hnz⟩ := hrel
      by_cases hE : E = 0
      · subst hE
        obtain ⟨hE0, hpq, hinv⟩ := hz rfl
        clear hz hnz
        rcases Nat.lt_or_ge i ns.length with hin | hge
        · obtain ⟨v, hv⟩ : ∃ v, ns[i]? = some v := ⟨_, List.getElem?_eq_getElem hin⟩
          obtain ⟨lad, u, rfl, hu, hc⟩ := (HLR.out wr hf1).at_ hin
          obtain rfl : u = .int .i64 v := by
            have h2 : (ints ns)[i]? = some (.int .i64 v) := by simp [ints, hv]
            rw [h2] at hu
            injection hu with hu
            exact hu.symm
          clear hu
          obtain ⟨x, hx⟩ : ∃ x, b.drop q = x := ⟨_, rfl⟩
          have hrx := HRX.out q hq wr hf
          have hxl : b.length - q = x.length := by rw [← hx, List.length_drop]
          rw [hx, hxl] at hrx
          rw [hx] at hinv
          have hrd := fun u (hu : Fr No wr u) => r_ReadElement v _ _ x u (hrx.no hu)
          have hmq : m - q = x.length := by rw [← HM.out]; exact hxl
          obtain ⟨xl, hxll⟩ : ∃ xl, x.length = xl := ⟨_, rfl⟩
          rw [hxll] at hmq hrd
          unfold cutA at hrd
          have hen := fun h => els_next hinv hv h
          have hef := fun h => els_fail hinv hv h
          have hln := reN_le v x
          generalize reL v x = XD at *
          generalize reN v x = XN at *
          generalize reE v x = XE at *
          have hqm : q ≤ m := by rw [← HM.out]; exact hq
          have hqI : (q : Int) ≤ (m : Int) := by omega
          obtain ⟨vA, vc, rfl, -⟩ := OwnI.rd' ho (M := fun _ => True) (fun _ _ => trivial) tag_ok (fun _ _ => trivial)
          have HEN := Lib.hid hen; have HEF := Lib.hid hef; have HLN := Lib.hid hln
          have HWV := Lib.hid (num_wf (v := v) (by have := HWF.out v (List.mem_of_getElem? hv); omega))
          clear hen hef hln
          have HRD := Lib.hid hrd; have HINV := Lib.hid hinv; have HO := Lib.hid ho; have HB1 := Lib.hid hb1; have HB2 := Lib.hid hb2; have HF := Lib.hid hf; have HF1 := Lib.hid hf1; have HV := Lib.hid hv; have HQ := Lib.hid hq; have HX := Lib.hid hx; have HXL := Lib.hid hxll; have HES := Lib.hid hes; have HPQ := Lib.hid hpq; have HE0 := Lib.hid hE0
          clear hrd hinv ho hb1 hb2 hf hf1 hv hrx hxl hx hxll hes hpq hE0 hq
          have hiI : (i : Int) < (ns.length : Int) := by omega
          have hiB : (i : Int) ≤ 127 := by have := HLL.out; omega
          go_upto_region 13 with fail
          go_region_law (first
            | (go_simp; go_at_call 24; generalize (if c = q then A else Option.map (fun x => x.add q) A) = CA at HRD ⊢; refine (HRD.out _ (Fr.refl No wr).drew).mono ?_; rintro e w2 ⟨vx, rfl, o2, f2⟩; obtain ⟨D, dc, rfl, hrd2, hbd⟩ := Rd.of_own o2; have F2 := Lib.hid ((Fr.refl No wr).drew.trans f2); have RD2 := Lib.hid hrd2; have BD2 := Lib.hid (fun ad e => (⟨hbd ad e |>.1, (hbd ad e).2⟩ : wr.heap.size ≤ ad.block ∧ ad.block < w2.heap.size)); have hc2 := F2.out.cell hc (fun x => x); clear o2 f2 hrd2 hbd))
          clear HRD
          have hrb : w1.heap.size ≤ wr.heap.size := HF1.out.size
          have OD := Lib.hid (OwnI.no tag_ok HO.out F2.out)
          have VB := Lib.hid (fun i (e : (Value.slice vA es.length vc).ownBlock = some i) => HO.out.lt i e)
          have RB := Lib.hid hrb
          have hEL : es.length ≤ 200 := by have := HES.out; have := HLL.out; omega
          have HEL := Lib.hid hEL
          have DL := Lib.hid (rd_len63 RD2.out)
          obtain ⟨dl, hdl⟩ : ∃ dl, XD.length = dl := ⟨_, rfl⟩
          rw [hdl] at DL RD2 ⊢
          have HDL := Lib.hid hdl
          have FW := Lib.hid (((Fr.refl No w2).alloc (.cells #[.int .i64 v, .slice D dl dc] 40)).drew)
          have hcd := F2.out.cell hc (fun x => x)
          have c1 := Bk.cell (HB2.out.no F2.out) 1
          have FA := Lib.hid ((Fr.refl No (w2.alloc (.cells #[.int .i64 v, .slice D dl dc] 40))).drew)
          have hcda := (F2.out.trans ((Fr.refl No w2).alloc (.cells #[.int .i64 v, .slice D dl dc] 40))).cell hc (fun x => x)
          have c1a := Bk.cell (HB2.out.no (F2.out.trans ((Fr.refl No w2).alloc (.cells #[.int .i64 v, .slice D dl dc] 40)))) 1
          have HZW := Lib.hid (show ((w2.alloc (.cells #[.int .i64 v, .slice D dl dc] 40)).drew).heap.size = w2.heap.size + 1 by simp)
          have B2L := Lib.hid (HB2.out.no F2.out)
          clear hrb hc hc2 hEL hdl
          go_upto_region 14 with fail
          go_region_law (first
            | (go_must (refine stepE1 w2 (w2.alloc (.cells #[.int .i64 v, .slice D dl dc] 40)).drew rfl (.tmp 66) (.tmp 73) rfl w1.heap.size (.slice vA es.length vc) es.length es (IsoN w1.heap.size wr (.slice vA es.length vc)) (fun i => wr.heap.size ≤ i ∧ i < w2.heap.size) (by rfl) OD.out (v, XD) [.int .i64 v, .slice D dl dc] ⟨D, dl, dc, rfl, RD2.out, fun ad e _ => BD2.out ad e, HWV.out, DL.out⟩ 40 FA.out HZW.out w2.heap.size rfl (by rfl) (by have := HEL.out; omega) (by have := F2.out.size; have := RB.out; omega) (fun i hi => hi.2.2) (fun i hi e => by have := (VB.out i e).2; omega) ?_); intro vA4 vc4 w4 ho4 hg4 hr4; have O4 := Lib.hid (owne_moreW F2.out HO.out ho4 (by simp) hg4 hr4 RB.out); have F4 := Lib.hid (FW.out.no.grown hg4 (fun i e => .inl e) (S := fun i => (Value.slice vA es.length vc).ownBlock = some i)); have B4b := Lib.hid (B2L.out.fr F4.out (fun e => by have := (VB.out _ e).1; have := HW1.out; omega)); have e1 := Bk.cell B4b.out 1; have y1 := Bk.frozen B4b.out 1; clear ho4 hg4 hr4))
          all_goals
            clear hcd hcda c1 c1a
            obtain ⟨q2, hq2⟩ : ∃ q2, q + XN = q2 := ⟨_, rfl⟩
            have hq2b : q2 ≤ b.length := by have := HLN.out; have := HX.out; rw [← hq2]; have h3 : x.length = b.length - q := by rw [← HX.out, List.length_drop]
                                            have := HQ.out; omega
            have hq2m : q2 ≤ m := by rw [← HM.out]; exact hq2b
            have hadd : (q : Int) + (XN : Int) = (q2 : Int) := by omega
            have HQ2 := Lib.hid hq2; have HQ2B := Lib.hid hq2b
            clear hq2 hq2b
            go_wp2_with fail
            have HMORE := rp_next rfl HW1.out HF1.out HF.out HB1.out F2.out F4.out VB.out B4b.out O4.out HES.out hin HQ2.out HQ2B.out HPQ.out HX.out HE0.out HEN.out HEF.out
            go_roundw
            case rel => exact HMORE _ (by first | rfl | go_num)
            case measure => simp [intOf]; omega
        · obtain rfl : i = ns.length := by omega
          have hd := els_done hinv (Nat.le_refl _)
          have hpi := HPI.out
          rw [if_neg (by rw [hE0]; decide), hd, if_neg (by simp)] at hpi
          dsimp only at hpi
          rw [show p + (q - p) = q by omega] at hpi
          obtain ⟨vA, vc, rfl, -⟩ := OwnI.rd' ho (M := fun _ => True) (fun _ _ => trivial) tag_ok (fun _ _ => trivial)
          have d0 := Bk.cell hb1 0; have d1 := Bk.cell hb1 1
          have z0 := Bk.frozen hb1 0; have z1 := Bk.frozen hb1 1
          have m0 := Bk.cell hb2 0; have m1 := Bk.cell hb2 1
          have HPI2 := Lib.hid hpi; have HB1 := Lib.hid hb1; have HF := Lib.hid hf; have HO := Lib.hid ho; have HQ := Lib.hid hq
          clear hd hpi hb1 hb2 hf hf1 ho hinv hE0 hpq hq hi HLE HN0 HPP HPI HRX hes
          by_cases hqm : q < m
          · have hqI : (q : Int) < (m : Int) := by omega
            have HPJ := Lib.hid (HPI2.out.trans (if_pos (by rw [HM.out]; exact hqm)))
            clear hqm
            go_wp2
            refine bodyPost_ret (results_bk2 (t := 25) (g := w.heap.size) (cs := [.string ⟨#[]⟩, .slice none 0 0]) (Tryz.results9) (by rfl) ((HB1.out.set_ 0 (.string ⟨#[]⟩)).set_ 1 (.slice none 0 0)) Tryz.underlying25 rfl (isoSize _ _)) rfl ?_
            exact rp_no HF.out HPJ.out
          · have hqI : ¬ (q : Int) < (m : Int) := by omega
            have HPJ := Lib.hid (HPI2.out.trans (if_neg (by rw [HM.out]; exact hqm)))
            clear hqm
            go_wp2
            refine bodyPost_ret (results_bk2 (t := 25) (g := w.heap.size) (cs := [.string S, .slice vA es.length vc]) (Tryz.results9) (by rfl) ((HB1.out.set_ 0 (.string S)).set_ 1 (.slice vA es.length vc)) Tryz.underlying25 rfl (isoSize _ _)) rfl ?_
            exact rp_yes HF.out HW1.out HO.out HS.out HPJ.out
      · have hEb := st_ne0 hE
        have hEq : (E == 0) = false := by rw [beq_eq_false_iff_ne]; exact hE
        have hT : T = (E, [], []) := by
          have hpi := HPI.out
          rcases hnz hE with ⟨h1, rfl⟩ | ⟨h1, h2⟩
          · rw [if_pos h1] at hpi; exact hpi
          · rw [if_neg (by rw [h1]; decide), if_pos (by rw [h2]; exact hE), h2] at hpi; exact hpi
        have d0 := Bk.cell hb1 0; have d1 := Bk.cell hb1 1
        have z0 := Bk.frozen hb1 0; have z1 := Bk.frozen hb1 1
        have HT := Lib.hid hT; have HB1 := Lib.hid hb1; have HF := Lib.hid hf
        clear hT hb1 hb2 hf hf1 ho hz hnz hq HLE HN0 HPP HPI HRX hE hes
        rcases Nat.lt_or_ge i ns.length with hin | hge
        · have hiI : (i : Int) < (ns.length : Int) := by omega
          clear hin hi
          go_wp2
          refine bodyPost_ret (results_bk2 (t := 25) (g := w.heap.size) (cs := [.string ⟨#[]⟩, .slice none 0 0]) (Tryz.results9) (by rfl) ((HB1.out.set_ 0 (.string ⟨#[]⟩)).set_ 1 (.slice none 0 0)) Tryz.underlying25 rfl (isoSize _ _)) rfl ?_
          exact rp_no HF.out HT.out
        · have hiI : ¬ (i : Int) < (ns.length : Int) := by omega
          clear hge hi
          go_wp2
          refine bodyPost_ret (results_bk2 (t := 25) (g := w.heap.size) (cs := [.string ⟨#[]⟩, .slice none 0 0]) (Tryz.results9) (by rfl) ((HB1.out.set_ 0 (.string ⟨#[]⟩)).set_ 1 (.slice none 0 0)) Tryz.underlying25 rfl (isoSize _ _)) rfl ?_
          exact rp_no HF.out HT.out
end Go.Proofs.YtpkalnkeafggjaaGreatDoor
