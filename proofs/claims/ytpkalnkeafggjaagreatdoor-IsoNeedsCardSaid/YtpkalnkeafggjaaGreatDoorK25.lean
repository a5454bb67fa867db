/- The texts IsoP2, joined. -/
import Derived.Test.YtpkalnkeafggjaaGreatDoorK24
/- Package iso: the reader: which elements are there, and one of them. -/
namespace Go.Proofs.YtpkalnkeafggjaaGreatDoor
open Go.RowKit
set_option maxHeartbeats 1000000
set_option linter.unusedVariables false
set_option maxRecDepth 20000

theorem par_len {x : List UInt8} (h : parE x = 0) : parN x ≤ x.length := by
  by_cases h8 : x.length < 8 ∨ x.length < mapN x
  · rw [(bm_bad3 h8).1] at h; cases h
  · have hm : mapN x ≤ x.length := by omega
    cases hb : mapBad x with
    | true => rw [(bm_bad6 hm hb).1] at h; cases h
    | false => rw [(bm_good hm hb).2.1]; exact hm
theorem rdEl_len (no : Int) (x : List UInt8) (h : reE no x = 0) : reN no x ≤ x.length := (el_fwd h).2.2
section
variable {w w' : World} {g G : Nat} {A : Option Addr} {c : Nat} {b : List UInt8} {k k' : Nat} {mt : ByteArray} {va vl : Value}
theorem Rs.rest (h : Rs w g G A c b k mt va vl) : Rd w (cutA A c k) (b.length - k) (c - k) (u8s (b.drop k)) := rd_rest h.rd h.caps.1
def NumEnd (w : World) (g G : Nat) (A : Option Addr) (c : Nat) (b : List UInt8) (k : Nat) (mt : ByteArray) (va : Value) (e : Ending) (w' : World) : Prop :=
  e = .returned (.int .i64 (parE (b.drop k))) ∧ Fr (IsoB G g) w w' ∧ (parE (b.drop k) = 0 → ∃ L cl, Rs w' g G A c b (k + parN (b.drop k)) mt va (.slice L (parL (b.drop k)).length cl) ∧ Rd w' L (parL (b.drop k)).length cl (ints (parL (b.drop k))) ∧ ∀ ad, L = some ad → w.heap.size ≤ ad.block)
theorem iso_numbers (h : Rs w g G A c b k mt va vl) (hb : b.length ≤ 4096) :
    Calls Tryz.prog 19 #[.pointer (some ⟨g, 0, none⟩)] w (NumEnd w g G A c b k mt va) := by
  have hk := h.caps.1
  have HRE := Lib.hid (iso_rest h)
  have HP := Lib.hid (fun u (hu : Dr w u) => bm_parse_any _ _ _ _ u (h.rest.dr hu) (by omega))
  have hdl : (b.drop k).length = b.length - k := List.length_drop
  have H := Lib.hid h
  have HPL := Lib.hid (fun hE : parE (b.drop k) = 0 => show k + parN (b.drop k) ≤ b.length by have := par_len hE; omega)
  unfold NumEnd
  clear hdl
  generalize parN (b.drop k) = N at *
  generalize parL (b.drop k) = LL at *
  generalize parE (b.drop k) = E at *
  obtain ⟨q, hq⟩ : ∃ q, b.length - k = q := ⟨_, rfl⟩
  obtain ⟨d, hd⟩ : ∃ d, c - k = d := ⟨_, rfl⟩
  obtain ⟨B, hB⟩ : ∃ B, cutA A c k = B := ⟨_, rfl⟩
  rw [hq, hd, hB] at HRE HP
  have HBL := Lib.hid hb; have HK := Lib.hid hk
  clear h hq hd hB hb hk
  by_cases hE : E = 0
  · subst hE
    have HS := Lib.hid (HPL.out rfl)
    go_enter Tryz.func19, Tryz.ntmps19
    go_wp2_with (first
      | (go_at_call 39; refine (HRE.out).mono ?_; rintro e w1 ⟨rfl, d1⟩; have D1 := Lib.hid d1; clear d1)
      | (go_at_call 38; refine (HP.out _ D1.out).mono ?_; rintro e w2 ⟨v, rfl, ho, f2⟩; obtain ⟨L, cl, rfl, hrd, hbl⟩ := Rd.of_own ho; have R2 := Lib.hid ((H.out.dr D1.out).no f2); have F2 := Lib.hid (D1.out.fr.trans f2); have RL := Lib.hid hrd; have BL := Lib.hid hbl; have c4 := R2.out.cells.2.2.2.2.1; have z4 := R2.out.cells.2.2.2.2.2 4; clear ho f2 hrd hbl)
      | (go_at_call 40; refine (iso_past (R2.out.setL (.slice L LL.length cl)) N HS.out (by have := HBL.out; omega)).mono ?_; rintro e w3 ⟨rfl, hr3, f3⟩; have R3 := Lib.hid hr3; have F3 := Lib.hid f3; clear hr3 f3))
    go_ret
    have hne : ∀ ad, L = some ad → 0 < LL.length → ad.block ≠ g ∧ ad.block ≠ G := fun ad e h0 => by
      have h1 := (BL.out ad e).1
      have h2 := H.out.lt
      have h3 := D1.out.fr.size (S := No)
      omega
    refine ⟨rfl, (isob_set (F2.out.no) _ _).trans (isob_G F3.out), fun _ => ⟨L, cl, R3.out, ?_, fun ad e => by have := (BL.out ad e).1; have h3 := D1.out.fr.size (S := No); omega⟩⟩
    exact rd_far (rd_far RL.out ((Fr.refl (Just g) w2).setCell (p := ⟨g, 4, none⟩) (.inl (Just.at g)) _) (fun h0 ad e => (hne ad e h0).1)) F3.out (fun h0 ad e => (hne ad e h0).2)
  · have HE := Lib.hid hE
    clear hE
    go_enter Tryz.func19, Tryz.ntmps19
    go_wp2_with (first
      | (go_at_call 39; refine (HRE.out).mono ?_; rintro e w1 ⟨rfl, d1⟩; have D1 := Lib.hid d1; clear d1)
      | (go_at_call 38; refine (HP.out _ D1.out).mono ?_; rintro e w2 ⟨v, rfl, ho, f2⟩; obtain ⟨L, cl, rfl, hrd, hbl⟩ := Rd.of_own ho; have R2 := Lib.hid ((H.out.dr D1.out).no f2); have F2 := Lib.hid (D1.out.fr.trans f2); have c4 := R2.out.cells.2.2.2.2.1; have z4 := R2.out.cells.2.2.2.2.2 4; clear ho f2 hrd hbl)
      | (go_at_call 40; refine (iso_past_no (R2.out.setL (.slice L LL.length cl)) N E HE.out).mono ?_; rintro e w3 ⟨rfl, rfl⟩))
    go_ret
    exact ⟨rfl, isob_set (F2.out.no) _ _, fun h => absurd h HE.out⟩
end
/-- where the elements' data lie: in blocks behind the base, not in their own row's -/
def IsoN (base : Nat) (w : World) (v : Value) : Nat → Prop := fun i => base ≤ i ∧ i < w.heap.size ∧ v.ownBlock ≠ some i
def OwnE (w : World) (base : Nat) (v : Value) (es : List El) : Prop := OwnI 2 TagI w base 40 (IsoN base w v) v es.length es
theorem OwnE.far {w w' : World} {S : Nat → Prop} {base : Nat} {v : Value} {es : List El} (h : OwnE w base v es) (hf : Fr S w w') (hS : ∀ i, base ≤ i → ¬ S i) : OwnE w' base v es :=
  (OwnI.fr tag_ok h hf (fun i hi => hS i hi.1) (fun i hi => hS i (h.lt i hi).1)).mono tag_ok (fun i hi => ⟨hi.1, Nat.lt_of_lt_of_le hi.2.1 hf.size, hi.2.2⟩)
theorem OwnE.no {w w' : World} {base : Nat} {v : Value} {es : List El} (h : OwnE w base v es) (hf : Fr No w w') : OwnE w' base v es := h.far hf (fun _ _ x => x)
theorem OwnE.nil_ (w : World) (base : Nat) : OwnE w base (.slice none 0 0) [] := OwnI.nil_ _ _ _ _ _ _
/-- one more element was put behind -/
theorem owne_more {w w2 w4 : World} {base : Nat} {va v2 : Value} {es : List El} {a : El} {cs : List Value} {t : TypeId} (hf : Fr No w w2) (ho : OwnE w base va es)
    (h4 : OwnI 2 TagI w4 base 40 (fun i => IsoN base w va i ∨ (w.heap.size ≤ i ∧ i < w2.heap.size)) v2 (es.length + 1) (es ++ [a])) (hg : (w2.alloc (.cells cs.toArray t)).grownBy w4 va.ownBlock) (hv : v2.ownBlock = va.ownBlock ∨ v2.ownBlock = some (w2.heap.size + 1)) (hb : base ≤ w.heap.size) : OwnE w4 base v2 (es ++ [a]) := by
  have hsz : w2.heap.size + 1 ≤ w4.heap.size := by
    have h1 := ((Fr.refl (fun i => va.ownBlock = some i) (w2.alloc (.cells cs.toArray t))).grown hg (fun i e => .inl e)).size
    simpa using h1
  have h1 := hf.size
  show OwnI 2 TagI w4 base 40 _ v2 (es ++ [a]).length (es ++ [a])
  rw [show (es ++ [a]).length = es.length + 1 by simp]
  refine h4.mono tag_ok (fun i hi => ?_)
  rcases hi with ⟨i1, i2, i3⟩ | ⟨i1, i2⟩
  · refine ⟨i1, by omega, fun e => ?_⟩
    rcases hv with hv | hv
    · exact i3 (by rw [← hv]; exact e)
    · rw [hv] at e; injection e with e; omega
  · refine ⟨by omega, by omega, fun e => ?_⟩
    rcases hv with hv | hv
    · rw [hv] at e
      have := (ho.lt i e).2
      omega
    · rw [hv] at e; injection e with e; omega
def ElmEnd (w : World) (g G : Nat) (A : Option Addr) (c : Nat) (b : List UInt8) (p : Nat) (mt : ByteArray) (va vl : Value) (base : Nat) (es : List El) (n : Int) (e : Ending) (w' : World) : Prop :=
  e = .returned (.int .i64 (reE n (b.drop p))) ∧ Fr (fun i => IsoB G g i ∨ va.ownBlock = some i) w w' ∧ (reE n (b.drop p) = 0 → ∃ va', Rs w' g G A c b (p + reN n (b.drop p)) mt va' vl ∧ OwnE w' base va' (es ++ [(n, reL n (b.drop p))]) ∧ (va'.ownBlock = va.ownBlock ∨ ∃ i, va'.ownBlock = some i ∧ w.heap.size ≤ i))
theorem iso_element {w : World} {g G : Nat} {A : Option Addr} {c : Nat} {b : List UInt8} {p : Nat} {mt : ByteArray} {va vl : Value} {base : Nat} {es : List El} {n : Int} (h : Rs w g G A c b p mt va vl) (ho : OwnE w base va es) (hg : g < base) (hbase : base ≤ w.heap.size) (hes : es.length ≤ 1000) (hn : (Lit.int .i64 n).wf = true) (hb : b.length ≤ 4096) (hT : Tabs w) :
    Calls Tryz.prog 42 #[.pointer (some ⟨g, 0, none⟩), .int .i64 n] w (ElmEnd w g G A c b p mt va vl base es n) := by
  have hk := h.caps.1
  obtain ⟨x, hx⟩ : ∃ x, b.drop p = x := ⟨_, rfl⟩
  have hxl : b.length - p = x.length := by rw [← hx, List.length_drop]
  have HRE := Lib.hid (iso_rest h)
  have hrx := h.rest
  rw [hx, hxl] at hrx
  rw [hxl] at HRE
  have HP := Lib.hid (fun u (hu : Dr w u) => el_read_any n _ _ x u (hrx.dr hu) (hT.dr hu))
  have H := Lib.hid h; have HO := Lib.hid ho
  have HPL := Lib.hid (fun hE : reE n x = 0 => show p + reN n x ≤ b.length by have := rdEl_len n x hE; omega)
  unfold ElmEnd
  rw [hx]
  have HEL := Lib.hid hes; have HBL := Lib.hid hb; have HG := Lib.hid hg; have HBA := Lib.hid hbase; have HN := Lib.hid hn
  clear hx hrx hxl hk h hb hT hg hbase hes hn
  obtain ⟨vA, vc, rfl, -⟩ := ho.rd' (M := fun _ => True) (fun _ _ => trivial) tag_ok (fun _ _ => trivial)
  clear ho
  generalize reL n x = D at *
  generalize reN n x = N at *
  generalize reE n x = E at *
  generalize x.length = xl at *
  obtain ⟨B, hB⟩ : ∃ B, cutA A c p = B := ⟨_, rfl⟩
  obtain ⟨d, hd⟩ : ∃ d, c - p = d := ⟨_, rfl⟩
  rw [hB, hd] at HRE HP
  clear hB hd
  go_enter Tryz.func42, Tryz.ntmps42
  go_upto_region 2 with (first
      | (go_at_call 39; refine (HRE.out).mono ?_; rintro e w1 ⟨rfl, d1⟩; have D1 := Lib.hid d1; clear d1)
      | (go_at_call 67; refine (HP.out _ D1.out).mono ?_; rintro e w2 ⟨v, rfl, ho2, f2⟩; obtain ⟨L, cl, rfl, hrd, hbl⟩ := Rd.of_own ho2; have R2 := Lib.hid ((H.out.dr D1.out).no f2); have F2 := Lib.hid ((Dr.fr (S := No) D1.out).trans f2); have RL := Lib.hid hrd; have BL := Lib.hid (fun ad e => (⟨Nat.le_trans (Dr.fr (S := No) D1.out).size (hbl ad e).1, (hbl ad e).2⟩ : w.heap.size ≤ ad.block ∧ ad.block < w2.heap.size)); have c1 := R2.out.cells.2.1; clear ho2 f2 hrd hbl))
  have hrl : D.length ≤ 9223372036854775807 := by have h1 := RL.out.cap; have h2 := RL.out.max; simp only [maxLen] at h2; omega
  have HRL := Lib.hid hrl
  have HO2 := Lib.hid (OwnI.no tag_ok HO.out F2.out)
  have HVB := Lib.hid (fun i (e : (Value.slice vA es.length vc).ownBlock = some i) => HO.out.lt i e)
  have HB2 := Lib.hid (Nat.le_trans HBA.out F2.out.size)
  obtain ⟨dl, hdl⟩ : ∃ dl, D.length = dl := ⟨_, rfl⟩
  rw [hdl] at RL HRL ⊢
  clear hrl hdl HP HRE
  have e1 : ∀ ob, (w2.alloc ob).cell? ⟨g, 1, none⟩ = some (.slice vA es.length vc) := fun ob => ((Fr.refl No w2).alloc ob).cell c1 (fun x => x)
  go_upto_region 3 with (at_builtin; go_must (refine ap_elm1 w2 rfl (.tmp 21) (.tmp 25) rfl base (.slice vA es.length vc) es.length es (IsoN base w (.slice vA es.length vc)) (fun i => w.heap.size ≤ i ∧ i < w2.heap.size) rfl HO2.out (n, D) [.int .i64 n, .slice L dl cl] ⟨L, dl, cl, rfl, RL.out, fun ad e _ => BL.out ad e, HN.out, HRL.out⟩ _ _ rfl rfl (by have := HEL.out; omega) HB2.out (fun i hi => hi.2.2) (fun i hi e => by have := (HVB.out i e).2; omega) ?_); intro v2 w4 ho4 hg4 hr4; obtain ⟨vA4, vc4, rfl, -⟩ := ho4.rd' (M := fun _ => True) (fun _ _ => trivial) tag_ok (fun _ _ => trivial); go_must (have HO4 := Lib.hid (owne_more F2.out HO.out ho4 hg4 hr4 HBA.out)); go_must (have F4 := Lib.hid (((Fr.refl (fun i => (Value.slice vA es.length vc).ownBlock = some i) w2).alloc (.cells #[.int .i64 n, .slice L dl cl] 40)).grown hg4 (fun i e => .inl e))); have R4 := Lib.hid (R2.out.far F4.out (fun i hi e => by have := (HVB.out i e).1; have := HG.out; omega)); have HV4 := Lib.hid hr4; have e0 := R4.out.cells.2.1; have e5 := R4.out.cells.2.2.2.2.2 1; clear ho4 hg4 hr4)
  have hf5 : Fr (fun i => IsoB G g i ∨ (Value.slice vA es.length vc).ownBlock = some i) w (w4.setCell ⟨g, 1, none⟩ (.slice vA4 (es.length + 1) vc4)) :=
    ((F2.out.no).trans (F4.out.mono (fun i e => .inr e))).setCell (.inl (.inl (.inr rfl))) _
  have hv4 : (Value.slice vA4 (es.length + 1) vc4).ownBlock = (Value.slice vA es.length vc).ownBlock ∨ ∃ i, (Value.slice vA4 (es.length + 1) vc4).ownBlock = some i ∧ w.heap.size ≤ i := by
    rcases HV4.out with h | h
    · exact .inl h
    · exact .inr ⟨_, h, by have := F2.out.size; omega⟩
  have ho5 : OwnE (w4.setCell ⟨g, 1, none⟩ (.slice vA4 (es.length + 1) vc4)) base (.slice vA4 (es.length + 1) vc4) (es ++ [(n, D)]) := HO4.out.far ((Fr.refl (Just g) w4).setCell (.inl (Just.at g)) _) (fun i hi x => by have := HG.out; have : i = g := x; omega)
  have F5 := Lib.hid hf5; have V5 := Lib.hid hv4; have O5 := Lib.hid ho5; have R5 := Lib.hid (R4.out.setA (.slice vA4 (es.length + 1) vc4))
  clear hf5 hv4 ho5 e0 e5 e1 c1
  by_cases hE : E = 0
  · subst hE
    go_wp2_with (go_at_call 40; refine (iso_past R5.out N (HPL.out rfl) (by have := HBL.out; omega)).mono ?_; rintro e w6 ⟨rfl, hr6, f6⟩; have R6 := Lib.hid hr6; have F6 := Lib.hid f6; clear hr6 f6)
    go_ret
    refine ⟨rfl, F5.out.trans ((isob_G F6.out).mono (fun i x => .inl x)), ⟨(.slice vA4 (es.length + 1) vc4), R6.out, O5.out.far F6.out (fun i hi x => ?_), V5.out⟩⟩
    have := HG.out
    have := H.out.lt
    have : i = G := x
    omega
  · have HE := Lib.hid hE
    clear hE
    go_wp2_with (go_at_call 40; refine (iso_past_no R5.out N E HE.out).mono ?_; rintro e w6 ⟨rfl, rfl⟩)
    go_ret
    exact ⟨rfl, F5.out, fun h => absurd h HE.out⟩
end Go.Proofs.YtpkalnkeafggjaaGreatDoor
