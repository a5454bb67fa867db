/- The texts FldD2, FldD3, FldD4, joined. -/
import Derived.Test.YthlgnmgjfgbffaaGreatDoorL26
import Derived.Test.YthlgnmgjfgbffaaGreatDoorL41
/- Package fields: what was parsed; the steps of Decode and of Head as one call. -/
namespace Go.Proofs.YthlgnmgjfgbffaaGreatDoor
open Go.RowKit
set_option maxHeartbeats 1000000
set_option linter.unusedVariables false
set_option maxRecDepth 20000

theorem pari_err {b : List UInt8} (h : (parI b).1 ≠ 0) : (parI b).2.1 = [] ∧ (parI b).2.2 = [] := by
  unfold parI at h ⊢
  split
  · exact ⟨rfl, rfl⟩
  split
  · exact ⟨rfl, rfl⟩
  split
  · exact ⟨rfl, rfl⟩
  split
  · exact ⟨rfl, rfl⟩
  split
  · exact ⟨rfl, rfl⟩
  split
  · exact ⟨rfl, rfl⟩
  · rename_i h1 h2 h3 h4 h5 h6
    rw [if_neg h1, if_neg h2, if_neg h3, if_neg h4, if_neg h5, if_neg h6] at h
    exact absurd rfl h
theorem pari_len (b : List UInt8) : (parI b).2.2.length ≤ 127 := by
  have hp := parL_len (b.drop 4)
  unfold parI
  split
  · exact Nat.zero_le _
  split
  · exact Nat.zero_le _
  split
  · exact Nat.zero_le _
  split
  · exact Nat.zero_le _
  split
  · exact Nat.zero_le _
  split
  · exact Nat.zero_le _
  · rename_i h1 h2
    have h1 := Decidable.not_not.1 h1
    have h3 := (els_fwd (parL (b.drop 4)) (b.drop (4 + parN (b.drop 4))) _ _ (by rw [← h1])).1
    have h4 := congrArg List.length h3
    rw [show (nosOf _).length = _ from List.length_map ..] at h4
    exact Nat.le_trans (Nat.le_of_eq h4) hp
theorem pari_facts (b : List UInt8) : (nosOf (parI b).2.2).Pairwise (· < ·) ∧ chkAll (parI b).2.2 = 0 := by
  by_cases h : (parI b).1 = 0
  · have h2 : parI b = (0, (parI b).2.1, (parI b).2.2) := by rw [← h]
    obtain ⟨h3, -⟩ := iso_fwd h2
    obtain ⟨-, -, h5, h6, -⟩ := pac_ok h3
    exact ⟨((risesB_iff _).1 h5).1, h6⟩
  · rw [(pari_err h).2]
    exact ⟨List.Pairwise.nil, rfl⟩
theorem fldT_len {es : List El} (h : chkAll es = 0) (n : Int) : (fldT es n).length ≤ 999 := by
  unfold fldT
  cases hf : fldL es n with
  | none => exact Nat.zero_le _
  | some d =>
    have hc := fld_chk h hf
    show d.length ≤ 999
    obtain ⟨r, hr, hm, hc2, _⟩ := wrt_ok hc
    exact (fit_bounds hm (chkR_ok hc2).1).2.2.1
theorem fldT_fix {es : List El} (h : chkAll es = 0) {no : Int} {n : Nat} (hf : elFind no = some ⟨no, 1, 0, n, false⟩) : fldT es no = [] ∨ ((fldT es no).length = n ∧ (fldT es no).all isD = true) := by
  unfold fldT
  cases hk : fldL es no with
  | none => exact .inl rfl
  | some d => exact .inr (chk_fix hf (fld_chk h hk))
theorem fldT_56 {es : List El} (h : chkAll es = 0) : fldT es 56 = [] ∨ 6 ≤ (fldT es 56).length := by
  rcases fldT_fix h (no := 56) (n := 20) (by decide +kernel) with h1 | h1
  · exact .inl h1
  · exact .inr (by omega)
section
variable {w : World} {g : Nat} {t : List UInt8} {f : Int → List UInt8} {oA : Option Addr} {on oc : Nat}
theorem dec_start (hb : Bk w g 62 ((decSh 0 t f none 0 0 oA on oc).cells ++ [.string (bstr t)])) (ob : Obj) : DecR (w.alloc ob) g t f oA on oc 0 (w.alloc ob) :=
  ⟨Fr.refl _ _, fun j hj => absurd hj (Nat.not_lt_zero _), none, 0, 0, ⟨fun h => absurd h (by decide), fun _ => ⟨rfl, rfl, rfl⟩⟩, hb.no ((Fr.refl No w).alloc ob)⟩
theorem dec_walk (hb : Bk w g 62 ((decSh 0 t f none 0 0 oA on oc).cells ++ [.string (bstr t)])) (hsz : ∀ n, (f n).length ≤ 100000) (h56 : f 56 = [] ∨ 6 ≤ (f 56).length) (hon : on ≤ 1000) (hT : ∀ u, Fr (Just g) w u → Tabs u) (ty : TypeId) :
    Calls Tryz.prog 16 #[.slice (some ⟨w.heap.size, 0, none⟩) 14 14] (w.alloc (.cells (readV g).toArray ty)) (SWTo (DecR (w.alloc (.cells (readV g).toArray ty)) g t f oA on oc 14) (DecQ (w.alloc (.cells (readV g).toArray ty)) g t f on)) := by
  have hfa : Fr No w (w.alloc (.cells (readV g).toArray ty)) := (Fr.refl No w).alloc _
  have hbk := Bk.new w ty (readV g).toArray
  have hgl := hb.lt
  refine t_walk (some ⟨w.heap.size, 0, none⟩) 14 14 (readV g) _ _ _ rfl (Nat.le_refl _) (by omega) (fun e => nomatch e) (dec_start hb _) ?_ (fun i hi => dec_steps hsz h56 hon (fun u hu => hT u (hfa.no.trans hu)) i hi)
  intro i u hu ad e j v hv
  injection e with e
  subst e
  have h1 := (hbk.fr hu.1 (fun x => by have : w.heap.size = g := x; omega)).cell j
  rw [addr_at, h1]
  exact hv
abbrev headV (g : Nat) : List Value := [.func (.func 18) #[.pointer (some ⟨g, 0, none⟩)] #[], .func (.func 21) #[.pointer (some ⟨g, 0, none⟩)] #[]]
/-- the sheet behind Head's first step, and whether it may be -/
def hedSh (k : Nat) (f : Int → List UInt8) (oA : Option Addr) (on oc : Nat) : FSh := ⟨f, 0, if 1 ≤ k then (numR (f 11) : Int) else 0, 0, ⟨#[]⟩, ⟨#[]⟩, 0, 0, ⟨#[]⟩, ⟨#[]⟩, none, 0, 0, none, 0, 0, oA, on, oc⟩
def hedB (f : Int → List UInt8) : Bool := exchB (bstr (f 11)) (bstr (f 12)) (bstr (f 32)) && timeB (f 12)
def HedR (w0 : World) (g : Nat) (t : List UInt8) (f : Int → List UInt8) (oA : Option Addr) (on oc : Nat) (k : Nat) (u : World) : Prop :=
  Fr (Just g) w0 u ∧ Bk u g 62 ((hedSh k f oA on oc).cells ++ [.string (bstr t)]) ∧ (1 ≤ k → exchB (bstr (f 11)) (bstr (f 12)) (bstr (f 32)) = true) ∧ (2 ≤ k → hedB f = true)
def HedQ (w0 : World) (g : Nat) (f : Int → List UInt8) (E : Int) (u : World) : Prop := Fr (Just g) w0 u ∧ hedB f = false
theorem hed_steps {w0 : World} (hsz : ∀ n, (f n).length ≤ 100000) (i : Nat) (hi : i < 2) :
    ∃ F x, (headV g)[i]? = some (.func (.func F) #[x] #[]) ∧ (∀ args w, (callFunc F args).run Tryz.prog w = .ok (.enter F args) w) ∧ ∀ u, HedR w0 g t f oA on oc i u → Calls Tryz.prog F #[x] u (SWTo (HedR w0 g t f oA on oc (i + 1)) (HedQ w0 g f)) := by
  have hM : ∀ n, (bstr (f n)).size ≤ maxLen := fun n => by have := bs_size (f n) (hsz n); simp only [maxLen]; omega
  have h2 : i = 0 ∨ i = 1 := by omega
  rcases h2 with rfl | rfl
  · refine ⟨_, _, rfl, fun args w => rfl, fun u h => ?_⟩
    obtain ⟨hf0, hb, -, -⟩ := h
    refine (f_exchange (S := bstr (f 11)) (Tm := bstr (f 12)) (Ac := bstr (f 32)) hb rfl rfl rfl rfl (hM 11)).mono ?_
    rintro e w' ⟨rfl, hb', hf⟩
    cases hx : exchB (bstr (f 11)) (bstr (f 12)) (bstr (f 32)) with
    | true => exact ⟨0, rfl, .inl ⟨rfl, hf0.trans hf, hb', fun _ => hx, fun h => absurd h (by decide)⟩⟩
    | false => exact ⟨19, rfl, .inr ⟨by decide, hf0.trans hf, by unfold hedB; rw [hx]; rfl⟩⟩
  · refine ⟨_, _, rfl, fun args w => rfl, fun u h => ?_⟩
    obtain ⟨hf0, hb, hx, -⟩ := h
    refine (f_time (S := bstr (f 12)) hb rfl (hM 12)).mono ?_
    rintro e w' ⟨rfl, hf⟩
    have hx1 := hx (Nat.le_refl 1)
    have hbl : (bstr (f 12)).data.toList = f 12 := rfl
    rw [hbl]
    cases ht : timeB (f 12) with
    | true => exact ⟨0, rfl, .inl ⟨rfl, hf0.trans hf.no, hb.no hf, fun _ => hx1, fun _ => by unfold hedB; rw [hx1, ht]; rfl⟩⟩
    | false => exact ⟨14, rfl, .inr ⟨by decide, hf0.trans hf.no, by unfold hedB; rw [ht]; simp⟩⟩
theorem hed_walk (hb : Bk w g 62 ((hedSh 0 f oA on oc).cells ++ [.string (bstr t)])) (hsz : ∀ n, (f n).length ≤ 100000) (ty : TypeId) :
    Calls Tryz.prog 16 #[.slice (some ⟨w.heap.size, 0, none⟩) 2 2] (w.alloc (.cells (headV g).toArray ty)) (SWTo (HedR (w.alloc (.cells (headV g).toArray ty)) g t f oA on oc 2) (HedQ (w.alloc (.cells (headV g).toArray ty)) g f)) := by
  have hfa : Fr No w (w.alloc (.cells (headV g).toArray ty)) := (Fr.refl No w).alloc _
  have hbk := Bk.new w ty (headV g).toArray
  have hgl := hb.lt
  refine t_walk (some ⟨w.heap.size, 0, none⟩) 2 2 (headV g) _ _ _ rfl (Nat.le_refl _) (by omega) (fun e => nomatch e) ⟨Fr.refl _ _, hb.no hfa, fun h => absurd h (by decide), fun h => absurd h (by decide)⟩ ?_ (fun i hi => hed_steps hsz i hi)
  intro i u hu ad e j v hv
  injection e with e
  subst e
  have h1 := (hbk.fr hu.1 (fun x => by have : w.heap.size = g := x; omega)).cell j
  rw [addr_at, h1]
  exact hv
end
end Go.Proofs.YthlgnmgjfgbffaaGreatDoor
/- Package fields: Decode. -/
namespace Go.Proofs.YthlgnmgjfgbffaaGreatDoor
open Go.RowKit
set_option maxHeartbeats 2000000
set_option linter.unusedVariables false
set_option maxRecDepth 20000

/-- a message with nothing in it -/
def mz : MsgC := ⟨0, 0, ⟨#[]⟩, ⟨#[]⟩, ⟨#[]⟩, ⟨#[]⟩, 0, ⟨#[]⟩, ⟨#[]⟩, ⟨#[]⟩, ⟨#[]⟩, 0, ⟨#[]⟩, ⟨#[]⟩, 0, ⟨#[]⟩, none, 0, 0, ⟨#[]⟩, ⟨#[]⟩, none, 0, 0, none, 0, 0⟩
theorem msg_oneF (m : MsgC) : m.cells.toArray.all (·.oneCell') = true := by
  unfold MsgC.cells
  simp [Value.oneCell']
/-- why it is no message -/
def decFE (b : List UInt8) : Int := if (parI b).1 ≠ 0 then (parI b).1 else firstE (decEs (parI b).2.1 (fldT (parI b).2.2) (othE (parI b).2.2).length)
/-- the message that elements say, as it stands in memory -/
def decC (t : List UInt8) (es : List El) (tA : Option Addr) (tc : Nat) (oA : Option Addr) (oc : Nat) : MsgC := (decSh 14 t (fldT es) tA (tlvL (fldT es 55)).length tc oA (othE es).length oc).msg
/-- what Decode answers -/
def DecTo (b : List UInt8) (w : World) (e : Ending) (w' : World) : Prop :=
  Fr No w w' ∧ ((decFE b ≠ 0 ∧ e = .returned (.tuple #[mz.val, .int .i64 (decFE b)])) ∨
    (decFE b = 0 ∧ ∃ tA tc oA oc, e = .returned (.tuple #[(decC (parI b).2.1 (parI b).2.2 tA tc oA oc).val, .int .i64 0]) ∧
      RdI 2 TagI w' (fun i => i < w'.heap.size) tA (tlvL (fldT (parI b).2.2 55)).length tc (tlvL (fldT (parI b).2.2 55)) ∧
      RdI 2 TagI w' (fun i => i < w'.heap.size) oA (othE (parI b).2.2).length oc (othE (parI b).2.2)))
theorem sheet_range {w : World} {g : Nat} {T : TypeId} {s : FSh} {tl : List Value} (h : Bk w g T (s.cells ++ tl)) : w.rangeAt g 0 s.msg.cells := fun j v hv => by
  have e : s.cells ++ tl = s.msg.cells ++ (s.texts ++ tl) := List.append_assoc ..
  rw [Nat.zero_add, h.cell j, e, List.getElem?_append_left (List.getElem?_eq_some_iff.1 hv).1]
  exact hv
theorem shOf_dec (t : List UInt8) (es : List El) (oA : Option Addr) (on oc : Nat) : shOf es oA on oc = decSh 0 t (fldT es) none 0 0 oA on oc := rfl
theorem shOf_hed (es : List El) (oA : Option Addr) (on oc : Nat) : shOf es oA on oc = hedSh 0 (fldT es) oA on oc := rfl
theorem f_decode_any (A : Option Addr) (c : Nat) (b : List UInt8) (w : World) (hr : Rd w A b.length c (u8s b)) (hT : Tabs w) :
    Calls Tryz.prog 6 #[.slice A b.length c] w (DecTo b w) := by
  have HP := Lib.hid (fun u (hu : Fr No w u) => iso_parse_any A c b u (hr.no hu) (hT.fr hu))
  have HPF := Lib.hid (pari_facts b)
  have HPN := Lib.hid (pari_len b)
  have hde : decFE b = if (parI b).1 ≠ 0 then (parI b).1 else firstE (decEs (parI b).2.1 (fldT (parI b).2.2) (othE (parI b).2.2).length) := rfl
  have HT := Lib.hid hT
  unfold DecTo
  generalize decFE b = DE at *
  generalize (parI b).1 = E at *
  generalize (parI b).2.1 = t at *
  generalize (parI b).2.2 = es at *
  generalize b.length = m at *
  clear hr hT
  have HDE := Lib.hid hde
  clear hde
  go_enter Tryz.func6, Tryz.ntmps6
  have HF0 := Lib.hid ((Fr.refl No w).alloc (.cells mz.cells.toArray 38))
  have HB0 := Lib.hid (Bk.new w 38 mz.cells.toArray)
  have HZ0 := Lib.hid (fun i (hi : (w.alloc (.cells mz.cells.toArray 38)).heap.size ≤ i) => (show w.heap.size < i by simp at hi; omega))
  go_upto_region 2 with (go_at_call 14; refine (HP.out _ HF0.out).mono ?_; rintro e w1 ⟨va, rfl, ho, hf⟩; obtain ⟨vA, vc, rfl, hrd⟩ := OwnI.rd' ho (M := fun i => w.heap.size < i ∧ i < w1.heap.size) (fun i hi => ⟨HZ0.out i (ho.lt i hi).1, (ho.lt i hi).2⟩) tag_ok (fun i hi => ⟨HZ0.out i hi.1, hi.2.1⟩); have R1 := Lib.hid hrd; have F1 := Lib.hid (HF0.out.trans hf); have B1 := Lib.hid (HB0.out.no hf); clear ho hf hrd)
  have HRB := Lib.hid HB0.out.lt
  obtain ⟨rb, hrb⟩ : ∃ rb, w.heap.size = rb := ⟨_, rfl⟩
  rw [hrb] at B1 R1 ⊢
  have HS := Lib.hid hrb
  clear HB0 HF0 HP hrb HRB HZ0
  by_cases hE : E = 0
  · subst hE
    have hde := HDE.out
    rw [if_neg (by decide)] at hde
    have HDE2 := Lib.hid hde
    clear hde HDE
    have FX := Lib.hid ((Fr.refl No w1).alloc (.cells #[.string (bstr t), .slice vA es.length vc] 27))
    have HRD := Lib.hid (f_read (mt := t) (R1.out.no tag_ok FX.out) (fun i hi => Nat.lt_of_lt_of_le hi.2 FX.out.size) HPF.out.1 (by have := HPN.out; omega) ((HT.out.fr F1.out).fr FX.out))
    go_upto_region 5 with (go_at_call 15; refine (HRD.out).mono ?_; rintro e w2 ⟨g, rfl, hg1, hg2, ⟨oA, oc, hbk, how⟩, f2⟩; have F2 := Lib.hid (FX.out.trans f2); have B2 := Lib.hid hbk; have O2 := Lib.hid how; have HG1 := Lib.hid hg1; have HG2 := Lib.hid hg2; clear hbk how f2 hg1 hg2)
    have hgw : w1.heap.size < g := by have := HG1.out; simp at this; omega
    have hrg : rb < g := by have := B1.out.lt; omega
    have hon : (othE es).length ≤ 1000 := by have h1 := oth_le es; have h2 := HPN.out; omega
    have hsz : ∀ n, (fldT es n).length ≤ 100000 := fun n => by have := fldT_len HPF.out.2 n; omega
    have h56 := fldT_56 HPF.out.2
    refine wp_region_reads 40 (by kernel_rfl) (by kernel_rfl) ?_
    intro w5 hd
    have hf5 : Fr No w w5 := (F1.out.trans F2.out).trans hd.fr
    have hb5 : Bk w5 g 62 ((decSh 0 t (fldT es) none 0 0 oA (othE es).length oc).cells ++ [.string (bstr t)]) := B2.out.no hd.fr
    have ho5 := OwnI.no tag_ok O2.out (Dr.fr (S := No) hd)
    have hfu : ∀ u, Fr (Just g) w5 u → Fr No w u := fun u hu => hf5.trans_just hu (by have := HS.out; omega)
    have HW := Lib.hid (dec_walk hb5 hsz h56 hon (fun u hu => HT.out.fr (hfu u hu)) 58)
    have HB5 := Lib.hid ((B1.out.no F2.out).no (Dr.fr (S := No) hd))
    have HO5 := Lib.hid ho5
    have HFU := Lib.hid hfu
    have HGL := Lib.hid hb5.lt
    have HG := Lib.hid hgw; have HRG := Lib.hid hrg
    have HAL := Lib.hid ((Fr.refl No w5).alloc (.cells (readV g).toArray 58))
    clear hd hf5 hb5 ho5 hfu hgw hrg hon hsz h56 HRD HG1 HG2 B1 B2 O2 F2 FX HPF HPN
    repeat still_step
    refine wpStill_nil ?_
    go_upto_region 6 with (go_at_call 16; refine (HW.out).mono ?_; rintro e w6 ⟨E2, rfl, hE2⟩; have HE2 := Lib.hid hE2; clear hE2)
    by_cases hE2 : E2 = 0
    · subst hE2
      have hR : DecR (w5.alloc (.cells (readV g).toArray 58)) g t (fldT es) oA (othE es).length oc 14 w6 := by
        rcases HE2.out with ⟨_, h⟩ | ⟨h, _⟩
        · exact h
        · exact absurd rfl h
      obtain ⟨hf6, hz, tA, tn, tc, htt, hbk6⟩ := hR
      obtain ⟨rfl, htr⟩ := htt.1 (by decide)
      have hde0 : DE = 0 := by rw [HDE2.out]; exact firstE_none _ (fun j hj => hz j hj)
      have hf56 : Fr (Just g) w5 w6 := HAL.out.no.trans hf6
      have hrg6 : w6.rangeAt g 0 (decC t es tA tc oA oc).cells := sheet_range hbk6
      have HRG6 := Lib.hid hrg6
      have B6 := Lib.hid (HB5.out.fr hf56 (fun e => by have h1 : rb = g := e; have := HRG.out; omega))
      have FW := Lib.hid (HFU.out w6 hf56)
      have TR := Lib.hid htr
      have OR := Lib.hid (OwnI.fr tag_ok HO5.out hf56 (fun i hi e => by have h1 : i = g := e; have h2 : rb < i ∧ i < w1.heap.size := hi; have h3 := HG.out; omega) (fun i hi e => by have h2 := HO5.out.lt i hi; have h1 : i = g := e; omega))
      have hsz6 : w5.heap.size ≤ w6.heap.size := hf56.size
      have HS6 := Lib.hid hsz6
      have hal := HAL.out.size
      have HALS := Lib.hid hal
      clear hal
      clear hf6 hz htt hbk6 hf56 hrg6 htr HE2 HW
      go_wp2_with (first
        | (refine wpList_load_mid rfl 38 _ rfl g 0 rfl (decC t es tA tc oA oc).cells _ HRG6.out (Tryz.underlying38) rfl (msgSizeF _) ?_)
        | (refine wpList_store_bk rfl 38 _ _ rfl rb rfl mz.cells (decC t es tA tc oA oc).cells rfl B6.out rfl (msgSizeF _) (msg_oneF _) ?_; intro w7 b7 f7 s7; have B7 := Lib.hid b7; have F7 := Lib.hid f7; clear b7 f7))
      refine bodyPost_ret (results_bk2 (t := 38) (g := rb) (cs := (decC t es tA tc oA oc).cells) (Tryz.results6) (by rfl) B7.out Tryz.underlying38 rfl (msgSizeF _)) rfl ?_
      have hrw : rb < w6.heap.size := B6.out.lt
      have hz7 : w7.heap.size = w6.heap.size := s7
      refine ⟨FW.out.trans_just F7.out (by rw [HS.out]; exact Nat.le_refl _), .inr ⟨hde0, tA, tc, oA, oc, rfl, ?_, ?_⟩⟩
      · exact (TR.out.fr tag_ok F7.out (fun i hi e => by have h1 : i = rb := e; have h2 := HS6.out; have h3 := HALS.out; have h4 := HB5.out.lt; omega)).mono tag_ok (fun i hi => by rw [hz7]; exact hi.2)
      · obtain ⟨A', c', e', hr'⟩ := OwnI.rd' OR.out (M := fun i => i < w6.heap.size ∧ i ≠ rb) (fun i hi => ⟨(OR.out.lt i hi).2, fun e => by have h2 := (OR.out.lt i hi).1; have h3 := HRG.out; omega⟩) tag_ok (fun i hi => ⟨by have h2 := hi.2; have h3 := HS6.out; have h4 := HG.out; have h5 := HGL.out; omega, fun e => by have h7 := hi.1; omega⟩)
        injection e' with e1 e2 e3
        subst e1 e3
        exact (hr'.fr tag_ok F7.out (fun i hi e => hi.2 e)).mono tag_ok (fun i hi => by rw [hz7]; exact hi.1)
    · have hQ : DecQ (w5.alloc (.cells (readV g).toArray 58)) g t (fldT es) (othE es).length E2 w6 := by
        rcases HE2.out with ⟨h, _⟩ | ⟨_, h⟩
        · exact absurd h hE2
        · exact h
      obtain ⟨hf6, hfe⟩ := hQ
      have hde0 : DE = E2 := by rw [HDE2.out]; exact hfe
      have hf56 : Fr (Just g) w5 w6 := HAL.out.no.trans hf6
      have B6 := Lib.hid (HB5.out.fr hf56 (fun e => by have h1 : rb = g := e; have := HRG.out; omega))
      have FW := Lib.hid (HFU.out w6 hf56)
      have hEb := st_ne0 hE2
      have HNE := Lib.hid hE2
      clear hf6 hfe hf56 HE2 HW hE2
      go_wp2_with (refine wpList_store_bk rfl 38 _ _ rfl rb rfl mz.cells mz.cells rfl B6.out rfl (msgSizeF _) (msg_oneF _) ?_; intro w7 b7 f7 s7; have B7 := Lib.hid b7; have F7 := Lib.hid f7; clear b7 f7)
      refine bodyPost_ret (results_bk2 (t := 38) (g := rb) (cs := mz.cells) (Tryz.results6) (by rfl) B7.out Tryz.underlying38 rfl (msgSizeF _)) rfl ?_
      refine ⟨FW.out.trans_just F7.out (by rw [HS.out]; exact Nat.le_refl _), .inl ⟨by rw [hde0]; exact HNE.out, by rw [hde0]; rfl⟩⟩
  · have hde := HDE.out
    rw [if_pos hE] at hde
    subst hde
    have hEb := st_ne0 hE
    have HNE := Lib.hid hE
    clear hE HDE
    have FX := Lib.hid ((Fr.refl No w1).alloc (.cells #[.string (bstr t), .slice vA es.length vc] 27))
    have B2 := Lib.hid (B1.out.no FX.out)
    go_wp2_with (refine wpList_store_bk rfl 38 _ _ rfl rb rfl mz.cells mz.cells rfl B2.out rfl (msgSizeF _) (msg_oneF _) ?_; intro w7 b7 f7 s7; have B7 := Lib.hid b7; have F7 := Lib.hid f7; clear b7 f7)
    refine bodyPost_ret (results_bk2 (t := 38) (g := rb) (cs := mz.cells) (Tryz.results6) (by rfl) B7.out Tryz.underlying38 rfl (msgSizeF _)) rfl ?_
    exact ⟨(F1.out.trans FX.out).trans_just F7.out (by rw [HS.out]; exact Nat.le_refl _), .inl ⟨HNE.out, rfl⟩⟩
end Go.Proofs.YthlgnmgjfgbffaaGreatDoor
/- Package fields: Head. -/
namespace Go.Proofs.YthlgnmgjfgbffaaGreatDoor
open Go.RowKit
set_option maxHeartbeats 2000000
set_option linter.unusedVariables false
set_option maxRecDepth 20000

/-- the head that fields say -/
def hedC (f : Int → List UInt8) : MsgC := { mz with stan := (numR (f 11) : Int), time := bstr (f 12), acq := bstr (f 32) }
def hedM (f : Int → List UInt8) : MsgC := if hedB f = true then hedC f else mz
/-- what Head answers -/
def HedTo (b : List UInt8) (w : World) (e : Ending) (w' : World) : Prop :=
  Fr No w w' ∧ e = .returned (.tuple #[(hedM (fldT (parI b).2.2)).val, .bool (hedB (fldT (parI b).2.2))])
theorem f_head_any (A : Option Addr) (c : Nat) (b : List UInt8) (w : World) (hr : Rd w A b.length c (u8s b)) (hT : Tabs w) :
    Calls Tryz.prog 9 #[.slice A b.length c] w (HedTo b w) := by
  have HP := Lib.hid (fun u (hu : Fr No w u) => iso_parse_any A c b u (hr.no hu) (hT.fr hu))
  have HPF := Lib.hid (pari_facts b)
  have HPN := Lib.hid (pari_len b)
  have HT := Lib.hid hT
  unfold HedTo
  generalize (parI b).1 = E at *
  generalize (parI b).2.1 = t at *
  generalize (parI b).2.2 = es at *
  generalize b.length = m at *
  clear hr hT
  go_enter Tryz.func9, Tryz.ntmps9
  have HF0 := Lib.hid ((Fr.refl No w).alloc (.cells mz.cells.toArray 38))
  have HB0 := Lib.hid (Bk.new w 38 mz.cells.toArray)
  go_upto_region 2 with (go_at_call 14; refine (HP.out _ HF0.out).mono ?_; rintro e w1 ⟨va, rfl, ho, hf⟩; obtain ⟨vA, vc, rfl, hrd⟩ := OwnI.rd' ho (M := fun i => i < w1.heap.size) (fun i hi => (ho.lt i hi).2) tag_ok (fun i hi => hi.2.1); have R1 := Lib.hid hrd; have F1 := Lib.hid (HF0.out.trans hf); have B1 := Lib.hid (HB0.out.no hf); clear ho hf hrd)
  obtain ⟨rb, hrb⟩ : ∃ rb, w.heap.size = rb := ⟨_, rfl⟩
  rw [hrb] at B1 ⊢
  have HS := Lib.hid hrb
  clear HB0 HF0 HP hrb
  have FX := Lib.hid ((Fr.refl No w1).alloc (.cells #[.string (bstr t), .slice vA es.length vc] 27))
  have HRD := Lib.hid (f_read (mt := t) (R1.out.no tag_ok FX.out) (fun i hi => Nat.lt_of_lt_of_le hi FX.out.size) HPF.out.1 (by have := HPN.out; omega) ((HT.out.fr F1.out).fr FX.out))
  go_upto_region 3 with (go_at_call 15; refine (HRD.out).mono ?_; rintro e w2 ⟨g, rfl, hg1, hg2, ⟨oA, oc, hbk, how⟩, f2⟩; have F2 := Lib.hid (FX.out.trans f2); have B2 := Lib.hid hbk; have HG1 := Lib.hid hg1; clear hbk how f2 hg1 hg2)
  have hgw : w1.heap.size < g := by have := HG1.out; simp at this; omega
  have hrg : rb < g := by have := B1.out.lt; omega
  have hsz : ∀ n, (fldT es n).length ≤ 100000 := fun n => by have := fldT_len HPF.out.2 n; omega
  have hf2 : Fr No w w2 := F1.out.trans F2.out
  have HW := Lib.hid (hed_walk (w := w2) (t := t) (f := fldT es) (oA := oA) (on := (othE es).length) (oc := oc) B2.out hsz 58)
  have HFU := Lib.hid (fun u (hu : Fr (Just g) w2 u) => hf2.trans_just hu (by have := HS.out; omega))
  have HB2 := Lib.hid (B1.out.no F2.out)
  have HRG := Lib.hid hrg
  have HAL := Lib.hid ((Fr.refl No w2).alloc (.cells (headV g).toArray 58))
  clear hgw hrg hsz hf2 HRD HG1 B1 B2 F2 FX HPF HPN
  go_upto_region 4 with (go_at_call 16; refine (HW.out).mono ?_; rintro e w6 ⟨E2, rfl, hE2⟩; have HE2 := Lib.hid hE2; clear hE2)
  by_cases hE2 : E2 = 0
  · subst hE2
    have hR : HedR (w2.alloc (.cells (headV g).toArray 58)) g t (fldT es) oA (othE es).length oc 2 w6 := by
      rcases HE2.out with ⟨_, h⟩ | ⟨h, _⟩
      · exact h
      · exact absurd rfl h
    obtain ⟨hf6, hbk6, -, hok⟩ := hR
    have hB := hok (Nat.le_refl 2)
    have hf56 : Fr (Just g) w2 w6 := HAL.out.no.trans hf6
    have B6 := Lib.hid (HB2.out.fr hf56 (fun e => by have h1 : rb = g := e; have := HRG.out; omega))
    have FW := Lib.hid (HFU.out w6 hf56)
    have G6 := Lib.hid hbk6
    have HB := Lib.hid hB
    clear hf6 hbk6 hok hB hf56 HE2 HW
    have c1 : w6.cell? ⟨g, 1, none⟩ = some (.int .i64 (numR (fldT es 11) : Int)) := (G6.out.cell 1).trans rfl
    have c2 : w6.cell? ⟨g, 2, none⟩ = some (.string (bstr (fldT es 12))) := (G6.out.cell 2).trans rfl
    have c3 : w6.cell? ⟨g, 3, none⟩ = some (.string (bstr (fldT es 32))) := (G6.out.cell 3).trans rfl
    go_upto_region 6 with fail
    refine wp_region_reads 19 (by kernel_rfl) (by kernel_rfl) ?_
    intro w8 hd
    have d1 := (Dr.fr (S := No) hd).cell c1 (fun x => x)
    have d2 := (Dr.fr (S := No) hd).cell c2 (fun x => x)
    have d3 := (Dr.fr (S := No) hd).cell c3 (fun x => x)
    have B8 := Lib.hid (B6.out.no (Dr.fr (S := No) hd))
    have F8 := Lib.hid (FW.out.dr hd)
    clear hd c1 c2 c3
    repeat still_step
    refine wpStill_nil ?_
    simp only [List.drop_succ_cons, List.drop_zero]
    go_wp2_with (refine wpList_store_bk rfl 38 _ _ rfl rb rfl mz.cells (hedC (fldT es)).cells (by rfl) B8.out rfl (msgSizeF _) (msg_oneF _) ?_; intro w7 b7 f7 s7; have B7 := Lib.hid b7; have F7 := Lib.hid f7; clear b7 f7)
    refine bodyPost_ret (results_bk2 (t := 38) (g := rb) (cs := (hedC (fldT es)).cells) (Tryz.results9) (by rfl) B7.out Tryz.underlying38 rfl (msgSizeF _)) rfl ?_
    have hM : hedM (fldT es) = hedC (fldT es) := by unfold hedM; rw [HB.out, if_pos rfl]
    rw [HB.out, hM]
    exact ⟨F8.out.trans_just F7.out (by rw [HS.out]; exact Nat.le_refl _), rfl⟩
  · have hQ : HedQ (w2.alloc (.cells (headV g).toArray 58)) g (fldT es) E2 w6 := by
      rcases HE2.out with ⟨h, _⟩ | ⟨_, h⟩
      · exact absurd h hE2
      · exact h
    obtain ⟨hf6, hB⟩ := hQ
    have hf56 : Fr (Just g) w2 w6 := HAL.out.no.trans hf6
    have B6 := Lib.hid (HB2.out.fr hf56 (fun e => by have h1 : rb = g := e; have := HRG.out; omega))
    have FW := Lib.hid (HFU.out w6 hf56)
    have hEb := st_ne0 hE2
    have HB := Lib.hid hB
    clear hf6 hB hf56 HE2 HW hE2
    go_wp2_with (refine wpList_store_bk rfl 38 _ _ rfl rb rfl mz.cells mz.cells rfl B6.out rfl (msgSizeF _) (msg_oneF _) ?_; intro w7 b7 f7 s7; have B7 := Lib.hid b7; have F7 := Lib.hid f7; clear b7 f7)
    refine bodyPost_ret (results_bk2 (t := 38) (g := rb) (cs := mz.cells) (Tryz.results9) (by rfl) B7.out Tryz.underlying38 rfl (msgSizeF _)) rfl ?_
    have hM : hedM (fldT es) = mz := by unfold hedM; rw [HB.out, if_neg (by decide)]
    rw [HB.out, hM]
    exact ⟨FW.out.trans_just F7.out (by rw [HS.out]; exact Nat.le_refl _), rfl⟩
end Go.Proofs.YthlgnmgjfgbffaaGreatDoor
