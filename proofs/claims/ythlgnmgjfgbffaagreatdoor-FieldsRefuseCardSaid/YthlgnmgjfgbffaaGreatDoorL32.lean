/- The texts EleWrite, IsoW1, IsoW2, IsoW3, joined. -/
import Derived.Test.YthlgnmgjfgbffaaGreatDoorL28
import Derived.Test.YthlgnmgjfgbffaaGreatDoorL31
import Derived.Test.YthlgnmgjfgbffaaGreatDoorL01
import Derived.Test.YthlgnmgjfgbffaaGreatDoorL21
import Derived.Test.YthlgnmgjfgbffaaGreatDoorL25
import Derived.Deep.RegionLaw
import Derived.Test.YthlgnmgjfgbffaaGreatDoorL41
import Derived.Test.YthlgnmgjfgbffaaGreatDoorL08
import Derived.Test.YthlgnmgjfgbffaaGreatDoorL14
/- Package element: Check and Write. -/
namespace Go.Proofs.YthlgnmgjfgbffaaGreatDoor
open Go.RowKit
set_option maxHeartbeats 400000
set_option linter.unusedVariables false
set_option maxRecDepth 20000

theorem part_size (a b c d e f g : Value) : (Tryz.prog.info? 221).map (·.size) = some [a, b, c, d, e, f, g].length := by kernel_rfl
theorem part_of (no : Int) (A : Option Addr) (m c : Nat) (w : World) :
    Calls Tryz.prog 234 #[.agg #[.int .i64 no, .slice A m c]] w fun e w' => e = .returned (.agg #[.int .i64 no, .slice A m c, .int .i64 0, .int .i64 0, .int .i64 0, .int .i64 0, .int .i64 (m : Int)]) ∧ Fr No w w' := by
  go_enter Tryz.func234, Tryz.ntmps234
  go_wp2
  refine bodyPost_ret (results_bk (t := 221) (g := w.heap.size + 1) (cs := [.int .i64 no, .slice A m c, .int .i64 0, .int .i64 0, .int .i64 0, .int .i64 0, .int .i64 (m : Int)]) (Tryz.results234) (by rfl) (by
    have h := Bk.new (w.alloc (.cells #[.int .i64 no, .slice A m c] 24)) 221 #[.int .i64 no, .slice A m c, .int .i64 0, .int .i64 0, .int .i64 0, .int .i64 0, .int .i64 (m : Int)]
    simpa using h) Tryz.underlying221 rfl (part_size _ _ _ _ _ _ _)) rfl ?_
  exact ⟨rfl, ((Fr.refl No w).alloc _).alloc _⟩
set_option maxRecDepth 20000 in
/-- the length's digits -/
theorem pt_ahead {w : World} {g : Nat} {t : TypeId} {tl : List Value} {no : Int} {D : Value} {r : FRow} {n : Nat} (h : Pt w g t tl no D r (n : Int)) (hn : n < 9223372036854775808) (hT : Tab w) :
    Calls Tryz.prog 236 #[.pointer (some ⟨g, 0, none⟩)] w fun e w' => ∃ v, e = .returned v ∧ OwnM w' w.heap.size v (headEl r n) ∧ Fr No w w' := by
  obtain ⟨-, -, -, -, c4, -, c6, -⟩ := h.cells
  have ht := fun u (hu : Fr No w u) => text_any n (r.dig : Int) u (by omega) (tab_no hT hu)
  have hw : IntKind.u64.wrap (n : Int) = (n : Int) := IntWalk.u64_in _ ⟨by omega, by omega⟩
  have he : textR n (r.dig : Int) = headEl r n := rfl
  rw [he] at ht
  have hz : (headEl r n).length ≤ 140737488355328 := by
    unfold headEl
    rcases text_cases n (r.dig : Int) with ⟨_, _, h1⟩ | ⟨_, _, h1⟩ | ⟨_, _, _, _, h1⟩ | ⟨m, h1, h2, h3, _, h5⟩
    · rw [h1]; simp
    · rw [h1]; simp
    · rw [h1]; simp
    · rw [h5, wide_length]; omega
  generalize textE n (r.dig : Int) = E at *
  generalize headEl r n = L at *
  generalize (r.dig : Int) = DD at *
  have HT := Lib.hid ht; have HZ := Lib.hid hz
  clear h ht he hz hT hn
  go_enter Tryz.func236, Tryz.ntmps236
  go_wp2
  have g4 := cell_regrown c4
  have g6 := cell_regrown c6
  refine wp_region_quiet_below (by kernel_rfl) (by kernel_rfl) ?_
  repeat (first
    | quiet_step ((first
      | (go_at_call 110; exact Calls.regrown_of (below_of (HT.out _ (fr_regrown _ _ _)))))))
  refine wpQuiet_nil ?_
  intro w9 hw9r
  obtain ⟨⟨nr, osr⟩, hw9r⟩ := hw9r
  have F9 := Lib.hid (show Fr No w w9 by rw [hw9r]; exact fr_regrown w nr osr)
  clear hw9r g4 g6
  obtain ⟨cc, w10, hcv, ho, f10, hz10⟩ := conv_own (P := Tryz.prog) w9 9 22 5 L Tryz.underlying9 Tryz.underlying22 Tryz.underlying5 (by simp only [maxLen]; have := HZ.out; omega)
  have HO := Lib.hid ho; have F10 := Lib.hid f10
  clear ho f10
  go_wp2
  go_ret
  exact ⟨_, rfl, ownM_low HO.out F9.out.size, F9.out.trans F10.out⟩
/-- what Write answers -/
def WrtTo (l : List UInt8) (E : Int) (w : World) (e : Ending) (w' : World) : Prop := ∃ v, e = .returned (.tuple #[v, .int .i64 E]) ∧ OwnM w' w.heap.size v l ∧ Fr No w w'
theorem wrt_no {no : Int} {d : List UInt8} (h : chkEl no d ≠ 0) (w : World) {w' : World} (hf : Fr No w w') : WrtTo (wrtEl no d) (chkEl no d) w (.returned (.tuple #[.slice none 0 0, .int .i64 (chkEl no d)])) w' := by
  have : wrtEl no d = [] := by unfold wrtEl; rw [if_neg h]
  rw [this]
  exact ⟨_, rfl, ⟨rfl, .inl ⟨rfl, rfl⟩⟩, hf⟩
theorem head_small {no : Int} {d : List UInt8} (h : chkEl no d = 0) : (headEl (elGet no) d.length).length ≤ 4 ∧ d.length ≤ 999 ∧ wrtEl no d = headEl (elGet no) d.length ++ d := by
  obtain ⟨r, hr, hm, hc, hw, hl, h0⟩ := wrt_ok h
  have h1 := (chkR_ok hc).1
  rw [elGet_some hr]
  have := head_len hm h1
  have := el_row hm
  have := fit_bounds hm h1
  exact ⟨by omega, by omega, hw⟩
theorem el_write_any (no : Int) (A : Option Addr) (c : Nat) (d : List UInt8) (w : World) (hr : Rd w A d.length c (u8s d)) (hd : d.length ≤ 9223372036854775807) (hT : Tabs w := by repeat' first | with_reducible assumption | with_reducible apply Tabs.drew | with_reducible apply Tabs.drewN | with_reducible apply Tabs.alloc | refine Tabs.fr ?_ (by with_reducible assumption)) :
    Calls Tryz.prog 207 #[.agg #[.int .i64 no, .slice A d.length c]] w (WrtTo (wrtEl no d) (chkEl no d) w) := by
  have HP := Lib.hid (fun u => part_of no A d.length c u)
  have HC := Lib.hid (fun (w1 : World) (hf : Fr No w w1) => by
    have hf2 : Fr No w (w1.alloc (.cells #[.int .i64 no, .slice A d.length c, .int .i64 0, .int .i64 0, .int .i64 0, .int .i64 0, .int .i64 (d.length : Int)] 221)) := hf.alloc _
    exact pt_check (g := w1.heap.size) (tl := []) (r := elNone) (Bk.new w1 221 #[.int .i64 no, .slice A d.length c, .int .i64 0, .int .i64 0, .int .i64 0, .int .i64 0, .int .i64 (d.length : Int)]) (hr.no hf2) (fun h0 ad e x => by have := (hr.lt h0) ad e; have := hf.size; omega) hd (fun u hu => hT.fr (hf2.trans_just hu hf.size)))
  have HTEN := Lib.hid (fun u (hf : Fr No w u) => (hT.fr hf).ten)
  have HRD := Lib.hid hr
  clear hr hT
  by_cases hE : chkEl no d = 0
  · have HE := Lib.hid hE
    have HS := Lib.hid (head_small hE)
    rw [hE] at HC ⊢
    obtain ⟨m, hm⟩ : ∃ m, d.length = m := ⟨_, rfl⟩
    have HDL := Lib.hid hm
    rw [hm] at HP HC HRD hd ⊢
    clear hm hE
    go_enter Tryz.func207, Tryz.ntmps207
    go_wp2_with (first
      | (go_at_call 234; refine (HP.out _).mono ?_; rintro e w1 ⟨rfl, f1⟩; have F1 := Lib.hid (((Fr.refl No w).alloc (.cells #[.int .i64 no, .slice A m c] 24)).trans f1); clear f1)
      | (go_at_call 235; (refine (HC.out _ F1.out).mono ?_; rintro e w2 ⟨rfl, f2, hp2⟩; have F2 := Lib.hid ((F1.out.alloc (.cells #[.int .i64 no, .slice A m c, .int .i64 0, .int .i64 0, .int .i64 0, .int .i64 0, .int .i64 (m : Int)] 221)).trans_just f2 F1.out.size); have P2 := Lib.hid (hp2 trivial); clear f2 hp2)))
    have c1 := P2.out.cells.2.1
    have HA := Lib.hid (fun u (hu : Fr No w2 u) => pt_ahead (P2.out.still hu) (by have := HS.out.2.1; have := HDL.out; omega) (HTEN.out u (F2.out.trans hu)))
    obtain ⟨L, hL⟩ : ∃ L, headEl (elGet no) m = L := ⟨_, rfl⟩
    rw [hL] at HA
    have HL := Lib.hid hL
    have hs := HS.out
    rw [HDL.out, hL] at hs
    have HS2 := Lib.hid hs
    clear hL hs HS HC HP
    go_region_law (first
      | (go_simp; go_at_call 236; refine (HA.out _ (Fr.refl No w2).drew).mono ?_; rintro e w3 ⟨v, rfl, ho3, f3⟩; have HO3 := Lib.hid ho3; have F23 := Lib.hid (((Fr.refl No w2).drew).trans f3); have c13 := F23.out.cell c1 (fun x => x); obtain ⟨V, vc, rfl, -⟩ := ownM_rd ho3; clear ho3 f3)
      | (refine stepM rfl (.tmp 12) (.tmp 15) rfl w2.drew.heap.size _ L (by rfl) HO3.out A m c d (by rfl) (HRD.out.no (F2.out.trans F23.out)) (by have := HS2.out; omega) F23.out.size ?_; intro v4 w4 o4 g4 q4; have F4 := Lib.hid (F23.out.grown g4 (fun g e => .inr (ownM_lt HO3.out g e).1)); have O4 := Lib.hid o4; clear o4 g4 q4))
    all_goals
      go_wp2_with fail
      go_ret2
      exact ⟨_, rfl, by rw [HS2.out.2.2]; exact ownM_low O4.out F2.out.size, F2.out.trans F4.out⟩
  · have hEb : (chkEl no d != 0) = true := by rw [bne_iff_ne]; exact hE
    have HW := Lib.hid (fun w' (hf : Fr No w w') => wrt_no hE w hf)
    obtain ⟨E, hEE⟩ : ∃ E, chkEl no d = E := ⟨_, rfl⟩
    rw [hEE] at HC HW hEb ⊢
    generalize wrtEl no d = WL at *
    generalize d.length = m at *
    clear hE hEE
    go_enter Tryz.func207, Tryz.ntmps207
    go_wp2_with (first
      | (go_at_call 234; refine (HP.out _).mono ?_; rintro e w1 ⟨rfl, f1⟩; have F1 := Lib.hid (((Fr.refl No w).alloc (.cells #[.int .i64 no, .slice A m c] 24)).trans f1); clear f1)
      | (go_at_call 235; refine (HC.out _ F1.out).mono ?_; rintro e w2 ⟨rfl, f2, -⟩; have F2 := Lib.hid ((F1.out.alloc (.cells #[.int .i64 no, .slice A m c, .int .i64 0, .int .i64 0, .int .i64 0, .int .i64 0, .int .i64 (m : Int)] 221)).trans_just f2 F1.out.size); clear f2))
    go_ret2
    exact HW.out _ F2.out
end Go.Proofs.YthlgnmgjfgbffaaGreatDoor
/- Package iso: the writer's steps. -/
namespace Go.Proofs.YthlgnmgjfgbffaaGreatDoor
open Go.RowKit
set_option maxHeartbeats 1000000
set_option linter.unusedVariables false
set_option maxRecDepth 20000

/-- a writer at block g: the message type, the elements, what is written -/
abbrev WsI (w : World) (g : Nat) (mt : ByteArray) (va vo : Value) : Prop := Bk w g 160 [.string mt, va, vo]
theorem WsI.cells' {w : World} {g : Nat} {mt : ByteArray} {va vo : Value} (h : WsI w g mt va vo) : w.cell? ⟨g, 0, none⟩ = some (.string mt) ∧ w.cell? ⟨g, 1, none⟩ = some va ∧ w.cell? ⟨g, 2, none⟩ = some vo ∧ (∀ i, w.frozen? ⟨g, i, none⟩ = false) := ⟨Bk.cell h 0, Bk.cell h 1, Bk.cell h 2, Bk.frozen h⟩
def PutTo (w : World) (g : Nat) (mt : ByteArray) (va vo : Value) (base : Nat) (l : List UInt8) (E : Int) (e : Ending) (w' : World) : Prop :=
  e = .returned (.int .i64 E) ∧ Fr (fun i => i = g ∨ vo.ownBlock = some i) w w' ∧ ∃ vo', WsI w' g mt va vo' ∧ OwnM w' base vo' l ∧ (vo'.ownBlock = vo.ownBlock ∨ ∃ i, vo'.ownBlock = some i ∧ w.heap.size ≤ i)
theorem iso_put {w : World} {g : Nat} {mt : ByteArray} {va vo : Value} {base : Nat} {l : List UInt8} {A : Option Addr} {m c : Nat} {k : List UInt8} {E : Int} (h : WsI w g mt va vo) (ho : OwnM w base vo l) (hg : g < base) (hb : base ≤ w.heap.size) (hr : Rd w A m c (u8s k)) (hz : l.length + m ≤ 140737488355328) :
    Calls Tryz.prog 160 #[.pointer (some ⟨g, 0, none⟩), .slice A m c, .int .i64 E] w (PutTo w g mt va vo base (l ++ k) E) := by
  obtain ⟨vA, vc, rfl, -, -⟩ := ownM_rd ho
  obtain ⟨-, -, c2, cf⟩ := WsI.cells' h
  have z2 := cf 2
  have H := Lib.hid h; have HO := Lib.hid ho; have HG := Lib.hid hg; have HB := Lib.hid hb; have HR := Lib.hid hr; have HZ := Lib.hid hz
  have HLT := Lib.hid (ownM_lt ho)
  obtain ⟨x, hx⟩ : ∃ x, l ++ k = x := ⟨_, rfl⟩
  have HX := Lib.hid hx
  rw [hx]
  clear h ho hg hb hr hz cf hx
  go_enter Tryz.func160, Tryz.ntmps160
  go_wp2_with (at_builtin; go_must (refine apM w rfl (.tmp 11) (.tmp 12) rfl base (.slice vA l.length vc) l rfl HO.out A m c k rfl HR.out HZ.out HB.out ?_); intro v2 w2 o2 g2 q2; rw [HX.out] at o2; obtain ⟨vA2, vc2, rfl, -, -⟩ := ownM_rd o2; have O2 := Lib.hid o2; have F2 := Lib.hid ((Fr.refl (fun i => (Value.slice vA l.length vc).ownBlock = some i) w).grown g2 (fun i e => .inl e)); have W2 := Lib.hid (Bk.fr H.out F2.out (fun e => by have := (HLT.out _ e).1; have := HG.out; omega)); have Q2 := Lib.hid q2; have d2 := (WsI.cells' W2.out).2.2.1; have y2 := (WsI.cells' W2.out).2.2.2 2; clear o2 g2 q2)
  go_ret
  have hs : Fr (Just g) w2 (w2.setCell ⟨g, 2, none⟩ (.slice vA2 x.length vc2)) := (Fr.refl (Just g) w2).setCell (.inl (Just.at g)) _
  refine ⟨rfl, (F2.out.mono (fun i e => .inr e)).trans (hs.mono (fun i e => .inl e)), _, W2.out.set_ 2 _, ownM_fr O2.out hs (fun i e x => ?_), ?_⟩
  · have := (ownM_lt O2.out i e).1
    have := HG.out
    have : i = g := x
    omega
  · rcases Q2.out with q | q
    · exact .inl q
    · exact .inr ⟨_, q, Nat.le_refl _⟩
/-- what a step of the writer may turn, seen from a base -/
theorem PutTo.far {w w' : World} {g : Nat} {mt : ByteArray} {va vo : Value} {base : Nat} {l : List UInt8} {E : Int} {e : Ending} (h : PutTo w g mt va vo base l E e w') {w0 : World} (hf : Fr (Just g) w0 w) (hv : ∀ i, vo.ownBlock = some i → w0.heap.size ≤ i) : Fr (Just g) w0 w' :=
  hf.trans_new h.2.1 (fun i hi => by rcases hi with hi | hi; exact .inl hi; exact .inr (hv i hi))
theorem PutTo.ahead {w w1 w' : World} {g : Nat} {mt : ByteArray} {va vo : Value} {base : Nat} {l : List UInt8} {E : Int} {e : Ending} (h : PutTo w1 g mt va vo base l E e w') (hf : Fr No w w1) : PutTo w g mt va vo base l E e w' := by
  obtain ⟨h1, h2, vo', h3, h4, h5⟩ := h
  refine ⟨h1, (hf.no).trans h2, vo', h3, h4, ?_⟩
  rcases h5 with h5 | ⟨i, h5, h6⟩
  · exact .inl h5
  · exact .inr ⟨i, h5, Nat.le_trans hf.size h6⟩
theorem iso_wbegin {w : World} {g : Nat} {t : List UInt8} {va : Value} {base : Nat} (h : WsI w g (bstr t) va (.slice none 0 0)) (hg : g < base) (hb : base ≤ w.heap.size) (hz : t.length ≤ 100000) :
    Calls Tryz.prog 113 #[.pointer (some ⟨g, 0, none⟩)] w (PutTo w g (bstr t) va (.slice none 0 0) base t 0) := by
  have c0 := (WsI.cells' h).1
  have HP := Lib.hid (fun (u : World) (A : Option Addr) (c : Nat) (hf : Fr No w u) (hr : Rd u A t.length c (u8s t)) => by
    have hh := iso_put (w := u) (g := g) (mt := bstr t) (va := va) (vo := .slice none 0 0) (base := base) (l := []) (A := A) (m := t.length) (c := c) (k := t) (E := 0) (Bk.no h hf) ⟨rfl, .inl ⟨rfl, rfl⟩⟩ hg (Nat.le_trans hb hf.size) hr (by simp; omega)
    rw [List.nil_append] at hh
    exact hh)
  have HZ := Lib.hid hz
  clear h hg hb hz
  go_enter Tryz.func113, Tryz.ntmps113
  go_wp2_with (first
    | (refine convM w rfl (.tmp 8) rfl t rfl (by have := HZ.out; omega) ?_; intro cc w1 o1 f1 z1; obtain ⟨V1, c1, e1, hr1, -⟩ := ownM_rd o1; injection e1 with e11 _ e12; subst e11 e12; have HR1 := Lib.hid hr1; have F1 := Lib.hid f1; clear o1 hr1 f1 z1)
    | (go_at_call 160; refine (HP.out _ _ _ F1.out HR1.out).mono ?_; intro e w2 p2; have P2 := Lib.hid (PutTo.ahead p2 F1.out); obtain rfl := p2.1; clear p2))
  go_ret
  exact P2.out
/-! ### the numbers -/
theorem nos_len (es : List El) : (nosOf es).length = es.length := by simp [nosOf]
theorem nos_take {es : List El} {k : Nat} {a : El} (h : es[k]? = some a) : nosOf (es.take (k + 1)) = nosOf (es.take k) ++ [a.1] := by
  have hk := (List.getElem?_eq_some_iff.1 h).1
  have he := (List.getElem?_eq_some_iff.1 h).2
  rw [List.take_succ_eq_append_getElem hk, he]
  simp [nosOf]
theorem wmR_len (l : List Int) : (wmR l).length ≤ 16 := by
  unfold wmR
  cases h : risesB l with
  | true => rw [if_pos rfl]; rcases mapOf_len h with h | h <;> omega
  | false => rw [if_neg (by simp)]; exact Nat.zero_le _
def NosRel (w : World) (n : Nat) (es : List El) (vl iv : Value) (wr : World) : Prop := ∃ k : Nat, k ≤ n ∧ iv = .int .i64 (k : Int) ∧ Fr No w wr ∧ wr.ownsRow w.heap.size 3 1 vl k (ints (nosOf (es.take k)))
theorem iso_wnumbers {w : World} {g : Nat} {mt : ByteArray} {A : Option Addr} {n c : Nat} {es : List El} {N : Nat → Prop} {vo : Value} {base : Nat} {l : List UInt8} (h : WsI w g mt (.slice A n c) vo) (he : RdI 2 TagI w N A n c es) (hn : n ≤ 1000) (ho : OwnM w base vo l) (hg : g < base) (hb : base ≤ w.heap.size) (hz : l.length ≤ 100000) :
    Calls Tryz.prog 114 #[.pointer (some ⟨g, 0, none⟩)] w (PutTo w g mt (.slice A n c) vo base (l ++ wmR (nosOf es)) (wmE (nosOf es))) := by
  have c1 := (WsI.cells' h).2.1
  have hlen := he.len tag_ok (by omega)
  have HW := Lib.hid (fun (u : World) (V : Option Addr) (vc : Nat) (hr : Rd u V n vc (ints (nosOf es))) => bm_write_any V n vc (nosOf es) u hr (by omega))
  have HP := Lib.hid (fun (u : World) (B : Option Addr) (d : Nat) (hf : Fr No w u) (hr : Rd u B (wmR (nosOf es)).length d (u8s (wmR (nosOf es)))) =>
    iso_put (E := wmE (nosOf es)) (Bk.no h hf) (ownM_fr ho hf (fun _ _ x => x)) hg (Nat.le_trans hb hf.size) hr (by have := wmR_len (nosOf es); omega))
  have HE := Lib.hid he; have HL := Lib.hid hlen
  clear h hlen he ho hg hb hz
  go_enter Tryz.func114, Tryz.ntmps114
  go_wp2
  go_loopw [3, 12] (fun vl iv wr => NosRel w n es vl iv wr) (fun _ v _ => n - (intOf v).toNat)
  case atStart => exact ⟨0, by omega, rfl, Fr.refl _ _, World.ownsRow_nil _ _ _ _⟩
  case round =>
    obtain ⟨k, hk, rfl, hf, hown⟩ := hrel
    obtain ⟨LA, lc, rfl, hrl, -⟩ := Rd.of_own hown
    rcases Nat.lt_or_ge k n with hkn | hge
    · obtain ⟨ad, cs, a, rfl, ⟨B, m, dc, rfl, -, -, -, -⟩, hak, hc0, hc1⟩ := two_cells tag_ok (HE.out.no tag_ok hf) hkn
      have c0 := hc0 _ rfl
      have c11 := hc1 _ rfl
      obtain ⟨P, hP⟩ : ∃ P, ad.add (k * 2) = P := ⟨_, rfl⟩
      rw [hP] at c0 c11
      have hkI : (k : Int) < (n : Int) := by omega
      have hnt := nos_take hak
      obtain ⟨q, d⟩ := a
      dsimp only at c0 hnt
      have HF := Lib.hid hf; have HO := Lib.hid hown; have HNT := Lib.hid hnt; have HKN := Lib.hid hkn
      clear hf hown hnt hak hc0 hc1 hrl hkn
      go_wp2_with (at_builtin; go_must (refine apI_one (wr.alloc (.cells #[.int .i64 q, .slice B m dc] 24)) rfl (.tmp 16) (.tmp 19) rfl w.heap.size (.slice LA k lc) k (nosOf (es.take k)) rfl (HO.out.alloc _) q 3 (by simp; rfl) (by omega) (by have := HF.out.size; simp; omega) ?_); intro v2 w2 o2 g2 q2; rw [← HNT.out] at o2; obtain ⟨LA2, lc2, rfl, -, -⟩ := Rd.of_own o2; have O2 := Lib.hid o2; have G2 := Lib.hid g2; clear o2 g2 q2)
      go_roundw
      case rel =>
        refine ⟨k + 1, by have := HKN.out; omega, by go_num, HF.out.trans_new (((Fr.refl (fun i => (Value.slice LA k lc).ownBlock = some i) wr).alloc _).alloc _ |>.grown G2.out (fun i e => .inl e)) (fun i e => .inr (HO.out.lt i e).1), O2.out⟩
      case measure => simp [intOf]; have := HKN.out; omega
    · obtain rfl : k = n := by omega
      rw [List.take_of_length_le (by rw [HL.out]; exact Nat.le_refl _)] at hrl
      have HRL := Lib.hid hrl; have HF := Lib.hid hf
      clear hown hrl hf
      go_wp2_with (first
        | (go_at_call 161; refine (HW.out _ _ _ HRL.out).mono ?_; rintro e w2 ⟨v, rfl, o2, f2⟩; obtain ⟨V2, d2, rfl, hr2, -⟩ := Rd.of_own o2; have R2 := Lib.hid hr2; have F2 := Lib.hid (HF.out.trans f2); clear o2 hr2 f2)
        | (go_at_call 160; refine (HP.out _ _ _ F2.out R2.out).mono ?_; intro e w3 p3; have P3 := Lib.hid (PutTo.ahead p3 F2.out); obtain rfl := p3.1; clear p3))
      go_ret
      exact P3.out
end Go.Proofs.YthlgnmgjfgbffaaGreatDoor
/- Package iso: the writer: the elements; Pack. -/
namespace Go.Proofs.YthlgnmgjfgbffaaGreatDoor
open Go.RowKit
set_option maxHeartbeats 1000000
set_option linter.unusedVariables false
set_option maxRecDepth 20000

/-- one call for each element -/
theorem each_elm (A : Option Addr) (n c : Nat) (es : List El) (N : Nat → Prop) (w : World) (F : FuncId) (x : Value) (R : Nat → World → Prop) (Q : Int → World → Prop) (h0 : R 0 w) (hR : ∀ k u, R k u → RdI 2 TagI u N A n c es) (hal : ∀ k u o, R k u → R k (u.alloc o)) (htop : n ≤ 9223372036854775807)
    (hen : ∀ args w, (callFunc F args).run Tryz.prog w = .ok (.enter F args) w)
    (hs : ∀ k a, es[k]? = some a → ∀ u D dl dc, R k u → Rd u D dl dc (u8s a.2) → (∀ ad, D = some ad → 0 < dl → N ad.block) → Calls Tryz.prog F #[x, .agg #[.int .i64 a.1, .slice D dl dc]] u (SWTo (R (k + 1)) Q)) :
    Calls Tryz.prog 162 #[.slice A n c, .func (.func F) #[x] #[]] w (SWTo (R n) Q) := by
  have HR := Lib.hid hR; have HS := Lib.hid hs; have H0 := Lib.hid h0; have HA := Lib.hid hal
  clear hR hs h0 hal
  go_enter Tryz.func162, Tryz.ntmps162
  go_wp2
  go_loopw [10] (fun v wr => ∃ k : Nat, k ≤ n ∧ v = .int .i64 (k : Int) ∧ R k wr) (fun v _ => n - (intOf v).toNat)
  case atStart => exact ⟨0, by omega, rfl, H0.out⟩
  case round =>
    obtain ⟨k, hk, rfl, hr⟩ := hrel
    have HRK := Lib.hid hr
    clear hr
    rcases Nat.lt_or_ge k n with hkn | hge
    · obtain ⟨ad, cs, a, rfl, ⟨D, dl, dc, rfl, hd1, hd2, -, -⟩, hak, hc0, hc1⟩ := two_cells tag_ok (HR.out k wr HRK.out) hkn
      have c0 := hc0 _ rfl
      have c11 := hc1 _ rfl
      obtain ⟨P, hP⟩ : ∃ P, ad.add (k * 2) = P := ⟨_, rfl⟩
      rw [hP] at c0 c11
      have hkI : (k : Int) < (n : Int) := by omega
      obtain ⟨q, hq⟩ : ∃ q, a.1 = q := ⟨_, rfl⟩
      have HC := Lib.hid (HS.out k a hak (wr.alloc (.cells #[.int .i64 a.1, .slice D dl dc] 24)) D dl dc (HA.out _ _ _ HRK.out) (hd1.no ((Fr.refl No wr).alloc _)) hd2)
      rw [hq] at c0 HC
      clear hd1 hd2 hak hc0 hc1 hq
      go_upto_region 5 with ((with_reducible refine (HC.out).mono ?_); rintro e w1 ⟨E, rfl, hE⟩; have HE := Lib.hid hE; clear hE)
      by_cases hE : E = 0
      · subst hE
        have hr2 : R (k + 1) w1 := by
          rcases HE.out with ⟨_, h⟩ | ⟨h, _⟩
          · exact h
          · exact absurd rfl h
        have HR2 := Lib.hid hr2
        clear hr2 c0 c11
        go_wp2_with fail
        go_roundw
        case rel => exact ⟨k + 1, by omega, by go_num, HR2.out⟩
        case measure => simp [intOf]; omega
      · have hEb := st_ne0 hE
        have HNE := Lib.hid hE
        clear hE c0 c11
        go_wp2_with fail
        go_ret
        refine ⟨E, rfl, .inr ⟨HNE.out, ?_⟩⟩
        rcases HE.out with ⟨h, _⟩ | ⟨_, h⟩
        · exact absurd h HNE.out
        · exact h
    · obtain rfl : k = n := by omega
      go_wp2
      go_ret
      exact ⟨0, rfl, .inl ⟨rfl, HRK.out⟩⟩
theorem wrtEl_len (no : Int) (d : List UInt8) : (wrtEl no d).length ≤ 1003 := by
  by_cases h : chkEl no d = 0
  · obtain ⟨h1, h2, h3⟩ := head_small h
    rw [h3, List.length_append]
    omega
  · unfold wrtEl
    rw [if_neg h]
    simp
theorem iso_welement {w : World} {g : Nat} {mt : ByteArray} {va vo : Value} {base : Nat} {l : List UInt8} {no : Int} {D : Option Addr} {dc : Nat} {d : List UInt8} (h : WsI w g mt va vo) (hr : Rd w D d.length dc (u8s d)) (ho : OwnM w base vo l) (hg : g < base) (hb : base ≤ w.heap.size) (hz : l.length ≤ 10000000) (hT : Tabs w) :
    Calls Tryz.prog 163 #[.pointer (some ⟨g, 0, none⟩), .agg #[.int .i64 no, .slice D d.length dc]] w (PutTo w g mt va vo base (l ++ wrtEl no d) (chkEl no d)) := by
  have HW := Lib.hid (fun (u : World) (hf : Fr No w u) => el_write_any no D dc d u (hr.no hf) (rd_len63 hr) (hT.fr hf))
  have HP := Lib.hid (fun (u : World) (B : Option Addr) (e : Nat) (hf : Fr No w u) (hr : Rd u B (wrtEl no d).length e (u8s (wrtEl no d))) =>
    iso_put (E := chkEl no d) (Bk.no h hf) (ownM_fr ho hf (fun _ _ x => x)) hg (Nat.le_trans hb hf.size) hr (by have := wrtEl_len no d; omega))
  have HAL := Lib.hid ((Fr.refl No w).alloc (.cells #[.int .i64 no, .slice D d.length dc] 24))
  clear h hr ho hg hb hz hT
  generalize wrtEl no d = L at *
  generalize chkEl no d = E at *
  generalize d.length = m at *
  go_enter Tryz.func163, Tryz.ntmps163
  go_wp2_with (first
    | (go_at_call 207; refine (HW.out _ HAL.out).mono ?_; rintro e w2 ⟨v, rfl, o2, f2⟩; obtain ⟨V2, d2, rfl, hr2, -⟩ := ownM_rd o2; have R2 := Lib.hid hr2; have F2 := Lib.hid (HAL.out.trans f2); clear o2 hr2 f2)
    | (go_at_call 160; refine (HP.out _ _ _ F2.out R2.out).mono ?_; intro e w3 p3; have P3 := Lib.hid (PutTo.ahead p3 F2.out); obtain rfl := p3.1; clear p3))
  go_ret
  exact P3.out
/-! ### all the elements -/
theorem wrtAll_app (l k : List El) : wrtAll (l ++ k) = wrtAll l ++ wrtAll k := by
  induction l with
  | nil => rfl
  | cons a l ih => show wrtEl a.1 a.2 ++ wrtAll (l ++ k) = (wrtEl a.1 a.2 ++ wrtAll l) ++ wrtAll k; rw [ih, List.append_assoc]
theorem wrtAll_take {es : List El} {k : Nat} {a : El} (h : es[k]? = some a) : wrtAll (es.take (k + 1)) = wrtAll (es.take k) ++ wrtEl a.1 a.2 := by
  have hk := (List.getElem?_eq_some_iff.1 h).1
  have he := (List.getElem?_eq_some_iff.1 h).2
  rw [List.take_succ_eq_append_getElem hk, he, wrtAll_app]
  show _ ++ (wrtEl a.1 a.2 ++ []) = _
  rw [List.append_nil]
theorem wrtAll_len (l : List El) : (wrtAll l).length ≤ 1003 * l.length := by
  induction l with
  | nil => exact Nat.le_refl _
  | cons a l ih =>
    show (wrtEl a.1 a.2 ++ wrtAll l).length ≤ 1003 * (l.length + 1)
    rw [List.length_append]
    have := wrtEl_len a.1 a.2
    omega
theorem chkAll_at {es : List El} {k : Nat} {a : El} (h : es[k]? = some a) : chkAll (es.drop k) = if chkEl a.1 a.2 ≠ 0 then chkEl a.1 a.2 else chkAll (es.drop (k + 1)) := by
  have hk := (List.getElem?_eq_some_iff.1 h).1
  have he := (List.getElem?_eq_some_iff.1 h).2
  rw [List.drop_eq_getElem_cons hk, he]
  rfl
def WelR (w0 : World) (g : Nat) (mt : ByteArray) (A : Option Addr) (n c : Nat) (es : List El) (l : List UInt8) (i : Nat) (u : World) : Prop :=
  i ≤ n ∧ Fr (Just g) w0 u ∧ chkAll es = chkAll (es.drop i) ∧ ∃ vo, WsI u g mt (.slice A n c) vo ∧ OwnM u w0.heap.size vo (l ++ wrtAll (es.take i))
def WelQ (w0 : World) (g : Nat) (es : List El) (E : Int) (u : World) : Prop := Fr (Just g) w0 u ∧ chkAll es = E
theorem iso_welements {w0 w : World} {g : Nat} {mt : ByteArray} {A : Option Addr} {n c : Nat} {es : List El} {vo : Value} {l : List UInt8} (hf : Fr (Just g) w0 w) (h : WsI w g mt (.slice A n c) vo) (he : RdI 2 TagI w0 (fun i => i < g) A n c es) (ho : OwnM w w0.heap.size vo l) (hg : g < w0.heap.size) (hn : n ≤ 1000) (hz : l.length ≤ 100) (hT : ∀ u, Fr (Just g) w0 u → Tabs u) :
    Calls Tryz.prog 115 #[.pointer (some ⟨g, 0, none⟩)] w (SWTo (WelR w0 g mt A n c es l n) (WelQ w0 g es)) := by
  have hlen := he.len tag_ok (by omega)
  have hex := fun (i : Nat) (x : i < g) (y : Just g i) => by have : i = g := y; omega
  have HE := Lib.hid (each_elm A n c es (fun i => i < g) w 163 (.pointer (some ⟨g, 0, none⟩)) (WelR w0 g mt A n c es l) (WelQ w0 g es)
    ⟨Nat.zero_le _, hf, rfl, vo, h, by rw [List.take_zero]; show OwnM _ _ _ (l ++ []); rw [List.append_nil]; exact ho⟩
    (fun i u hu => he.fr tag_ok hu.2.1 (fun j hj x => by have : j = g := x; omega))
    (fun i u o hu => by
      obtain ⟨h1, h2, h3, vo, h4, h5⟩ := hu
      have hal : Fr No u (u.alloc o) := (Fr.refl No u).alloc o
      exact ⟨h1, h2.alloc o, h3, vo, Bk.no h4 hal, ownM_fr h5 hal (fun _ _ x => x)⟩)
    (by omega)
    (fun args w => rfl)
    (fun i a ha u D dl dc hu hd hdb => by
      obtain ⟨h1, h2, h3, vo, h4, h5⟩ := hu
      obtain rfl : a.2.length = dl := by simpa using hd.len
      have hil := (List.getElem?_eq_some_iff.1 ha).1
      refine (iso_welement (no := a.1) h4 hd h5 hg h2.size ?_ (hT u h2)).mono ?_
      · rw [List.length_append]
        have := wrtAll_len (es.take i)
        rw [List.length_take] at this
        have : min i es.length ≤ 1000 := by omega
        omega
      · intro e u2 p2
        have hf2 := p2.far h2 (fun j hj => (ownM_lt h5 j hj).1)
        obtain ⟨rfl, -, vo2, h6, h7, -⟩ := p2
        refine ⟨_, rfl, ?_⟩
        have hck := chkAll_at ha
        by_cases hE : chkEl a.1 a.2 = 0
        · rw [if_neg (by rw [hE]; decide)] at hck
          refine .inl ⟨hE, by omega, hf2, by rw [h3, hck], vo2, h6, ?_⟩
          rw [wrtAll_take ha, ← List.append_assoc]
          exact h7
        · rw [if_pos hE] at hck
          exact .inr ⟨hE, hf2, by rw [h3, hck]⟩))
  have c1 := (WsI.cells' h).2.1
  clear h he hn ho hg hz hT hlen hf hex
  go_enter Tryz.func115, Tryz.ntmps115
  go_wp2_with (go_at_call 162; refine (HE.out).mono ?_; rintro e w1 ⟨E, rfl, hE⟩; have HR := Lib.hid hE; clear hE)
  go_ret
  exact ⟨E, rfl, HR.out⟩
theorem iso_wend {w : World} {g : Nat} {mt : ByteArray} {va vo : Value} {base : Nat} {l : List UInt8} (h : WsI w g mt va vo) (ho : OwnM w base vo l) :
    Calls Tryz.prog 116 #[.pointer (some ⟨g, 0, none⟩)] w fun e w' => e = .returned (.int .i64 (if l.length ≤ 4096 then 0 else 4)) ∧ w = w' := by
  obtain ⟨vA, vc, rfl, hr, -⟩ := ownM_rd ho
  have c2 := (WsI.cells' h).2.2.1
  have hm := rd_len63 hr
  have HU1 := Lib.hid (fun u => unless_any true 4 u)
  have HU0 := Lib.hid (fun u => unless_any false 4 u)
  rw [if_pos rfl] at HU1
  rw [if_neg (by decide)] at HU0
  clear h ho hr
  generalize l.length = m at *
  by_cases h4 : m ≤ 4096
  · have h4I : (m : Int) ≤ 4096 := by omega
    rw [if_pos h4]
    clear h4
    go_enter Tryz.func116, Tryz.ntmps116
    go_wp2_with (go_at_call 49; refine (HU1.out _).mono ?_; rintro e w1 ⟨rfl, rfl⟩)
    go_ret
    exact ⟨rfl, rfl⟩
  · have h4I : ¬ (m : Int) ≤ 4096 := by omega
    rw [if_neg h4]
    clear h4
    go_enter Tryz.func116, Tryz.ntmps116
    go_wp2_with (go_at_call 49; refine (HU0.out _).mono ?_; rintro e w1 ⟨rfl, rfl⟩)
    go_ret
    exact ⟨rfl, rfl⟩
end Go.Proofs.YthlgnmgjfgbffaaGreatDoor
/- Package iso: Pack. -/
namespace Go.Proofs.YthlgnmgjfgbffaaGreatDoor
open Go.RowKit
set_option maxHeartbeats 1000000
set_option linter.unusedVariables false
set_option maxRecDepth 20000

abbrev fiveO (g : Nat) : List Value := [.func (.func 43) #[.pointer (some ⟨g, 0, none⟩)] #[], .func (.func 113) #[.pointer (some ⟨g, 0, none⟩)] #[], .func (.func 114) #[.pointer (some ⟨g, 0, none⟩)] #[],
  .func (.func 115) #[.pointer (some ⟨g, 0, none⟩)] #[], .func (.func 116) #[.pointer (some ⟨g, 0, none⟩)] #[]]
section
variable (w0 : World) (g : Nat) (t : List UInt8) (A : Option Addr) (n c : Nat) (es : List El)
def PckR : Nat → World → Prop
  | 0, u => Fr (Just g) w0 u ∧ WsI u g (bstr t) (.slice A n c) (.slice none 0 0)
  | 1, u => Fr (Just g) w0 u ∧ rightB t 4 4 = true ∧ WsI u g (bstr t) (.slice A n c) (.slice none 0 0)
  | 2, u => Fr (Just g) w0 u ∧ rightB t 4 4 = true ∧ ∃ vo, WsI u g (bstr t) (.slice A n c) vo ∧ OwnM u w0.heap.size vo t
  | 3, u => Fr (Just g) w0 u ∧ rightB t 4 4 = true ∧ wmE (nosOf es) = 0 ∧ ∃ vo, WsI u g (bstr t) (.slice A n c) vo ∧ OwnM u w0.heap.size vo (t ++ mapOf (nosOf es))
  | 4, u => Fr (Just g) w0 u ∧ rightB t 4 4 = true ∧ wmE (nosOf es) = 0 ∧ chkAll es = 0 ∧ ∃ vo, WsI u g (bstr t) (.slice A n c) vo ∧ OwnM u w0.heap.size vo (wrtI t es)
  | _, u => Fr (Just g) w0 u ∧ pacE t es = 0 ∧ ∃ vo, WsI u g (bstr t) (.slice A n c) vo ∧ OwnM u w0.heap.size vo (wrtI t es)
def PckQ (E : Int) (u : World) : Prop := Fr (Just g) w0 u ∧ pacE t es = E
end
theorem pckR_fr {w0 u : World} {g : Nat} {t : List UInt8} {A : Option Addr} {n c : Nat} {es : List El} {i : Nat} (h : PckR w0 g t A n c es i u) : Fr (Just g) w0 u := by
  match i, h with
  | 0, h => exact h.1
  | 1, h => exact h.1
  | 2, h => exact h.1
  | 3, h => exact h.1
  | 4, h => exact h.1
  | _ + 5, h => exact h.1
theorem wm_cases (l : List Int) : (wmE l = 0 ∧ wmR l = mapOf l ∧ ((mapOf l).length = 8 ∨ (mapOf l).length = 16)) ∨ wmE l = 1 := by
  unfold wmE wmR
  cases h : risesB l with
  | true => exact .inl ⟨rfl, rfl, mapOf_len h⟩
  | false => exact .inr rfl
theorem five_outs {w0 : World} {g : Nat} {t : List UInt8} {A : Option Addr} {n c : Nat} {es : List El} (he : RdI 2 TagI w0 (fun i => i < g) A n c es) (hg : g < w0.heap.size) (hn : n ≤ 1000) (hz : t.length ≤ maxLen) (hT : ∀ u, Fr (Just g) w0 u → Tabs u) (i : Nat) (hi : i < 5) :
    ∃ F x, (fiveO g)[i]? = some (.func (.func F) #[x] #[]) ∧ (∀ args w, (callFunc F args).run Tryz.prog w = .ok (.enter F args) w) ∧ ∀ u, PckR w0 g t A n c es i u → Calls Tryz.prog F #[x] u (SWTo (PckR w0 g t A n c es (i + 1)) (PckQ w0 g t es)) := by
  have hbl : ∀ l : List UInt8, (bstr l).data.toList = l := fun l => by simp [bstr]
  have hno : ∀ {u}, Fr (Just g) w0 u → RdI 2 TagI u (fun i => i < g) A n c es := fun hf => he.fr tag_ok hf (fun j hj x => by have : j = g := x; omega)
  have h5 : i = 0 ∨ i = 1 ∨ i = 2 ∨ i = 3 ∨ i = 4 := by omega
  rcases h5 with rfl | rfl | rfl | rfl | rfl
  · refine ⟨_, _, rfl, fun args w => rfl, ?_⟩
    rintro u ⟨hf, hp⟩
    refine (iso_right (WsI.cells' hp).1 (by rw [bstr_size]; exact hz)).mono ?_
    rintro e u' ⟨rfl, rfl⟩
    rw [hbl]
    cases hR : rightB t 4 4 with
    | true => exact ⟨0, rfl, .inl ⟨rfl, hf, hR, hp⟩⟩
    | false => exact ⟨5, rfl, .inr ⟨by decide, hf, by unfold pacE; rw [if_pos hR]⟩⟩
  · refine ⟨_, _, rfl, fun args w => rfl, ?_⟩
    rintro u ⟨hf, hR, hp⟩
    have h4 := rightB_len hR
    refine (iso_wbegin hp hg hf.size (by omega)).mono ?_
    intro e u2 p2
    have hf2 := p2.far hf (fun j hj => by cases hj)
    obtain ⟨rfl, -, vo2, h6, h7, -⟩ := p2
    exact ⟨0, rfl, .inl ⟨rfl, hf2, hR, vo2, h6, h7⟩⟩
  · refine ⟨_, _, rfl, fun args w => rfl, ?_⟩
    rintro u ⟨hf, hR, vo, hp, ho⟩
    have h4 := rightB_len hR
    refine (iso_wnumbers hp (hno hf) hn ho hg hf.size (by omega)).mono ?_
    intro e u2 p2
    have hf2 := p2.far hf (fun j hj => (ownM_lt ho j hj).1)
    obtain ⟨rfl, -, vo2, h6, h7, -⟩ := p2
    rcases wm_cases (nosOf es) with ⟨q1, q2, -⟩ | q1
    · rw [q2] at h7
      exact ⟨_, rfl, .inl ⟨q1, hf2, hR, q1, vo2, h6, h7⟩⟩
    · exact ⟨_, rfl, .inr ⟨by rw [q1]; decide, hf2, by unfold pacE; rw [if_neg (by rw [hR]; decide), if_pos (by rw [q1]; decide), q1]⟩⟩
  · refine ⟨_, _, rfl, fun args w => rfl, ?_⟩
    rintro u ⟨hf, hR, hE, vo, hp, ho⟩
    have h4 := rightB_len hR
    have hml : (mapOf (nosOf es)).length ≤ 16 := by
      rcases wm_cases (nosOf es) with ⟨_, _, h | h⟩ | h
      · omega
      · omega
      · rw [hE] at h; cases h
    refine (iso_welements hf hp he ho hg hn (by rw [List.length_append]; omega) hT).mono ?_
    rintro e u' ⟨E, rfl, ⟨rfl, -, hf2, hck, vo2, h6, h7⟩ | ⟨hE2, hf2, he2⟩⟩
    · have hlen := he.len tag_ok (by omega)
      rw [List.drop_eq_nil_of_le (by omega)] at hck
      rw [List.take_of_length_le (by omega)] at h7
      exact ⟨0, rfl, .inl ⟨rfl, hf2, hR, hE, hck, vo2, h6, h7⟩⟩
    · exact ⟨E, rfl, .inr ⟨hE2, hf2, by unfold pacE; rw [if_neg (by rw [hR]; decide), if_neg (by rw [hE]; decide), if_pos (by rw [he2]; exact hE2), he2]⟩⟩
  · refine ⟨_, _, rfl, fun args w => rfl, ?_⟩
    rintro u ⟨hf, hR, hE, hck, vo, hp, ho⟩
    refine (iso_wend hp ho).mono ?_
    rintro e u' ⟨rfl, rfl⟩
    have hpe : pacE t es = if 4096 < (wrtI t es).length then 4 else 0 := by
      unfold pacE
      rw [if_neg (by rw [hR]; decide), if_neg (by rw [hE]; decide), if_neg (by rw [hck]; decide)]
    by_cases hq : (wrtI t es).length ≤ 4096
    · rw [if_pos hq]
      exact ⟨0, rfl, .inl ⟨rfl, hf, by rw [hpe, if_neg (by omega)], vo, hp, ho⟩⟩
    · rw [if_neg hq]
      exact ⟨4, rfl, .inr ⟨by decide, hf, by rw [hpe, if_pos (by omega)]⟩⟩
theorem out_walk {w : World} {g : Nat} {t : List UInt8} {A : Option Addr} {n c : Nat} {es : List El} (h : WsI w g (bstr t) (.slice A n c) (.slice none 0 0)) (he : RdI 2 TagI w (fun i => i < g) A n c es) (hn : n ≤ 1000) (hz : t.length ≤ maxLen) (hT : ∀ u, Fr (Just g) w u → Tabs u) (ty : TypeId) :
    Calls Tryz.prog 16 #[.slice (some ⟨w.heap.size, 0, none⟩) 5 5] (w.alloc (.cells (fiveO g).toArray ty))
      (SWTo (PckR (w.alloc (.cells (fiveO g).toArray ty)) g t A n c es 5) (PckQ (w.alloc (.cells (fiveO g).toArray ty)) g t es)) := by
  have hfa : Fr No w (w.alloc (.cells (fiveO g).toArray ty)) := (Fr.refl No w).alloc _
  have hbk := Bk.new w ty (fiveO g).toArray
  have hgl := h.lt
  refine t_walk (some ⟨w.heap.size, 0, none⟩) 5 5 (fiveO g) _ _ _ rfl (Nat.le_refl _) (by omega) (fun e => nomatch e) ⟨Fr.refl _ _, Bk.no h hfa⟩ ?_ (fun i hi => five_outs (he.no tag_ok hfa) (by have := hfa.size; omega) hn hz (fun u hu => hT u (hfa.no.trans hu)) i hi)
  intro i u hu ad e j v hv
  injection e with e
  subst e
  have h1 := (hbk.fr (pckR_fr hu) (fun x => by have : w.heap.size = g := x; omega)).cell j
  rw [addr_at, h1]
  exact hv
/-- what Pack answers -/
def PacTo (t : List UInt8) (es : List El) (w : World) (e : Ending) (w' : World) : Prop := ∃ v, e = .returned (.tuple #[v, .int .i64 (pacE t es)]) ∧ OwnM w' w.heap.size v (pacR t es) ∧ Fr No w w'
theorem pac_no {t : List UInt8} {es : List El} {w w' : World} {E : Int} (h : pacE t es = E) (hE : E ≠ 0) (hf : Fr No w w') : PacTo t es w (.returned (.tuple #[.slice none 0 0, .int .i64 E])) w' := by
  have : pacR t es = [] := by unfold pacR; rw [if_neg (by rw [h]; exact hE)]
  refine ⟨_, by rw [h], ?_, hf⟩
  rw [this]
  exact ⟨rfl, .inl ⟨rfl, rfl⟩⟩
theorem pac_yes {t : List UInt8} {es : List El} {w w' : World} {v : Value} (h : pacE t es = 0) (ho : OwnM w' w.heap.size v (wrtI t es)) (hf : Fr No w w') : PacTo t es w (.returned (.tuple #[v, .int .i64 0])) w' := by
  have : pacR t es = wrtI t es := by unfold pacR; rw [if_pos h]
  refine ⟨_, by rw [h], ?_, hf⟩
  rw [this]
  exact ho
theorem bstr_self' (S : ByteArray) : bstr S.data.toList = S := by cases S; simp [bstr]
theorem iso_pack_any (S : ByteArray) (A : Option Addr) (n c : Nat) (es : List El) (w : World) (he : RdI 2 TagI w (fun i => i < w.heap.size) A n c es) (hn : n ≤ 1000) (hz : S.size ≤ maxLen) (hT : Tabs w := by repeat' first | with_reducible assumption | with_reducible apply Tabs.drew | with_reducible apply Tabs.drewN | with_reducible apply Tabs.alloc | refine Tabs.fr ?_ (by with_reducible assumption)) :
    Calls Tryz.prog 68 #[.agg #[.string S, .slice A n c]] w (PacTo S.data.toList es w) := by
  obtain ⟨t, ht⟩ : ∃ t, S.data.toList = t := ⟨_, rfl⟩
  have hS : S = bstr t := by rw [← ht, bstr_self']
  have hal : Fr No w (w.alloc (.cells #[.string S, .slice A n c] 27)) := (Fr.refl No w).alloc _
  have hal2 : Fr No w ((w.alloc (.cells #[.string S, .slice A n c] 27)).alloc (.cells #[.string S, .slice A n c, .slice none 0 0] 160)) := hal.alloc _
  have hbk := Bk.new (w.alloc (.cells #[.string S, .slice A n c] 27)) 160 #[.string S, .slice A n c, .slice none 0 0]
  have hz1 : (w.alloc (.cells #[.string S, .slice A n c] 27)).heap.size = w.heap.size + 1 := by simp
  have hz2 : ((w.alloc (.cells #[.string S, .slice A n c] 27)).alloc (.cells #[.string S, .slice A n c, .slice none 0 0] 160)).heap.size = w.heap.size + 1 + 1 := by simp
  rw [hz1] at hbk
  have hws : WsI ((w.alloc (.cells #[.string S, .slice A n c] 27)).alloc (.cells #[.string S, .slice A n c, .slice none 0 0] 160)) (w.heap.size + 1) (bstr t) (.slice A n c) (.slice none 0 0) := by rw [← hS]; exact hbk
  have hbk0 : Bk (w.alloc (.cells #[.string S, .slice A n c] 27)) w.heap.size 27 [.string S, .slice A n c] := Bk.new w _ _
  have e0 := Bk.cell hbk0 0
  have e1 := Bk.cell hbk0 1
  have hw := out_walk hws ((he.no tag_ok hal2).mono tag_ok (fun i hi => by omega)) hn (by rw [← ht]; simpa using hz) (fun u hu => hT.fr (hal2.trans_just hu (by omega))) 58
  rw [hz2] at hw
  have hfin : ∀ u, Fr (Just (w.heap.size + 1)) (((w.alloc (.cells #[.string S, .slice A n c] 27)).alloc (.cells #[.string S, .slice A n c, .slice none 0 0] 160)).alloc (.cells (fiveO (w.heap.size + 1)).toArray 58)) u → Fr No w u := fun u hu => (hal2.alloc _).trans_just hu (by omega)
  have HFIN := Lib.hid hfin; have HW := Lib.hid hw; have HT2 := Lib.hid ht
  rw [ht]
  clear he hn hz hT hS hal hal2 hbk hz1 hz2 hws hbk0 hw hfin ht
  go_enter Tryz.func68, Tryz.ntmps68
  go_upto_region 3 with (go_at_call 16; (refine (HW.out).mono ?_); rintro e w2 ⟨E, rfl, hE⟩; have HE := Lib.hid hE; clear hE)
  by_cases hE : E = 0
  · subst hE
    obtain ⟨hf2, hpe, vo, hp, ho⟩ : PckR (((w.alloc (.cells #[.string S, .slice A n c] 27)).alloc (.cells #[.string S, .slice A n c, .slice none 0 0] 160)).alloc (.cells (fiveO (w.heap.size + 1)).toArray 58)) (w.heap.size + 1) t A n c es 5 w2 := by
      rcases HE.out with ⟨_, h⟩ | ⟨h, _⟩
      · exact h
      · exact absurd rfl h
    have c2 := (WsI.cells' hp).2.2.1
    have H1 := Lib.hid (ownM_low ho (b := w.heap.size) (by simp; omega)); have H2 := Lib.hid (HFIN.out w2 hf2); have H3 := Lib.hid hpe
    clear hf2 hpe hp ho HE HFIN HW
    go_wp2_with fail
    go_ret2
    exact pac_yes H3.out H1.out H2.out
  · have hEb := st_ne0 hE
    obtain ⟨hf2, hpe⟩ : PckQ (((w.alloc (.cells #[.string S, .slice A n c] 27)).alloc (.cells #[.string S, .slice A n c, .slice none 0 0] 160)).alloc (.cells (fiveO (w.heap.size + 1)).toArray 58)) (w.heap.size + 1) t es E w2 := by
      rcases HE.out with ⟨h, _⟩ | ⟨_, h⟩
      · exact absurd h hE
      · exact h
    have H2 := Lib.hid (HFIN.out w2 hf2); have H3 := Lib.hid hpe; have H4 := Lib.hid hE
    clear hf2 hpe hE HE HFIN HW
    go_wp2_with fail
    go_ret2
    exact pac_no H3.out H4.out H2.out
end Go.Proofs.YthlgnmgjfgbffaaGreatDoor
