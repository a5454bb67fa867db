/- The texts FldR1, FldR2, joined. -/
import Derived.Test.YthlgnmgjfgbffaaGreatDoorL11
import Derived.Test.YthlgnmgjfgbffaaGreatDoorL04
import Derived.Test.YthlgnmgjfgbffaaGreatDoorL28
import Derived.Test.YthlgnmgjfgbffaaGreatDoorL36
import Derived.Test.YthlgnmgjfgbffaaGreatDoorL14
/- Package fields: the reader: where texts stand; what one element says is laid there; read. -/
namespace Go.Proofs.YthlgnmgjfgbffaaGreatDoor
open Go.RowKit
set_option maxHeartbeats 1000000
set_option linter.unusedVariables false
set_option maxRecDepth 20000

/-- the reader, at block g, behind some elements -/
def RdrS (N : Nat → Prop) (w : World) (g base : Nat) (mt : List UInt8) (es : List El) : Prop := ∃ oA oc, Bk w g 62 ((shOf es oA (othE es).length oc).cells ++ [.string (bstr mt)]) ∧ OwnI 2 TagI w base 24 N (.slice oA (othE es).length oc) (othE es).length (othE es)
theorem lay_next {no n' : Int} {v : Value} {k o : Nat} {X : List Value} (h : plL[k]? = some (n', o)) : layC no v (plL.drop k) X = layC no v (plL.drop (k + 1)) (if n' = no then X.set o v else X) := by
  obtain ⟨hk, he⟩ := List.getElem?_eq_some_iff.1 h
  rw [List.drop_eq_getElem_cons hk, he]
  rfl
theorem set_there {X : List Value} {q : Nat} {v : Value} (h : ∀ o, o < 28 → ∃ u, X[o]? = some u) : ∀ o, o < 28 → ∃ u, (X.set q v)[o]? = some u := fun o ho => by
  obtain ⟨u, hu⟩ := h o ho
  have hl : o < (X.set q v).length := by rw [List.length_set]; exact (List.getElem?_eq_some_iff.1 hu).1
  exact ⟨_, List.getElem?_eq_getElem hl⟩
section
variable {w : World} {g : Nat} {T : TypeId} {s : FSh} {tl : List Value}
/-- what is no spare one's -/
theorem f_lay_text {no : Int} {D : Option Addr} {m c : Nat} {d : List UInt8} (h : Bk w g T (s.cells ++ tl)) (hd : Rd w D m c (u8s d)) (hD : ∀ ad, D = some ad → 0 < m → ad.block < g) (hs : spareP no = false) (hno : -9223372036854775808 ≤ no ∧ no ≤ 9223372036854775807) (hT : Tabs w) :
    Calls Tryz.prog 47 #[.pointer (some ⟨g, 0, none⟩), .agg #[.int .i64 no, .slice D m c]] w fun e w' => e = .returned (.tuple #[]) ∧ Bk w' g T ((s.put no d).cells ++ tl) ∧ Fr (Just g) w w' := by
  have HSP := Lib.hid (fun u (hu : Tabs u) => el_spare_any no u hu)
  rw [show (elGet no).spare = false from hs] at HSP
  have H := Lib.hid h; have HD := Lib.hid hd; have HDB := Lib.hid hD; have HT := Lib.hid hT
  have HGL := Lib.hid h.lt
  obtain ⟨hn0, hn1⟩ := hno
  clear h hd hD hs hT
  go_enter Tryz.func47, Tryz.ntmps47
  have HF0 := Lib.hid ((Fr.refl No w).alloc (.cells #[.int .i64 no, .slice D m c] 24))
  have HB0 := Lib.hid (Bk.new w 24 #[.int .i64 no, .slice D m c])
  go_upto_region 3 with (go_at_call 84; refine (HSP.out _ (HT.out.fr HF0.out)).mono ?_; rintro e w1 ⟨rfl, f1⟩; have F1 := Lib.hid (HF0.out.trans f1); have B1 := Lib.hid (HB0.out.no f1); clear f1)
  clear HF0 HB0
  go_upto_region 4 with (go_at_call 85; refine (f_places w1 g).mono ?_; rintro e w2 ⟨rfl, u1, hd1, rfl⟩)
  obtain ⟨P, hP⟩ : ∃ P, w1.heap.size = P := ⟨_, rfl⟩
  have hP1 : u1.heap.size = P := by rw [hd1.heap]; exact hP
  have HP := Lib.hid (Bk.new u1 124 (plV g).toArray)
  have F2 := Lib.hid ((F1.out.dr hd1).alloc (.cells (plV g).toArray 124))
  have B2 := Lib.hid (B1.out.no ((Fr.dr (Fr.refl No w1) hd1).alloc (.cells (plV g).toArray 124)))
  have HWP := Lib.hid (show w.heap.size < P by rw [← hP]; exact B1.out.lt)
  have H2 := Lib.hid (H.out.no F2.out)
  rw [hP1] at HP
  rw [hP]
  generalize u1.alloc (.cells (plV g).toArray 124) = w2 at *
  obtain ⟨b0, hb0⟩ : ∃ b0, w.heap.size = b0 := ⟨_, rfl⟩
  rw [hb0] at B2 HWP HGL ⊢
  clear B1 F1 hP hP1 hd1 HSP
  go_loopw [28] (fun v wr => ∃ (k : Nat) (X : List Value), k ≤ 16 ∧ v = .int .i64 (k : Int) ∧ Bk wr g T X ∧ Fr (Just g) w2 wr ∧ (∀ o, o < 28 → ∃ u, X[o]? = some u) ∧ layC no (.string (bstr d)) (plL.drop k) X = (s.put no d).cells ++ tl) (fun v _ => 16 - (intOf v).toNat)
  case atStart => exact ⟨0, s.cells ++ tl, by omega, rfl, H2.out, Fr.refl _ _, fun o ho => ⟨_, List.getElem?_eq_getElem (by rw [List.length_append]; exact Nat.lt_of_lt_of_le ho (Nat.le_add_right _ _))⟩, lay_put s tl no d⟩
  case round =>
    obtain ⟨k, X, hk, rfl, hbk, hfr, hX, hl⟩ := hrel
    rcases Nat.lt_or_ge k 16 with hlt | hge
    · obtain ⟨n', o, hpl, hv0, hv1, ho, -, hb0', hb1'⟩ := pl_at g k hlt
      obtain ⟨u, hu⟩ := hX o ho
      have hPg : ¬ Just g P := fun e => by have h1 := HWP.out; have h2 := HGL.out; have : P = g := e; omega
      have hbg : ¬ Just g b0 := fun e => by have h2 := HGL.out; have : b0 = g := e; omega
      have hPB := HP.out.fr hfr hPg
      have hBB := B2.out.fr hfr hbg
      have c0 := (hPB.cell (k * 2)).trans hv0
      have c1 := (hPB.cell (k * 2 + 1)).trans hv1
      have e00 : ∀ ob, (wr.alloc ob).cell? ⟨b0, 0, none⟩ = some (.int .i64 no) := fun ob => ((Fr.refl No wr).alloc ob).cell (hBB.cell 0) (fun x => x)
      have e01 : ∀ ob, (wr.alloc ob).cell? ⟨b0, 1, none⟩ = some (.slice D m c) := fun ob => ((Fr.refl No wr).alloc ob).cell (hBB.cell 1) (fun x => x)
      have eo : ∀ ob, (wr.alloc ob).cell? ⟨g, o, none⟩ = some u := fun ob => ((Fr.refl No wr).alloc ob).cell ((hbk.cell o).trans hu) (fun x => x)
      have ez : ∀ ob, (wr.alloc ob).frozen? ⟨g, o, none⟩ = false := fun ob => (hbk.no ((Fr.refl No wr).alloc ob)).frozen o
      have hst := fun ob => run_string (P := Tryz.prog) (rd_far (rd_far (HD.out.no F2.out) hfr (fun h0 ad e x => by have h1 := HDB.out ad e h0; have : ad.block = g := x; omega)) ((Fr.refl No wr).alloc ob) (fun _ _ _ x => x)) 22 5 Tryz.underlying22 Tryz.underlying5 9 Tryz.underlying9
      have hkI : (k : Int) < 16 := by omega
      have HBK := Lib.hid hbk; have HFR := Lib.hid hfr; have HX := Lib.hid hX; have HPL := Lib.hid hpl; have HL := Lib.hid hl; have HO := Lib.hid ho
      clear hbk hfr hX hpl hl hv0 hv1 hPg hbg hPB hBB hu ho
      by_cases hn : n' = no
      · subst hn
        go_wp2
        go_roundw
        case rel =>
          have hl2 := HL.out
          rw [lay_next HPL.out, if_pos rfl] at hl2
          exact ⟨k + 1, X.set o (.string (bstr d)), by omega, by go_num, (HBK.out.no ((Fr.refl No wr).alloc _)).set_ o _, (HFR.out.trans ((Fr.refl _ wr).alloc _)).trans ((Fr.refl (Just g) _).setCell (.inl (Just.at g)) _), set_there HX.out, hl2⟩
        case measure => simp [intOf]; omega
      · go_wp2
        go_roundw
        case rel =>
          have hl2 := HL.out
          rw [lay_next HPL.out, if_neg hn] at hl2
          exact ⟨k + 1, X, by omega, by go_num, HBK.out.no ((Fr.refl No wr).alloc _), HFR.out.trans ((Fr.refl _ wr).alloc _), HX.out, hl2⟩
        case measure => simp [intOf]; omega
    · obtain rfl : k = 16 := by omega
      go_wp2
      go_end0
      refine ⟨rfl, ?_, (F2.out.no).trans hfr⟩
      have e : X = (s.put no d).cells ++ tl := hl
      rw [← e]
      exact hbk
/-- a spare one: it goes behind the others -/
theorem f_lay_spare {N : Nat → Prop} (hNg : ∀ i, N i → i < g) {no : Int} {D : Option Addr} {m c n base : Nat} {d : List UInt8} {ls : List El} (h : Bk w g T (s.cells ++ tl)) (hd : Rd w D m c (u8s d)) (hD : ∀ ad, D = some ad → 0 < m → N ad.block) (hs : spareP no = true) (hno : (Lit.int .i64 no).wf = true)
    (hon : s.on = n) (ho : OwnI 2 TagI w base 24 N (.slice s.oA n s.oc) n ls) (hg : g < base) (hbase : base ≤ w.heap.size) (hn : n ≤ 1000) (hT : Tabs w) :
    Calls Tryz.prog 47 #[.pointer (some ⟨g, 0, none⟩), .agg #[.int .i64 no, .slice D m c]] w fun e w' => e = .returned (.tuple #[]) ∧ ∃ oA' oc', Bk w' g T (({ s with oA := oA', on := n + 1, oc := oc' } : FSh).cells ++ tl) ∧ OwnI 2 TagI w' base 24 N (.slice oA' (n + 1) oc') (n + 1) (ls ++ [(no, d)]) ∧ Fr (fun i => i = g ∨ (Value.slice s.oA n s.oc).ownBlock = some i) w w' := by
  have HSP := Lib.hid (fun u (hu : Tabs u) => el_spare_any no u hu)
  rw [show (elGet no).spare = true from hs] at HSP
  have H := Lib.hid h; have HD := Lib.hid hd; have HDB := Lib.hid hD; have HT := Lib.hid hT; have HO := Lib.hid ho; have HW := Lib.hid hno; have HG := Lib.hid hg; have HBA := Lib.hid hbase; have HN := Lib.hid hn; have HNG := Lib.hid hNg
  have hml : m ≤ 9223372036854775807 := by have h1 := hd.cap; have h2 := hd.max; simp only [maxLen] at h2; omega
  have HML := Lib.hid hml
  have hcs : ∀ oA' oc', (s.cells ++ tl).set 20 (.slice oA' (n + 1) oc') = ({ s with oA := oA', on := n + 1, oc := oc' } : FSh).cells ++ tl := fun _ _ => rfl
  have HCS := Lib.hid hcs
  have h20 : (s.cells ++ tl)[20]? = some (.slice s.oA n s.oc) := by rw [← hon]; rfl
  have H20 := Lib.hid h20
  have hdl : m = d.length := by simpa using hd.len.symm
  subst hdl
  clear hNg h hd hD hs hT ho hg hbase hn hml hcs hno hon h20
  obtain ⟨oA, hoA⟩ : ∃ oA, s.oA = oA := ⟨_, rfl⟩
  obtain ⟨oc, hoc⟩ : ∃ oc, s.oc = oc := ⟨_, rfl⟩
  rw [hoA, hoc] at HO H20 ⊢
  clear hoA hoc
  generalize s.cells ++ tl = CS at *
  obtain ⟨dl, hdl⟩ : ∃ dl, d.length = dl := ⟨_, rfl⟩
  rw [hdl] at HD HML HDB ⊢
  clear hdl
  go_enter Tryz.func47, Tryz.ntmps47
  have HF0 := Lib.hid ((Fr.refl No w).alloc (.cells #[.int .i64 no, .slice D dl c] 24))
  have HB0 := Lib.hid (Bk.new w 24 #[.int .i64 no, .slice D dl c])
  go_upto_region 2 with (go_at_call 84; refine (HSP.out _ (HT.out.fr HF0.out)).mono ?_; rintro e w1 ⟨rfl, f1⟩; have F1 := Lib.hid (HF0.out.trans f1); have B1 := Lib.hid (HB0.out.no f1); clear f1)
  clear HF0 HB0
  have G1 := Lib.hid (H.out.no F1.out)
  have O1 := Lib.hid (OwnI.no tag_ok HO.out F1.out)
  have D1 := Lib.hid (HD.out.no F1.out)
  have OL := Lib.hid (fun i (e : (Value.slice oA n oc).ownBlock = some i) => HO.out.lt i e)
  obtain ⟨b0, hb0⟩ : ∃ b0, w.heap.size = b0 := ⟨_, rfl⟩
  rw [hb0] at B1 ⊢
  have FA := Lib.hid ((Fr.refl No w1).alloc (.cells #[.int .i64 no, .slice D dl c] 24))
  have FD := Lib.hid ((Fr.refl No (w1.alloc (.cells #[.int .i64 no, .slice D dl c] 24))).drew)
  have ZW := Lib.hid (show ((w1.alloc (.cells #[.int .i64 no, .slice D dl c] 24)).drew).heap.size = w1.heap.size + 1 by simp)
  have c0 := B1.out.cell 0; have c1 := B1.out.cell 1
  have a0 := (B1.out.no FA.out).cell 0; have a1 := (B1.out.no FA.out).cell 1
  have g0 := (G1.out.cell 20).trans H20.out
  have ga := ((G1.out.no FA.out).cell 20).trans H20.out
  have HB0 := Lib.hid hb0
  clear hb0
  go_region_law (first
    | (go_must (refine stepE1 w1 (w1.alloc (.cells #[.int .i64 no, .slice D dl c] 24)).drew rfl (.tmp 15) (.tmp 17) rfl base (.slice oA n oc) n ls N N (by rfl) O1.out (no, d) [.int .i64 no, .slice D dl c] ⟨D, dl, c, rfl, D1.out, fun ad e h0 => HDB.out ad e h0, HW.out, HML.out⟩ 24 FD.out ZW.out w1.heap.size rfl (by rfl) (by have := HN.out; omega) (by have := HBA.out; have := F1.out.size; omega) (fun i hi e => by have := OL.out i e; have := HG.out; have := HNG.out i hi; omega) (fun i hi e => by have := OL.out i e; have := HG.out; have := HNG.out i hi; omega) ?_); intro oA4 oc4 w4 ho4 hg4 hr4; have O4 := Lib.hid (ho4.mono tag_ok (M := N) (fun i hi => by rcases hi with x | x <;> exact x)); have F4 := Lib.hid ((FA.out.trans FD.out).no.grown hg4 (fun i e => .inl e) (S := fun i => (Value.slice oA n oc).ownBlock = some i)); have B4 := Lib.hid (G1.out.fr F4.out (fun e => by have := (OL.out _ e).1; have := HG.out; omega)); have e20 := (B4.out.cell 20).trans H20.out; have y20 := B4.out.frozen 20; clear ho4 hg4 hr4))
  all_goals
    clear c0 c1 a0 a1 g0 ga
    go_wp2_with fail
    refine bodyPost_ret (results_none (by rfl) _ _ _) rfl ?_
    refine ⟨rfl, oA4, oc4, ?_, ?_, ?_⟩
    · rw [← HCS.out]
      exact B4.out.set_ 20 _
    · exact OwnI.fr tag_ok O4.out ((Fr.refl (Just g) w4).setCell (.inl (Just.at g)) _) (fun i hi e => by have h2 : i = g := e; have := HNG.out i hi; omega) (fun i hi e => by have := O4.out.lt i hi; have h2 : i = g := e; have := HG.out; omega)
    · exact ((F1.out.no).trans (F4.out.mono (fun i e => .inr e))).setCell (.inl (.inl rfl)) _
end
end Go.Proofs.YthlgnmgjfgbffaaGreatDoor
/- Package fields: read. -/
namespace Go.Proofs.YthlgnmgjfgbffaaGreatDoor
open Go.RowKit
set_option maxHeartbeats 1000000
set_option linter.unusedVariables false
set_option maxRecDepth 20000

theorem nos_snoc {es : List El} {k : Nat} {q : Int} {d : List UInt8} (h : (nosOf es).Pairwise (· < ·)) (hk : es[k]? = some (q, d)) : es.take (k + 1) = es.take k ++ [(q, d)] ∧ q ∉ nosOf (es.take k) := by
  obtain ⟨hl, he⟩ := List.getElem?_eq_some_iff.1 hk
  refine ⟨by rw [List.take_succ_eq_append_getElem hl, he], fun hm => ?_⟩
  have h1 : nosOf es = nosOf (es.take k) ++ nosOf (es.drop k) := by
    show es.map (·.1) = (es.take k).map (·.1) ++ (es.drop k).map (·.1)
    rw [← List.map_append, List.take_append_drop]
  rw [h1, List.pairwise_append] at h
  have h2 : q ∈ nosOf (es.drop k) := by
    rw [List.drop_eq_getElem_cons hl, he]
    exact List.mem_cons_self ..
  have := h.2.2 q hm q h2
  omega
theorem rdr_text {N : Nat → Prop} {w' : World} {g base : Nat} {mt : List UInt8} {es : List El} {oA : Option Addr} {oc : Nat} {q : Int} {d : List UInt8} (hq : q ∉ nosOf es) (hs : spareP q = false)
    (hb : Bk w' g 62 (((shOf es oA (othE es).length oc).put q d).cells ++ [.string (bstr mt)])) (ho : OwnI 2 TagI w' base 24 N (.slice oA (othE es).length oc) (othE es).length (othE es)) : RdrS N w' g base mt (es ++ [(q, d)]) := by
  refine ⟨oA, oc, ?_, ?_⟩
  · rw [oth_text hs, ← shOf_text hq]
    exact hb
  · rw [oth_text hs]
    exact ho
theorem rdr_spare {N : Nat → Prop} {w' : World} {g base : Nat} {mt : List UInt8} {es : List El} {oA oA' : Option Addr} {oc oc' : Nat} {q : Int} {d : List UInt8} (hq : q ∉ nosOf es) (hs : spareP q = true)
    (hb : Bk w' g 62 (({ shOf es oA (othE es).length oc with oA := oA', on := (othE es).length + 1, oc := oc' } : FSh).cells ++ [.string (bstr mt)])) (ho : OwnI 2 TagI w' base 24 N (.slice oA' ((othE es).length + 1) oc') ((othE es).length + 1) (othE es ++ [(q, d)])) : RdrS N w' g base mt (es ++ [(q, d)]) := by
  have hl : (othE es ++ [(q, d)]).length = (othE es).length + 1 := by simp
  refine ⟨oA', oc', ?_, ?_⟩
  · rw [oth_spare hs, shOf_spare hq hs, hl]
    exact hb
  · rw [oth_spare hs, hl]
    exact ho
theorem RdrS.no {N : Nat → Prop} {w w' : World} {g base : Nat} {mt : List UInt8} {es : List El} (h : RdrS N w g base mt es) (hf : Fr No w w') : RdrS N w' g base mt es := by
  obtain ⟨oA, oc, hb, ho⟩ := h
  exact ⟨oA, oc, hb.no hf, OwnI.no tag_ok ho hf⟩
theorem oth_le (es : List El) : (othE es).length ≤ es.length := List.length_filter_le _ _
/-- what one element says, laid -/
theorem f_lay {N : Nat → Prop} {w : World} {g : Nat} (hNg : ∀ i, N i → i < g) {mt : List UInt8} {es : List El} {q : Int} {D : Option Addr} {m c : Nat} {d : List UInt8} (h : RdrS N w g (g + 1) mt es) (hq : q ∉ nosOf es) (hes : es.length ≤ 1000) (hd : Rd w D m c (u8s d)) (hD : ∀ ad, D = some ad → 0 < m → N ad.block) (hno : (Lit.int .i64 q).wf = true) (hT : Tabs w) :
    Calls Tryz.prog 47 #[.pointer (some ⟨g, 0, none⟩), .agg #[.int .i64 q, .slice D m c]] w fun e w' => e = .returned (.tuple #[]) ∧ RdrS N w' g (g + 1) mt (es ++ [(q, d)]) ∧ Fr (fun i => i = g ∨ g < i) w w' := by
  obtain ⟨oA, oc, hb, ho⟩ := h
  have hle := oth_le es
  cases hs : spareP q with
  | false =>
    refine (f_lay_text hb hd (fun ad e h0 => hNg _ (hD ad e h0)) hs (wf_i64 hno) hT).mono ?_
    rintro e w' ⟨rfl, hb', hf⟩
    exact ⟨rfl, rdr_text hq hs hb' (OwnI.fr tag_ok ho hf (fun i hi e => by have : i = g := e; have := hNg i hi; omega) (fun i hi e => by have := ho.lt i hi; have : i = g := e; omega)), hf.mono (fun i x => .inl x)⟩
  | true =>
    refine (f_lay_spare hNg (s := shOf es oA (othE es).length oc) (n := (othE es).length) hb hd hD hs hno rfl ho (Nat.lt_succ_self g) hb.lt (by omega) hT).mono ?_
    rintro e w' ⟨rfl, oA', oc', hb', ho', hf⟩
    exact ⟨rfl, rdr_spare hq hs hb' ho', hf.mono (fun i x => by rcases x with x | x; exact .inl x; exact .inr (ho.lt i x).1)⟩
set_option maxHeartbeats 2000000 in
theorem f_read {w : World} {N : Nat → Prop} {mt : List UInt8} {A : Option Addr} {n c : Nat} {es : List El} (hr : RdI 2 TagI w N A n c es) (hN : ∀ i, N i → i < w.heap.size) (hp : (nosOf es).Pairwise (· < ·)) (hn : n ≤ 1000) (hT : Tabs w) :
    Calls Tryz.prog 15 #[.agg #[.string (bstr mt), .slice A n c]] w fun e w' => ∃ g, e = .returned (.pointer (some ⟨g, 0, none⟩)) ∧ w.heap.size < g ∧ g < w'.heap.size ∧ RdrS N w' g (g + 1) mt es ∧ Fr No w w' := by
  have HR := Lib.hid hr; have HN := Lib.hid hN; have HP := Lib.hid hp; have HT := Lib.hid hT
  have HL := Lib.hid (hr.len tag_ok (by omega))
  have hcap : n ≤ c ∧ c ≤ 9223372036854775807 := by
    obtain ⟨xs, h1, _⟩ := hr.xs
    have := h1.cap; have := h1.max
    simp only [maxLen] at *
    omega
  obtain ⟨M, hM⟩ : ∃ M, bstr mt = M := ⟨_, rfl⟩
  rw [hM]
  clear hr hN hp hT
  go_enter Tryz.func15, Tryz.ntmps15
  go_upto_region 3 with fail
  have hb2 : Bk ((w.alloc (.cells #[Value.string M, Value.slice A n c] 27)).alloc (.cells ((shOf [] none 0 0).cells ++ [Value.string M]).toArray 62)) (w.heap.size + 1) 62 ((shOf [] none 0 0).cells ++ [Value.string M]) := by
    have h := Bk.new (w.alloc (.cells #[Value.string M, Value.slice A n c] 27)) 62 ((shOf [] none 0 0).cells ++ [Value.string M]).toArray
    have hz : (w.alloc (.cells #[Value.string M, Value.slice A n c] 27)).heap.size = w.heap.size + 1 := by simp
    rw [hz] at h
    exact h
  have hf2 : Fr No w ((w.alloc (.cells #[Value.string M, Value.slice A n c] 27)).alloc (.cells ((shOf [] none 0 0).cells ++ [Value.string M]).toArray 62)) := ((Fr.refl No w).alloc _).alloc _
  have hw2 : ∃ w2, (w.alloc (.cells #[Value.string M, Value.slice A n c] 27)).alloc (.cells ((shOf [] none 0 0).cells ++ [Value.string M]).toArray 62) = w2 := ⟨_, rfl⟩
  obtain ⟨w2, hw2⟩ := hw2
  rw [hw2] at hb2 hf2
  have hw3 : ((w.alloc (Obj.cells #[Value.string M, Value.slice A n c] 27)).alloc
      (Obj.cells
        #[Value.int IntKind.i64 0, Value.int IntKind.i64 0, Value.string { data := #[] }, Value.string { data := #[] },
          Value.string { data := #[] }, Value.string { data := #[] }, Value.int IntKind.u64 0,
          Value.string { data := #[] }, Value.string { data := #[] }, Value.string { data := #[] },
          Value.string { data := #[] }, Value.int IntKind.i64 0, Value.string { data := #[] },
          Value.string { data := #[] }, Value.int IntKind.i64 0, Value.string { data := #[] }, Value.slice none 0 0,
          Value.string { data := #[] }, Value.string { data := #[] }, Value.slice none 0 0, Value.slice none 0 0,
          Value.string { data := #[] }, Value.string { data := #[] }, Value.string { data := #[] },
          Value.string { data := #[] }, Value.string { data := #[] }, Value.string { data := #[] },
          Value.string { data := #[] }, Value.string M]
        62)) = w2 := hw2
  rw [hw3]
  obtain ⟨g, hg⟩ : ∃ g, w.heap.size + 1 = g := ⟨_, rfl⟩
  rw [hg] at hb2 ⊢
  have HS2 := Lib.hid (show g < w2.heap.size from hb2.lt)
  have HB2 := Lib.hid hb2; have HF2 := Lib.hid hf2; have HG := Lib.hid hg
  clear hb2 hf2 hw2 hw3 hg
  go_loopw [13] (fun v wr => ∃ (k : Nat), k ≤ n ∧ v = .int .i64 (k : Int) ∧ Fr No w wr ∧ RdrS N wr g (g + 1) mt (es.take k)) (fun v _ => n - (intOf v).toNat)
  case atStart =>
    refine ⟨0, by omega, rfl, HF2.out, none, 0, ?_, OwnI.nil_ _ _ _ _ _ _⟩
    rw [hM]
    exact HB2.out
  case round =>
    obtain ⟨k, hk, rfl, hfr, hst⟩ := hrel
    rcases Nat.lt_or_ge k n with hlt | hge
    · obtain ⟨ad, cs, a, rfl, ⟨B, m, dc, rfl, h1, h2, h3, h4⟩, hak, hc0, hc1⟩ := two_cells tag_ok (HR.out.no tag_ok hfr) hlt
      have c0 := hc0 _ rfl
      have c1 := hc1 _ rfl
      obtain ⟨q, d⟩ := a
      dsimp only at c0 h1 h3
      have hkI : (k : Int) < (n : Int) := by omega
      have hfa : ∀ ob, Fr No wr (wr.alloc ob) := fun ob => (Fr.refl No wr).alloc ob
      obtain ⟨hsn, hnot⟩ := nos_snoc HP.out hak
      have hL : (es.take k).length ≤ 1000 := by rw [List.length_take]; omega
      have HLY := Lib.hid (fun ob => f_lay (fun i hi => by have := HN.out i hi; have := HG.out; omega) (hst.no (hfa ob)) hnot hL (h1.no (hfa ob)) h2 h3 ((HT.out.fr hfr).fr (hfa ob)))
      rw [← hsn] at HLY
      have HFA := Lib.hid (fun ob => hfr.trans (hfa ob))
      clear hfr hst h1 h2 h3 h4 hak hc0 hc1 hfa hsn hnot hL
      go_wp2_with (go_at_call 47; refine (HLY.out _).mono ?_; rintro e w4 ⟨rfl, r4, f4⟩; have R4 := Lib.hid r4; have F4 := Lib.hid ((HFA.out _).trans_new f4 (fun i hi => .inr (by have := HG.out; rcases hi with x | x <;> omega))); clear r4 f4)
      go_roundw
      case rel => exact ⟨k + 1, by omega, by go_num, F4.out, R4.out⟩
      case measure => simp [intOf]; omega
    · obtain rfl : k = n := by omega
      go_wp2
      go_ret
      rw [List.take_of_length_le (by rw [HL.out]; exact Nat.le_refl _)] at hst
      exact ⟨g, rfl, by have := HG.out; omega, hst.choose_spec.choose_spec.1.lt, hst, hfr⟩
end Go.Proofs.YthlgnmgjfgbffaaGreatDoor
