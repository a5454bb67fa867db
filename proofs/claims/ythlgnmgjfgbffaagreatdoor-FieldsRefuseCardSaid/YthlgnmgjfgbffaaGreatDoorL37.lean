/- The texts FldE2, FldE3, FldE4, FldE5a, FldE5, joined. -/
import Derived.Test.YthlgnmgjfgbffaaGreatDoorL12
import Derived.Test.YthlgnmgjfgbffaaGreatDoorL33
import Derived.Test.YthlgnmgjfgbffaaGreatDoorL36
import Derived.Test.YthlgnmgjfgbffaaGreatDoorL42
import Derived.Test.YthlgnmgjfgbffaaGreatDoorL32
/- Package fields: whether other elements rise; the elements of a message. -/
namespace Go.Proofs.YthlgnmgjfgbffaaGreatDoor
open Go.RowKit
set_option maxHeartbeats 2000000
set_option linter.unusedVariables false
set_option maxRecDepth 20000

theorem spr_at {es : List El} {k : Nat} {q : Int} {d : List UInt8} {last : Int} (hk : es[k]? = some (q, d)) : sprB last (es.drop k) = (spareP q && (decide (last < q) && sprB q (es.drop (k + 1)))) := by
  obtain ⟨hl, he⟩ := List.getElem?_eq_some_iff.1 hk
  rw [List.drop_eq_getElem_cons hl, he]
  rfl
def sprE (es : List El) : Int := if sprB 0 es = true then 0 else 1
section
variable {w : World} {g : Nat} {T : TypeId} {cs : List Value}
theorem f_wspare {A : Option Addr} {n c : Nat} {es : List El} {N : Nat → Prop} (h : Bk w g T cs) (h20 : cs[20]? = some (.slice A n c)) (hr : RdI 2 TagI w N A n c es) (hT : Tabs w) :
    Calls Tryz.prog 66 #[.pointer (some ⟨g, 0, none⟩)] w fun e w' => e = .returned (.int .i64 (sprE es)) ∧ Fr No w w' := by
  have c20 := (h.cell 20).trans h20
  have HR := Lib.hid hr
  have HL := Lib.hid (hr.len tag_ok (by omega))
  have htop := hr.top
  have HT := Lib.hid hT
  clear h h20 hr hT
  go_enter Tryz.func66, Tryz.ntmps66
  go_upto_region 3 with fail
  go_loopw [3, 13] (fun lv iv wr => ∃ (k : Nat) (last : Int), k ≤ n ∧ iv = .int .i64 (k : Int) ∧ lv = .int .i64 last ∧ Fr No w wr ∧ sprB 0 es = sprB last (es.drop k)) (fun _ v _ => n - (intOf v).toNat)
  case atStart => exact ⟨0, 0, by omega, rfl, rfl, Fr.refl _ _, rfl⟩
  case round =>
    obtain ⟨k, last, hk, rfl, rfl, hfr, hsp⟩ := hrel
    rcases Nat.lt_or_ge k n with hlt | hge
    · obtain ⟨ad, cs', a, rfl, ⟨B, m, dc, rfl, h1, h2, h3, h4⟩, hak, hc0, hc1⟩ := two_cells tag_ok (HR.out.no tag_ok hfr) hlt
      have c0 := hc0 _ rfl
      have c1 := hc1 _ rfl
      obtain ⟨q, d⟩ := a
      dsimp only at c0 h1 h3
      obtain ⟨q0, q1⟩ := wf_i64 h3
      have hkI : (k : Int) < (n : Int) := by omega
      have hsp2 := hsp.trans (spr_at hak)
      have HS := Lib.hid hsp2
      have HSPR := Lib.hid (fun u (hu : Tabs u) => el_spare_any q u hu)
      have HFA := Lib.hid (fun ob => hfr.trans ((Fr.refl No wr).alloc ob))
      have e0 : ∀ ob, (wr.alloc ob).cell? ⟨wr.heap.size, 0, none⟩ = (match ob with | .cells cs _ _ => cs[0]? | _ => none) → True := fun _ _ => True.intro
      clear hfr hsp hsp2 h1 h2 h3 h4 hak hc0 hc1 e0
      have hB5 := Lib.hid (Bk.new wr 24 #[.int .i64 q, .slice B m dc])
      cases hs : spareP q with
      | false =>
        have HSP := Lib.hid (fun u (hu : Tabs u) => (show Calls Tryz.prog 84 #[.int .i64 q] u fun e w' => e = .returned (.bool false) ∧ Fr No u w' by have := HSPR.out u hu; rwa [show (elGet q).spare = false from hs] at this))
        have hres : sprB 0 es = false := by rw [HS.out, hs]; rfl
        have HRES := Lib.hid hres
        clear HSPR hs hres
        go_wp2_with (go_at_call 84; refine (HSP.out _ (HT.out.fr (HFA.out _))).mono ?_; rintro e w4 ⟨rfl, f4⟩; have F4 := Lib.hid ((HFA.out _).trans f4); clear f4)
        go_ret
        have hE : sprE es = 1 := by unfold sprE; rw [HRES.out]; rfl
        rw [hE]
        exact ⟨rfl, F4.out⟩
      | true =>
        have HSP := Lib.hid (fun u (hu : Tabs u) => (show Calls Tryz.prog 84 #[.int .i64 q] u fun e w' => e = .returned (.bool true) ∧ Fr No u w' by have := HSPR.out u hu; rwa [show (elGet q).spare = true from hs] at this))
        have hs2 : sprB 0 es = (decide (last < q) && sprB q (es.drop (k + 1))) := by rw [HS.out, hs]; rfl
        have HS2 := Lib.hid hs2
        clear HSPR hs hs2 HS
        by_cases hq : q ≤ last
        · have hres : sprB 0 es = false := by rw [HS2.out, decide_eq_false (by omega)]; rfl
          have HRES := Lib.hid hres
          clear hres HS2
          go_wp2_with (go_at_call 84; refine (HSP.out _ (HT.out.fr (HFA.out _))).mono ?_; rintro e w4 ⟨rfl, f4⟩; have F4 := Lib.hid ((HFA.out _).trans f4); have d0 : w4.cell? ⟨wr.heap.size, 0, none⟩ = some (.int .i64 q) := (hB5.out.no f4).cell 0; clear f4)
          go_ret
          have hE : sprE es = 1 := by unfold sprE; rw [HRES.out]; rfl
          rw [hE]
          exact ⟨rfl, F4.out⟩
        · have hres : sprB 0 es = sprB q (es.drop (k + 1)) := by rw [HS2.out, decide_eq_true (by omega)]; rfl
          have HRES := Lib.hid hres
          clear hres HS2
          go_wp2_with (go_at_call 84; refine (HSP.out _ (HT.out.fr (HFA.out _))).mono ?_; rintro e w4 ⟨rfl, f4⟩; have F4 := Lib.hid ((HFA.out _).trans f4); have d0 : w4.cell? ⟨wr.heap.size, 0, none⟩ = some (.int .i64 q) := (hB5.out.no f4).cell 0; clear f4)
          go_roundw
          case rel => exact ⟨k + 1, q, by omega, by go_num, rfl, F4.out, HRES.out⟩
          case measure => simp [intOf]; omega
    · obtain rfl : k = n := by omega
      rw [List.drop_eq_nil_of_le (by rw [HL.out]; exact Nat.le_refl _)] at hsp
      have HS := Lib.hid hsp
      clear hsp
      go_wp2
      go_ret
      have hE : sprE es = 0 := by unfold sprE; rw [HS.out]; rfl
      rw [hE]
      exact ⟨rfl, hfr⟩
end
end Go.Proofs.YthlgnmgjfgbffaaGreatDoor
/- Package fields: the elements of a message. -/
namespace Go.Proofs.YthlgnmgjfgbffaaGreatDoor
open Go.RowKit
set_option maxHeartbeats 4000000
set_option linter.unusedVariables false
set_option maxRecDepth 20000

theorem pick_snoc (K : List Int) (n : Int) (f : Int → Option (List UInt8)) : pickL (K ++ [n]) f = pickL K f ++ (match f n with | none => [] | some d => [(n, d)]) := by
  unfold pickL
  rw [List.filterMap_append]
  congr 1
  cases h : f n <;> simp [h]
def optT (s : FSh) (n : Int) : Option (List UInt8) := optF (s.txt n)
theorem pick_next {s : FSh} {k : Nat} {no : Int} {o : Nat} (h : plL[k]? = some (no, o)) (hf : fldNos[k]? = some no) : pickL (fldNos.take (k + 1)) (optT s) = pickL (fldNos.take k) (optT s) ++ (if s.txt no = [] then [] else [(no, s.txt no)]) := by
  obtain ⟨hl, he⟩ := List.getElem?_eq_some_iff.1 hf
  rw [List.take_succ_eq_append_getElem hl, he, pick_snoc]
  congr 1
  unfold optT optF
  split <;> rename_i h1
  · split at h1
    · rename_i h2; rw [if_pos h2]
    · cases h1
  · split at h1
    · cases h1
    · rename_i h2
      rw [if_neg h2]
      injection h1 with h1
      rw [h1]
theorem pick_le (K : List Int) (f : Int → Option (List UInt8)) : (pickL K f).length ≤ K.length := List.length_filterMap_le _ _
set_option maxHeartbeats 8000000 in
theorem f_picked {w : World} {g : Nat} {s : FSh} {T : TypeId} {P : Nat} {w2 : World} (h : Bk w2 g T s.cells) (hP : Bk w2 P 124 (plV g)) (hs : ∀ n, (s.txt n).length ≤ 100000) (hfr : Fr No w w2) : True := True.intro
/-- a row of one's own that holds something -/
theorem own_some {w : World} {base : Nat} {e : TypeId} {N : Nat → Prop} {v : Value} {n : Nat} {es : List El} (h : OwnI 2 TagI w base e N v n es) (hn : 0 < n) : ∃ g cap, v = .slice (some ⟨g, 0, none⟩) n cap ∧ base ≤ g ∧ (∀ i, w.frozen? ⟨g, i, none⟩ = false) ∧ g < w.heap.size := by
  obtain ⟨xs, ho, -⟩ := h.xs
  rcases ho.2 with ⟨_, h0⟩ | ⟨g, cap, cur, rfl, hb, hg, _⟩
  · omega
  · exact ⟨g, cap, rfl, hb, fun i => by simp [World.frozen?, hg], (Array.getElem?_eq_some_iff.1 hg).1⟩
theorem wf_of {no : Int} (h0 : -9223372036854775808 ≤ no) (h1 : no ≤ 9223372036854775807) : (Lit.int .i64 no).wf = true := by
  simp [Lit.wf, IntKind.min, IntKind.max, IntKind.signed, IntKind.bits]
  omega
theorem f_elements {w : World} {g : Nat} {T : TypeId} {s : FSh} {N0 : Nat → Prop} {other : List El} (h : Bk w g T s.cells) (hr : RdI 2 TagI w N0 s.oA s.on s.oc other) (hN : ∀ i, N0 i → i < w.heap.size) (hs : ∀ n, (s.txt n).length ≤ 100000) (h11 : s.txt 11 ≠ []) (hon : s.on ≤ 900)
    (hrise : (nosOf other).Pairwise (· < ·)) (hap : ∀ n ∈ nosOf other, n ∉ fldNos) :
    Calls Tryz.prog 70 #[.pointer (some ⟨g, 0, none⟩)] w fun e w' => ∃ A c, e = .returned (.slice A (mergeL (pickL fldNos (optT s)) other).length c) ∧ RdI 2 TagI w' (fun i => i < w'.heap.size) A (mergeL (pickL fldNos (optT s)) other).length c (mergeL (pickL fldNos (optT s)) other) ∧ Fr No w w' := by
  have H := Lib.hid h; have HR := Lib.hid hr; have HN0 := Lib.hid hN; have HSZ := Lib.hid hs; have H11 := Lib.hid h11; have HON := Lib.hid hon; have HRI := Lib.hid hrise; have HAP := Lib.hid hap
  have HGL := Lib.hid h.lt
  clear h hr hN hs h11 hon hrise hap
  go_enter Tryz.func70, Tryz.ntmps70
  go_upto_region 3 with (go_at_call 85; refine (f_places w g).mono ?_; rintro e w2 ⟨rfl, u1, hd1, rfl⟩)
  have hP1 : u1.heap.size = w.heap.size := by rw [hd1.heap]
  have HP := Lib.hid (Bk.new u1 124 (plV g).toArray)
  have F2 := Lib.hid ((Dr.fr (S := No) hd1).alloc (.cells (plV g).toArray 124))
  rw [hP1] at HP
  have HZW := Lib.hid (show (u1.alloc (.cells (plV g).toArray 124)).heap.size = w.heap.size + 1 by rw [← hP1]; simp)
  generalize u1.alloc (.cells (plV g).toArray 124) = w2 at *
  clear hP1 hd1
  obtain ⟨base, hbase⟩ : ∃ base, w.heap.size = base := ⟨_, rfl⟩
  rw [hbase] at HP HGL HZW ⊢
  have HBASE := Lib.hid hbase
  clear hbase
  go_loopw [3, 11] (fun ov iv wr => ∃ (k : Nat), k ≤ 16 ∧ iv = .int .i64 (k : Int) ∧ Fr No w2 wr ∧ OwnE wr (base + 1) ov (pickL (fldNos.take k) (optT s))) (fun _ v _ => 16 - (intOf v).toNat)
  case atStart => exact ⟨0, by omega, rfl, Fr.refl _ _, OwnE.nil_ _ _⟩
  case round =>
    obtain ⟨k, hk, rfl, hfr, ho⟩ := hrel
    obtain ⟨oA, oc, rfl, -⟩ := OwnI.rd' ho (M := fun _ => True) (fun _ _ => trivial) tag_ok (fun _ _ => trivial)
    rcases Nat.lt_or_ge k 16 with hlt | hge
    · obtain ⟨no, o, hpl, hv0, hv1, hol, hfn, hb0, hb1⟩ := pl_at g k hlt
      have hPB := HP.out.no hfr
      have hGB := (H.out.no F2.out).no hfr
      have c0 := (hPB.cell (k * 2)).trans hv0
      have c1 := (hPB.cell (k * 2 + 1)).trans hv1
      have htx := pl_text s [] k no o hpl
      rw [List.append_nil] at htx
      have hkI : (k : Int) < 16 := by omega
      have HNX := Lib.hid (pick_next (s := s) hpl hfn)
      have FA := Lib.hid (fun ob => hfr.trans ((Fr.refl No wr).alloc ob))
      have GA := Lib.hid (fun ob => hGB.no ((Fr.refl No wr).alloc ob))
      have HTX := Lib.hid htx
      have HO := Lib.hid ho
      have eo : ∀ ob, (wr.alloc ob).cell? ⟨g, o, none⟩ = some (.string (bstr (s.txt no))) := fun ob => ((hGB.no ((Fr.refl No wr).alloc ob)).cell o).trans htx
      have HLE := Lib.hid (pick_le (fldNos.take k) (optT s))
      have HDL := Lib.hid (HSZ.out no)
      have HBS := Lib.hid (show base < wr.heap.size by have h1 := HP.out.lt; have h2 := hfr.size; omega)
      generalize s.txt no = d at *
      clear hfr hPB hGB hv0 hv1 hpl hfn htx ho
      obtain ⟨D, hD⟩ : ∃ D, bstr d = D := ⟨_, rfl⟩
      rw [hD] at eo HTX
      have HD := Lib.hid hD
      by_cases hd : d = []
      · have hbb : (D.toList == []) = true := by rw [← hD, hd, bstr_toList]; rfl
        have HDE := Lib.hid hd
        clear hD hd
        go_wp2
        go_roundw
        case rel =>
          have hx := HNX.out
          rw [if_pos HDE.out, List.append_nil] at hx
          refine ⟨k + 1, by omega, by go_num, FA.out _, ?_⟩
          rw [hx]
          exact HO.out.no ((Fr.refl No wr).alloc _)
        case measure => simp [intOf]; omega
      · have hbb : (D.toList == []) = false := by rw [← hD, bstr_toList]; cases d with | nil => exact absurd rfl hd | cons _ _ => rfl
        have HDE := Lib.hid hd
        clear hD hd
        go_upto_region 6 with fail
        have B5 := Lib.hid (Bk.new wr 124 #[.int .i64 no, .pointer (some ⟨g, o, none⟩)])
        have F5 := Lib.hid (FA.out (.cells #[.int .i64 no, .pointer (some ⟨g, o, none⟩)] 124))
        have G5 := Lib.hid (GA.out (.cells #[.int .i64 no, .pointer (some ⟨g, o, none⟩)] 124))
        have HO5 := Lib.hid (HO.out.no ((Fr.refl No wr).alloc (.cells #[.int .i64 no, .pointer (some ⟨g, o, none⟩)] 124)))
        have t0 := eo (.cells #[.int .i64 no, .pointer (some ⟨g, o, none⟩)] 124)
        have z5 : base + 1 ≤ (wr.alloc (.cells #[.int .i64 no, .pointer (some ⟨g, o, none⟩)] 124)).heap.size := by have := HBS.out; simp; omega
        generalize wr.alloc (.cells #[.int .i64 no, .pointer (some ⟨g, o, none⟩)] 124) = w5 at *
        obtain ⟨pb, hpb⟩ : ∃ pb, wr.heap.size = pb := ⟨_, rfl⟩
        rw [hpb] at B5 ⊢
        have p0 := B5.out.cell 0
        have p1 := B5.out.cell 1
        have Z5 := Lib.hid z5
        have FD := Lib.hid ((Fr.refl No w5).drew)
        have HWF := Lib.hid (wf_of hb0 hb1)
        have VB := Lib.hid (fun i (e : (Value.slice oA (pickL (fldNos.take k) (optT s)).length oc).ownBlock = some i) => HO5.out.lt i e)
        have hl16 : (pickL (fldNos.take k) (optT s)).length ≤ 16 := by have h1 := HLE.out; rw [List.length_take] at h1; omega
        have HL16 := Lib.hid hl16
        have HKK := Lib.hid hlt
        generalize pickL (fldNos.take k) (optT s) = ls at *
        clear eo FA GA HO HBS hpb z5 hl16 hlt c0 c1
        obtain ⟨dl, hdl⟩ : ∃ dl, d.length = dl := ⟨_, rfl⟩
        have HDLL := Lib.hid hdl
        rw [hdl] at HDL
        clear hdl
        obtain ⟨c3, w3, hrun, ho3, f3, z3⟩ := conv_own (P := Tryz.prog) w5.drew 9 22 5 d Tryz.underlying9 Tryz.underlying22 Tryz.underlying5 (by simp only [maxLen]; rw [HDLL.out]; have := HDL.out; omega)
        have hz0 : w5.drew.heap.size = w5.heap.size := rfl
        rw [HD.out, hz0] at hrun
        rw [hz0] at ho3 z3
        obtain ⟨V3, c3', e3, hr3, hv3⟩ := ownM_rd ho3
        injection e3 with e31 _ e32
        subst e31 e32
        have F3 := Lib.hid (FD.out.trans f3)
        have R3 := Lib.hid hr3
        have Z3 := Lib.hid z3
        have q0 := (B5.out.no F3.out).cell 0
        have q1 := (B5.out.no F3.out).cell 1
        have qt := F3.out.cell t0 (fun x => x)
        have qa0 := fun ob => (B5.out.no (F3.out.alloc ob)).cell 0
        clear ho3 hr3 hv3 f3 z3 hz0
        go_region_law (first
          | (go_must (refine stepE1 w3 (w3.alloc (.cells #[.int .i64 no, .slice (some ⟨w5.heap.size, 0, none⟩) d.length c3] 24)) rfl (.tmp 20) (.tmp 29) rfl (base + 1) (.slice oA ls.length oc) ls.length ls (IsoN (base + 1) w5 (.slice oA ls.length oc)) (fun i => w5.heap.size ≤ i ∧ i < w3.heap.size) (by rfl) (OwnI.no tag_ok HO5.out F3.out) (no, d) [.int .i64 no, .slice (some ⟨w5.heap.size, 0, none⟩) d.length c3] ⟨some ⟨w5.heap.size, 0, none⟩, d.length, c3, rfl, R3.out, (fun ad e _ => by injection e with e; subst e; exact ⟨Nat.le_refl _, (show w5.heap.size < w3.heap.size by have := Z3.out; omega)⟩), HWF.out, (by rw [HDLL.out]; have := HDL.out; omega)⟩ 24 (Fr.refl _ _) (by simp) w3.heap.size rfl (by rfl) (by have := HL16.out; omega) (by have h1 := Z5.out; have h2 := F3.out.size; omega) (fun i hi => hi.2.2) (fun i hi e => by have := (VB.out i e).2; omega) ?_); intro vA4 vc4 w4 ho4 hg4 hr4; have O4 := Lib.hid (owne_moreW F3.out HO5.out ho4 (by simp) hg4 hr4 Z5.out); have F4 := Lib.hid (((Fr.refl No w3).alloc (.cells #[.int .i64 no, .slice (some ⟨w5.heap.size, 0, none⟩) d.length c3] 24)).no.grown hg4 (fun i e => .inl e) (S := fun i => (Value.slice oA ls.length oc).ownBlock = some i)); clear ho4 hg4 hr4))
        all_goals
          clear p0 p1 q0 q1 qt qa0 t0 hrun
          go_wp2_with fail
          have hF4 : Fr No w2 w4 := (F5.out.trans F3.out).trans_new F4.out (fun i hi => .inr (by have h1 := (VB.out i hi).1; have h2 := HZW.out; omega))
          have hx := HNX.out
          rw [if_neg HDE.out] at hx
          have HFF := Lib.hid hF4
          have HXX := Lib.hid hx
          clear hF4 hx
          go_roundw
          case rel =>
            refine ⟨k + 1, by have := HKK.out; omega, by go_num, HFF.out, ?_⟩
            rw [HXX.out]
            have h5 := O4.out
            have hl : (ls ++ [(no, d)]).length = ls.length + 1 := by simp
            exact h5
          case measure => have := HKK.out; simp [intOf]; omega
    · obtain rfl : k = 16 := by omega
      have hfull : fldNos.take 16 = fldNos := rfl
      rw [hfull] at ho ⊢
      have hle := pick_le fldNos (optT s)
      have hl16 : fldNos.length = 16 := rfl
      have hpos : 0 < (pickL fldNos (optT s)).length := by
        have hm : (11, s.txt 11) ∈ pickL fldNos (optT s) := by
          unfold pickL
          rw [List.mem_filterMap]
          exact ⟨11, by decide, by unfold optT optF; rw [if_neg H11.out]; rfl⟩
        exact List.length_pos_of_mem hm
      have hsubp : ∀ n ∈ nosOf (pickL fldNos (optT s)), n ∈ fldNos := fun n hn => (pick_sub fldNos (optT s)).subset hn
      have hap2 : ∀ n ∈ nosOf (pickL fldNos (optT s)), n ∉ nosOf other := fun n hn hn2 => HAP.out n hn2 (hsubp n hn)
      have hrp : (nosOf (pickL fldNos (optT s))).Pairwise (· < ·) := rise_pick fldNos_rise _
      have HMP := Lib.hid (merge_perm _ (pickL fldNos (optT s)) other (Nat.le_refl _))
      have HMR := Lib.hid (merge_rise _ (pickL fldNos (optT s)) other (Nat.le_refl _) hrp HRI.out hap2)
      have c20 : wr.cell? ⟨g, 20, none⟩ = some (.slice s.oA s.on s.oc) := ((((H.out.no F2.out).no hfr)).cell 20).trans rfl
      obtain ⟨ys, hry, hye⟩ := ((HR.out.no tag_ok F2.out).no tag_ok hfr).xs
      have hz : w2.heap.size ≤ wr.heap.size := hfr.size
      have HWR := Lib.hid hz
      have hfw : Fr No w wr := F2.out.trans hfr
      have HFW := Lib.hid hfw
      have hon : other.length = s.on := HR.out.len tag_ok (by omega)
      have HONL := Lib.hid hon
      have VB := Lib.hid (fun i (e : (Value.slice oA (pickL fldNos (optT s)).length oc).ownBlock = some i) => ho.lt i e)
      have ho2 : OwnI 2 TagI wr (base + 1) 24 (fun i => IsoN (base + 1) wr (.slice oA (pickL fldNos (optT s)).length oc) i ∨ N0 i) (.slice oA (pickL fldNos (optT s)).length oc) (pickL fldNos (optT s)).length (pickL fldNos (optT s)) := ho.mono tag_ok (fun i hi => .inl hi)
      have HO2 := Lib.hid ho2
      have hye2 : ItemsF TagI wr (fun i => IsoN (base + 1) wr (.slice oA (pickL fldNos (optT s)).length oc) i ∨ N0 i) ys other := ItemsF.mono tag_ok hye (fun i hi => .inr hi)
      have HY1 := Lib.hid hry; have HY2 := Lib.hid hye2
      have HPOS := Lib.hid hpos; have HLE2 := Lib.hid hle
      obtain ⟨ii, hii, hiz, hi1, hi2⟩ := info_parts info_elm
      clear hfull hle hl16 hpos hsubp hap2 hrp hry hye hye2 hz hfw hon ho2 ho hfr hk hge
      generalize hls : pickL fldNos (optT s) = ls at *
      have HLS := Lib.hid hls
      clear hls
      go_upto_region 9 with (at_builtin; go_must (refine apI2 _ tag_ok (by omega) rfl (.tmp 32) (.tmp 38) 25 rfl (base + 1) 24 ii _ 32 Tryz.underlying25 hii hiz hi1 hi2 rfl (.slice oA ls.length oc) ls.length ls other rfl HO2.out s.oA s.on s.oc rfl ys HY1.out HY2.out (by simp only [maxLen]; have := HON.out; have := HLE2.out; have h3 : fldNos.length = 16 := rfl; omega) (by have := HON.out; have := HLE2.out; have h3 : fldNos.length = 16 := rfl; omega) (by have := HWR.out; have := HZW.out; omega) (fun i hi e => by rcases hi with hi | hi; exact hi.2.2 e; have h1 := HN0.out i hi; have h2 := (VB.out i e).1; have h3 := HBASE.out; omega) ?_); intro v4 w4 ho4 hg4 hr4; obtain ⟨gg, cap4, e4, hb4, hz4, hgl4⟩ := own_some ho4 (by have := HPOS.out; omega); subst e4; have O4 := Lib.hid ho4; have G4 := Lib.hid hg4; have V4 := Lib.hid hr4; have Z4 := Lib.hid hz4; have L4 := Lib.hid hgl4; have BB4 := Lib.hid hb4; clear ho4 hg4 hr4 hz4 hgl4 hb4)
      have hnk : ∀ i, (IsoN (base + 1) wr (.slice oA ls.length oc) i ∨ N0 i) → i ≠ gg := fun i hi e => by
        rcases hi with hi | hi
        · rcases V4.out with hv | hv
          · exact hi.2.2 (by rw [← hv, e]; rfl)
          · have h1 : (some gg : Option Nat) = some wr.heap.size := hv
            injection h1 with h1
            have := hi.2.1
            omega
        · have h1 := HN0.out i hi
          have h2 := BB4.out
          have h3 := HBASE.out
          omega
      obtain ⟨xs4, hox4, hit4⟩ := O4.out.xs
      obtain ⟨A4, c4, e4, hrd4, -⟩ := RdS.of_own hox4
      injection e4 with e41 _ e42
      subst e41 e42
      have HSO := Lib.hid (sort_elms hrd4 hit4 Z4.out L4.out hnk (by have := HON.out; have := HLE2.out; have h3 : fldNos.length = 16 := rfl; omega) ⟨_, HMP.out, HMR.out⟩)
      have F4 := Lib.hid ((Fr.refl (fun i => (Value.slice oA ls.length oc).ownBlock = some i) wr).grown G4.out (fun i e => .inl e))
      clear hnk hox4 hit4 hrd4 c20
      go_wp2_with (go_at_call 117; refine (HSO.out).mono ?_; rintro e w5 ⟨rfl, rs, hp5, hr5, hd5, f5⟩; have P5 := Lib.hid hp5; have R5 := Lib.hid hr5; have D5 := Lib.hid hd5; have F5 := Lib.hid f5; clear hp5 hr5 hd5 f5)
      go_ret
      have hml : rs = mergeL ls other := rise_perm (P5.out.trans HMP.out.symm) (List.pairwise_map.1 R5.out) (List.pairwise_map.1 HMR.out)
      have hlen : (mergeL ls other).length = ls.length + s.on := by rw [HMP.out.length_eq, List.length_append, HONL.out]
      have hd := D5.out
      rw [hml] at hd
      rw [HLS.out, hlen]
      have hf4 : Fr No w w4 := HFW.out.trans_new F4.out (fun i hi => .inr (by have h1 := (VB.out i hi).1; have h3 := HBASE.out; omega))
      have hf5 : Fr No w w5 := hf4.trans_just F5.out (by have h2 := BB4.out; have h3 := HBASE.out; omega)
      refine ⟨_, _, rfl, hd.mono tag_ok (fun i hi => ?_), hf5⟩
      have hs5 : w4.heap.size ≤ w5.heap.size := F5.out.size
      have hs4 : wr.heap.size ≤ w4.heap.size := F4.out.size
      rcases hi with (hi | hi) | hi
      · have := hi.2.1; omega
      · have h1 := HN0.out i hi; have h3 := HFW.out.size; omega
      · have h1 := L4.out; omega
end Go.Proofs.YthlgnmgjfgbffaaGreatDoor
/- Package fields: Encode's steps, one behind the other. -/
namespace Go.Proofs.YthlgnmgjfgbffaaGreatDoor
open Go.RowKit
set_option maxHeartbeats 1000000
set_option linter.unusedVariables false
set_option maxRecDepth 20000

/-- the texts of a message, behind k steps -/
def encT (m : MsgC) (tg : List TagL) (k : Nat) (n : Int) : List UInt8 :=
  if n = 2 then m.pan.data.toList
  else if n = 4 then (if 2 ≤ k then (if (m.cur.toList == []) = true then [] else textR m.amount.toNat 12) else [])
  else if n = 11 then (if 1 ≤ k then textR (wordN m.stan) 6 else [])
  else if n = 12 then m.time.data.toList
  else if n = 22 then (if 3 ≤ k then (if m.entry = 0 then [] else textR (wordN m.entry) 3) else [])
  else if n = 25 then m.rea.data.toList
  else if n = 32 then m.acq.data.toList
  else if n = 37 then m.rrn.data.toList
  else if n = 38 then m.app.data.toList
  else if n = 39 then m.act.data.toList
  else if n = 41 then (if 6 ≤ k then padT m.ter 8 else [])
  else if n = 42 then (if 7 ≤ k then padT m.mer 15 else [])
  else if n = 48 then m.key.data.toList
  else if n = 49 then m.cur.data.toList
  else if n = 55 then (if 13 ≤ k then wrL tg else [])
  else if n = 56 then (if 5 ≤ k then (if (m.otime.toList == []) = true then [] else textR (wordN m.ostan) 6 ++ m.otime.data.toList) else [])
  else []
def encSh (m : MsgC) (tg : List TagL) (k : Nat) : FSh := ⟨encT m tg k, m.kind, m.stan, m.amount, m.mer, m.ter, m.entry, m.ostan, m.otime, m.note, m.tA, m.tn, m.tc, m.eA, m.en, m.ec, m.oA, m.on, m.oc⟩
theorem bstr_back (s : ByteArray) : bstr s.data.toList = s := by cases s; simp [bstr]
theorem enc_msg (m : MsgC) (tg : List TagL) (k : Nat) : (encSh m tg k).msg = m := by
  have h : (encSh m tg k).msg = ⟨m.kind, m.stan, bstr m.time.data.toList, bstr m.acq.data.toList, bstr m.pan.data.toList, bstr m.cur.data.toList, m.amount, bstr m.rrn.data.toList, m.mer, m.ter, bstr m.app.data.toList, m.entry, bstr m.act.data.toList, bstr m.rea.data.toList, m.ostan, m.otime, m.tA, m.tn, m.tc, bstr m.key.data.toList, m.note, m.eA, m.en, m.ec, m.oA, m.on, m.oc⟩ := rfl
  rw [h]
  simp only [bstr_back]
/-- why each step fails -/
def fitEs (m : MsgC) : List Int := [fitsM m, if ((m.note.toList == []) && decide (m.en = 0)) = true then 0 else 19]
def encEs2 (m : MsgC) (tg : List TagL) (os : List El) : List Int := [wexE m.stan m.acq, wamE m.amount.toNat m.cur, wenE m.entry, if timeB m.time.data.toList = true then 0 else 14, worE m.ostan m.otime, padE m.ter 8, padE m.mer 15,
  if keyB m.key = true then 0 else 14, if panB m.pan = true then 0 else 14, if actB m.act = true then 0 else 20, if m.on ≤ 8 then 0 else 4, sprE os, wrE tg]
/-- a message that may come in -/
structure MsgOk (m : MsgC) : Prop where
  kind : -9223372036854775808 ≤ m.kind ∧ m.kind ≤ 9223372036854775807
  amount : 0 ≤ m.amount ∧ m.amount < 18446744073709551616
  time : m.time.size ≤ 100000
  acq : m.acq.size ≤ 100000
  pan : m.pan.size ≤ 100000
  cur : m.cur.size ≤ 100000
  rrn : m.rrn.size ≤ 100000
  mer : m.mer.size ≤ 100000
  ter : m.ter.size ≤ 100000
  app : m.app.size ≤ 100000
  act : m.act.size ≤ 100000
  rea : m.rea.size ≤ 100000
  otime : m.otime.size ≤ 50000
  key : m.key.size ≤ 100000
/-- its lists -/
structure MsgLs (w : World) (m : MsgC) (tg : List TagL) (os : List El) : Prop where
  tags : RdI 2 TagI w (fun i => i < w.heap.size) m.tA m.tn m.tc tg
  other : RdI 2 TagI w (fun i => i < w.heap.size) m.oA m.on m.oc os
theorem MsgLs.far {w w' : World} {m : MsgC} {tg : List TagL} {os : List El} {S : Nat → Prop} (h : MsgLs w m tg os) (hf : Fr S w w') (hS : ∀ i, S i → w.heap.size ≤ i) : MsgLs w' m tg os :=
  ⟨(h.tags.fr tag_ok hf (fun i hi x => by have := hS i x; omega)).mono tag_ok (fun i hi => Nat.lt_of_lt_of_le hi hf.size), (h.other.fr tag_ok hf (fun i hi x => by have := hS i x; omega)).mono tag_ok (fun i hi => Nat.lt_of_lt_of_le hi hf.size)⟩
section
variable (w0 : World) (g : Nat) (m : MsgC) (tg : List TagL) (os : List El)
def FitR (k : Nat) (u : World) : Prop := Fr (Just g) w0 u ∧ (∀ j, j < k → (fitEs m)[j]? = some 0) ∧ Bk u g 98 (encSh m tg 0).cells
def FitQ (E : Int) (u : World) : Prop := Fr (Just g) w0 u ∧ firstE (fitEs m) = E
def EncR (k : Nat) (u : World) : Prop := Fr (Just g) w0 u ∧ (∀ j, j < k → (encEs2 m tg os)[j]? = some 0) ∧ Bk u g 98 (encSh m tg k).cells
def EncQ (E : Int) (u : World) : Prop := Fr (Just g) w0 u ∧ firstE (encEs2 m tg os) = E
end
abbrev fitV (g : Nat) : List Value := [.func (.func 30) #[.pointer (some ⟨g, 0, none⟩)] #[], .func (.func 59) #[.pointer (some ⟨g, 0, none⟩)] #[]]
abbrev writV (g : Nat) : List Value := [.func (.func 60) #[.pointer (some ⟨g, 0, none⟩)] #[], .func (.func 61) #[.pointer (some ⟨g, 0, none⟩)] #[], .func (.func 62) #[.pointer (some ⟨g, 0, none⟩)] #[], .func (.func 21) #[.pointer (some ⟨g, 0, none⟩)] #[],
  .func (.func 63) #[.pointer (some ⟨g, 0, none⟩)] #[], .func (.func 64) #[.pointer (some ⟨g, 0, none⟩)] #[], .func (.func 65) #[.pointer (some ⟨g, 0, none⟩)] #[], .func (.func 25) #[.pointer (some ⟨g, 0, none⟩)] #[],
  .func (.func 26) #[.pointer (some ⟨g, 0, none⟩)] #[], .func (.func 27) #[.pointer (some ⟨g, 0, none⟩)] #[], .func (.func 28) #[.pointer (some ⟨g, 0, none⟩)] #[], .func (.func 66) #[.pointer (some ⟨g, 0, none⟩)] #[], .func (.func 67) #[.pointer (some ⟨g, 0, none⟩)] #[]]
section
variable {w0 : World} {g : Nat} {m : MsgC} {tg : List TagL} {os : List El}
theorem fit_to {k : Nat} {u w' : World} {E : Int} (h : FitR w0 g m tg k u) (he : (fitEs m)[k]? = some E) (hf : Fr No u w') : SWTo (FitR w0 g m tg (k + 1)) (FitQ w0 g m) (.returned (.int .i64 E)) w' := by
  obtain ⟨hf0, hz, hb⟩ := h
  refine ⟨E, rfl, ?_⟩
  by_cases hE : E = 0
  · refine .inl ⟨hE, hf0.trans hf.no, fun j hj => ?_, hb.no hf⟩
    rcases Nat.lt_or_ge j k with h1 | h1
    · exact hz j h1
    · obtain rfl : j = k := by omega
      rw [he, hE]
  · exact .inr ⟨hE, hf0.trans hf.no, firstE_here _ k E hz he hE⟩
theorem enc_to {k : Nat} {u w' : World} {E : Int} (h : EncR w0 g m tg os k u) (he : (encEs2 m tg os)[k]? = some E) (hf : Fr (Just g) u w') (hst : Bk w' g 98 (encSh m tg (k + 1)).cells) : SWTo (EncR w0 g m tg os (k + 1)) (EncQ w0 g m tg os) (.returned (.int .i64 E)) w' := by
  obtain ⟨hf0, hz, hb⟩ := h
  refine ⟨E, rfl, ?_⟩
  by_cases hE : E = 0
  · refine .inl ⟨hE, hf0.trans hf, fun j hj => ?_, hst⟩
    rcases Nat.lt_or_ge j k with h1 | h1
    · exact hz j h1
    · obtain rfl : j = k := by omega
      rw [he, hE]
  · exact .inr ⟨hE, hf0.trans hf, firstE_here _ k E hz he hE⟩
theorem fit_steps (ho : MsgOk m) (hT : ∀ u, Fr (Just g) w0 u → Tabs u) (i : Nat) (hi : i < 2) :
    ∃ F x, (fitV g)[i]? = some (.func (.func F) #[x] #[]) ∧ (∀ args w, (callFunc F args).run Tryz.prog w = .ok (.enter F args) w) ∧ ∀ u, FitR w0 g m tg i u → Calls Tryz.prog F #[x] u (SWTo (FitR w0 g m tg (i + 1)) (FitQ w0 g m)) := by
  have h2 : i = 0 ∨ i = 1 := by omega
  rcases h2 with rfl | rfl
  · refine ⟨_, _, rfl, fun args w => rfl, fun u h => ?_⟩
    refine (f_fits (m := m) (tl := (encSh m tg 0).texts) (by have h3 := h.2.2; unfold FSh.cells at h3; rw [enc_msg] at h3; exact h3) ho.kind.1 ho.kind.2 (hT u h.1)).mono ?_
    rintro e w' ⟨rfl, hf⟩
    exact fit_to h rfl hf
  · refine ⟨_, _, rfl, fun args w => rfl, fun u h => ?_⟩
    refine (f_sayable (N := m.note) (A := m.eA) (n := m.en) (c := m.ec) h.2.2 rfl rfl).mono ?_
    rintro e w' ⟨rfl, rfl⟩
    exact fit_to h rfl (Fr.refl _ _)
theorem enc_steps (ho : MsgOk m) (hl : ∀ u, Fr (Just g) w0 u → MsgLs u m tg os) (hT : ∀ u, Fr (Just g) w0 u → Tabs u) (i : Nat) (hi : i < 13) :
    ∃ F x, (writV g)[i]? = some (.func (.func F) #[x] #[]) ∧ (∀ args w, (callFunc F args).run Tryz.prog w = .ok (.enter F args) w) ∧ ∀ u, EncR w0 g m tg os i u → Calls Tryz.prog F #[x] u (SWTo (EncR w0 g m tg os (i + 1)) (EncQ w0 g m tg os)) := by
  have hML : ∀ {s : ByteArray}, s.size ≤ 100000 → s.size ≤ maxLen := fun h => by simp only [maxLen]; omega
  have hMM : ∀ {s : ByteArray}, s.size ≤ 100000 → s.size ≤ 140737488355328 := fun h => by omega
  have h13 : i = 0 ∨ i = 1 ∨ i = 2 ∨ i = 3 ∨ i = 4 ∨ i = 5 ∨ i = 6 ∨ i = 7 ∨ i = 8 ∨ i = 9 ∨ i = 10 ∨ i = 11 ∨ i = 12 := by omega
  rcases h13 with rfl | rfl | rfl | rfl | rfl | rfl | rfl | rfl | rfl | rfl | rfl | rfl | rfl
  · refine ⟨_, _, rfl, fun args w => rfl, fun u h => ?_⟩
    refine (f_wexchange (n := m.stan) (Ac := bstr m.acq.data.toList) h.2.2 rfl rfl rfl (hT u h.1)).mono ?_
    rintro e w' ⟨rfl, hb', hf⟩
    rw [bstr_back]
    exact enc_to h rfl hf hb'
  · refine ⟨_, _, rfl, fun args w => rfl, fun u h => ?_⟩
    cases hc : (m.cur.toList == []) with
    | true =>
      refine (f_wamount_no (C := bstr m.cur.data.toList) h.2.2 rfl (by rw [bstr_back]; exact hc)).mono ?_
      rintro e w' ⟨rfl, rfl⟩
      refine enc_to h ?_ (Fr.refl _ _) ?_
      · show some (wamE m.amount.toNat m.cur) = some 0
        unfold wamE
        rw [hc, if_pos rfl]
      · have e : (encSh m tg 2).cells = (encSh m tg 1).cells := cells_congr (s := encSh m tg 1) (s' := encSh m tg 2) (fun n hn => by
          show encT m tg 1 n = encT m tg 2 n
          simp only [fldNos, List.mem_cons, List.not_mem_nil, or_false] at hn
          rcases hn with rfl | rfl | rfl | rfl | rfl | rfl | rfl | rfl | rfl | rfl | rfl | rfl | rfl | rfl | rfl | rfl
          all_goals first | rfl | (unfold encT; simp [hc])) rfl
        rw [e]
        exact h.2.2
    | false =>
      have ha : m.amount = (m.amount.toNat : Int) := by have := ho.amount.1; omega
      refine (f_wamount (C := bstr m.cur.data.toList) (v := m.amount.toNat) h.2.2 rfl (by rw [← ha]; rfl) rfl (by have := ho.amount.2; omega) (by rw [bstr_back]; exact hc) (hT u h.1)).mono ?_
      rintro e w' ⟨rfl, hb', hf⟩
      refine enc_to h ?_ hf ?_
      · show some (wamE m.amount.toNat m.cur) = _
        unfold wamE
        rw [hc, if_neg (by decide)]
      · have e : ((encSh m tg 1).cells).set 22 (.string (bstr (textR m.amount.toNat 12))) = (encSh m tg 2).cells := by
          have h1 : ((encSh m tg 1).cells).set 22 (.string (bstr (textR m.amount.toNat 12))) = ((encSh m tg 1).put 4 (textR m.amount.toNat 12)).cells := rfl
          rw [h1]
          exact (cells_congr (s := encSh m tg 2) (s' := (encSh m tg 1).put 4 (textR m.amount.toNat 12)) (fun n hn => by
            show encT m tg 2 n = if n = 4 then textR m.amount.toNat 12 else encT m tg 1 n
            simp only [fldNos, List.mem_cons, List.not_mem_nil, or_false] at hn
            rcases hn with rfl | rfl | rfl | rfl | rfl | rfl | rfl | rfl | rfl | rfl | rfl | rfl | rfl | rfl | rfl | rfl
            all_goals first | rfl | (unfold encT; simp [hc])) rfl)
        rw [← e]
        exact hb'
  · refine ⟨_, _, rfl, fun args w => rfl, fun u h => ?_⟩
    by_cases hc : m.entry = 0
    · refine (f_wentry_no h.2.2 (by show some (Value.int .i64 m.entry) = _; rw [hc])).mono ?_
      rintro e w' ⟨rfl, rfl⟩
      refine enc_to h ?_ (Fr.refl _ _) ?_
      · show some (wenE m.entry) = some 0
        unfold wenE
        rw [if_pos hc]
      · have e : (encSh m tg 3).cells = (encSh m tg 2).cells := cells_congr (s := encSh m tg 2) (s' := encSh m tg 3) (fun n hn => by
          show encT m tg 2 n = encT m tg 3 n
          simp only [fldNos, List.mem_cons, List.not_mem_nil, or_false] at hn
          rcases hn with rfl | rfl | rfl | rfl | rfl | rfl | rfl | rfl | rfl | rfl | rfl | rfl | rfl | rfl | rfl | rfl
          all_goals first | rfl | (unfold encT; simp [hc])) rfl
        rw [e]
        exact h.2.2
    · refine (f_wentry (n := m.entry) h.2.2 rfl rfl hc (hT u h.1)).mono ?_
      rintro e w' ⟨rfl, hb', hf⟩
      refine enc_to h ?_ hf ?_
      · show some (wenE m.entry) = _
        unfold wenE
        rw [if_neg hc]
      · have e : ((encSh m tg 2).cells).set 23 (.string (bstr (textR (wordN m.entry) 3))) = (encSh m tg 3).cells := by
          have h1 : ((encSh m tg 2).cells).set 23 (.string (bstr (textR (wordN m.entry) 3))) = ((encSh m tg 2).put 22 (textR (wordN m.entry) 3)).cells := rfl
          rw [h1]
          exact (cells_congr (s := encSh m tg 3) (s' := (encSh m tg 2).put 22 (textR (wordN m.entry) 3)) (fun n hn => by
            show encT m tg 3 n = if n = 22 then textR (wordN m.entry) 3 else encT m tg 2 n
            simp only [fldNos, List.mem_cons, List.not_mem_nil, or_false] at hn
            rcases hn with rfl | rfl | rfl | rfl | rfl | rfl | rfl | rfl | rfl | rfl | rfl | rfl | rfl | rfl | rfl | rfl
            all_goals first | rfl | (unfold encT; simp [hc])) rfl)
        rw [← e]
        exact hb'
  · refine ⟨_, _, rfl, fun args w => rfl, fun u h => ?_⟩
    refine (f_time (S := bstr m.time.data.toList) h.2.2 rfl (by rw [bstr_back]; exact hML ho.time)).mono ?_
    rintro e w' ⟨rfl, hf⟩
    exact enc_to h rfl hf.no (h.2.2.no hf)
  · refine ⟨_, _, rfl, fun args w => rfl, fun u h => ?_⟩
    cases hc : (m.otime.toList == []) with
    | true =>
      refine (f_worigin_no (O := m.otime) h.2.2 rfl hc).mono ?_
      rintro e w' ⟨rfl, rfl⟩
      refine enc_to h ?_ (Fr.refl _ _) ?_
      · show some (worE m.ostan m.otime) = some 0
        unfold worE
        rw [hc, if_pos rfl]
      · have e : (encSh m tg 5).cells = (encSh m tg 4).cells := cells_congr (s := encSh m tg 4) (s' := encSh m tg 5) (fun n hn => by
          show encT m tg 4 n = encT m tg 5 n
          simp only [fldNos, List.mem_cons, List.not_mem_nil, or_false] at hn
          rcases hn with rfl | rfl | rfl | rfl | rfl | rfl | rfl | rfl | rfl | rfl | rfl | rfl | rfl | rfl | rfl | rfl
          all_goals first | rfl | (unfold encT; simp [hc])) rfl
        rw [e]
        exact h.2.2
    | false =>
      refine (f_worigin (n := m.ostan) (O := m.otime) h.2.2 rfl rfl rfl (by have := ho.otime; omega) hc (hT u h.1)).mono ?_
      rintro e w' ⟨rfl, hb', hf⟩
      refine enc_to h ?_ hf ?_
      · show some (worE m.ostan m.otime) = _
        unfold worE
        rw [hc, if_neg (by decide)]
      · have e : ((encSh m tg 4).cells).set 26 (.string (bstr (textR (wordN m.ostan) 6 ++ m.otime.data.toList))) = (encSh m tg 5).cells := by
          have h1 : ((encSh m tg 4).cells).set 26 (.string (bstr (textR (wordN m.ostan) 6 ++ m.otime.data.toList))) = ((encSh m tg 4).put 56 (textR (wordN m.ostan) 6 ++ m.otime.data.toList)).cells := rfl
          rw [h1]
          exact (cells_congr (s := encSh m tg 5) (s' := (encSh m tg 4).put 56 (textR (wordN m.ostan) 6 ++ m.otime.data.toList)) (fun n hn => by
            show encT m tg 5 n = if n = 56 then textR (wordN m.ostan) 6 ++ m.otime.data.toList else encT m tg 4 n
            simp only [fldNos, List.mem_cons, List.not_mem_nil, or_false] at hn
            rcases hn with rfl | rfl | rfl | rfl | rfl | rfl | rfl | rfl | rfl | rfl | rfl | rfl | rfl | rfl | rfl | rfl
            all_goals first | rfl | (unfold encT; simp [hc])) rfl)
        rw [← e]
        exact hb'
  · refine ⟨_, _, rfl, fun args w => rfl, fun u h => ?_⟩
    refine (f_wterminal (S := m.ter) h.2.2 rfl rfl (hMM ho.ter) (hT u h.1)).mono ?_
    rintro e w' ⟨rfl, hb', hf⟩
    exact enc_to h rfl hf hb'
  · refine ⟨_, _, rfl, fun args w => rfl, fun u h => ?_⟩
    refine (f_wmerchant (S := m.mer) h.2.2 rfl rfl (hMM ho.mer) (hT u h.1)).mono ?_
    rintro e w' ⟨rfl, hb', hf⟩
    exact enc_to h rfl hf hb'
  · refine ⟨_, _, rfl, fun args w => rfl, fun u h => ?_⟩
    refine (f_key (S := bstr m.key.data.toList) h.2.2 rfl (by rw [bstr_back]; exact hMM ho.key)).mono ?_
    rintro e w' ⟨rfl, hf⟩
    rw [bstr_back]
    exact enc_to h rfl hf.no (h.2.2.no hf)
  · refine ⟨_, _, rfl, fun args w => rfl, fun u h => ?_⟩
    refine (f_pan (S := bstr m.pan.data.toList) h.2.2 rfl (by rw [bstr_back]; exact hML ho.pan)).mono ?_
    rintro e w' ⟨rfl, hd⟩
    rw [bstr_back]
    exact enc_to h rfl (Dr.fr hd) (h.2.2.no (Dr.fr hd))
  · refine ⟨_, _, rfl, fun args w => rfl, fun u h => ?_⟩
    refine (f_action (S := bstr m.act.data.toList) h.2.2 rfl (hT u h.1)).mono ?_
    rintro e w' ⟨rfl, hf⟩
    rw [bstr_back]
    exact enc_to h rfl hf.no (h.2.2.no hf)
  · refine ⟨_, _, rfl, fun args w => rfl, fun u h => ?_⟩
    refine (f_few (A := m.oA) (n := m.on) (c := m.oc) h.2.2 rfl (by have := (hl u h.1).other.top; simp only [maxLen]; omega)).mono ?_
    rintro e w' ⟨rfl, rfl⟩
    exact enc_to h rfl (Fr.refl _ _) h.2.2
  · refine ⟨_, _, rfl, fun args w => rfl, fun u h => ?_⟩
    refine (f_wspare (A := m.oA) (n := m.on) (c := m.oc) h.2.2 rfl (hl u h.1).other (hT u h.1)).mono ?_
    rintro e w' ⟨rfl, hf⟩
    exact enc_to h rfl hf.no (h.2.2.no hf)
  · refine ⟨_, _, rfl, fun args w => rfl, fun u h => ?_⟩
    refine (f_wtags (A := m.tA) (n := m.tn) (c := m.tc) h.2.2 rfl rfl (hl u h.1).tags).mono ?_
    rintro e w' ⟨rfl, hb', hf⟩
    exact enc_to h rfl hf hb'
end
end Go.Proofs.YthlgnmgjfgbffaaGreatDoor
/- Package fields: a writer is laid out of a message: its operations as laws. -/
namespace Go.Proofs.YthlgnmgjfgbffaaGreatDoor
open Go.RowKit
set_option maxHeartbeats 1000000
set_option linter.unusedVariables false
set_option maxRecDepth 20000

def encC0 (m : MsgC) : List Value := m.cells ++ [.string ⟨#[]⟩, .string ⟨#[]⟩, .string ⟨#[]⟩, .string ⟨#[]⟩, .string ⟨#[]⟩, .string ⟨#[]⟩, .string ⟨#[]⟩]
theorem enc_start (m : MsgC) (tg : List TagL) : (encSh m tg 0).cells = encC0 m := by
  unfold FSh.cells
  rw [enc_msg]
  rfl
theorem encC0_len (m : MsgC) : (encC0 m).length = 28 := rfl
theorem writSize (l : List Value) (h : l.length = 28) : (Tryz.prog.info? 98).map (·.size) = some l.length := by
  rw [h]
  kernel_rfl
theorem encC0_one (m : MsgC) : (encC0 m).toArray.all (·.oneCell') = true := by
  unfold encC0 MsgC.cells
  simp [Value.oneCell']
theorem build_sheet {ops : Array Oper} {rest : List Oper} {o : Oper} {a : Act} {w : World} {Q : Exit → Act → World → Prop} (hgd : Region.wanted o (yielded ops a.tmps) = true) (k : Nat) (ho : o.op = .build 60 #[(0, .tmp k)]) (m : MsgC) (hx : a.eval (.tmp k) = .agg m.cells.toArray)
    (h : wpList Tryz.prog ops Q rest (a.put o.dst (.agg (encC0 m).toArray)) w) : wpList Tryz.prog ops Q (o :: rest) a w := by
  refine wpList_go hgd fun K hK => ?_
  have h0 := hK _ _ h
  clear hK h hgd
  obtain ⟨dst, op, type, pos, after, guard⟩ := o
  subst ho
  unfold encC0 at h0
  unfold MsgC.cells at hx h0
  simp only [Act.eval, Array.getD_eq_getD_getElem?, List.cons_append, List.nil_append] at hx h0
  go_simp
  exact h0
theorem build_writer {ops : Array Oper} {rest : List Oper} {o : Oper} {a : Act} {w : World} {Q : Exit → Act → World → Prop} (hgd : Region.wanted o (yielded ops a.tmps) = true) (k : Nat) (ho : o.op = .build 98 #[(0, .tmp k)]) (m : MsgC) (hx : a.eval (.tmp k) = .agg (encC0 m).toArray)
    (h : wpList Tryz.prog ops Q rest (a.put o.dst (.agg (encC0 m).toArray)) w) : wpList Tryz.prog ops Q (o :: rest) a w := by
  refine wpList_go hgd fun K hK => ?_
  have h0 := hK _ _ h
  clear hK h hgd
  obtain ⟨dst, op, type, pos, after, guard⟩ := o
  subst ho
  unfold encC0 at hx h0
  unfold MsgC.cells at hx h0
  simp only [Act.eval, Array.getD_eq_getD_getElem?, List.cons_append, List.nil_append] at hx h0
  go_simp
  exact h0
def writ0 : List Value := mz.cells ++ [.string ⟨#[]⟩, .string ⟨#[]⟩, .string ⟨#[]⟩, .string ⟨#[]⟩, .string ⟨#[]⟩, .string ⟨#[]⟩, .string ⟨#[]⟩]
theorem alloc_writer {ops : Array Oper} {rest : List Oper} {o : Oper} {a : Act} {w : World} {Q : Exit → Act → World → Prop} (hgd : Region.wanted o (yielded ops a.tmps) = true) (ho : o.op = .alloc 98)
    (h : ∀ g w', Bk w' g 98 writ0 → Fr No w w' → w.heap.size ≤ g → g < w'.heap.size → wpList Tryz.prog ops Q rest (a.put o.dst (.pointer (some ⟨g, 0, none⟩))) w') : wpList Tryz.prog ops Q (o :: rest) a w := by
  refine wpList_go hgd fun K hK => ?_
  have h0 := hK _ _ (h w.heap.size _ (Bk.new w 98 writ0.toArray) ((Fr.refl No w).alloc _) (Nat.le_refl _) (by simp))
  clear hK h hgd
  obtain ⟨dst, op, type, pos, after, guard⟩ := o
  subst ho
  unfold writ0 MsgC.cells mz at h0
  go_simp
  exact h0
end Go.Proofs.YthlgnmgjfgbffaaGreatDoor
/- Package fields: Encode. -/
namespace Go.Proofs.YthlgnmgjfgbffaaGreatDoor
open Go.RowKit
set_option maxHeartbeats 4000000
set_option linter.unusedVariables false
set_option maxRecDepth 20000

def encMti (m : MsgC) : List UInt8 := (mtB m.kind).data.toList
/-- the elements of a message -/
def encEsL (m : MsgC) (tg : List TagL) (os : List El) : List El := mergeL (pickL fldNos (optT (encSh m tg 13))) os
/-- why a message isn't said -/
def encFE (m : MsgC) (tg : List TagL) (os : List El) : Int :=
  if firstE (fitEs m) ≠ 0 then firstE (fitEs m) else if firstE (encEs2 m tg os) ≠ 0 then 1
  else if pacE (encMti m) (encEsL m tg os) = 0 ∨ pacE (encMti m) (encEsL m tg os) = 4 then pacE (encMti m) (encEsL m tg os) else 1
def encFR (m : MsgC) (tg : List TagL) (os : List El) : List UInt8 := if encFE m tg os = 0 then pacR (encMti m) (encEsL m tg os) else []
def EncTo (m : MsgC) (tg : List TagL) (os : List El) (w : World) (e : Ending) (w' : World) : Prop := ∃ v, e = .returned (.tuple #[v, .int .i64 (encFE m tg os)]) ∧ OwnM w' w.heap.size v (encFR m tg os) ∧ Fr No w w'
theorem enc_no {m : MsgC} {tg : List TagL} {os : List El} {w w' : World} {E : Int} (h : encFE m tg os = E) (hE : E ≠ 0) (hf : Fr No w w') : EncTo m tg os w (.returned (.tuple #[.slice none 0 0, .int .i64 E])) w' := by
  have : encFR m tg os = [] := by unfold encFR; rw [if_neg (by rw [h]; exact hE)]
  refine ⟨_, by rw [h], ?_, hf⟩
  rw [this]
  exact ⟨rfl, .inl ⟨rfl, rfl⟩⟩
theorem spr_rise : ∀ {es : List El} {last : Int}, sprB last es = true → (∀ n ∈ nosOf es, last < n ∧ spareP n = true) ∧ (nosOf es).Pairwise (· < ·)
  | [], _, _ => ⟨(fun n hn => by cases hn), List.Pairwise.nil⟩
  | a :: r, last, h => by
    unfold sprB at h
    simp only [Bool.and_eq_true, decide_eq_true_eq] at h
    obtain ⟨h1, h2, h3⟩ := h
    obtain ⟨h4, h5⟩ := spr_rise h3
    refine ⟨fun n hn => ?_, List.pairwise_cons.2 ⟨fun b hb => (h4 b hb).1, h5⟩⟩
    rcases List.mem_cons.1 hn with rfl | hn
    · exact ⟨h2, h1⟩
    · have := h4 n hn
      exact ⟨by omega, this.2⟩
theorem wrT_len : ∀ (ls : List TagL), (∀ a ∈ ls, a.2.length ≤ 255) → (wrT ls).length ≤ 300 * ls.length
  | [], _ => Nat.zero_le _
  | a :: r, h => by
    have h1 := wr1_len a (h a (List.mem_cons_self ..))
    have h2 := wrT_len r (fun b hb => h b (List.mem_cons_of_mem _ hb))
    show (wr1T a ++ wrT r).length ≤ 300 * (r.length + 1)
    rw [List.length_append]
    omega
theorem wrF_data : ∀ (ls p : List TagL), wrF p ls = 0 → ∀ a ∈ ls, a.2.length ≤ 255
  | [], _, _, _, ha => by cases ha
  | b :: r, p, h, a, ha => by
    unfold wrF at h
    split at h
    · cases h
    · split at h
      · cases h
      · rcases List.mem_cons.1 ha with rfl | ha
        · omega
        · exact wrF_data r _ h a ha
theorem wrL_len (ls : List TagL) : (wrL ls).length ≤ 100000 := by
  unfold wrL
  split
  · rename_i h
    unfold wrE at h
    split at h
    · cases h
    · have := wrT_len ls (wrF_data ls [] h)
      omega
  · exact Nat.zero_le _
theorem padT_len (S : ByteArray) (n : Nat) (h : S.size ≤ 100000) (hn : n ≤ 100) : (padT S n).length ≤ 100000 := by
  have hl : S.data.toList.length = S.size := by simp
  unfold padT
  split
  · exact Nat.zero_le _
  · split
    · unfold padR
      rw [List.length_append, List.length_replicate]
      omega
    · exact Nat.zero_le _
theorem ite_len {P : Prop} [Decidable P] {a b : List UInt8} {q : Nat} (ha : a.length ≤ q) (hb : b.length ≤ q) : (if P then a else b).length ≤ q := by
  split
  · exact ha
  · exact hb
theorem encT_len {m : MsgC} (ho : MsgOk m) (tg : List TagL) (k : Nat) (n : Int) : (encT m tg k n).length ≤ 100000 := by
  have hl : ∀ {S : ByteArray} {q : Nat}, S.size ≤ q → S.data.toList.length ≤ q := fun h => by simpa using h
  have ht : ∀ v z, (textR v z).length ≤ 100000 := fun v z => by have := textR_len v z; omega
  have h0 : ([] : List UInt8).length ≤ 100000 := Nat.zero_le _
  have h56 : (textR (wordN m.ostan) 6 ++ m.otime.data.toList).length ≤ 100000 := by
    rw [List.length_append]
    have h1 := textR_len (wordN m.ostan) 6
    have h2 : m.otime.data.toList.length ≤ 50000 := by simpa using ho.otime
    omega
  unfold encT
  exact ite_len (hl ho.pan) (ite_len (ite_len (ite_len h0 (ht _ _)) h0) (ite_len (ite_len (ht _ _) h0) (ite_len (hl ho.time) (ite_len (ite_len (ite_len h0 (ht _ _)) h0) (ite_len (hl ho.rea) (ite_len (hl ho.acq) (ite_len (hl ho.rrn) (ite_len (hl ho.app) (ite_len (hl ho.act) (ite_len (ite_len (padT_len _ _ ho.ter (by decide)) h0) (ite_len (ite_len (padT_len _ _ ho.mer (by decide)) h0) (ite_len (hl ho.key) (ite_len (hl ho.cur) (ite_len (ite_len (wrL_len _) h0) (ite_len (ite_len (ite_len h0 h56) h0) h0)))))))))))))))
section
variable {w : World} {g : Nat} {m : MsgC} {tg : List TagL} {os : List El}
theorem fit_walk (hb : Bk w g 98 (encSh m tg 0).cells) (ho : MsgOk m) (hT : ∀ u, Fr (Just g) w u → Tabs u) (ty : TypeId) :
    Calls Tryz.prog 16 #[.slice (some ⟨w.heap.size, 0, none⟩) 2 2] (w.alloc (.cells (fitV g).toArray ty)) (SWTo (FitR (w.alloc (.cells (fitV g).toArray ty)) g m tg 2) (FitQ (w.alloc (.cells (fitV g).toArray ty)) g m)) := by
  have hfa : Fr No w (w.alloc (.cells (fitV g).toArray ty)) := (Fr.refl No w).alloc _
  have hbk := Bk.new w ty (fitV g).toArray
  have hgl := hb.lt
  refine t_walk (some ⟨w.heap.size, 0, none⟩) 2 2 (fitV g) _ _ _ rfl (Nat.le_refl _) (by omega) (fun e => nomatch e) ⟨Fr.refl _ _, fun j hj => absurd hj (Nat.not_lt_zero _), hb.no hfa⟩ ?_ (fun i hi => fit_steps ho (fun u hu => hT u (hfa.no.trans hu)) i hi)
  intro i u hu ad e j v hv
  injection e with e
  subst e
  have h1 := (hbk.fr hu.1 (fun x => by have : w.heap.size = g := x; omega)).cell j
  rw [addr_at, h1]
  exact hv
theorem enc_walk (hb : Bk w g 98 (encSh m tg 0).cells) (ho : MsgOk m) (hl : ∀ u, Fr (Just g) w u → MsgLs u m tg os) (hT : ∀ u, Fr (Just g) w u → Tabs u) (ty : TypeId) :
    Calls Tryz.prog 16 #[.slice (some ⟨w.heap.size, 0, none⟩) 13 13] (w.alloc (.cells (writV g).toArray ty)) (SWTo (EncR (w.alloc (.cells (writV g).toArray ty)) g m tg os 13) (EncQ (w.alloc (.cells (writV g).toArray ty)) g m tg os)) := by
  have hfa : Fr No w (w.alloc (.cells (writV g).toArray ty)) := (Fr.refl No w).alloc _
  have hbk := Bk.new w ty (writV g).toArray
  have hgl := hb.lt
  refine t_walk (some ⟨w.heap.size, 0, none⟩) 13 13 (writV g) _ _ _ rfl (Nat.le_refl _) (by omega) (fun e => nomatch e) ⟨Fr.refl _ _, fun j hj => absurd hj (Nat.not_lt_zero _), hb.no hfa⟩ ?_ (fun i hi => enc_steps ho (fun u hu => hl u (hfa.no.trans hu)) (fun u hu => hT u (hfa.no.trans hu)) i hi)
  intro i u hu ad e j v hv
  injection e with e
  subst e
  have h1 := (hbk.fr hu.1 (fun x => by have : w.heap.size = g := x; omega)).cell j
  rw [addr_at, h1]
  exact hv
end
theorem mtB_size (k : Int) : (mtB k).size ≤ 4 := by
  have h : kAll (fun k => decide ((kRow k).mti.size ≤ 4)) = true := by decide +kernel
  unfold mtB rowOf
  split
  · rename_i hk
    exact of_decide_eq_true (kAll_at h (by omega))
  · decide
theorem f_encode_any {m : MsgC} {tg : List TagL} {os : List El} (w : World) (ho : MsgOk m) (hl : MsgLs w m tg os) (hT : Tabs w) :
    Calls Tryz.prog 31 #[m.val] w (EncTo m tg os w) := by
  have HO := Lib.hid ho; have HL := Lib.hid hl; have HT := Lib.hid hT
  have hfe : encFE m tg os = if firstE (fitEs m) ≠ 0 then firstE (fitEs m) else if firstE (encEs2 m tg os) ≠ 0 then 1
    else if pacE (encMti m) (encEsL m tg os) = 0 ∨ pacE (encMti m) (encEsL m tg os) = 4 then pacE (encMti m) (encEsL m tg os) else 1 := rfl
  have HFE := Lib.hid hfe
  clear ho hl hT hfe
  go_enter Tryz.func31, Tryz.ntmps31
  have HB0 := Lib.hid (Bk.new w 38 m.cells.toArray)
  have HF0 := Lib.hid ((Fr.refl No w).alloc (.cells m.cells.toArray 38))
  go_upto_region 2 with (first
    | (refine wpList_load_bk rfl 38 _ rfl w.heap.size rfl m.cells _ HB0.out (Tryz.underlying38) rfl (msgSizeF m) ?_)
    | (refine build_sheet rfl 9 rfl m rfl ?_)
    | (refine build_writer rfl 10 rfl m rfl ?_)
    | (refine alloc_writer rfl rfl ?_; intro g w1 b1 f1 z1 z2; have B1 := Lib.hid b1; have F1 := Lib.hid (HF0.out.trans f1); have Z1 := Lib.hid (Nat.le_trans HF0.out.size z1); clear b1 f1 z1 z2)
    | (refine wpList_store_bk rfl 98 _ _ rfl g rfl writ0 (encC0 m) rfl B1.out rfl (writSize _ rfl) (encC0_one m) ?_; intro w2 b2 f2 s2; have B2 := Lib.hid b2; have F2 := Lib.hid (F1.out.trans_just f2 Z1.out); clear b2 f2 s2))
  clear HB0 HF0 B1 F1
  have hb2 : Bk w2 g 98 (encSh m tg 0).cells := by rw [enc_start]; exact B2.out
  have HB2 := Lib.hid hb2
  clear hb2 B2
  have HFU := Lib.hid (fun u (hu : Fr (Just g) w2 u) => F2.out.trans_just hu Z1.out)
  have HW1 := Lib.hid (fit_walk HB2.out HO.out (fun u hu => HT.out.fr (HFU.out u hu)) 58)
  have HAL := Lib.hid ((Fr.refl No w2).alloc (.cells (fitV g).toArray 58))
  go_upto_region 3 with (go_at_call 16; refine (HW1.out).mono ?_; rintro e w3 ⟨E1, rfl, hE1⟩; have HE1 := Lib.hid hE1; clear hE1)
  by_cases hE1 : E1 = 0
  · subst hE1
    have hR : FitR (w2.alloc (.cells (fitV g).toArray 58)) g m tg 2 w3 := by
      rcases HE1.out with ⟨_, h⟩ | ⟨h, _⟩
      · exact h
      · exact absurd rfl h
    obtain ⟨hf3, hz3, hb3⟩ := hR
    have hfit0 : firstE (fitEs m) = 0 := firstE_none _ (fun j hj => hz3 j hj)
    have hf23 : Fr (Just g) w2 w3 := HAL.out.no.trans hf3
    have HFIT := Lib.hid hfit0
    have F3 := Lib.hid hf23; have B3 := Lib.hid hb3
    have HW2 := Lib.hid (enc_walk (os := os) B3.out HO.out (fun u hu => HL.out.far (HFU.out u (F3.out.trans hu)) (fun i hi => hi.elim)) (fun u hu => HT.out.fr (HFU.out u (F3.out.trans hu))) 58)
    have HAL3 := Lib.hid ((Fr.refl No w3).alloc (.cells (writV g).toArray 58))
    clear hf3 hz3 hb3 hfit0 hf23 HE1 HW1 HAL HB2
    go_upto_region 6 with (go_at_call 16; refine (HW2.out).mono ?_; rintro e w4 ⟨E2, rfl, hE2⟩; have HE2 := Lib.hid hE2; clear hE2)
    by_cases hE2 : E2 = 0
    · subst hE2
      have hR : EncR (w3.alloc (.cells (writV g).toArray 58)) g m tg os 13 w4 := by
        rcases HE2.out with ⟨_, h⟩ | ⟨h, _⟩
        · exact h
        · exact absurd rfl h
      obtain ⟨hf4, hz4, hb4⟩ := hR
      have henc0 : firstE (encEs2 m tg os) = 0 := firstE_none _ (fun j hj => hz4 j hj)
      have hf24 : Fr (Just g) w2 w4 := F3.out.trans (HAL3.out.no.trans hf4)
      have hfw4 := HFU.out w4 hf24
      have e0 : wexE m.stan m.acq = 0 := by have h := hz4 0 (by decide); injection h
      have e10 : (if m.on ≤ 8 then (0 : Int) else 4) = 0 := by have h := hz4 10 (by decide); injection h
      have e11 : sprE os = 0 := by have h := hz4 11 (by decide); injection h
      have ht0 : textE (wordN m.stan) 6 = 0 := by
        unfold wexE at e0
        split at e0
        · assumption
        · rename_i h; exact absurd e0 h
      have hon : m.on ≤ 8 := by
        split at e10
        · assumption
        · cases e10
      have hspr : sprB 0 os = true := by
        unfold sprE at e11
        split at e11
        · assumption
        · cases e11
      obtain ⟨hsp1, hsp2⟩ := spr_rise hspr
      have h11 : (encSh m tg 13).txt 11 ≠ [] := by
        show textR (wordN m.stan) 6 ≠ []
        intro h
        rcases text_cases (wordN m.stan) 6 with ⟨h1, _⟩ | ⟨h1, _⟩ | ⟨_, _, _, h1, _⟩ | ⟨q, h1, _, _, _, h2⟩
        · exact absurd h1 (by decide)
        · exact absurd h1 (by decide)
        · exact absurd (h1.symm.trans ht0) (by decide)
        · rw [h2] at h
          have h3 := congrArg List.length h
          rw [wide_length] at h3
          simp only [List.length_nil] at h3
          omega
      have hap : ∀ n ∈ nosOf os, n ∉ fldNos := fun n hn hn2 => by
        have h1 := (hsp1 n hn).2
        have h2 : ∀ n ∈ fldNos, spareP n = false := by decide +kernel
        rw [h2 n hn2] at h1
        cases h1
      have hls := HL.out.far hfw4 (fun i hi => hi.elim)
      have HEL := Lib.hid (fun u (hu : Fr No w4 u) => f_elements (s := encSh m tg 13) (hb4.no hu) (hls.far hu (fun i hi => hi.elim)).other (fun i hi => hi) (fun n => encT_len HO.out tg 13 n) h11 (by show m.on ≤ 900; omega) hsp2 hap)
      have c0 : w4.cell? ⟨g, 0, none⟩ = some (.int .i64 m.kind) := (hb4.cell 0).trans rfl
      have HMT := Lib.hid (kinds_mti_any m.kind HO.out.kind.1 HO.out.kind.2 w4 (HT.out.fr hfw4))
      have HENC := Lib.hid henc0; have FW4 := Lib.hid hfw4
      have hlen : (encEsL m tg os).length ≤ 1000 := by
        have h1 := (merge_perm _ (pickL fldNos (optT (encSh m tg 13))) os (Nat.le_refl _)).length_eq
        have h2 := pick_le fldNos (optT (encSh m tg 13))
        have h3 : fldNos.length = 16 := rfl
        have h4 := hls.other.len tag_ok (by omega)
        rw [List.length_append] at h1
        show (mergeL (pickL fldNos (optT (encSh m tg 13))) os).length ≤ 1000
        omega
      have HLEN := Lib.hid hlen
      have hms : (mtB m.kind).size ≤ maxLen := by have := mtB_size m.kind; simp only [maxLen]; omega
      have HMS := Lib.hid hms
      have hes : encEsL m tg os = mergeL (pickL fldNos (optT (encSh m tg 13))) os := rfl
      rw [← hes] at HEL
      have hmt : encMti m = (mtB m.kind).data.toList := rfl
      have HFE2 := HFE.out
      rw [if_neg (by rw [HFIT.out]; decide), if_neg (by rw [henc0]; decide), hmt] at HFE2
      have HFE3 := Lib.hid HFE2
      clear hf4 hz4 hb4 henc0 hf24 hfw4 e0 e10 e11 ht0 hon hspr hsp1 hsp2 h11 hap hls hlen hms hes HFE2 HE2 HW2 F2 F3 B3 HFU HAL3
      have hfr : encFR m tg os = if encFE m tg os = 0 then pacR (mtB m.kind).data.toList (encEsL m tg os) else [] := rfl
      have HFR := Lib.hid hfr
      have hpr : pacE (mtB m.kind).data.toList (encEsL m tg os) ≠ 0 → pacR (mtB m.kind).data.toList (encEsL m tg os) = [] := fun h => by unfold pacR; rw [if_neg h]
      have HPR := Lib.hid hpr
      have HPK := Lib.hid (fun (u : World) A c (h : RdI 2 TagI u (fun i => i < u.heap.size) A (encEsL m tg os).length c (encEsL m tg os)) (hu : Tabs u) => iso_pack_any (mtB m.kind) A (encEsL m tg os).length c (encEsL m tg os) u h HLEN.out HMS.out hu)
      unfold PacTo at HPK
      clear hfr hpr hmt HENC
      generalize pacE (mtB m.kind).data.toList (encEsL m tg os) = PE at *
      generalize pacR (mtB m.kind).data.toList (encEsL m tg os) = PR at *
      generalize encEsL m tg os = EL at *
      go_upto_region 9 with (first
        | (go_at_call 69; refine (HMT.out).mono ?_; rintro e w5 ⟨rfl, f5⟩; have F5 := Lib.hid f5; clear f5)
        | (go_at_call 70; refine (HEL.out _ F5.out).mono ?_; rintro e w6 ⟨A6, c6, rfl, hr6, f6⟩; have R6 := Lib.hid hr6; have F6 := Lib.hid (FW4.out.trans (F5.out.trans f6)); clear hr6 f6)
        | (go_at_call 68; refine (HPK.out _ _ _ R6.out (HT.out.fr F6.out)).mono ?_; rintro e w7 ⟨v, rfl, ho7, f7⟩; have O7 := Lib.hid ho7; have F7 := Lib.hid (F6.out.trans f7); clear ho7 f7))
      by_cases hP0 : PE = 0
      · have hres : encFE m tg os = 0 := by rw [HFE3.out, if_pos (.inl hP0)]; exact hP0
        have HRES := Lib.hid hres
        clear hres
        subst hP0
        go_wp2_with fail
        go_ret2
        refine ⟨v, by rw [HRES.out]; rfl, ?_, F7.out⟩
        rw [HFR.out, if_pos HRES.out]
        exact ownM_low O7.out F6.out.size
      · by_cases hP4 : PE = 4
        · have hres : encFE m tg os = 4 := by rw [HFE3.out, if_pos (.inr hP4)]; exact hP4
          have HRES := Lib.hid hres
          have HPR2 := Lib.hid (HPR.out hP0)
          clear hres hP0
          subst hP4
          go_wp2_with fail
          go_ret2
          refine ⟨v, by rw [HRES.out]; rfl, ?_, F7.out⟩
          rw [HFR.out, if_neg (by rw [HRES.out]; decide), ← HPR2.out]
          exact ownM_low O7.out F6.out.size
        · have hres : encFE m tg os = 1 := by rw [HFE3.out, if_neg (fun h => by rcases h with h | h; exact hP0 h; exact hP4 h)]
          have HRES := Lib.hid hres
          have hPb := st_ne0 hP0
          have hP4b : (PE != 4) = true := by rw [bne_iff_ne]; exact hP4
          clear hres hP0 hP4
          go_wp2_with fail
          go_ret2
          exact enc_no HRES.out (by decide) F7.out
    · have hQ : EncQ (w3.alloc (.cells (writV g).toArray 58)) g m tg os E2 w4 := by
        rcases HE2.out with ⟨h, _⟩ | ⟨_, h⟩
        · exact absurd h hE2
        · exact h
      obtain ⟨hf4, hfe⟩ := hQ
      have hfw := HFU.out w4 (F3.out.trans (HAL3.out.no.trans hf4))
      have hres : encFE m tg os = 1 := by rw [HFE.out, if_neg (by rw [HFIT.out]; decide), if_pos (by rw [hfe]; exact hE2)]
      have HRES := Lib.hid hres; have HFW := Lib.hid hfw
      have hEb := st_ne0 hE2
      clear hf4 hfe hfw hres HE2 HW2 hE2
      go_wp2_with fail
      go_ret2
      exact enc_no HRES.out (by decide) HFW.out
  · have hQ : FitQ (w2.alloc (.cells (fitV g).toArray 58)) g m E1 w3 := by
      rcases HE1.out with ⟨h, _⟩ | ⟨_, h⟩
      · exact absurd h hE1
      · exact h
    obtain ⟨hf3, hfe⟩ := hQ
    have hfw := HFU.out w3 (HAL.out.no.trans hf3)
    have hres : encFE m tg os = E1 := by rw [HFE.out, if_pos (by rw [hfe]; exact hE1)]; exact hfe
    have HRES := Lib.hid hres; have HFW := Lib.hid hfw; have HNE := Lib.hid hE1
    have hEb := st_ne0 hE1
    clear hf3 hfe hfw hres HE1 HW1 hE1
    go_wp2_with fail
    go_ret2
    exact enc_no HRES.out HNE.out HFW.out
end Go.Proofs.YthlgnmgjfgbffaaGreatDoor
