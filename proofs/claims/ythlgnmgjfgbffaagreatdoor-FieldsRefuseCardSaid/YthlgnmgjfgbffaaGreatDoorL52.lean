/- The texts FldRf0, FldRf, joined. -/
import Derived.Test.YthlgnmgjfgbffaaGreatDoorL49
/- FieldsRefuse: the walk: nine messages of elements. -/
namespace Go.Proofs.YthlgnmgjfgbffaaGreatDoor
open Go.RowKit
set_option maxHeartbeats 4000000
set_option linter.unusedVariables false
set_option maxRecDepth 20000

/-- a part of a row that is known whole -/
theorem se_row {u : World} {rb : Nat} {t : TypeId} {N : Nat → Prop} {ds : List SE} (h : Bk u rb t (ds.flatMap encS)) (hx : ∀ x ∈ ds, TagI u N (encS x) (elS x)) (i n c : Nat) (hn : i + n ≤ ds.length) (hc : n ≤ c) (hcm : c ≤ maxLen) (hN : N rb) :
    RdI 2 TagI u N (some ⟨rb, i * 2, none⟩) n c (((ds.drop i).take n).map elS) := by
  have hl : ((ds.drop i).take n).length = n := by rw [List.length_take, List.length_drop]; omega
  refine ⟨⟨((ds.drop i).take n).flatMap encS, ⟨by rw [flat_len, hl], hc, hcm, (fun e => nomatch e), fun ad e j v hv => ?_⟩, se_items (fun x hx2 => hx x (List.mem_of_mem_drop (List.mem_of_mem_take hx2)))⟩, fun ad e _ => by injection e with e; subst e; exact hN⟩
  injection e with e
  subst e
  have hj : j < n * 2 := by
    have := (List.getElem?_eq_some_iff.1 hv).1
    rw [flat_len, hl] at this
    exact this
  have ha : (⟨rb, i * 2, none⟩ : Addr).add j = ⟨rb, i * 2 + j, none⟩ := by unfold Addr.add; split <;> simp_all
  rw [ha, h.cell, flat_get]
  rw [flat_get] at hv
  have h1 : (i * 2 + j) / 2 = i + j / 2 := by omega
  have h2 : (i * 2 + j) % 2 = j % 2 := by omega
  rw [h1, h2]
  rw [List.getElem?_take_of_lt (by omega), List.getElem?_drop] at hv
  exact hv
/-- whole rows as one's own -/
theorem se_own {u : World} {rb base : Nat} {N : Nat → Prop} {ds : List SE} {n : Nat} (h : Bk u rb 24 (ds.flatMap encS)) (hx : ∀ x ∈ ds, TagI u N (encS x) (elS x)) (hl : ds.length = n) (hb : base ≤ rb) (hn : n ≤ 1000) :
    OwnI 2 TagI u base 24 N (.slice (some ⟨rb, 0, none⟩) n n) n (ds.map elS) := by
  refine ⟨⟨ds.flatMap encS, ⟨by rw [flat_len, hl], .inr ⟨rb, n, (ds.flatMap encS).toArray, rfl, hb, h, Nat.le_refl _, by simp only [maxLen]; omega, ?_, ?_⟩⟩, se_items hx⟩⟩
  · rw [List.size_toArray, flat_len, hl]
  · rw [List.toList_toArray, List.take_of_length_le (by rw [flat_len]; omega)]
def rfD (a : Nat) : List SE := [((11, some ⟨a, 0, none⟩, 6, 6), [48, 48, 48, 48, 48, 55]), ((12, some ⟨a + 1, 0, none⟩, 14, 14), nowB), ((32, some ⟨a + 1 + 1, 0, none⟩, 1, 1), [49]), ((39, some ⟨a + 1 + 1 + 1, 0, none⟩, 3, 3), [56, 48, 48])]
/-- four elements, a message of them behind: in memory -/
structure RfS (w u : World) (rb : Nat) (S : ByteArray) (v : Value) (ds : List SE) : Prop where
  fr : Fr No w u
  lo : w.heap.size ≤ rb
  bm : Bk u (rb + 1) 27 [.string S, v]
  br : Bk u rb 24 (ds.flatMap encS)
  tg : ∀ x ∈ ds, TagI u (fun i => i < u.heap.size ∧ i ≠ rb ∧ i ≠ rb + 1) (encS x) (elS x)
theorem RfS.no {w u u' : World} {rb : Nat} {S : ByteArray} {v : Value} {ds : List SE} (h : RfS w u rb S v ds) (hf : Fr No u u') : RfS w u' rb S v ds :=
  ⟨h.fr.trans hf, h.lo, h.bm.no hf, h.br.no hf, fun x hx => tag_ok.mono (tag_ok.fr (h.tg x hx) hf (fun _ _ x => x)) (fun i hi => ⟨Nat.lt_of_lt_of_le hi.1 hf.size, hi.2⟩)⟩
theorem RfS.setM {w u : World} {rb : Nat} {S : ByteArray} {v : Value} {ds : List SE} (h : RfS w u rb S v ds) (k : Nat) (x : Value) (S' : ByteArray) (v' : Value) (he : [Value.string S, v].set k x = [.string S', v']) : RfS w (u.setCell ⟨rb + 1, k, none⟩ x) rb S' v' ds := by
  have hf : Fr (Just (rb + 1)) u (u.setCell ⟨rb + 1, k, none⟩ x) := just_set u (rb + 1) k x
  have hz : (u.setCell ⟨rb + 1, k, none⟩ x).heap.size = u.heap.size := by simp
  exact ⟨h.fr.trans_just hf (by have := h.lo; omega), h.lo, by rw [← he]; exact h.bm.set_ k x, h.br.fr hf (fun e => by have h1 : rb = rb + 1 := e; omega), fun y hy => tag_ok.mono (tag_ok.fr (h.tg y hy) hf (fun i hi e => hi.2.2 e)) (fun i hi => ⟨by rw [hz]; exact hi.1, hi.2⟩)⟩
theorem RfS.setD {w u : World} {rb : Nat} {S : ByteArray} {v : Value} {ds ds' : List SE} (h : RfS w u rb S v ds) (k : Nat) (x : Value) (he : (ds.flatMap encS).set k x = ds'.flatMap encS) (ht : ∀ y ∈ ds', y ∈ ds ∨ TagI u (fun i => i < u.heap.size ∧ i ≠ rb ∧ i ≠ rb + 1) (encS y) (elS y)) : RfS w (u.setCell ⟨rb, k, none⟩ x) rb S v ds' := by
  have hf : Fr (Just rb) u (u.setCell ⟨rb, k, none⟩ x) := just_set u rb k x
  have hz : (u.setCell ⟨rb, k, none⟩ x).heap.size = u.heap.size := by simp
  refine ⟨h.fr.trans_just hf h.lo, h.lo, h.bm.fr hf (fun e => by have h1 : rb + 1 = rb := e; omega), by rw [← he]; exact h.br.set_ k x, fun y hy => ?_⟩
  have h1 : TagI u (fun i => i < u.heap.size ∧ i ≠ rb ∧ i ≠ rb + 1) (encS y) (elS y) := by
    rcases ht y hy with h2 | h2
    · exact h.tg y h2
    · exact h2
  exact tag_ok.mono (tag_ok.fr h1 hf (fun i hi e => hi.2.1 e)) (fun i hi => ⟨by rw [hz]; exact hi.1, hi.2⟩)
/-- bytes that were just laid, as an element -/
theorem lit_tag (u : World) (rb : Nat) (l : List UInt8) (q : Int) (n : Nat) (fz : Nat × Nat) (hl : l.length = n) (hn : n ≤ 1000) (hq : (Lit.int .i64 q).wf = true) (hr : rb + 1 < u.heap.size) :
    TagI (u.alloc (.cells (u8s l).toArray 5 fz)) (fun i => i < (u.alloc (.cells (u8s l).toArray 5 fz)).heap.size ∧ i ≠ rb ∧ i ≠ rb + 1) (encS ((q, some ⟨u.heap.size, 0, none⟩, n, n), l)) (elS ((q, some ⟨u.heap.size, 0, none⟩, n, n), l)) := by
  refine ⟨some ⟨u.heap.size, 0, none⟩, n, n, rfl, fld_mark u (u8s l) _ fz n (by rw [u8s_length]; exact hl) (by simp only [maxLen]; omega), fun ad e _ => ?_, hq, by omega⟩
  injection e with e
  subst e
  exact ⟨by simp, (show u.heap.size ≠ rb by omega), (show u.heap.size ≠ rb + 1 by omega)⟩
theorem rf_start (w W : World) (hW : (((((w.alloc (.cells #[.int .u8 48, .int .u8 48, .int .u8 48, .int .u8 48, .int .u8 48, .int .u8 55] 5 (6, 7))).alloc (.cells #[.int .u8 50, .int .u8 48, .int .u8 50, .int .u8 54, .int .u8 48, .int .u8 49, .int .u8 48, .int .u8 49, .int .u8 49, .int .u8 50, .int .u8 48, .int .u8 48, .int .u8 48, .int .u8 48] 5 (14, 15))).alloc (.cells #[.int .u8 49] 5 (1, 2))).alloc (.cells #[.int .u8 56, .int .u8 48, .int .u8 48] 5 (3, 4))).alloc (.cells #[.int .i64 11, .slice (some ⟨w.heap.size, 0, none⟩) 6 6, .int .i64 12, .slice (some ⟨w.heap.size + 1, 0, none⟩) 14 14, .int .i64 32, .slice (some ⟨w.heap.size + 1 + 1, 0, none⟩) 1 1, .int .i64 39, .slice (some ⟨w.heap.size + 1 + 1 + 1, 0, none⟩) 3 3] 24)).alloc (.cells #[.string ⟨#[50, 56, 49, 48]⟩, .slice (some ⟨w.heap.size + 1 + 1 + 1 + 1, 0, none⟩) 4 4] 27) = W) :
    RfS w W (w.heap.size + 1 + 1 + 1 + 1) ⟨#[50, 56, 49, 48]⟩ (.slice (some ⟨w.heap.size + 1 + 1 + 1 + 1, 0, none⟩) 4 4) (rfD w.heap.size) := by
  have f : ∀ (u : World) ob, Fr No u (u.alloc ob) := fun u ob => (Fr.refl No u).alloc ob
  have key : ∀ (u : World) (a : Nat) (l : List UInt8) (fz : Nat × Nat) (n : Nat), u.heap.size = a → l.length = n → n ≤ 1000 → Rd (u.alloc (.cells (u8s l).toArray 5 fz)) (some ⟨a, 0, none⟩) n n (u8s l) ∧ (u.alloc (.cells (u8s l).toArray 5 fz)).heap.size = a + 1 := fun u a l fz n ha hl hn => by
    subst ha
    exact ⟨fld_mark u (u8s l) _ fz n (by rw [u8s_length]; exact hl) (by simp only [maxLen]; omega), by simp⟩
  obtain ⟨r1, z1⟩ := key w _ [48, 48, 48, 48, 48, 55] (6, 7) 6 rfl rfl (by decide)
  obtain ⟨r2, z2⟩ := key _ _ nowB (14, 15) 14 z1 rfl (by decide)
  obtain ⟨r3, z3⟩ := key _ _ [49] (1, 2) 1 z2 rfl (by decide)
  obtain ⟨r4, z4⟩ := key _ _ [56, 48, 48] (3, 4) 3 z3 rfl (by decide)
  have k5 := Bk.new ((((w.alloc (.cells (u8s [48, 48, 48, 48, 48, 55]).toArray 5 (6, 7))).alloc (.cells (u8s nowB).toArray 5 (14, 15))).alloc (.cells (u8s [49]).toArray 5 (1, 2))).alloc (.cells (u8s [56, 48, 48]).toArray 5 (3, 4))) 24 ((rfD w.heap.size).flatMap encS).toArray
  have k6 := Bk.new (((((w.alloc (.cells (u8s [48, 48, 48, 48, 48, 55]).toArray 5 (6, 7))).alloc (.cells (u8s nowB).toArray 5 (14, 15))).alloc (.cells (u8s [49]).toArray 5 (1, 2))).alloc (.cells (u8s [56, 48, 48]).toArray 5 (3, 4))).alloc (.cells ((rfD w.heap.size).flatMap encS).toArray 24)) 27 #[.string ⟨#[50, 56, 49, 48]⟩, .slice (some ⟨w.heap.size + 1 + 1 + 1 + 1, 0, none⟩) 4 4]
  have z5 : (((((w.alloc (.cells (u8s [48, 48, 48, 48, 48, 55]).toArray 5 (6, 7))).alloc (.cells (u8s nowB).toArray 5 (14, 15))).alloc (.cells (u8s [49]).toArray 5 (1, 2))).alloc (.cells (u8s [56, 48, 48]).toArray 5 (3, 4))).alloc (.cells ((rfD w.heap.size).flatMap encS).toArray 24)).heap.size = w.heap.size + 1 + 1 + 1 + 1 + 1 := by simp
  rw [z4] at k5
  rw [z5] at k6
  have hWz : W.heap.size = w.heap.size + 1 + 1 + 1 + 1 + 1 + 1 := by rw [← hW]; simp
  rw [← hW] at hWz ⊢
  refine ⟨(((((f w _).trans (f _ _)).trans (f _ _)).trans (f _ _)).trans (f _ _)).trans (f _ _), by omega, k6, k5.no (f _ _), fun x hx => ?_⟩
  have tag : ∀ (q : Int) (b n : Nat) (l : List UInt8) (u : World), Rd u (some ⟨b, 0, none⟩) n n (u8s l) → (Lit.int .i64 q).wf = true → b < w.heap.size + 1 + 1 + 1 + 1 → u.heap.size = w.heap.size + 1 + 1 + 1 + 1 + 1 + 1 → TagI u (fun i => i < u.heap.size ∧ i ≠ w.heap.size + 1 + 1 + 1 + 1 ∧ i ≠ w.heap.size + 1 + 1 + 1 + 1 + 1) (encS ((q, some ⟨b, 0, none⟩, n, n), l)) (elS ((q, some ⟨b, 0, none⟩, n, n), l)) := fun q b n l u hr hq hb hu =>
    ⟨some ⟨b, 0, none⟩, n, n, rfl, hr, (fun ad e _ => by injection e with e; subst e; exact ⟨(show b < u.heap.size by omega), (show b ≠ _ by omega), (show b ≠ _ by omega)⟩), hq, rd_len63 hr⟩
  simp only [rfD, List.mem_cons, List.not_mem_nil, or_false] at hx
  rcases hx with rfl | rfl | rfl | rfl
  · exact tag 11 _ 6 _ _ (((((r1.no (f _ _)).no (f _ _)).no (f _ _)).no (f _ _)).no (f _ _)) (by decide) (by omega) hWz
  · exact tag 12 _ 14 _ _ ((((r2.no (f _ _)).no (f _ _)).no (f _ _)).no (f _ _)) (by decide) (by omega) hWz
  · exact tag 32 _ 1 _ _ (((r3.no (f _ _)).no (f _ _)).no (f _ _)) (by decide) (by omega) hWz
  · exact tag 39 _ 3 _ _ ((r4.no (f _ _)).no (f _ _)) (by decide) (by omega) hWz
theorem rf0 : pacE [50, 56, 49, 49] [(11, [48, 48, 48, 48, 48, 55]), (12, nowB), (32, [49]), (39, [56, 48, 48])] = 0 ∧ firstE (decEsL [50, 56, 49, 49] (fldT [(11, [48, 48, 48, 48, 48, 55]), (12, nowB), (32, [49]), (39, [56, 48, 48])]) (othE [(11, [48, 48, 48, 48, 48, 55]), (12, nowB), (32, [49]), (39, [56, 48, 48])]).length) = 15 := by decide +kernel
theorem rf0' : decFE (pacR [50, 56, 49, 49] [(11, [48, 48, 48, 48, 48, 55]), (12, nowB), (32, [49]), (39, [56, 48, 48])]) = 15 := by
  have e : pacR [50, 56, 49, 49] [(11, [48, 48, 48, 48, 48, 55]), (12, nowB), (32, [49]), (39, [56, 48, 48])] = wrtI [50, 56, 49, 49] [(11, [48, 48, 48, 48, 48, 55]), (12, nowB), (32, [49]), (39, [56, 48, 48])] := by unfold pacR; rw [if_pos rf0.1]
  unfold decFE
  rw [e, iso_back rf0.1]
  show (if (0 : Int) ≠ 0 then (0 : Int) else firstE (decEs [50, 56, 49, 49] (fldT [(11, [48, 48, 48, 48, 48, 55]), (12, nowB), (32, [49]), (39, [56, 48, 48])]) (othE [(11, [48, 48, 48, 48, 48, 55]), (12, nowB), (32, [49]), (39, [56, 48, 48])]).length)) = 15
  rw [if_neg (by decide), decEs_L]
  exact rf0.2
theorem rf1 : pacE [50, 56, 49, 48] [(12, nowB), (32, [49]), (39, [56, 48, 48])] = 0 ∧ firstE (decEsL [50, 56, 49, 48] (fldT [(12, nowB), (32, [49]), (39, [56, 48, 48])]) (othE [(12, nowB), (32, [49]), (39, [56, 48, 48])]).length) = 19 := by decide +kernel
theorem rf1' : decFE (pacR [50, 56, 49, 48] [(12, nowB), (32, [49]), (39, [56, 48, 48])]) = 19 := by
  have e : pacR [50, 56, 49, 48] [(12, nowB), (32, [49]), (39, [56, 48, 48])] = wrtI [50, 56, 49, 48] [(12, nowB), (32, [49]), (39, [56, 48, 48])] := by unfold pacR; rw [if_pos rf1.1]
  unfold decFE
  rw [e, iso_back rf1.1]
  show (if (0 : Int) ≠ 0 then (0 : Int) else firstE (decEs [50, 56, 49, 48] (fldT [(12, nowB), (32, [49]), (39, [56, 48, 48])]) (othE [(12, nowB), (32, [49]), (39, [56, 48, 48])]).length)) = 19
  rw [if_neg (by decide), decEs_L]
  exact rf1.2
theorem rf2 : pacE [50, 56, 49, 48] [(11, [48, 48, 48, 48, 48, 55]), (12, nowB), (32, [49])] = 0 ∧ firstE (decEsL [50, 56, 49, 48] (fldT [(11, [48, 48, 48, 48, 48, 55]), (12, nowB), (32, [49])]) (othE [(11, [48, 48, 48, 48, 48, 55]), (12, nowB), (32, [49])]).length) = 19 := by decide +kernel
theorem rf2' : decFE (pacR [50, 56, 49, 48] [(11, [48, 48, 48, 48, 48, 55]), (12, nowB), (32, [49])]) = 19 := by
  have e : pacR [50, 56, 49, 48] [(11, [48, 48, 48, 48, 48, 55]), (12, nowB), (32, [49])] = wrtI [50, 56, 49, 48] [(11, [48, 48, 48, 48, 48, 55]), (12, nowB), (32, [49])] := by unfold pacR; rw [if_pos rf2.1]
  unfold decFE
  rw [e, iso_back rf2.1]
  show (if (0 : Int) ≠ 0 then (0 : Int) else firstE (decEs [50, 56, 49, 48] (fldT [(11, [48, 48, 48, 48, 48, 55]), (12, nowB), (32, [49])]) (othE [(11, [48, 48, 48, 48, 48, 55]), (12, nowB), (32, [49])]).length)) = 19
  rw [if_neg (by decide), decEs_L]
  exact rf2.2
theorem rf3 : pacE [50, 56, 49, 48] [(11, [48, 48, 48, 48, 48, 55]), (12, [50, 48, 50, 54, 48, 49, 48, 49, 50, 53, 48, 48, 48, 48]), (32, [49]), (39, [56, 48, 48])] = 0 ∧ firstE (decEsL [50, 56, 49, 48] (fldT [(11, [48, 48, 48, 48, 48, 55]), (12, [50, 48, 50, 54, 48, 49, 48, 49, 50, 53, 48, 48, 48, 48]), (32, [49]), (39, [56, 48, 48])]) (othE [(11, [48, 48, 48, 48, 48, 55]), (12, [50, 48, 50, 54, 48, 49, 48, 49, 50, 53, 48, 48, 48, 48]), (32, [49]), (39, [56, 48, 48])]).length) = 14 := by decide +kernel
theorem rf3' : decFE (pacR [50, 56, 49, 48] [(11, [48, 48, 48, 48, 48, 55]), (12, [50, 48, 50, 54, 48, 49, 48, 49, 50, 53, 48, 48, 48, 48]), (32, [49]), (39, [56, 48, 48])]) = 14 := by
  have e : pacR [50, 56, 49, 48] [(11, [48, 48, 48, 48, 48, 55]), (12, [50, 48, 50, 54, 48, 49, 48, 49, 50, 53, 48, 48, 48, 48]), (32, [49]), (39, [56, 48, 48])] = wrtI [50, 56, 49, 48] [(11, [48, 48, 48, 48, 48, 55]), (12, [50, 48, 50, 54, 48, 49, 48, 49, 50, 53, 48, 48, 48, 48]), (32, [49]), (39, [56, 48, 48])] := by unfold pacR; rw [if_pos rf3.1]
  unfold decFE
  rw [e, iso_back rf3.1]
  show (if (0 : Int) ≠ 0 then (0 : Int) else firstE (decEs [50, 56, 49, 48] (fldT [(11, [48, 48, 48, 48, 48, 55]), (12, [50, 48, 50, 54, 48, 49, 48, 49, 50, 53, 48, 48, 48, 48]), (32, [49]), (39, [56, 48, 48])]) (othE [(11, [48, 48, 48, 48, 48, 55]), (12, [50, 48, 50, 54, 48, 49, 48, 49, 50, 53, 48, 48, 48, 48]), (32, [49]), (39, [56, 48, 48])]).length)) = 14
  rw [if_neg (by decide), decEs_L]
  exact rf3.2
theorem rf4 : pacE [50, 56, 49, 48] [(11, [48, 48, 48, 48, 48, 55]), (12, nowB), (32, [49]), (39, [56, 48, 49])] = 0 ∧ firstE (decEsL [50, 56, 49, 48] (fldT [(11, [48, 48, 48, 48, 48, 55]), (12, nowB), (32, [49]), (39, [56, 48, 49])]) (othE [(11, [48, 48, 48, 48, 48, 55]), (12, nowB), (32, [49]), (39, [56, 48, 49])]).length) = 20 := by decide +kernel
theorem rf4' : decFE (pacR [50, 56, 49, 48] [(11, [48, 48, 48, 48, 48, 55]), (12, nowB), (32, [49]), (39, [56, 48, 49])]) = 20 := by
  have e : pacR [50, 56, 49, 48] [(11, [48, 48, 48, 48, 48, 55]), (12, nowB), (32, [49]), (39, [56, 48, 49])] = wrtI [50, 56, 49, 48] [(11, [48, 48, 48, 48, 48, 55]), (12, nowB), (32, [49]), (39, [56, 48, 49])] := by unfold pacR; rw [if_pos rf4.1]
  unfold decFE
  rw [e, iso_back rf4.1]
  show (if (0 : Int) ≠ 0 then (0 : Int) else firstE (decEs [50, 56, 49, 48] (fldT [(11, [48, 48, 48, 48, 48, 55]), (12, nowB), (32, [49]), (39, [56, 48, 49])]) (othE [(11, [48, 48, 48, 48, 48, 55]), (12, nowB), (32, [49]), (39, [56, 48, 49])]).length)) = 20
  rw [if_neg (by decide), decEs_L]
  exact rf4.2
theorem rf5 : pacE [50, 56, 49, 48] [(11, [48, 48, 48, 48, 48, 55]), (12, nowB), (32, [49]), (39, [56, 48, 48]), (49, [57, 55, 56])] = 0 ∧ firstE (decEsL [50, 56, 49, 48] (fldT [(11, [48, 48, 48, 48, 48, 55]), (12, nowB), (32, [49]), (39, [56, 48, 48]), (49, [57, 55, 56])]) (othE [(11, [48, 48, 48, 48, 48, 55]), (12, nowB), (32, [49]), (39, [56, 48, 48]), (49, [57, 55, 56])]).length) = 19 := by decide +kernel
theorem rf5' : decFE (pacR [50, 56, 49, 48] [(11, [48, 48, 48, 48, 48, 55]), (12, nowB), (32, [49]), (39, [56, 48, 48]), (49, [57, 55, 56])]) = 19 := by
  have e : pacR [50, 56, 49, 48] [(11, [48, 48, 48, 48, 48, 55]), (12, nowB), (32, [49]), (39, [56, 48, 48]), (49, [57, 55, 56])] = wrtI [50, 56, 49, 48] [(11, [48, 48, 48, 48, 48, 55]), (12, nowB), (32, [49]), (39, [56, 48, 48]), (49, [57, 55, 56])] := by unfold pacR; rw [if_pos rf5.1]
  unfold decFE
  rw [e, iso_back rf5.1]
  show (if (0 : Int) ≠ 0 then (0 : Int) else firstE (decEs [50, 56, 49, 48] (fldT [(11, [48, 48, 48, 48, 48, 55]), (12, nowB), (32, [49]), (39, [56, 48, 48]), (49, [57, 55, 56])]) (othE [(11, [48, 48, 48, 48, 48, 55]), (12, nowB), (32, [49]), (39, [56, 48, 48]), (49, [57, 55, 56])]).length)) = 19
  rw [if_neg (by decide), decEs_L]
  exact rf5.2
theorem rf6 : pacE [50, 56, 49, 48] [(11, [48, 48, 48, 48, 48, 55]), (12, nowB), (32, [49]), (39, [56, 48, 48]), (48, [48, 48, 48, 48, 48, 48, 48, 122])] = 0 ∧ firstE (decEsL [50, 56, 49, 48] (fldT [(11, [48, 48, 48, 48, 48, 55]), (12, nowB), (32, [49]), (39, [56, 48, 48]), (48, [48, 48, 48, 48, 48, 48, 48, 122])]) (othE [(11, [48, 48, 48, 48, 48, 55]), (12, nowB), (32, [49]), (39, [56, 48, 48]), (48, [48, 48, 48, 48, 48, 48, 48, 122])]).length) = 14 := by decide +kernel
theorem rf6' : decFE (pacR [50, 56, 49, 48] [(11, [48, 48, 48, 48, 48, 55]), (12, nowB), (32, [49]), (39, [56, 48, 48]), (48, [48, 48, 48, 48, 48, 48, 48, 122])]) = 14 := by
  have e : pacR [50, 56, 49, 48] [(11, [48, 48, 48, 48, 48, 55]), (12, nowB), (32, [49]), (39, [56, 48, 48]), (48, [48, 48, 48, 48, 48, 48, 48, 122])] = wrtI [50, 56, 49, 48] [(11, [48, 48, 48, 48, 48, 55]), (12, nowB), (32, [49]), (39, [56, 48, 48]), (48, [48, 48, 48, 48, 48, 48, 48, 122])] := by unfold pacR; rw [if_pos rf6.1]
  unfold decFE
  rw [e, iso_back rf6.1]
  show (if (0 : Int) ≠ 0 then (0 : Int) else firstE (decEs [50, 56, 49, 48] (fldT [(11, [48, 48, 48, 48, 48, 55]), (12, nowB), (32, [49]), (39, [56, 48, 48]), (48, [48, 48, 48, 48, 48, 48, 48, 122])]) (othE [(11, [48, 48, 48, 48, 48, 55]), (12, nowB), (32, [49]), (39, [56, 48, 48]), (48, [48, 48, 48, 48, 48, 48, 48, 122])]).length)) = 14
  rw [if_neg (by decide), decEs_L]
  exact rf6.2
theorem rf7 : pacE [50, 56, 49, 48] [(11, [48, 48, 48, 48, 48, 55]), (12, nowB), (32, [49]), (39, [56, 48, 48]), (55, [0])] = 0 ∧ firstE (decEsL [50, 56, 49, 48] (fldT [(11, [48, 48, 48, 48, 48, 55]), (12, nowB), (32, [49]), (39, [56, 48, 48]), (55, [0])]) (othE [(11, [48, 48, 48, 48, 48, 55]), (12, nowB), (32, [49]), (39, [56, 48, 48]), (55, [0])]).length) = 18 := by decide +kernel
theorem rf7' : decFE (pacR [50, 56, 49, 48] [(11, [48, 48, 48, 48, 48, 55]), (12, nowB), (32, [49]), (39, [56, 48, 48]), (55, [0])]) = 18 := by
  have e : pacR [50, 56, 49, 48] [(11, [48, 48, 48, 48, 48, 55]), (12, nowB), (32, [49]), (39, [56, 48, 48]), (55, [0])] = wrtI [50, 56, 49, 48] [(11, [48, 48, 48, 48, 48, 55]), (12, nowB), (32, [49]), (39, [56, 48, 48]), (55, [0])] := by unfold pacR; rw [if_pos rf7.1]
  unfold decFE
  rw [e, iso_back rf7.1]
  show (if (0 : Int) ≠ 0 then (0 : Int) else firstE (decEs [50, 56, 49, 48] (fldT [(11, [48, 48, 48, 48, 48, 55]), (12, nowB), (32, [49]), (39, [56, 48, 48]), (55, [0])]) (othE [(11, [48, 48, 48, 48, 48, 55]), (12, nowB), (32, [49]), (39, [56, 48, 48]), (55, [0])]).length)) = 18
  rw [if_neg (by decide), decEs_L]
  exact rf7.2
theorem rf8 : pacE [50, 56, 49, 48] [(11, [48, 48, 48, 48, 48, 55]), (12, nowB), (32, [49]), (39, [56, 48, 48])] = 0 ∧ firstE (decEsL [50, 56, 49, 48] (fldT [(11, [48, 48, 48, 48, 48, 55]), (12, nowB), (32, [49]), (39, [56, 48, 48])]) (othE [(11, [48, 48, 48, 48, 48, 55]), (12, nowB), (32, [49]), (39, [56, 48, 48])]).length) = 0 := by decide +kernel
theorem rf8' : decFE (pacR [50, 56, 49, 48] [(11, [48, 48, 48, 48, 48, 55]), (12, nowB), (32, [49]), (39, [56, 48, 48])]) = 0 := by
  have e : pacR [50, 56, 49, 48] [(11, [48, 48, 48, 48, 48, 55]), (12, nowB), (32, [49]), (39, [56, 48, 48])] = wrtI [50, 56, 49, 48] [(11, [48, 48, 48, 48, 48, 55]), (12, nowB), (32, [49]), (39, [56, 48, 48])] := by unfold pacR; rw [if_pos rf8.1]
  unfold decFE
  rw [e, iso_back rf8.1]
  show (if (0 : Int) ≠ 0 then (0 : Int) else firstE (decEs [50, 56, 49, 48] (fldT [(11, [48, 48, 48, 48, 48, 55]), (12, nowB), (32, [49]), (39, [56, 48, 48])]) (othE [(11, [48, 48, 48, 48, 48, 55]), (12, nowB), (32, [49]), (39, [56, 48, 48])]).length)) = 0
  rw [if_neg (by decide), decEs_L]
  exact rf8.2
theorem RfS.row {w u : World} {rb : Nat} {S : ByteArray} {v : Value} {ds : List SE} (h : RfS w u rb S v ds) (i n c : Nat) (hn : i + n ≤ ds.length) (hc : n ≤ c) (hcm : c ≤ maxLen) :
    RdI 2 TagI u (fun i => i < u.heap.size) (some ⟨rb, i * 2, none⟩) n c (((ds.drop i).take n).map elS) :=
  se_row h.br (fun x hx => tag_ok.mono (h.tg x hx) (fun i hi => hi.1)) i n c hn hc hcm h.br.lt
theorem own_out {v : Value} {rb s i : Nat} (hr : v.ownBlock = some rb ∨ v.ownBlock = some s) (e : v.ownBlock = some i) (h : rb + 1 < s) : i ≠ rb + 1 := by
  rcases hr with h1 | h1
  · have h2 : rb = i := Option.some.inj (h1.symm.trans e); omega
  · have h2 : s = i := Option.some.inj (h1.symm.trans e); omega
theorem dec_bad {b : List UInt8} {w w' : World} {e : Ending} {E : Int} (hE : decFE b = E) (h0 : E ≠ 0) (h : DecTo b w e w') : Fr No w w' ∧ e = .returned (.tuple #[mz.val, .int .i64 E]) := by
  obtain ⟨hf, ⟨_, h2⟩ | ⟨h1, _⟩⟩ := h
  · rw [hE] at h2; exact ⟨hf, h2⟩
  · rw [hE] at h1; exact absurd h1 h0
theorem rf8_par : parI (pacR [50, 56, 49, 48] [(11, [48, 48, 48, 48, 48, 55]), (12, nowB), (32, [49]), (39, [56, 48, 48])]) = (0, [50, 56, 49, 48], [(11, [48, 48, 48, 48, 48, 55]), (12, nowB), (32, [49]), (39, [56, 48, 48])]) := by
  unfold pacR
  rw [if_pos rf8.1]
  exact iso_back rf8.1
theorem rf8_c (tA : Option Addr) (tc : Nat) (oA : Option Addr) (oc : Nat) : ∃ s X1 X2, s = (7 : Int) ∧ (decC [50, 56, 49, 48] [(11, [48, 48, 48, 48, 48, 55]), (12, nowB), (32, [49]), (39, [56, 48, 48])] tA tc oA oc) = X1 ∧ X1.stan = s ∧ X1.act = X2 ∧ X2 = bstr [56, 48, 48] := by
  refine ⟨_, _, _, rfl, rfl, ?_, rfl, ?_⟩
  · show (decC [50, 56, 49, 48] [(11, [48, 48, 48, 48, 48, 55]), (12, nowB), (32, [49]), (39, [56, 48, 48])] none 0 none 0).stan = 7
    decide +kernel
  · show (decC [50, 56, 49, 48] [(11, [48, 48, 48, 48, 48, 55]), (12, nowB), (32, [49]), (39, [56, 48, 48])] none 0 none 0).act = bstr [56, 48, 48]
    decide +kernel
theorem dec_good {w w' : World} {e : Ending} (h : DecTo (pacR [50, 56, 49, 48] [(11, [48, 48, 48, 48, 48, 55]), (12, nowB), (32, [49]), (39, [56, 48, 48])]) w e w') : ∃ X : MsgC, X.stan = 7 ∧ X.act = bstr [56, 48, 48] ∧ Fr No w w' ∧ e = .returned (.tuple #[X.val, .int .i64 0]) := by
  obtain ⟨hf, ⟨h1, -⟩ | ⟨-, tA, tc, oA, oc, h2, -, -⟩⟩ := h
  · exact absurd rf8' h1
  · rw [rf8_par] at h2
    dsimp only at h2
    obtain ⟨s, X1, X2, e1, e2, e3, e4, e5⟩ := rf8_c tA tc oA oc
    rw [e2] at h2
    exact ⟨X1, by rw [e3, e1], by rw [e4, e5], hf, h2⟩
end Go.Proofs.YthlgnmgjfgbffaaGreatDoor
/- FieldsRefuse: the walk: nine messages of elements. -/
namespace Go.Proofs.YthlgnmgjfgbffaaGreatDoor
open Go.RowKit
set_option maxHeartbeats 4000000
set_option linter.unusedVariables false
set_option maxRecDepth 20000
theorem refusefld_walk {x : Int} (w : World) (hT : Tabs w) (hx : (Lit.int .i64 x).wf = true) :
    Calls Tryz.prog 3 #[.int .i64 x] w fun e w' => e = .returned (.bool true) ∧ Fr No w w' := by
  obtain ⟨x0, x1⟩ := wf_i64 hx
  obtain ⟨q, hq, hqe⟩ := fumod x 9 (by decide) (by decide)
  obtain ⟨Z, hz2, hZ⟩ : ∃ Z : Int, (IntKind.u64.wrap x).tmod 9 = Z ∧ (Z = 0 ∨ Z = 1 ∨ Z = 2 ∨ Z = 3 ∨ Z = 4 ∨ Z = 5 ∨ Z = 6 ∨ Z = 7 ∨ Z = 8) := ⟨(q : Int), hqe, by omega⟩
  clear hqe hq
  have HT := Lib.hid hT
  clear hT hx
  have kc : ∀ (u : World) (C : Array Value) (n c g : Nat), u.heap.size = g → (convert 22 22 (.slice (some ⟨g, 0, none⟩) n c)).run Tryz.prog (u.alloc (.cells C 5)) = .ok (.slice (some ⟨g, 0, none⟩) n c) (u.alloc (.cells C 5 (C.size, C.size + 1))) := fun u C n c g hg => by
    subst hg
    exact Lib.run_convert_bytes_const (P := Tryz.prog) u 22 5 C n c Tryz.underlying22 Tryz.underlying5
  go_enter Tryz.func3, Tryz.ntmps3
  go_upto_region 2 with fail
  generalize hW : (((((w.alloc (.cells #[.int .u8 48, .int .u8 48, .int .u8 48, .int .u8 48, .int .u8 48, .int .u8 55] 5 (6, 7))).alloc (.cells #[.int .u8 50, .int .u8 48, .int .u8 50, .int .u8 54, .int .u8 48, .int .u8 49, .int .u8 48, .int .u8 49, .int .u8 49, .int .u8 50, .int .u8 48, .int .u8 48, .int .u8 48, .int .u8 48] 5 (14, 15))).alloc (.cells #[.int .u8 49] 5 (1, 2))).alloc (.cells #[.int .u8 56, .int .u8 48, .int .u8 48] 5 (3, 4))).alloc (.cells #[.int .i64 11, .slice (some ⟨w.heap.size, 0, none⟩) 6 6, .int .i64 12, .slice (some ⟨w.heap.size + 1, 0, none⟩) 14 14, .int .i64 32, .slice (some ⟨w.heap.size + 1 + 1, 0, none⟩) 1 1, .int .i64 39, .slice (some ⟨w.heap.size + 1 + 1 + 1, 0, none⟩) 3 3] 24)).alloc (.cells #[.string ⟨#[50, 56, 49, 48]⟩, .slice (some ⟨w.heap.size + 1 + 1 + 1 + 1, 0, none⟩) 4 4] 27) = W
  have st := rf_start w W hW
  clear hW
  obtain ⟨rb, hrb⟩ : ∃ rb, w.heap.size + 1 + 1 + 1 + 1 = rb := ⟨_, rfl⟩
  rw [hrb] at st ⊢
  clear hrb
  have AW := Lib.hid (fun u (hu : Fr No w u) => awake_fld u (HT.out.fr hu))
  have ST := Lib.hid st
  have m0 : W.cell? ⟨rb + 1, 0, none⟩ = some (.string ⟨#[50, 56, 49, 48]⟩) := st.bm.cell 0
  have m1 : W.cell? ⟨rb + 1, 1, none⟩ = some (.slice (some ⟨rb, 0, none⟩) 4 4) := st.bm.cell 1
  have z0 := st.bm.frozen 0
  have z1 := st.bm.frozen 1
  clear st
  go_upto_region 5 with fail
  rcases hZ with rfl | rfl | rfl | rfl | rfl | rfl | rfl | rfl | rfl
  all_goals have st := ST.out
  · go_upto_region 21 with fail
    have st2 := (st.setM 0 (.string ⟨#[50, 56, 49, 49]⟩) ⟨#[50, 56, 49, 49]⟩ _ rfl)
    generalize hU : (W.setCell ⟨rb + 1, 0, none⟩ (.string ⟨#[50, 56, 49, 49]⟩)) = U at *
    have hrow : RdI 2 TagI U (fun i => i < U.heap.size) (some ⟨rb, 0, none⟩) 4 4 [(11, [48, 48, 48, 48, 48, 55]), (12, nowB), (32, [49]), (39, [56, 48, 48])] := st2.row 0 4 4 (show 0 + 4 ≤ 4 by decide) (by decide) (by decide)
    have n0 := st2.bm.cell 0
    have n1 := st2.bm.cell 1
    simp only [List.getElem?_cons_zero, List.getElem?_cons_succ] at n0 n1
    have HU := Lib.hid st2.fr
    clear m0 m1 z0 z1 st st2 ST hU
    have HPK0 : Calls Tryz.prog 5 #[.agg #[.string ⟨#[50, 56, 49, 49]⟩, .slice (some ⟨rb, 0, none⟩) 4 4]] U (PacTo [50, 56, 49, 49] [(11, [48, 48, 48, 48, 48, 55]), (12, nowB), (32, [49]), (39, [56, 48, 48])] U) := r_PackIso ⟨#[50, 56, 49, 49]⟩ (some ⟨rb, 0, none⟩) 4 4 _ U hrow (by decide) (by decide)
    unfold PacTo at HPK0
    rw [rf0.1] at HPK0
    have HPK := Lib.hid HPK0
    clear HPK0
    have hB := rf0'
    generalize pacR [50, 56, 49, 49] [(11, [48, 48, 48, 48, 48, 55]), (12, nowB), (32, [49]), (39, [56, 48, 48])] = B at HPK hB
    obtain ⟨k, hk⟩ : ∃ k, B.length = k := ⟨_, rfl⟩
    have HD := Lib.hid (fun u A c (hu : Fr No w u) (hr : Rd u A k c (u8s B)) => (by subst hk; exact (f_decode_any A c B u hr (HT.out.fr hu)).mono (fun e w' h => dec_bad hB (by decide) h) : Calls Tryz.prog 6 #[.slice A k c] u (fun e w' => Fr No u w' ∧ e = .returned (.tuple #[mz.val, .int .i64 15]))))
    have HK := Lib.hid hk
    clear hk hB hrow
    have tokA := True.intro
    go_upto_region 22 with (go_at_call 5; clear tokA; refine (HPK.out).mono ?_; rintro e w6 ⟨v, rfl, ho6, f6⟩; obtain ⟨V, vc, rfl, hr6, -⟩ := ownM_rd ho6; rw [HK.out] at hr6 ⊢; have R6 := Lib.hid hr6; have F6 := Lib.hid (HU.out.trans f6); clear ho6 hr6 f6)
    go_upto_region 23 with (first
      | (go_at_call 6; refine (HD.out _ _ _ F6.out R6.out).mono ?_; rintro e w7 ⟨f7, rfl⟩; have F7 := Lib.hid (F6.out.trans f7); clear f7)
      | (refine wpList_store_bk rfl 38 _ _ rfl w7.heap.size rfl mz.cells mz.cells rfl (Bk.new w7 38 mz.cells.toArray) rfl (msgSizeF _) (msg_oneF _) ?_; intro w8 b8 f8 s8; have F78 := Lib.hid (((Fr.refl No w7).alloc (.cells mz.cells.toArray 38)).trans_just f8 (Nat.le_refl _)); have F8 := Lib.hid (F7.out.trans F78.out); clear b8 f8 s8))
    clear HPK HD R6
    go_wp2_with (go_at_call 7; refine (AW.out _ F8.out).mono ?_; rintro e w9 ⟨rfl, f9⟩; have F9 := Lib.hid (F8.out.trans f9); clear f9)
    go_ret
    exact ⟨rfl, F9.out⟩
  · go_upto_region 21 with fail
    have st2 := (st.setM 1 (.slice (some ⟨rb, 2, none⟩) 3 3) ⟨#[50, 56, 49, 48]⟩ (.slice (some ⟨rb, 2, none⟩) 3 3) rfl)
    generalize hU : (W.setCell ⟨rb + 1, 1, none⟩ (.slice (some ⟨rb, 2, none⟩) 3 3)) = U at *
    have hrow : RdI 2 TagI U (fun i => i < U.heap.size) (some ⟨rb, 2, none⟩) 3 3 [(12, nowB), (32, [49]), (39, [56, 48, 48])] := st2.row 1 3 3 (show 1 + 3 ≤ 4 by decide) (by decide) (by decide)
    have n0 := st2.bm.cell 0
    have n1 := st2.bm.cell 1
    simp only [List.getElem?_cons_zero, List.getElem?_cons_succ] at n0 n1
    have HU := Lib.hid st2.fr
    clear m0 m1 z0 z1 st st2 ST hU
    have HPK0 : Calls Tryz.prog 5 #[.agg #[.string ⟨#[50, 56, 49, 48]⟩, .slice (some ⟨rb, 2, none⟩) 3 3]] U (PacTo [50, 56, 49, 48] [(12, nowB), (32, [49]), (39, [56, 48, 48])] U) := r_PackIso ⟨#[50, 56, 49, 48]⟩ (some ⟨rb, 2, none⟩) 3 3 _ U hrow (by decide) (by decide)
    unfold PacTo at HPK0
    rw [rf1.1] at HPK0
    have HPK := Lib.hid HPK0
    clear HPK0
    have hB := rf1'
    generalize pacR [50, 56, 49, 48] [(12, nowB), (32, [49]), (39, [56, 48, 48])] = B at HPK hB
    obtain ⟨k, hk⟩ : ∃ k, B.length = k := ⟨_, rfl⟩
    have HD := Lib.hid (fun u A c (hu : Fr No w u) (hr : Rd u A k c (u8s B)) => (by subst hk; exact (f_decode_any A c B u hr (HT.out.fr hu)).mono (fun e w' h => dec_bad hB (by decide) h) : Calls Tryz.prog 6 #[.slice A k c] u (fun e w' => Fr No u w' ∧ e = .returned (.tuple #[mz.val, .int .i64 19]))))
    have HK := Lib.hid hk
    clear hk hB hrow
    have tokA := True.intro
    go_upto_region 22 with (go_at_call 5; clear tokA; refine (HPK.out).mono ?_; rintro e w6 ⟨v, rfl, ho6, f6⟩; obtain ⟨V, vc, rfl, hr6, -⟩ := ownM_rd ho6; rw [HK.out] at hr6 ⊢; have R6 := Lib.hid hr6; have F6 := Lib.hid (HU.out.trans f6); clear ho6 hr6 f6)
    go_upto_region 23 with (first
      | (go_at_call 6; refine (HD.out _ _ _ F6.out R6.out).mono ?_; rintro e w7 ⟨f7, rfl⟩; have F7 := Lib.hid (F6.out.trans f7); clear f7)
      | (refine wpList_store_bk rfl 38 _ _ rfl w7.heap.size rfl mz.cells mz.cells rfl (Bk.new w7 38 mz.cells.toArray) rfl (msgSizeF _) (msg_oneF _) ?_; intro w8 b8 f8 s8; have F78 := Lib.hid (((Fr.refl No w7).alloc (.cells mz.cells.toArray 38)).trans_just f8 (Nat.le_refl _)); have F8 := Lib.hid (F7.out.trans F78.out); clear b8 f8 s8))
    clear HPK HD R6
    go_wp2_with (go_at_call 7; refine (AW.out _ F8.out).mono ?_; rintro e w9 ⟨rfl, f9⟩; have F9 := Lib.hid (F8.out.trans f9); clear f9)
    go_ret
    exact ⟨rfl, F9.out⟩
  · go_upto_region 21 with fail
    have st2 := (st.setM 1 (.slice (some ⟨rb, 0, none⟩) 3 4) ⟨#[50, 56, 49, 48]⟩ (.slice (some ⟨rb, 0, none⟩) 3 4) rfl)
    generalize hU : (W.setCell ⟨rb + 1, 1, none⟩ (.slice (some ⟨rb, 0, none⟩) 3 4)) = U at *
    have hrow : RdI 2 TagI U (fun i => i < U.heap.size) (some ⟨rb, 0, none⟩) 3 4 [(11, [48, 48, 48, 48, 48, 55]), (12, nowB), (32, [49])] := st2.row 0 3 4 (show 0 + 3 ≤ 4 by decide) (by decide) (by decide)
    have n0 := st2.bm.cell 0
    have n1 := st2.bm.cell 1
    simp only [List.getElem?_cons_zero, List.getElem?_cons_succ] at n0 n1
    have HU := Lib.hid st2.fr
    clear m0 m1 z0 z1 st st2 ST hU
    have HPK0 : Calls Tryz.prog 5 #[.agg #[.string ⟨#[50, 56, 49, 48]⟩, .slice (some ⟨rb, 0, none⟩) 3 4]] U (PacTo [50, 56, 49, 48] [(11, [48, 48, 48, 48, 48, 55]), (12, nowB), (32, [49])] U) := r_PackIso ⟨#[50, 56, 49, 48]⟩ (some ⟨rb, 0, none⟩) 3 4 _ U hrow (by decide) (by decide)
    unfold PacTo at HPK0
    rw [rf2.1] at HPK0
    have HPK := Lib.hid HPK0
    clear HPK0
    have hB := rf2'
    generalize pacR [50, 56, 49, 48] [(11, [48, 48, 48, 48, 48, 55]), (12, nowB), (32, [49])] = B at HPK hB
    obtain ⟨k, hk⟩ : ∃ k, B.length = k := ⟨_, rfl⟩
    have HD := Lib.hid (fun u A c (hu : Fr No w u) (hr : Rd u A k c (u8s B)) => (by subst hk; exact (f_decode_any A c B u hr (HT.out.fr hu)).mono (fun e w' h => dec_bad hB (by decide) h) : Calls Tryz.prog 6 #[.slice A k c] u (fun e w' => Fr No u w' ∧ e = .returned (.tuple #[mz.val, .int .i64 19]))))
    have HK := Lib.hid hk
    clear hk hB hrow
    have tokA := True.intro
    go_upto_region 22 with (go_at_call 5; clear tokA; refine (HPK.out).mono ?_; rintro e w6 ⟨v, rfl, ho6, f6⟩; obtain ⟨V, vc, rfl, hr6, -⟩ := ownM_rd ho6; rw [HK.out] at hr6 ⊢; have R6 := Lib.hid hr6; have F6 := Lib.hid (HU.out.trans f6); clear ho6 hr6 f6)
    go_upto_region 23 with (first
      | (go_at_call 6; refine (HD.out _ _ _ F6.out R6.out).mono ?_; rintro e w7 ⟨f7, rfl⟩; have F7 := Lib.hid (F6.out.trans f7); clear f7)
      | (refine wpList_store_bk rfl 38 _ _ rfl w7.heap.size rfl mz.cells mz.cells rfl (Bk.new w7 38 mz.cells.toArray) rfl (msgSizeF _) (msg_oneF _) ?_; intro w8 b8 f8 s8; have F78 := Lib.hid (((Fr.refl No w7).alloc (.cells mz.cells.toArray 38)).trans_just f8 (Nat.le_refl _)); have F8 := Lib.hid (F7.out.trans F78.out); clear b8 f8 s8))
    clear HPK HD R6
    go_wp2_with (go_at_call 7; refine (AW.out _ F8.out).mono ?_; rintro e w9 ⟨rfl, f9⟩; have F9 := Lib.hid (F8.out.trans f9); clear f9)
    go_ret
    exact ⟨rfl, F9.out⟩
  · have f1 : Fr No W (W.alloc (.cells #[.int .u8 50, .int .u8 48, .int .u8 50, .int .u8 54, .int .u8 48, .int .u8 49, .int .u8 48, .int .u8 49, .int .u8 50, .int .u8 53, .int .u8 48, .int .u8 48, .int .u8 48, .int .u8 48] 5 (14, 15))) := (Fr.refl No W).alloc _
    have st1 := st.no f1
    have zr := st.br.frozen 3
    have zr1 := st1.br.frozen 3
    have yr : W.cell? ⟨rb, 3, none⟩ = some (.slice (some ⟨w.heap.size + 1, 0, none⟩) 14 14) := st.br.cell 3
    have yr1 : (W.alloc (.cells #[.int .u8 50, .int .u8 48, .int .u8 50, .int .u8 54, .int .u8 48, .int .u8 49, .int .u8 48, .int .u8 49, .int .u8 50, .int .u8 53, .int .u8 48, .int .u8 48, .int .u8 48, .int .u8 48] 5 (14, 15))).cell? ⟨rb, 3, none⟩ = some (.slice (some ⟨w.heap.size + 1, 0, none⟩) 14 14) := st1.br.cell 3
    have TG : TagI (W.alloc (.cells #[.int .u8 50, .int .u8 48, .int .u8 50, .int .u8 54, .int .u8 48, .int .u8 49, .int .u8 48, .int .u8 49, .int .u8 50, .int .u8 53, .int .u8 48, .int .u8 48, .int .u8 48, .int .u8 48] 5 (14, 15))) (fun i => i < (W.alloc (.cells #[.int .u8 50, .int .u8 48, .int .u8 50, .int .u8 54, .int .u8 48, .int .u8 49, .int .u8 48, .int .u8 49, .int .u8 50, .int .u8 53, .int .u8 48, .int .u8 48, .int .u8 48, .int .u8 48] 5 (14, 15))).heap.size ∧ i ≠ rb ∧ i ≠ rb + 1) (encS ((12, some ⟨W.heap.size, 0, none⟩, 14, 14), [50, 48, 50, 54, 48, 49, 48, 49, 50, 53, 48, 48, 48, 48])) (elS ((12, some ⟨W.heap.size, 0, none⟩, 14, 14), [50, 48, 50, 54, 48, 49, 48, 49, 50, 53, 48, 48, 48, 48])) := lit_tag W rb [50, 48, 50, 54, 48, 49, 48, 49, 50, 53, 48, 48, 48, 48] 12 14 (14, 15) rfl (by decide) (by decide) st.bm.lt
    have st2 := st1.setD (ds' := [((11, some ⟨w.heap.size, 0, none⟩, 6, 6), [48, 48, 48, 48, 48, 55]), ((12, some ⟨W.heap.size, 0, none⟩, 14, 14), [50, 48, 50, 54, 48, 49, 48, 49, 50, 53, 48, 48, 48, 48]), ((32, some ⟨w.heap.size + 1 + 1, 0, none⟩, 1, 1), [49]), ((39, some ⟨w.heap.size + 1 + 1 + 1, 0, none⟩, 3, 3), [56, 48, 48])]) 3 (.slice (some ⟨W.heap.size, 0, none⟩) 14 14) rfl (fun y hy => by
      simp only [List.mem_cons, List.not_mem_nil, or_false] at hy
      rcases hy with rfl | rfl | rfl | rfl
      · exact .inl (by simp [rfD])
      · exact .inr TG
      · exact .inl (by simp [rfD])
      · exact .inl (by simp [rfD]))
    have HST2 := Lib.hid st2
    clear st2 TG st1 f1
    go_upto_region 21 with fail
    have st2 := HST2.out
    generalize hU : (W.alloc (.cells #[.int .u8 50, .int .u8 48, .int .u8 50, .int .u8 54, .int .u8 48, .int .u8 49, .int .u8 48, .int .u8 49, .int .u8 50, .int .u8 53, .int .u8 48, .int .u8 48, .int .u8 48, .int .u8 48] 5 (14, 15))).setCell ⟨rb, 3, none⟩ (.slice (some ⟨W.heap.size, 0, none⟩) 14 14) = U at *
    have hrow : RdI 2 TagI U (fun i => i < U.heap.size) (some ⟨rb, 0, none⟩) 4 4 [(11, [48, 48, 48, 48, 48, 55]), (12, [50, 48, 50, 54, 48, 49, 48, 49, 50, 53, 48, 48, 48, 48]), (32, [49]), (39, [56, 48, 48])] := st2.row 0 4 4 (show 0 + 4 ≤ 4 by decide) (by decide) (by decide)
    have n0 := st2.bm.cell 0
    have n1 := st2.bm.cell 1
    simp only [List.getElem?_cons_zero, List.getElem?_cons_succ] at n0 n1
    have HU := Lib.hid st2.fr
    clear m0 m1 z0 z1 zr zr1 yr yr1 st st2 ST HST2 hU
    have HPK0 : Calls Tryz.prog 5 #[.agg #[.string ⟨#[50, 56, 49, 48]⟩, .slice (some ⟨rb, 0, none⟩) 4 4]] U (PacTo [50, 56, 49, 48] [(11, [48, 48, 48, 48, 48, 55]), (12, [50, 48, 50, 54, 48, 49, 48, 49, 50, 53, 48, 48, 48, 48]), (32, [49]), (39, [56, 48, 48])] U) := r_PackIso ⟨#[50, 56, 49, 48]⟩ (some ⟨rb, 0, none⟩) 4 4 _ U hrow (by decide) (by decide)
    unfold PacTo at HPK0
    rw [rf3.1] at HPK0
    have HPK := Lib.hid HPK0
    clear HPK0
    have hB := rf3'
    generalize pacR [50, 56, 49, 48] [(11, [48, 48, 48, 48, 48, 55]), (12, [50, 48, 50, 54, 48, 49, 48, 49, 50, 53, 48, 48, 48, 48]), (32, [49]), (39, [56, 48, 48])] = B at HPK hB
    obtain ⟨k, hk⟩ : ∃ k, B.length = k := ⟨_, rfl⟩
    have HD := Lib.hid (fun u A c (hu : Fr No w u) (hr : Rd u A k c (u8s B)) => (by subst hk; exact (f_decode_any A c B u hr (HT.out.fr hu)).mono (fun e w' h => dec_bad hB (by decide) h) : Calls Tryz.prog 6 #[.slice A k c] u (fun e w' => Fr No u w' ∧ e = .returned (.tuple #[mz.val, .int .i64 14]))))
    have HK := Lib.hid hk
    clear hk hB hrow
    have tokA := True.intro
    go_upto_region 22 with (go_at_call 5; clear tokA; refine (HPK.out).mono ?_; rintro e w6 ⟨v, rfl, ho6, f6⟩; obtain ⟨V, vc, rfl, hr6, -⟩ := ownM_rd ho6; rw [HK.out] at hr6 ⊢; have R6 := Lib.hid hr6; have F6 := Lib.hid (HU.out.trans f6); clear ho6 hr6 f6)
    go_upto_region 23 with (first
      | (go_at_call 6; refine (HD.out _ _ _ F6.out R6.out).mono ?_; rintro e w7 ⟨f7, rfl⟩; have F7 := Lib.hid (F6.out.trans f7); clear f7)
      | (refine wpList_store_bk rfl 38 _ _ rfl w7.heap.size rfl mz.cells mz.cells rfl (Bk.new w7 38 mz.cells.toArray) rfl (msgSizeF _) (msg_oneF _) ?_; intro w8 b8 f8 s8; have F78 := Lib.hid (((Fr.refl No w7).alloc (.cells mz.cells.toArray 38)).trans_just f8 (Nat.le_refl _)); have F8 := Lib.hid (F7.out.trans F78.out); clear b8 f8 s8))
    clear HPK HD R6
    go_wp2_with (go_at_call 7; refine (AW.out _ F8.out).mono ?_; rintro e w9 ⟨rfl, f9⟩; have F9 := Lib.hid (F8.out.trans f9); clear f9)
    go_ret
    exact ⟨rfl, F9.out⟩
  · have f1 : Fr No W (W.alloc (.cells #[.int .u8 56, .int .u8 48, .int .u8 49] 5 (3, 4))) := (Fr.refl No W).alloc _
    have st1 := st.no f1
    have zr := st.br.frozen 7
    have zr1 := st1.br.frozen 7
    have yr : W.cell? ⟨rb, 7, none⟩ = some (.slice (some ⟨w.heap.size + 1 + 1 + 1, 0, none⟩) 3 3) := st.br.cell 7
    have yr1 : (W.alloc (.cells #[.int .u8 56, .int .u8 48, .int .u8 49] 5 (3, 4))).cell? ⟨rb, 7, none⟩ = some (.slice (some ⟨w.heap.size + 1 + 1 + 1, 0, none⟩) 3 3) := st1.br.cell 7
    have TG : TagI (W.alloc (.cells #[.int .u8 56, .int .u8 48, .int .u8 49] 5 (3, 4))) (fun i => i < (W.alloc (.cells #[.int .u8 56, .int .u8 48, .int .u8 49] 5 (3, 4))).heap.size ∧ i ≠ rb ∧ i ≠ rb + 1) (encS ((39, some ⟨W.heap.size, 0, none⟩, 3, 3), [56, 48, 49])) (elS ((39, some ⟨W.heap.size, 0, none⟩, 3, 3), [56, 48, 49])) := lit_tag W rb [56, 48, 49] 39 3 (3, 4) rfl (by decide) (by decide) st.bm.lt
    have st2 := st1.setD (ds' := [((11, some ⟨w.heap.size, 0, none⟩, 6, 6), [48, 48, 48, 48, 48, 55]), ((12, some ⟨w.heap.size + 1, 0, none⟩, 14, 14), nowB), ((32, some ⟨w.heap.size + 1 + 1, 0, none⟩, 1, 1), [49]), ((39, some ⟨W.heap.size, 0, none⟩, 3, 3), [56, 48, 49])]) 7 (.slice (some ⟨W.heap.size, 0, none⟩) 3 3) rfl (fun y hy => by
      simp only [List.mem_cons, List.not_mem_nil, or_false] at hy
      rcases hy with rfl | rfl | rfl | rfl
      · exact .inl (by simp [rfD])
      · exact .inl (by simp [rfD])
      · exact .inl (by simp [rfD])
      · exact .inr TG)
    have HST2 := Lib.hid st2
    clear st2 TG st1 f1
    go_upto_region 21 with fail
    have st2 := HST2.out
    generalize hU : (W.alloc (.cells #[.int .u8 56, .int .u8 48, .int .u8 49] 5 (3, 4))).setCell ⟨rb, 7, none⟩ (.slice (some ⟨W.heap.size, 0, none⟩) 3 3) = U at *
    have hrow : RdI 2 TagI U (fun i => i < U.heap.size) (some ⟨rb, 0, none⟩) 4 4 [(11, [48, 48, 48, 48, 48, 55]), (12, nowB), (32, [49]), (39, [56, 48, 49])] := st2.row 0 4 4 (show 0 + 4 ≤ 4 by decide) (by decide) (by decide)
    have n0 := st2.bm.cell 0
    have n1 := st2.bm.cell 1
    simp only [List.getElem?_cons_zero, List.getElem?_cons_succ] at n0 n1
    have HU := Lib.hid st2.fr
    clear m0 m1 z0 z1 zr zr1 yr yr1 st st2 ST HST2 hU
    have HPK0 : Calls Tryz.prog 5 #[.agg #[.string ⟨#[50, 56, 49, 48]⟩, .slice (some ⟨rb, 0, none⟩) 4 4]] U (PacTo [50, 56, 49, 48] [(11, [48, 48, 48, 48, 48, 55]), (12, nowB), (32, [49]), (39, [56, 48, 49])] U) := r_PackIso ⟨#[50, 56, 49, 48]⟩ (some ⟨rb, 0, none⟩) 4 4 _ U hrow (by decide) (by decide)
    unfold PacTo at HPK0
    rw [rf4.1] at HPK0
    have HPK := Lib.hid HPK0
    clear HPK0
    have hB := rf4'
    generalize pacR [50, 56, 49, 48] [(11, [48, 48, 48, 48, 48, 55]), (12, nowB), (32, [49]), (39, [56, 48, 49])] = B at HPK hB
    obtain ⟨k, hk⟩ : ∃ k, B.length = k := ⟨_, rfl⟩
    have HD := Lib.hid (fun u A c (hu : Fr No w u) (hr : Rd u A k c (u8s B)) => (by subst hk; exact (f_decode_any A c B u hr (HT.out.fr hu)).mono (fun e w' h => dec_bad hB (by decide) h) : Calls Tryz.prog 6 #[.slice A k c] u (fun e w' => Fr No u w' ∧ e = .returned (.tuple #[mz.val, .int .i64 20]))))
    have HK := Lib.hid hk
    clear hk hB hrow
    have tokA := True.intro
    go_upto_region 22 with (go_at_call 5; clear tokA; refine (HPK.out).mono ?_; rintro e w6 ⟨v, rfl, ho6, f6⟩; obtain ⟨V, vc, rfl, hr6, -⟩ := ownM_rd ho6; rw [HK.out] at hr6 ⊢; have R6 := Lib.hid hr6; have F6 := Lib.hid (HU.out.trans f6); clear ho6 hr6 f6)
    go_upto_region 23 with (first
      | (go_at_call 6; refine (HD.out _ _ _ F6.out R6.out).mono ?_; rintro e w7 ⟨f7, rfl⟩; have F7 := Lib.hid (F6.out.trans f7); clear f7)
      | (refine wpList_store_bk rfl 38 _ _ rfl w7.heap.size rfl mz.cells mz.cells rfl (Bk.new w7 38 mz.cells.toArray) rfl (msgSizeF _) (msg_oneF _) ?_; intro w8 b8 f8 s8; have F78 := Lib.hid (((Fr.refl No w7).alloc (.cells mz.cells.toArray 38)).trans_just f8 (Nat.le_refl _)); have F8 := Lib.hid (F7.out.trans F78.out); clear b8 f8 s8))
    clear HPK HD R6
    go_wp2_with (go_at_call 7; refine (AW.out _ F8.out).mono ?_; rintro e w9 ⟨rfl, f9⟩; have F9 := Lib.hid (F8.out.trans f9); clear f9)
    go_ret
    exact ⟨rfl, F9.out⟩
  · have f1 : Fr No W (W.alloc (.cells #[.int .u8 57, .int .u8 55, .int .u8 56] 5 (3, 4))) := (Fr.refl No W).alloc _
    have st1 := st.no f1
    have TG := Lib.hid (show TagI (W.alloc (.cells #[.int .u8 57, .int .u8 55, .int .u8 56] 5 (3, 4))) (fun i => i < (W.alloc (.cells #[.int .u8 57, .int .u8 55, .int .u8 56] 5 (3, 4))).heap.size ∧ i ≠ rb ∧ i ≠ rb + 1) [.int .i64 49, .slice (some ⟨W.heap.size, 0, none⟩) 3 3] (49, [57, 55, 56]) from lit_tag W rb [57, 55, 56] 49 3 _ rfl (by decide) (by decide) st.bm.lt)
    have OWN := Lib.hid (show OwnI 2 TagI (W.alloc (.cells #[.int .u8 57, .int .u8 55, .int .u8 56] 5 (3, 4))) w.heap.size 24 (fun i => i < (W.alloc (.cells #[.int .u8 57, .int .u8 55, .int .u8 56] 5 (3, 4))).heap.size ∧ i ≠ rb ∧ i ≠ rb + 1) (.slice (some ⟨rb, 0, none⟩) 4 4) 4 [(11, [48, 48, 48, 48, 48, 55]), (12, nowB), (32, [49]), (39, [56, 48, 48])] from se_own st1.br st1.tg rfl st.lo (by decide))
    have HBS := Lib.hid (show w.heap.size ≤ (W.alloc (.cells #[.int .u8 57, .int .u8 55, .int .u8 56] 5 (3, 4))).heap.size from st1.fr.size)
    have HLT := Lib.hid (show rb + 1 < W.heap.size from st.bm.lt)
    have HLO := Lib.hid st.lo
    have HWW := Lib.hid st.fr
    have BM := Lib.hid st.bm
    clear st1 f1 st ST
    go_upto_region 21 with (at_builtin; go_must (refine ap_elm1 (W.alloc (.cells #[.int .u8 57, .int .u8 55, .int .u8 56] 5 (3, 4))) rfl (.tmp 60) (.tmp 64) rfl w.heap.size (.slice (some ⟨rb, 0, none⟩) 4 4) 4 [(11, [48, 48, 48, 48, 48, 55]), (12, nowB), (32, [49]), (39, [56, 48, 48])] (fun i => i < (W.alloc (.cells #[.int .u8 57, .int .u8 55, .int .u8 56] 5 (3, 4))).heap.size ∧ i ≠ rb ∧ i ≠ rb + 1) (fun i => i < (W.alloc (.cells #[.int .u8 57, .int .u8 55, .int .u8 56] 5 (3, 4))).heap.size ∧ i ≠ rb ∧ i ≠ rb + 1) rfl OWN.out (49, [57, 55, 56]) [.int .i64 49, .slice (some ⟨W.heap.size, 0, none⟩) 3 3] TG.out _ (W.heap.size + 1) (by simp) rfl (by decide) HBS.out (fun i hi e => hi.2.1 (Option.some.inj e).symm) (fun i hi e => hi.2.1 (Option.some.inj e).symm) ?_); intro v2 w4 ho4 hg4 hr4; have hsz : (W.alloc (.cells #[.int .u8 57, .int .u8 55, .int .u8 56] 5 (3, 4))).heap.size = W.heap.size + 1 := (by simp); have F4 : Fr (Just rb) W w4 := ((((Fr.refl (Just rb) W).alloc _).alloc _).grown hg4 (fun i e => .inl (Option.some.inj e).symm)); obtain ⟨A4, c4, rfl, hrd⟩ := ho4.rd' (M := fun i => i < w4.heap.size ∧ i ≠ rb + 1) (fun i e => (by obtain ⟨xs, hov, -⟩ := ho4.xs; refine ⟨(hov.lt i e).2, ?_⟩; exact own_out hr4 e (by have h1 := HLT.out; rw [hsz]; omega))) tag_ok (fun i hi => (by have h3 : W.heap.size + 1 + 1 ≤ w4.heap.size := (by simpa using hg4.size); rcases hi with h | h <;> exact ⟨by have := h.1; omega, h.2.2⟩)); have HRD := Lib.hid hrd; have HF4 := Lib.hid F4; have BM4 := Lib.hid (BM.out.fr F4 (fun e => by have h1 : rb + 1 = rb := e; omega)); have zz := BM4.out.frozen 1; have yy : w4.cell? ⟨rb + 1, 1, none⟩ = some (.slice (some ⟨rb, 0, none⟩) 4 4) := BM4.out.cell 1; clear ho4 hg4 hr4 hrd F4 hsz)
    have fj := just_set w4 (rb + 1) 1 (.slice A4 5 c4)
    have hrow : RdI 2 TagI (w4.setCell ⟨rb + 1, 1, none⟩ (.slice A4 5 c4)) (fun i => i < (w4.setCell ⟨rb + 1, 1, none⟩ (.slice A4 5 c4)).heap.size) A4 5 c4 [(11, [48, 48, 48, 48, 48, 55]), (12, nowB), (32, [49]), (39, [56, 48, 48]), (49, [57, 55, 56])] := (HRD.out.fr tag_ok fj (fun i hi e => hi.2 e)).mono tag_ok (fun i hi => by have h1 := hi.1; simpa using h1)
    have n0 := (BM4.out.set_ 1 (.slice A4 5 c4)).cell 0
    have n1 := (BM4.out.set_ 1 (.slice A4 5 c4)).cell 1
    simp only [List.set_cons_zero, List.set_cons_succ, List.getElem?_cons_zero, List.getElem?_cons_succ] at n0 n1
    have HU := Lib.hid ((HWW.out.trans_just HF4.out HLO.out).setCell (.inr (by have := HLO.out; show w.heap.size ≤ rb + 1; omega)) (.slice A4 5 c4) : Fr No w (w4.setCell ⟨rb + 1, 1, none⟩ (.slice A4 5 c4)))
    generalize hU : w4.setCell ⟨rb + 1, 1, none⟩ (.slice A4 5 c4) = U at *
    clear m0 m1 z0 z1 zz yy HRD BM4 fj TG OWN hU
    have HPK0 : Calls Tryz.prog 5 #[.agg #[.string ⟨#[50, 56, 49, 48]⟩, .slice (A4) 5 c4]] U (PacTo [50, 56, 49, 48] [(11, [48, 48, 48, 48, 48, 55]), (12, nowB), (32, [49]), (39, [56, 48, 48]), (49, [57, 55, 56])] U) := r_PackIso ⟨#[50, 56, 49, 48]⟩ (A4) 5 c4 _ U hrow (by decide) (by decide)
    unfold PacTo at HPK0
    rw [rf5.1] at HPK0
    have HPK := Lib.hid HPK0
    clear HPK0
    have hB := rf5'
    generalize pacR [50, 56, 49, 48] [(11, [48, 48, 48, 48, 48, 55]), (12, nowB), (32, [49]), (39, [56, 48, 48]), (49, [57, 55, 56])] = B at HPK hB
    obtain ⟨k, hk⟩ : ∃ k, B.length = k := ⟨_, rfl⟩
    have HD := Lib.hid (fun u A c (hu : Fr No w u) (hr : Rd u A k c (u8s B)) => (by subst hk; exact (f_decode_any A c B u hr (HT.out.fr hu)).mono (fun e w' h => dec_bad hB (by decide) h) : Calls Tryz.prog 6 #[.slice A k c] u (fun e w' => Fr No u w' ∧ e = .returned (.tuple #[mz.val, .int .i64 19]))))
    have HK := Lib.hid hk
    clear hk hB hrow
    have tokA := True.intro
    go_upto_region 22 with (go_at_call 5; clear tokA; refine (HPK.out).mono ?_; rintro e w6 ⟨v, rfl, ho6, f6⟩; obtain ⟨V, vc, rfl, hr6, -⟩ := ownM_rd ho6; rw [HK.out] at hr6 ⊢; have R6 := Lib.hid hr6; have F6 := Lib.hid (HU.out.trans f6); clear ho6 hr6 f6)
    go_upto_region 23 with (first
      | (go_at_call 6; refine (HD.out _ _ _ F6.out R6.out).mono ?_; rintro e w7 ⟨f7, rfl⟩; have F7 := Lib.hid (F6.out.trans f7); clear f7)
      | (refine wpList_store_bk rfl 38 _ _ rfl w7.heap.size rfl mz.cells mz.cells rfl (Bk.new w7 38 mz.cells.toArray) rfl (msgSizeF _) (msg_oneF _) ?_; intro w8 b8 f8 s8; have F78 := Lib.hid (((Fr.refl No w7).alloc (.cells mz.cells.toArray 38)).trans_just f8 (Nat.le_refl _)); have F8 := Lib.hid (F7.out.trans F78.out); clear b8 f8 s8))
    clear HPK HD R6
    go_wp2_with (go_at_call 7; refine (AW.out _ F8.out).mono ?_; rintro e w9 ⟨rfl, f9⟩; have F9 := Lib.hid (F8.out.trans f9); clear f9)
    go_ret
    exact ⟨rfl, F9.out⟩
  · have f1 : Fr No W (W.alloc (.cells #[.int .u8 48, .int .u8 48, .int .u8 48, .int .u8 48, .int .u8 48, .int .u8 48, .int .u8 48, .int .u8 122] 5 (8, 9))) := (Fr.refl No W).alloc _
    have st1 := st.no f1
    have TG := Lib.hid (show TagI (W.alloc (.cells #[.int .u8 48, .int .u8 48, .int .u8 48, .int .u8 48, .int .u8 48, .int .u8 48, .int .u8 48, .int .u8 122] 5 (8, 9))) (fun i => i < (W.alloc (.cells #[.int .u8 48, .int .u8 48, .int .u8 48, .int .u8 48, .int .u8 48, .int .u8 48, .int .u8 48, .int .u8 122] 5 (8, 9))).heap.size ∧ i ≠ rb ∧ i ≠ rb + 1) [.int .i64 48, .slice (some ⟨W.heap.size, 0, none⟩) 8 8] (48, [48, 48, 48, 48, 48, 48, 48, 122]) from lit_tag W rb [48, 48, 48, 48, 48, 48, 48, 122] 48 8 _ rfl (by decide) (by decide) st.bm.lt)
    have OWN := Lib.hid (show OwnI 2 TagI (W.alloc (.cells #[.int .u8 48, .int .u8 48, .int .u8 48, .int .u8 48, .int .u8 48, .int .u8 48, .int .u8 48, .int .u8 122] 5 (8, 9))) w.heap.size 24 (fun i => i < (W.alloc (.cells #[.int .u8 48, .int .u8 48, .int .u8 48, .int .u8 48, .int .u8 48, .int .u8 48, .int .u8 48, .int .u8 122] 5 (8, 9))).heap.size ∧ i ≠ rb ∧ i ≠ rb + 1) (.slice (some ⟨rb, 0, none⟩) 4 4) 4 [(11, [48, 48, 48, 48, 48, 55]), (12, nowB), (32, [49]), (39, [56, 48, 48])] from se_own st1.br st1.tg rfl st.lo (by decide))
    have HBS := Lib.hid (show w.heap.size ≤ (W.alloc (.cells #[.int .u8 48, .int .u8 48, .int .u8 48, .int .u8 48, .int .u8 48, .int .u8 48, .int .u8 48, .int .u8 122] 5 (8, 9))).heap.size from st1.fr.size)
    have HLT := Lib.hid (show rb + 1 < W.heap.size from st.bm.lt)
    have HLO := Lib.hid st.lo
    have HWW := Lib.hid st.fr
    have BM := Lib.hid st.bm
    clear st1 f1 st ST
    go_upto_region 21 with (at_builtin; go_must (refine ap_elm1 (W.alloc (.cells #[.int .u8 48, .int .u8 48, .int .u8 48, .int .u8 48, .int .u8 48, .int .u8 48, .int .u8 48, .int .u8 122] 5 (8, 9))) rfl (.tmp 70) (.tmp 74) rfl w.heap.size (.slice (some ⟨rb, 0, none⟩) 4 4) 4 [(11, [48, 48, 48, 48, 48, 55]), (12, nowB), (32, [49]), (39, [56, 48, 48])] (fun i => i < (W.alloc (.cells #[.int .u8 48, .int .u8 48, .int .u8 48, .int .u8 48, .int .u8 48, .int .u8 48, .int .u8 48, .int .u8 122] 5 (8, 9))).heap.size ∧ i ≠ rb ∧ i ≠ rb + 1) (fun i => i < (W.alloc (.cells #[.int .u8 48, .int .u8 48, .int .u8 48, .int .u8 48, .int .u8 48, .int .u8 48, .int .u8 48, .int .u8 122] 5 (8, 9))).heap.size ∧ i ≠ rb ∧ i ≠ rb + 1) rfl OWN.out (48, [48, 48, 48, 48, 48, 48, 48, 122]) [.int .i64 48, .slice (some ⟨W.heap.size, 0, none⟩) 8 8] TG.out _ (W.heap.size + 1) (by simp) rfl (by decide) HBS.out (fun i hi e => hi.2.1 (Option.some.inj e).symm) (fun i hi e => hi.2.1 (Option.some.inj e).symm) ?_); intro v2 w4 ho4 hg4 hr4; have hsz : (W.alloc (.cells #[.int .u8 48, .int .u8 48, .int .u8 48, .int .u8 48, .int .u8 48, .int .u8 48, .int .u8 48, .int .u8 122] 5 (8, 9))).heap.size = W.heap.size + 1 := (by simp); have F4 : Fr (Just rb) W w4 := ((((Fr.refl (Just rb) W).alloc _).alloc _).grown hg4 (fun i e => .inl (Option.some.inj e).symm)); obtain ⟨A4, c4, rfl, hrd⟩ := ho4.rd' (M := fun i => i < w4.heap.size ∧ i ≠ rb + 1) (fun i e => (by obtain ⟨xs, hov, -⟩ := ho4.xs; refine ⟨(hov.lt i e).2, ?_⟩; exact own_out hr4 e (by have h1 := HLT.out; rw [hsz]; omega))) tag_ok (fun i hi => (by have h3 : W.heap.size + 1 + 1 ≤ w4.heap.size := (by simpa using hg4.size); rcases hi with h | h <;> exact ⟨by have := h.1; omega, h.2.2⟩)); have HRD := Lib.hid hrd; have HF4 := Lib.hid F4; have BM4 := Lib.hid (BM.out.fr F4 (fun e => by have h1 : rb + 1 = rb := e; omega)); have zz := BM4.out.frozen 1; have yy : w4.cell? ⟨rb + 1, 1, none⟩ = some (.slice (some ⟨rb, 0, none⟩) 4 4) := BM4.out.cell 1; clear ho4 hg4 hr4 hrd F4 hsz)
    have fj := just_set w4 (rb + 1) 1 (.slice A4 5 c4)
    have hrow : RdI 2 TagI (w4.setCell ⟨rb + 1, 1, none⟩ (.slice A4 5 c4)) (fun i => i < (w4.setCell ⟨rb + 1, 1, none⟩ (.slice A4 5 c4)).heap.size) A4 5 c4 [(11, [48, 48, 48, 48, 48, 55]), (12, nowB), (32, [49]), (39, [56, 48, 48]), (48, [48, 48, 48, 48, 48, 48, 48, 122])] := (HRD.out.fr tag_ok fj (fun i hi e => hi.2 e)).mono tag_ok (fun i hi => by have h1 := hi.1; simpa using h1)
    have n0 := (BM4.out.set_ 1 (.slice A4 5 c4)).cell 0
    have n1 := (BM4.out.set_ 1 (.slice A4 5 c4)).cell 1
    simp only [List.set_cons_zero, List.set_cons_succ, List.getElem?_cons_zero, List.getElem?_cons_succ] at n0 n1
    have HU := Lib.hid ((HWW.out.trans_just HF4.out HLO.out).setCell (.inr (by have := HLO.out; show w.heap.size ≤ rb + 1; omega)) (.slice A4 5 c4) : Fr No w (w4.setCell ⟨rb + 1, 1, none⟩ (.slice A4 5 c4)))
    generalize hU : w4.setCell ⟨rb + 1, 1, none⟩ (.slice A4 5 c4) = U at *
    clear m0 m1 z0 z1 zz yy HRD BM4 fj TG OWN hU
    have HPK0 : Calls Tryz.prog 5 #[.agg #[.string ⟨#[50, 56, 49, 48]⟩, .slice (A4) 5 c4]] U (PacTo [50, 56, 49, 48] [(11, [48, 48, 48, 48, 48, 55]), (12, nowB), (32, [49]), (39, [56, 48, 48]), (48, [48, 48, 48, 48, 48, 48, 48, 122])] U) := r_PackIso ⟨#[50, 56, 49, 48]⟩ (A4) 5 c4 _ U hrow (by decide) (by decide)
    unfold PacTo at HPK0
    rw [rf6.1] at HPK0
    have HPK := Lib.hid HPK0
    clear HPK0
    have hB := rf6'
    generalize pacR [50, 56, 49, 48] [(11, [48, 48, 48, 48, 48, 55]), (12, nowB), (32, [49]), (39, [56, 48, 48]), (48, [48, 48, 48, 48, 48, 48, 48, 122])] = B at HPK hB
    obtain ⟨k, hk⟩ : ∃ k, B.length = k := ⟨_, rfl⟩
    have HD := Lib.hid (fun u A c (hu : Fr No w u) (hr : Rd u A k c (u8s B)) => (by subst hk; exact (f_decode_any A c B u hr (HT.out.fr hu)).mono (fun e w' h => dec_bad hB (by decide) h) : Calls Tryz.prog 6 #[.slice A k c] u (fun e w' => Fr No u w' ∧ e = .returned (.tuple #[mz.val, .int .i64 14]))))
    have HK := Lib.hid hk
    clear hk hB hrow
    have tokA := True.intro
    go_upto_region 22 with (go_at_call 5; clear tokA; refine (HPK.out).mono ?_; rintro e w6 ⟨v, rfl, ho6, f6⟩; obtain ⟨V, vc, rfl, hr6, -⟩ := ownM_rd ho6; rw [HK.out] at hr6 ⊢; have R6 := Lib.hid hr6; have F6 := Lib.hid (HU.out.trans f6); clear ho6 hr6 f6)
    go_upto_region 23 with (first
      | (go_at_call 6; refine (HD.out _ _ _ F6.out R6.out).mono ?_; rintro e w7 ⟨f7, rfl⟩; have F7 := Lib.hid (F6.out.trans f7); clear f7)
      | (refine wpList_store_bk rfl 38 _ _ rfl w7.heap.size rfl mz.cells mz.cells rfl (Bk.new w7 38 mz.cells.toArray) rfl (msgSizeF _) (msg_oneF _) ?_; intro w8 b8 f8 s8; have F78 := Lib.hid (((Fr.refl No w7).alloc (.cells mz.cells.toArray 38)).trans_just f8 (Nat.le_refl _)); have F8 := Lib.hid (F7.out.trans F78.out); clear b8 f8 s8))
    clear HPK HD R6
    go_wp2_with (go_at_call 7; refine (AW.out _ F8.out).mono ?_; rintro e w9 ⟨rfl, f9⟩; have F9 := Lib.hid (F8.out.trans f9); clear f9)
    go_ret
    exact ⟨rfl, F9.out⟩
  · have f1 : Fr No W (W.alloc (.cells #[.int .u8 0] 5)) := (Fr.refl No W).alloc _
    have st1 := st.no f1
    have TG := Lib.hid (show TagI (W.alloc (.cells #[.int .u8 0] 5)) (fun i => i < (W.alloc (.cells #[.int .u8 0] 5)).heap.size ∧ i ≠ rb ∧ i ≠ rb + 1) [.int .i64 55, .slice (some ⟨W.heap.size, 0, none⟩) 1 1] (55, [0]) from lit_tag W rb [0] 55 1 _ rfl (by decide) (by decide) st.bm.lt)
    have OWN := Lib.hid (show OwnI 2 TagI (W.alloc (.cells #[.int .u8 0] 5)) w.heap.size 24 (fun i => i < (W.alloc (.cells #[.int .u8 0] 5)).heap.size ∧ i ≠ rb ∧ i ≠ rb + 1) (.slice (some ⟨rb, 0, none⟩) 4 4) 4 [(11, [48, 48, 48, 48, 48, 55]), (12, nowB), (32, [49]), (39, [56, 48, 48])] from se_own st1.br st1.tg rfl st.lo (by decide))
    have HBS := Lib.hid (show w.heap.size ≤ (W.alloc (.cells #[.int .u8 0] 5)).heap.size from st1.fr.size)
    have HLT := Lib.hid (show rb + 1 < W.heap.size from st.bm.lt)
    have HLO := Lib.hid st.lo
    have HWW := Lib.hid st.fr
    have BM := Lib.hid st.bm
    clear st1 f1 st ST
    go_upto_region 21 with (at_builtin; go_must (refine ap_elm1 (W.alloc (.cells #[.int .u8 0] 5)) rfl (.tmp 80) (.tmp 83) rfl w.heap.size (.slice (some ⟨rb, 0, none⟩) 4 4) 4 [(11, [48, 48, 48, 48, 48, 55]), (12, nowB), (32, [49]), (39, [56, 48, 48])] (fun i => i < (W.alloc (.cells #[.int .u8 0] 5)).heap.size ∧ i ≠ rb ∧ i ≠ rb + 1) (fun i => i < (W.alloc (.cells #[.int .u8 0] 5)).heap.size ∧ i ≠ rb ∧ i ≠ rb + 1) rfl OWN.out (55, [0]) [.int .i64 55, .slice (some ⟨W.heap.size, 0, none⟩) 1 1] TG.out _ (W.heap.size + 1) (by simp) rfl (by decide) HBS.out (fun i hi e => hi.2.1 (Option.some.inj e).symm) (fun i hi e => hi.2.1 (Option.some.inj e).symm) ?_); intro v2 w4 ho4 hg4 hr4; have hsz : (W.alloc (.cells #[.int .u8 0] 5)).heap.size = W.heap.size + 1 := (by simp); have F4 : Fr (Just rb) W w4 := ((((Fr.refl (Just rb) W).alloc _).alloc _).grown hg4 (fun i e => .inl (Option.some.inj e).symm)); obtain ⟨A4, c4, rfl, hrd⟩ := ho4.rd' (M := fun i => i < w4.heap.size ∧ i ≠ rb + 1) (fun i e => (by obtain ⟨xs, hov, -⟩ := ho4.xs; refine ⟨(hov.lt i e).2, ?_⟩; exact own_out hr4 e (by have h1 := HLT.out; rw [hsz]; omega))) tag_ok (fun i hi => (by have h3 : W.heap.size + 1 + 1 ≤ w4.heap.size := (by simpa using hg4.size); rcases hi with h | h <;> exact ⟨by have := h.1; omega, h.2.2⟩)); have HRD := Lib.hid hrd; have HF4 := Lib.hid F4; have BM4 := Lib.hid (BM.out.fr F4 (fun e => by have h1 : rb + 1 = rb := e; omega)); have zz := BM4.out.frozen 1; have yy : w4.cell? ⟨rb + 1, 1, none⟩ = some (.slice (some ⟨rb, 0, none⟩) 4 4) := BM4.out.cell 1; clear ho4 hg4 hr4 hrd F4 hsz)
    have fj := just_set w4 (rb + 1) 1 (.slice A4 5 c4)
    have hrow : RdI 2 TagI (w4.setCell ⟨rb + 1, 1, none⟩ (.slice A4 5 c4)) (fun i => i < (w4.setCell ⟨rb + 1, 1, none⟩ (.slice A4 5 c4)).heap.size) A4 5 c4 [(11, [48, 48, 48, 48, 48, 55]), (12, nowB), (32, [49]), (39, [56, 48, 48]), (55, [0])] := (HRD.out.fr tag_ok fj (fun i hi e => hi.2 e)).mono tag_ok (fun i hi => by have h1 := hi.1; simpa using h1)
    have n0 := (BM4.out.set_ 1 (.slice A4 5 c4)).cell 0
    have n1 := (BM4.out.set_ 1 (.slice A4 5 c4)).cell 1
    simp only [List.set_cons_zero, List.set_cons_succ, List.getElem?_cons_zero, List.getElem?_cons_succ] at n0 n1
    have HU := Lib.hid ((HWW.out.trans_just HF4.out HLO.out).setCell (.inr (by have := HLO.out; show w.heap.size ≤ rb + 1; omega)) (.slice A4 5 c4) : Fr No w (w4.setCell ⟨rb + 1, 1, none⟩ (.slice A4 5 c4)))
    generalize hU : w4.setCell ⟨rb + 1, 1, none⟩ (.slice A4 5 c4) = U at *
    clear m0 m1 z0 z1 zz yy HRD BM4 fj TG OWN hU
    have HPK0 : Calls Tryz.prog 5 #[.agg #[.string ⟨#[50, 56, 49, 48]⟩, .slice (A4) 5 c4]] U (PacTo [50, 56, 49, 48] [(11, [48, 48, 48, 48, 48, 55]), (12, nowB), (32, [49]), (39, [56, 48, 48]), (55, [0])] U) := r_PackIso ⟨#[50, 56, 49, 48]⟩ (A4) 5 c4 _ U hrow (by decide) (by decide)
    unfold PacTo at HPK0
    rw [rf7.1] at HPK0
    have HPK := Lib.hid HPK0
    clear HPK0
    have hB := rf7'
    generalize pacR [50, 56, 49, 48] [(11, [48, 48, 48, 48, 48, 55]), (12, nowB), (32, [49]), (39, [56, 48, 48]), (55, [0])] = B at HPK hB
    obtain ⟨k, hk⟩ : ∃ k, B.length = k := ⟨_, rfl⟩
    have HD := Lib.hid (fun u A c (hu : Fr No w u) (hr : Rd u A k c (u8s B)) => (by subst hk; exact (f_decode_any A c B u hr (HT.out.fr hu)).mono (fun e w' h => dec_bad hB (by decide) h) : Calls Tryz.prog 6 #[.slice A k c] u (fun e w' => Fr No u w' ∧ e = .returned (.tuple #[mz.val, .int .i64 18]))))
    have HK := Lib.hid hk
    clear hk hB hrow
    have tokA := True.intro
    go_upto_region 22 with (go_at_call 5; clear tokA; refine (HPK.out).mono ?_; rintro e w6 ⟨v, rfl, ho6, f6⟩; obtain ⟨V, vc, rfl, hr6, -⟩ := ownM_rd ho6; rw [HK.out] at hr6 ⊢; have R6 := Lib.hid hr6; have F6 := Lib.hid (HU.out.trans f6); clear ho6 hr6 f6)
    go_upto_region 23 with (first
      | (go_at_call 6; refine (HD.out _ _ _ F6.out R6.out).mono ?_; rintro e w7 ⟨f7, rfl⟩; have F7 := Lib.hid (F6.out.trans f7); clear f7)
      | (refine wpList_store_bk rfl 38 _ _ rfl w7.heap.size rfl mz.cells mz.cells rfl (Bk.new w7 38 mz.cells.toArray) rfl (msgSizeF _) (msg_oneF _) ?_; intro w8 b8 f8 s8; have F78 := Lib.hid (((Fr.refl No w7).alloc (.cells mz.cells.toArray 38)).trans_just f8 (Nat.le_refl _)); have F8 := Lib.hid (F7.out.trans F78.out); clear b8 f8 s8))
    clear HPK HD R6
    go_wp2_with (go_at_call 7; refine (AW.out _ F8.out).mono ?_; rintro e w9 ⟨rfl, f9⟩; have F9 := Lib.hid (F8.out.trans f9); clear f9)
    go_ret
    exact ⟨rfl, F9.out⟩
  · go_upto_region 21 with fail
    have st2 := st
    generalize W = U at *
    have hrow : RdI 2 TagI U (fun i => i < U.heap.size) (some ⟨rb, 0, none⟩) 4 4 [(11, [48, 48, 48, 48, 48, 55]), (12, nowB), (32, [49]), (39, [56, 48, 48])] := st2.row 0 4 4 (show 0 + 4 ≤ 4 by decide) (by decide) (by decide)
    have n0 := st2.bm.cell 0
    have n1 := st2.bm.cell 1
    simp only [List.getElem?_cons_zero, List.getElem?_cons_succ] at n0 n1
    have HU := Lib.hid st2.fr
    clear m0 m1 z0 z1 st st2 ST
    have HPK0 : Calls Tryz.prog 5 #[.agg #[.string ⟨#[50, 56, 49, 48]⟩, .slice (some ⟨rb, 0, none⟩) 4 4]] U (PacTo [50, 56, 49, 48] [(11, [48, 48, 48, 48, 48, 55]), (12, nowB), (32, [49]), (39, [56, 48, 48])] U) := r_PackIso ⟨#[50, 56, 49, 48]⟩ (some ⟨rb, 0, none⟩) 4 4 _ U hrow (by decide) (by decide)
    unfold PacTo at HPK0
    rw [rf8.1] at HPK0
    have HPK := Lib.hid HPK0
    clear HPK0
    have hB : ∀ w e w', DecTo (pacR [50, 56, 49, 48] [(11, [48, 48, 48, 48, 48, 55]), (12, nowB), (32, [49]), (39, [56, 48, 48])]) w e w' → ∃ X : MsgC, X.stan = 7 ∧ X.act = bstr [56, 48, 48] ∧ Fr No w w' ∧ e = .returned (.tuple #[X.val, .int .i64 0]) := fun _ _ _ h => dec_good h
    generalize pacR [50, 56, 49, 48] [(11, [48, 48, 48, 48, 48, 55]), (12, nowB), (32, [49]), (39, [56, 48, 48])] = B at HPK hB
    obtain ⟨k, hk⟩ : ∃ k, B.length = k := ⟨_, rfl⟩
    have HD := Lib.hid (fun u A c (hu : Fr No w u) (hr : Rd u A k c (u8s B)) => (by subst hk; exact (f_decode_any A c B u hr (HT.out.fr hu)).mono (fun e w' h => hB _ _ _ h) : Calls Tryz.prog 6 #[.slice A k c] u (fun e w' => ∃ X : MsgC, X.stan = 7 ∧ X.act = bstr [56, 48, 48] ∧ Fr No u w' ∧ e = .returned (.tuple #[X.val, .int .i64 0]))))
    have HK := Lib.hid hk
    clear hk hB hrow
    have tokA := True.intro
    go_upto_region 22 with (go_at_call 5; clear tokA; refine (HPK.out).mono ?_; rintro e w6 ⟨v, rfl, ho6, f6⟩; obtain ⟨V, vc, rfl, hr6, -⟩ := ownM_rd ho6; rw [HK.out] at hr6 ⊢; have R6 := Lib.hid hr6; have F6 := Lib.hid (HU.out.trans f6); clear ho6 hr6 f6)
    go_upto_region 23 with (first
      | (go_at_call 6; refine (HD.out _ _ _ F6.out R6.out).mono ?_; rintro e w7 ⟨X, hX1, hX2, f7, rfl⟩; have F7 := Lib.hid (F6.out.trans f7); clear f7)
      | (refine wpList_store_bk rfl 38 _ _ rfl w7.heap.size rfl mz.cells X.cells rfl (Bk.new w7 38 mz.cells.toArray) rfl (msgSizeF _) (msg_oneF _) ?_; intro w8 b8 f8 s8; have F78 := Lib.hid (((Fr.refl No w7).alloc (.cells mz.cells.toArray 38)).trans_just f8 (Nat.le_refl _)); have F8 := Lib.hid (F7.out.trans F78.out); have B8 := Lib.hid b8; clear b8 f8 s8))
    clear HPK HD R6
    go_wp2_with (go_at_call 7; refine (AW.out _ F8.out).mono ?_; rintro e w9 ⟨rfl, f9⟩; have F9 := Lib.hid (F8.out.trans f9); have c1 : w9.cell? ⟨w7.heap.size, 1, none⟩ = some (.int .i64 7) := (by rw [← hX1]; exact (B8.out.no f9).cell 1); have c12 : w9.cell? ⟨w7.heap.size, 12, none⟩ = some (.string ⟨#[56, 48, 48]⟩) := (by rw [show (⟨#[56, 48, 48]⟩ : ByteArray) = X.act from hX2.symm]; exact (B8.out.no f9).cell 12); clear f9)
    go_ret
    exact ⟨rfl, F9.out⟩
end Go.Proofs.YthlgnmgjfgbffaaGreatDoor
