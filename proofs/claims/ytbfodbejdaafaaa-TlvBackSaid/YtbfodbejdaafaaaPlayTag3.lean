/- The statements' own tags: some that may be. -/
import Derived.Test.YtbfodbejdaafaaaRefTlv2
import Derived.Test.YtbfodbejdaafaaaPlayTagS
import Derived.Deep.RegionHeld3
import Derived.Deep.CutRange
namespace Go.Proofs.Ytbfodbejdaafaaa
open Go.RowKit
set_option maxHeartbeats 2000000
set_option linter.unusedVariables false

/-- what stands as a tag that was made -/
def TagAt (w0 : World) (q : Int) (pv : Value) (wx : World) : Prop :=
  ∃ (gt : Nat) (E : Option Addr) (e ce : Nat) (l : List UInt8), pv = .pointer (some ⟨gt, 0, none⟩) ∧ Bk wx gt 33 [.int .i64 q, .slice E e ce] ∧ Rd wx E e ce (u8s l) ∧ e ≤ 30 ∧ (∀ ad, E = some ad → w0.heap.size ≤ ad.block ∧ ad.block < wx.heap.size ∧ ad.block ≠ gt) ∧ w0.heap.size ≤ gt ∧ Fr No w0 wx
theorem tagAt_a {w0 w6 : World} {q : Int} {E : Option Addr} {e ce : Nat} {l : List UInt8} (hf : Fr No w0 w6) (hr : Rd w6 E e ce (u8s l)) (he : e ≤ 30)
    (hg : (Value.slice E e ce).ownBlock = (Value.slice none 0 0).ownBlock ∨ (Value.slice E e ce).ownBlock = some w0.heap.size) (hlt : ∀ ad, E = some ad → ad.block < w6.heap.size) :
    TagAt w0 q (.pointer (some ⟨w6.heap.size, 0, none⟩)) (w6.alloc (.cells #[.int .i64 q, .slice E e ce] 33)) :=
  ⟨w6.heap.size, E, e, ce, l, rfl, Bk.new w6 _ _, hr.no ((Fr.refl No w6).alloc _), he, fun ad h => ⟨by rw [own_slice hg ad h]; exact Nat.le_refl _, by have := hlt ad h; simp; omega, by have := hlt ad h; omega⟩, hf.size, hf.alloc _⟩
theorem tagAt_b {w0 w6 : World} {q : Int} {E : Option Addr} {e ce : Nat} {l : List UInt8} {a b : Value} (hf : Fr No w0 w6) (hb : Bk w6 w0.heap.size 33 [a, b]) (hr : Rd w6 E e ce (u8s l)) (he : e ≤ 30)
    (hg : (Value.slice E e ce).ownBlock = (Value.slice none 0 0).ownBlock ∨ (Value.slice E e ce).ownBlock = some (w0.heap.size + 1)) (hlt : ∀ ad, E = some ad → ad.block < w6.heap.size) :
    TagAt w0 q (.pointer (some ⟨w0.heap.size, 0, none⟩)) ((w6.setCell ⟨w0.heap.size, 0, none⟩ (.int .i64 q)).setCell ⟨w0.heap.size, 1, none⟩ (.slice E e ce)) :=
  ⟨w0.heap.size, E, e, ce, l, rfl, (hb.set_ 0 _).set_ 1 _, hr.fr (S := Just w0.heap.size) (((Fr.refl _ w6).setCell (p := ⟨w0.heap.size, 0, none⟩) (.inl (Just.at w0.heap.size)) _).setCell (p := ⟨w0.heap.size, 1, none⟩) (.inl (Just.at w0.heap.size)) _) (fun ad h hj => by have := own_slice hg ad h; have hj : ad.block = w0.heap.size := hj; omega), he,
    fun ad h => ⟨by rw [own_slice hg ad h]; omega, by have := hlt ad h; simpa using this, by rw [own_slice hg ad h]; omega⟩, Nat.le_refl _, (hf.setCell (p := ⟨w0.heap.size, 0, none⟩) (.inr (Nat.le_refl _)) _).setCell (p := ⟨w0.heap.size, 1, none⟩) (.inr (Nat.le_refl _)) _⟩
def TagsRel (w : World) (n : Nat) (ov zv v : Value) (wr : World) : Prop := ∃ (k m : Nat) (z : Nat) (D : Nat → Prop) (os : List (Int × List UInt8)), k ≤ n ∧ v = .int .i64 (k : Int) ∧ zv = .int .i64 (z : Int) ∧ z ≤ 34 * m ∧ m ≤ 6 ∧ OwnI 2 TagI wr w.heap.size 33 D ov m os ∧ (∀ i, D i → w.heap.size ≤ i ∧ i < wr.heap.size ∧ ov.ownBlock ≠ some i) ∧ Fr No w wr ∧ wrE os = 0
theorem TagsRel.same {w wr wx : World} {n k mo z : Nat} {D : Nat → Prop} {os : List (Int × List UInt8)} {ov : Value} (hk : k < n) (hz : z ≤ 34 * mo) (hm : mo ≤ 6) (ho : OwnI 2 TagI wr w.heap.size 33 D ov mo os)
    (hD : ∀ i, D i → w.heap.size ≤ i ∧ i < wr.heap.size ∧ ov.ownBlock ≠ some i) (hf : Fr No w wr) (f : Fr No wr wx) (hw : wrE os = 0) : TagsRel w n ov (.int .i64 (z : Int)) (.int .i64 ((k : Int) + 1)) wx :=
  ⟨k + 1, mo, z, D, os, hk, by go_num, rfl, hz, hm, ho.no tag_ok f, fun i hi => ⟨(hD i hi).1, Nat.lt_of_lt_of_le (hD i hi).2.1 f.size, (hD i hi).2.2⟩, hf.trans f, hw⟩
theorem TagsRel.more {w wr W1 wx w9 : World} {n k mo z co c9 : Nat} {D : Nat → Prop} {os : List (Int × List UInt8)} {Ao A9 : Option Addr} {q : Int} {E : Option Addr} {e ce : Nat} {l6 : List UInt8} {xs : List Value} (hk : k < n) (hz : z ≤ 34 * mo) (hm : mo < 6) (he : e ≤ 30) (hq : (Lit.int .i64 q).wf = true)
    (ho : OwnI 2 TagI wr w.heap.size 33 D (.slice Ao mo co) mo os) (hD : ∀ i, D i → w.heap.size ≤ i ∧ i < wr.heap.size ∧ (Value.slice Ao mo co).ownBlock ≠ some i) (hf : Fr No w wr) (f0 : Fr No wr W1) (f7 : Fr No W1 wx)
    (hit : ItemsF TagI W1 D xs os) (hr : Rd W1 E e ce (u8s l6)) (hE : ∀ ad, E = some ad → wr.heap.size ≤ ad.block ∧ ad.block < W1.heap.size)
    (f9 : Fr (fun i => (Value.slice Ao mo co).ownBlock = some i) wx w9) (o9 : w9.ownsRow w.heap.size 33 2 (.slice A9 (mo + 1) c9) (mo + 1) (xs ++ [.int .i64 q, .slice E e ce]))
    (q9 : (Value.slice A9 (mo + 1) c9).ownBlock = (Value.slice Ao mo co).ownBlock ∨ (Value.slice A9 (mo + 1) c9).ownBlock = some (wx.heap.size + 1)) (hw : wrE (os ++ [(q, l6)]) = 0) :
    TagsRel w n (.slice A9 (mo + 1) c9) (.int .i64 ((z : Int) + (e : Int) + 4)) (.int .i64 ((k : Int) + 1)) w9 := by
  have h0 := f0.size
  have h7 := f7.size
  have h9 := f9.size
  have hlt := ho.lt
  have hnot : ∀ i, (D i ∨ ∃ ad, E = some ad ∧ i = ad.block) → ¬ ((Value.slice Ao mo co).ownBlock = some i) := by
    rintro i (hi | ⟨ad, hE1, rfl⟩) e
    · exact (hD i hi).2.2 e
    · have := (hlt _ e).2
      have := (hE ad hE1).1
      omega
  refine ⟨k + 1, mo + 1, z + e + 4, fun i => D i ∨ ∃ ad, E = some ad ∧ i = ad.block, os ++ [(q, l6)], hk, by go_num, by congr 1, by omega, by omega, ⟨_, o9, ?_⟩, ?_, ?_, hw⟩
  · refine ItemsF.fr tag_ok ?_ f9 hnot
    exact ItemsF.app (ItemsF.mono tag_ok (ItemsF.fr tag_ok hit f7 (fun _ _ x => x)) (fun i hi => .inl hi)) (ItemsF.single ⟨E, e, ce, rfl, hr.no f7, fun ad h _ => .inr ⟨ad, h, rfl⟩, hq, by omega⟩)
  · rintro i (hi | ⟨ad, hE1, rfl⟩)
    · have h := hD i hi
      refine ⟨h.1, by omega, fun e => ?_⟩
      rcases q9 with h1 | h1
      · exact h.2.2 (h1 ▸ e)
      · rw [h1] at e
        injection e with e
        omega
    · have h := hE ad hE1
      have hw := hf.size
      refine ⟨by omega, by omega, fun e => ?_⟩
      rcases q9 with h1 | h1
      · rw [h1] at e
        have := (hlt _ e).2
        omega
      · rw [h1] at e
        injection e with e
        omega
  · exact ((hf.trans f0).trans f7).trans_new f9 (fun i hi => .inr (hlt i hi).1)
def TagsEnd (w : World) (e : Ending) (w' : World) : Prop := ∃ (A : Option Addr) (n c : Nat) (ls : List (Int × List UInt8)), e = .returned (.slice A n c) ∧ 1 ≤ n ∧ n ≤ 6 ∧ RdI 2 TagI w' (fun i => w.heap.size ≤ i ∧ i < w'.heap.size) A n c ls ∧ Fr No w w' ∧ wrE ls = 0
theorem tags_end {w wr : World} {mo co : Nat} {D : Nat → Prop} {os : List (Int × List UInt8)} {Ao : Option Addr} (h0 : mo ≠ 0) (h6 : mo ≤ 6) (ho : OwnI 2 TagI wr w.heap.size 33 D (.slice Ao mo co) mo os) (hD : ∀ i, D i → w.heap.size ≤ i ∧ i < wr.heap.size ∧ (Value.slice Ao mo co).ownBlock ≠ some i) (hf : Fr No w wr) (hw : wrE os = 0) :
    TagsEnd w (.returned (.slice Ao mo co)) wr := by
  obtain ⟨A', c', e, hr⟩ := ho.rd' (M := fun i => w.heap.size ≤ i ∧ i < wr.heap.size) (fun i hi => ho.lt i hi) tag_ok (fun i hi => ⟨(hD i hi).1, (hD i hi).2.1⟩)
  injection e with e1 _ e2
  subst e1 e2
  exact ⟨Ao, mo, co, os, rfl, by omega, h6, hr, hf, hw⟩
theorem tags_one {w wr : World} (hf : Fr No w wr) : RdI 2 TagI ((wr.alloc (.cells #[.int .u8 1] 5)).alloc (.cells #[.int .i64 149, .slice (some ⟨wr.heap.size, 0, none⟩) 1 1] 33)) (fun i => w.heap.size ≤ i ∧ i < ((wr.alloc (.cells #[.int .u8 1] 5)).alloc (.cells #[.int .i64 149, .slice (some ⟨wr.heap.size, 0, none⟩) 1 1] 33)).heap.size) (some ⟨wr.heap.size + 1, 0, none⟩) 1 1 [(149, [1])] := by
  have h1 := RdS.lit (s := 2) (wr.alloc (.cells #[.int .u8 1] 5)) [.int .i64 149, .slice (some ⟨wr.heap.size, 0, none⟩) 1 1] 33 1 rfl (by simp [maxLen])
  have hz := hf.size
  have e : (wr.alloc (.cells #[.int .u8 1] 5)).heap.size = wr.heap.size + 1 := by simp
  rw [e] at h1
  refine ⟨⟨_, h1, ItemsF.single ⟨some ⟨wr.heap.size, 0, none⟩, 1, 1, rfl, (Rd.one (b := 1) rfl _).no ((Fr.refl No _).alloc _), fun ad h _ => ?_, by decide, by omega⟩⟩, fun ad h _ => ?_⟩
  · injection h with h
    subst h
    exact ⟨hz, by simp <;> omega⟩
  · injection h with h
    subst h
    exact ⟨show w.heap.size ≤ wr.heap.size + 1 by omega, by simp <;> omega⟩
set_option maxRecDepth 20000 in
theorem p_tags {N : Nat → Prop} {A : Option Addr} {n c : Nat} {ls : List (Int × List UInt8)} (w : World) (h : RdI 2 TagI w N A n c ls) :
    Calls Try.prog 17 #[.slice A n c] w (TagsEnd w) := by
  have htop := h.top
  have H := Lib.hid h
  clear h
  go_enter Try.func17, Try.ntmps17
  go_wp2
  go_loopw [3, 4, 5] (fun ov zv v wr => TagsRel w n ov zv v wr) (fun _ _ v _ => n - (intOf v).toNat)
  case atStart => exact ⟨0, 0, 0, fun _ => False, [], by omega, rfl, rfl, by omega, by omega, OwnI.nil_ _ _ _ _ _ _, fun i hi => hi.elim, Fr.refl _ _, by decide⟩
  case round =>
    obtain ⟨k, mo, z, D, os, hk, rfl, rfl, hz, hmo, ho, hD, hfr, hwe⟩ := hrel
    have HWE := Lib.hid hwe
    clear hwe
    have HFR := Lib.hid hfr
    obtain ⟨Ao, co, rfl⟩ : ∃ A' c', u3 = .slice A' mo c' := by
      obtain ⟨xs, hx, _⟩ := ho.xs
      obtain ⟨A', c', e, _⟩ := RdS.of_own hx
      exact ⟨A', c', e⟩
    have HO := Lib.hid ho; have HD := Lib.hid hD
    clear ho hD hfr
    have hcase : (k < n ∧ mo < 6) ∨ (k < n ∧ 6 ≤ mo) ∨ (n ≤ k ∧ 0 = 0) := by omega
    rcases hcase with ⟨h1, h2⟩ | hx
    · have hI1 : (k : Int) < (n : Int) := by omega
      have hI2 : (mo : Int) < 6 := by omega
      obtain ⟨ad, cs, a, rfl, ⟨B, m, d, rfl, hB, hBN, hwf, hm47⟩, hak, hc0, hc1⟩ := two_cells tag_ok H.out h1
      have c0w := hc0 _ rfl
      have c1w := hc1 _ rfl
      obtain ⟨P, hP⟩ : ∃ P, ad.add (k * 2) = P := ⟨_, rfl⟩
      rw [hP] at c0w c1w
      obtain ⟨q, hq⟩ : ∃ q : Int, a.1 = q := ⟨_, rfl⟩
      rw [hq] at c0w hwf
      have C0W := Lib.hid c0w; have C1W := Lib.hid c1w
      have c0 := HFR.out.cell c0w (fun x => x)
      have c1 := HFR.out.cell c1w (fun x => x)
      obtain ⟨mm, hmm, hmn⟩ : ∃ mm : Nat, (if (30 : Int) < (m : Int) then (30 : Int) else (m : Int)) = (mm : Int) ∧ mm ≤ 30 ∧ mm ≤ m := by
        by_cases hc : (30 : Int) < (m : Int)
        · exact ⟨30, by rw [if_pos hc]; rfl, by omega, by omega⟩
        · exact ⟨m, by rw [if_neg hc], by omega, by omega⟩
      have hBr := rd_head (hB.no HFR.out) hmn.2
      have hBc := hB.cap
      have HBR := Lib.hid hBr; have HWF := Lib.hid hwf
      have e4 : (mm : Int) ≤ (d : Int) := by omega
      have e5 : (0 : Int) ≤ (mm : Int) := by omega
      clear hc0 hc1 hak hq c0w c1w hB hBN hBr hwf
      go_wp2
      go_cut [6] from 9 to 68 (fun pv wx => TagAt wr q pv wx)
      case first =>
        have hz0 := HFR.out.size
        have cA0 : ∀ o, (wr.alloc o).cell? P = some (.int .i64 q) := fun o => (HFR.out.alloc o).cell C0W.out (fun x => x)
        have cA1 : ∀ o, (wr.alloc o).cell? ⟨P.block, P.off + 1, none⟩ = some (.slice B m d) := fun o => (HFR.out.alloc o).cell C1W.out (fun x => x)
        go_region_held3 (fun w' => w'.cell? P = some (.int .i64 q) ∧ w'.cell? ⟨P.block, P.off + 1, none⟩ = some (.slice B m d))
         (first
          | go_keep
          | exact ⟨(HFR.out.trans F6.out).cell C0W.out (fun x => x), (HFR.out.trans F6.out).cell C1W.out (fun x => x)⟩
          | exact ⟨((HFR.out.trans F6.out).alloc _).cell C0W.out (fun x => x), ((HFR.out.trans F6.out).alloc _).cell C1W.out (fun x => x)⟩
          | exact ⟨(HFR.out.alloc _).cell C0W.out (fun x => x), (HFR.out.alloc _).cell C1W.out (fun x => x)⟩
          | exact ⟨((HFR.out.trans F6.out).setCell (.inr hz0) _).cell C0W.out (fun x => x), ((HFR.out.trans F6.out).setCell (.inr hz0) _).cell C1W.out (fun x => x)⟩
          | exact ⟨(((HFR.out.trans F6.out).setCell (.inr hz0) _).setCell (.inr hz0) _).cell C0W.out (fun x => x), (((HFR.out.trans F6.out).setCell (.inr hz0) _).setCell (.inr hz0) _).cell C1W.out (fun x => x)⟩)
         (first
          | (refine step8 rfl (.const (.slice none 0 0)) (.tmp 37) rfl w.heap.size (.slice none 0 0) 0 [] (by rfl) (World.ownsRow_nil _ _ _ _) B mm d (a.2.take mm) (by rfl) (HBR.out.dr (Dr.refl _).drew) (by omega) (by simpa using hz0) ?_; intro r6 w6 o6 g6 q6; rw [Nat.zero_add, List.nil_append] at o6; obtain ⟨E, ce, rfl, hrE, hbE⟩ := Rd.of_own o6; have F6 := Lib.hid ((Fr.refl No wr).drew.grown g6 (fun g e => by cases e)); have HRE := Lib.hid hrE; have HBE := Lib.hid hbE; have HG6 := Lib.hid (show _ ∨ _ = some wr.heap.size from q6); clear hrE hbE o6 g6 q6)
          | (refine step8 rfl (.const (.slice none 0 0)) (.tmp 37) rfl w.heap.size (.slice none 0 0) 0 [] (by rfl) (World.ownsRow_nil _ _ _ _) B mm d (a.2.take mm) (by rfl) ((HBR.out.no ((Fr.refl No wr).alloc _)).dr (Dr.refl _).drew) (by omega) (by simp; omega) ?_; intro r6 w6 o6 g6 q6; rw [Nat.zero_add, List.nil_append] at o6; obtain ⟨E, ce, rfl, hrE, hbE⟩ := Rd.of_own o6; have F6a := (((Fr.refl No wr).alloc (.cells #[.int .i64 0, .slice none 0 0] 33)).drew.grown g6 (fun g e => by cases e)); have B6 := ((Bk.new wr 33 #[.int .i64 0, .slice none 0 0]).dr' (Dr.refl _).drew).grow' g6 (by simp [Value.ownBlock]); have b60 := B6.cell 0; have b61 := B6.cell 1; have z60 := B6.frozen 0; have z61 := B6.frozen 1; have F6 := Lib.hid F6a; have HRE := Lib.hid hrE; have HBE := Lib.hid hbE; have HG6 := Lib.hid (show _ ∨ _ = some (wr.heap.size + 1) by simpa using q6); have B6 := Lib.hid B6; clear hrE hbE o6 g6 q6 F6a))
        all_goals
          go_wp2_with fail
          go_meet
          first
          | exact tagAt_a F6.out HRE.out (by omega) HG6.out (fun ad e => (HBE.out ad e).2)
          | exact tagAt_b F6.out B6.out HRE.out (by omega) HG6.out (fun ad e => (HBE.out ad e).2)
      case rest =>
        obtain ⟨W1, rfl⟩ : ∃ W1, W1 = wc := ⟨_, rfl⟩
        obtain ⟨gt, E, e, ce, l6, rfl, hbt, hrE, he30, hEb, hgt, f0⟩ := hcut
        have d0 : W1.cell? ⟨gt, 0, none⟩ = some (.int .i64 q) := hbt.cell 0
        have d1 : W1.cell? ⟨gt, 1, none⟩ = some (.slice E e ce) := hbt.cell 1
        obtain ⟨xs, hox, hit⟩ := (HO.out.no tag_ok f0).xs
        obtain ⟨A2, c2, hA2, hrs, hA2l⟩ := RdS.of_own hox
        injection hA2 with hA2 _ hc2
        subst hA2 hc2
        have hzc := f0.size
        have D0 := Lib.hid d0; have D1 := Lib.hid d1; have HRS := Lib.hid hrs; have HIT := Lib.hid hit; have HOX := Lib.hid hox; have HRT := Lib.hid hrE; have HEB := Lib.hid hEb; have HBT := Lib.hid hbt; have F0 := Lib.hid f0
        have hone : ∀ u ∈ xs, u.oneCell' = true := ItemsF.one tag_ok hit
        have hone2 : ∀ u ∈ [Value.int .i64 q, Value.slice E e ce], u.oneCell' = true := by intro u hu; simp only [List.mem_cons, List.not_mem_nil, or_false] at hu; rcases hu with rfl | rfl <;> rfl
        have HN1 := Lib.hid hone; have HN2 := Lib.hid hone2
        clear hit hox hrs hrE hEb hbt f0 hone hone2 c0 c1 hA2l
        go_wp2_with fail
        go_cut [7, 8] from 9 to 68 (fun bv ev wx => ∃ z : Int, ev = .int .i64 z ∧ Hid (z = wrE (os ++ [(q, l6)])) ∧ Fr No W1 wx)
        case first =>
          go_region_held3 (fun w' => w'.cell? ⟨gt, 0, none⟩ = some (.int .i64 q) ∧ w'.cell? ⟨gt, 1, none⟩ = some (.slice E e ce))
            (first
             | go_keep
             | exact ⟨F71.out.cell D0.out (fun x => x), F71.out.cell D1.out (fun x => x)⟩
             | exact ⟨(F71.out.alloc _).cell D0.out (fun x => x), (F71.out.alloc _).cell D1.out (fun x => x)⟩
             | exact ⟨F72.out.cell D0.out (fun x => x), F72.out.cell D1.out (fun x => x)⟩
             | exact ⟨F73.out.cell D0.out (fun x => x), F73.out.cell D1.out (fun x => x)⟩)
            (first
             | (refine stepT rfl (.const (.slice none 0 0)) (.tmp 41) rfl W1.heap.size (.slice none 0 0) 0 [] (by rfl) (World.ownsRow_nil _ _ _ _) Ao mo co xs (by rfl) (HRS.out.fr (S := No) (Dr.refl W1).drew.fr (fun _ _ x => x)) HN1.out (by omega) (by simp) ?_; simp only [Nat.zero_add]; intro A71 c71 w71 o71 g71 q71; rw [List.nil_append] at o71; have F71 := Lib.hid ((Fr.refl No W1).drew.grown g71 (fun g e => by cases e)); have O71 := Lib.hid o71; clear o71 g71 q71)
             | (refine stepT rfl (.const (.slice none 0 0)) (.tmp 41) rfl W1.heap.size (.slice none 0 0) 0 [] (by rfl) (World.ownsRow_nil _ _ _ _) Ao mo co xs (by rfl) (HRS.out.fr (S := No) (((Fr.refl No W1).alloc _).drew) (fun _ _ x => x)) HN1.out (by omega) (by simp) ?_; simp only [Nat.zero_add]; intro A71 c71 w71 o71 g71 q71; rw [List.nil_append] at o71; have F71a := (((Fr.refl No W1).alloc (.cells #[.int .i64 q, .slice E e ce] 33)).drew.grown g71 (fun g e => by cases e)); have B71 := Lib.hid ((RdS.lit (s := 2) W1 [.int .i64 q, .slice E e ce] 33 1 rfl (by simp [maxLen])).fr (S := No) ((Fr.refl No _).drew.grown g71 (fun g e => by cases e)) (fun _ _ x => x)); have F71 := Lib.hid F71a; have O71 := Lib.hid o71; clear o71 g71 q71 F71a)
             | (refine stepT rfl (.tmp 42) (.tmp 44) rfl W1.heap.size (.slice A71 mo c71) mo xs (by rfl) (O71.out.alloc _) (some ⟨w71.heap.size, 0, none⟩) 1 1 [.int .i64 q, .slice E e ce] (by rfl) (RdS.lit (s := 2) w71 _ _ 1 rfl (by simp [maxLen])) HN2.out (by omega) (by have := F71.out.size; simp; omega) ?_; intro A72 c72 w72 o72 g72 q72; have F72 := Lib.hid ((F71.out.alloc _).grown g72 (fun g e => .inr (O71.out.lt g e).1)); have O72 := Lib.hid o72; clear o72 g72 q72)
             | (refine stepT rfl (.tmp 42) (.tmp 44) rfl W1.heap.size (.slice A71 mo c71) mo xs (by rfl) O71.out (some ⟨W1.heap.size, 0, none⟩) 1 1 [.int .i64 q, .slice E e ce] (by rfl) B71.out HN2.out (by omega) (by have := F71.out.size; simp; omega) ?_; intro A72 c72 w72 o72 g72 q72; have F72 := Lib.hid (F71.out.grown g72 (fun g e => .inr (O71.out.lt g e).1)); have O72 := Lib.hid o72; clear o72 g72 q72)
             | (go_at_call 12; refine (r_WriteTags_any _ (rdi_of_own O72.out (items_more F72.out HIT.out HRT.out HWF.out he30))).mono ?_; rintro e9 w73 ⟨v7, rfl, -, f73⟩; have F73 := Lib.hid (F72.out.trans f73); clear f73))
          all_goals
            go_wp2_with fail
            go_meet
            exact ⟨_, rfl, Lib.hid rfl, F73.out⟩
        case rest =>
          obtain ⟨z7, rfl, HZW, f7⟩ := hcut
          have F7 := Lib.hid f7
          have d0 := f7.cell D0.out (fun x => x)
          have d1 := f7.cell D1.out (fun x => x)
          clear f7
          by_cases hz7 : z7 = 0
          · subst hz7
            by_cases h200 : z + e < 200
            · have h200I : (z : Int) + (e : Int) < 200 := by omega
              have hw1 : IntKind.i64.wrap ((z : Int) + (e : Int)) = (z : Int) + (e : Int) := IntWalk.i64_in _ ⟨by omega, by omega⟩
              have hw2 : IntKind.i64.wrap ((z : Int) + (e : Int) + 4) = (z : Int) + (e : Int) + 4 := IntWalk.i64_in _ ⟨by omega, by omega⟩
              have hox2 := F7.out.own HOX.out (fun _ _ x => x)
              have HOX2 := Lib.hid hox2
              have hzb := ((HFR.out.trans F0.out).trans F7.out).size
              clear hox2
              go_wp2_with fail
              go_region_held3 (fun w' => w'.cell? ⟨gt, 0, none⟩ = some (.int .i64 q) ∧ w'.cell? ⟨gt, 1, none⟩ = some (.slice E e ce))
                (first
                 | go_keep
                 | exact ⟨F9.out.cell (F7.out.cell D0.out (fun x => x)) HGT.out, F9.out.cell (F7.out.cell D1.out (fun x => x)) HGT.out⟩)
                (first
                 | (refine stepT rfl (.tmp 59) (.tmp 61) rfl w.heap.size (.slice Ao mo co) mo xs (by rfl) ((HOX2.out.alloc _).drew) (some ⟨wc.heap.size, 0, none⟩) 1 1 [.int .i64 q, .slice E e ce] (by rfl) ((RdS.lit (s := 2) wc _ _ 1 rfl (by simp [maxLen])).fr (S := No) (Dr.refl _).drew.fr (fun _ _ x => x)) HN2.out (by omega) (by simp; omega) ?_; intro A9 c9 w9 o9 g9 q9; have F9 := Lib.hid (((Fr.refl (fun i => (Value.slice Ao mo co).ownBlock = some i) wc).alloc _).drew.grown g9 (fun g e => .inl e)); have O9 := Lib.hid o9; have Q9 := Lib.hid (show _ ∨ _ = some (wc.heap.size + 1) by simpa using q9); have HGT := Lib.hid (show ¬ (Value.slice Ao mo co).ownBlock = some gt from fun e => by have := (HO.out.lt _ e).2; omega); clear o9 g9 q9))
              all_goals
                go_wp2_with fail
                go_roundw
                case rel =>
                  exact TagsRel.more h1 hz h2 he30 HWF.out HO.out HD.out HFR.out F0.out F7.out HIT.out HRT.out (fun ad h => ⟨(HEB.out ad h).1, (HEB.out ad h).2.1⟩) F9.out O9.out Q9.out HZW.out.symm
                case measure => simp [intOf]; omega
            · have h200I : ¬ (z : Int) + (e : Int) < 200 := by omega
              go_wp2_with fail
              go_roundw
              case rel =>
                exact TagsRel.same h1 hz hmo HO.out HD.out HFR.out (F0.out.trans F7.out) HWE.out
              case measure => simp [intOf]; omega
          · have hz7b : (z7 == 0) = false := by rw [beq_eq_false_iff_ne]; exact hz7
            go_wp2_with fail
            go_roundw
            case rel =>
              exact TagsRel.same h1 hz hmo HO.out HD.out HFR.out (F0.out.trans F7.out) HWE.out
            case measure => simp [intOf]; omega
    · have hx2 : (((k : Int) < (n : Int) ∧ ¬ (mo : Int) < 6) ∧ mo ≠ 0) ∨ ((¬ (k : Int) < (n : Int) ∧ 0 = 0) ∧ mo ≠ 0) ∨ (¬ (k : Int) < (n : Int) ∧ mo = 0) := by omega
      clear hx
      rcases hx2 with ⟨⟨hI1, hI2⟩, hm0⟩ | ⟨⟨hI1, -⟩, hm0⟩ | ⟨hI1, rfl⟩
      · have hm0b : ((mo : Int) == 0) = false := by rw [beq_eq_false_iff_ne]; omega
        have hm0c : ¬ (mo : Int) = 0 := by omega
        go_wp2
        go_ret
        exact tags_end hm0 hmo HO.out HD.out HFR.out HWE.out
      · have hm0b : ((mo : Int) == 0) = false := by rw [beq_eq_false_iff_ne]; omega
        have hm0c : ¬ (mo : Int) = 0 := by omega
        go_wp2
        go_ret
        exact tags_end hm0 hmo HO.out HD.out HFR.out HWE.out
      · go_wp2
        go_ret
        exact ⟨_, 1, 1, [(149, [1])], rfl, by omega, by omega, tags_one HFR.out, (HFR.out.alloc _).alloc _, by decide⟩
end Go.Proofs.Ytbfodbejdaafaaa
