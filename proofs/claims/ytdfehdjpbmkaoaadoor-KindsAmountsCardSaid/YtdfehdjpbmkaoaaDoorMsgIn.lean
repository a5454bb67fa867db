/- The texts MsgOpen, MsgOpenR, Laid0, KinLaid, joined. -/
import Derived.Test.YtdfehdjpbmkaoaaDoorMsg
import Derived.Test.YtdfehdjpbmkaoaaDoorMsgItems
import Derived.Deep.Grids
import Derived.Test.YtdfehdjpbmkaoaaDoorBase
import Derived.Lib.LaidU8
import Derived.Deep.MidRow
import Derived.Test.YtdfehdjpbmkaoaaDoorKinA
/- A message that comes in: its cells. -/
namespace Go.Proofs.YtdfehdjpbmkaoaaDoor
open Go.RowKit Go.WideShapes Go.ChangeShapes
set_option linter.unusedVariables false

theorem cell_int {P : Program} {w : World} {r : Reach} {base : Nat} {t : TypeId} {v : Value} {k : IntKind} (ht : P.underlying t = some (.int k)) (h : Cell.okWide P w r base t v) : ∃ n, v = .int k n ∧ (Lit.int k n).wf = true := by
  simp only [Cell.okWide, ht] at h
  cases v <;> simp_all [Cell.ok, IntKind.has, Lit.wf]
theorem mo_string {P : Program} {w : World} {r : Reach} {base : Nat} {t : TypeId} {v : Value} (ht : P.underlying t = some .string) (h : Cell.okWide P w r base t v) : ∃ s, v = .string s ∧ s.size ≤ maxLen := by
  simp only [Cell.okWide, ht] at h
  have h2 : IntKind.i64.max = 9223372036854775807 := rfl
  cases v <;> simp_all [Cell.ok, maxLen]
  omega
theorem cell_slice {P : Program} {w : World} {r : Reach} {base : Nat} {t e : TypeId} {v : Value} (ht : P.underlying t = some (.slice e)) (h : Cell.okWide P w r base t v) : ∃ a n c, v = .slice a n c := by
  simp only [Cell.okWide, ht] at h
  cases v <;> simp_all [Cell.ok]
theorem array21 {α : Type} {cs : Array α} (h : cs.size = 21) : ∃ c0 c1 c2 c3 c4 c5 c6 c7 c8 c9 c10 c11 c12 c13 c14 c15 c16 c17 c18 c19 c20, cs = #[c0, c1, c2, c3, c4, c5, c6, c7, c8, c9, c10, c11, c12, c13, c14, c15, c16, c17, c18, c19, c20] := by
  obtain ⟨l⟩ := cs
  match l, h with
  | [c0, c1, c2, c3, c4, c5, c6, c7, c8, c9, c10, c11, c12, c13, c14, c15, c16, c17, c18, c19, c20], _ => exact ⟨c0, c1, c2, c3, c4, c5, c6, c7, c8, c9, c10, c11, c12, c13, c14, c15, c16, c17, c18, c19, c20, rfl⟩
theorem msgTypes : Tryd.prog.cellTypes Tryd.prog.depth 29 = some [3, 3, 9, 9, 9, 9, 22, 9, 9, 9, 9, 3, 9, 9, 3, 9, 25, 9, 9, 26, 27] := by kernel_rfl
theorem msgCells : Tryd.prog.cellsOf 29 = 21 := by kernel_rfl
set_option maxRecDepth 20000 in
/-- a message that comes in: its cells -/
theorem open_msg {w : World} {r : Reach} {b0 : Nat} {v : Value} (hv : Value.okWide Tryd.prog w r b0 29 v) : ∃ m : MsgC, v = m.val ∧ (Lit.int .i64 m.kind).wf = true := by
  unfold Value.okWide at hv
  rw [Tryd.underlying29] at hv
  obtain ⟨cs, rfl, hsz, ts, hts, _, hall⟩ := hv
  obtain rfl := Option.some.inj (hts.symm.trans msgTypes)
  obtain ⟨c0, c1, c2, c3, c4, c5, c6, c7, c8, c9, c10, c11, c12, c13, c14, c15, c16, c17, c18, c19, c20, rfl⟩ := array21 (hsz.trans msgCells)
  obtain ⟨u0, e0, q0⟩ := hall 0 c0 rfl
  cases e0
  obtain ⟨x0, rfl, wf0⟩ := cell_int Tryd.underlying3 q0
  obtain ⟨u1, e1, q1⟩ := hall 1 c1 rfl
  cases e1
  obtain ⟨x1, rfl, wf1⟩ := cell_int Tryd.underlying3 q1
  obtain ⟨u2, e2, q2⟩ := hall 2 c2 rfl
  cases e2
  obtain ⟨x2, rfl, hs2⟩ := mo_string Tryd.underlying9 q2
  obtain ⟨u3, e3, q3⟩ := hall 3 c3 rfl
  cases e3
  obtain ⟨x3, rfl, hs3⟩ := mo_string Tryd.underlying9 q3
  obtain ⟨u4, e4, q4⟩ := hall 4 c4 rfl
  cases e4
  obtain ⟨x4, rfl, hs4⟩ := mo_string Tryd.underlying9 q4
  obtain ⟨u5, e5, q5⟩ := hall 5 c5 rfl
  cases e5
  obtain ⟨x5, rfl, hs5⟩ := mo_string Tryd.underlying9 q5
  obtain ⟨u6, e6, q6⟩ := hall 6 c6 rfl
  cases e6
  obtain ⟨x6, rfl, wf6⟩ := cell_int Tryd.underlying22 q6
  obtain ⟨u7, e7, q7⟩ := hall 7 c7 rfl
  cases e7
  obtain ⟨x7, rfl, hs7⟩ := mo_string Tryd.underlying9 q7
  obtain ⟨u8, e8, q8⟩ := hall 8 c8 rfl
  cases e8
  obtain ⟨x8, rfl, hs8⟩ := mo_string Tryd.underlying9 q8
  obtain ⟨u9, e9, q9⟩ := hall 9 c9 rfl
  cases e9
  obtain ⟨x9, rfl, hs9⟩ := mo_string Tryd.underlying9 q9
  obtain ⟨u10, e10, q10⟩ := hall 10 c10 rfl
  cases e10
  obtain ⟨x10, rfl, hs10⟩ := mo_string Tryd.underlying9 q10
  obtain ⟨u11, e11, q11⟩ := hall 11 c11 rfl
  cases e11
  obtain ⟨x11, rfl, wf11⟩ := cell_int Tryd.underlying3 q11
  obtain ⟨u12, e12, q12⟩ := hall 12 c12 rfl
  cases e12
  obtain ⟨x12, rfl, hs12⟩ := mo_string Tryd.underlying9 q12
  obtain ⟨u13, e13, q13⟩ := hall 13 c13 rfl
  cases e13
  obtain ⟨x13, rfl, hs13⟩ := mo_string Tryd.underlying9 q13
  obtain ⟨u14, e14, q14⟩ := hall 14 c14 rfl
  cases e14
  obtain ⟨x14, rfl, wf14⟩ := cell_int Tryd.underlying3 q14
  obtain ⟨u15, e15, q15⟩ := hall 15 c15 rfl
  cases e15
  obtain ⟨x15, rfl, hs15⟩ := mo_string Tryd.underlying9 q15
  obtain ⟨u16, e16, q16⟩ := hall 16 c16 rfl
  cases e16
  obtain ⟨x16, n16, k16, rfl⟩ := cell_slice Tryd.underlying25 q16
  obtain ⟨u17, e17, q17⟩ := hall 17 c17 rfl
  cases e17
  obtain ⟨x17, rfl, hs17⟩ := mo_string Tryd.underlying9 q17
  obtain ⟨u18, e18, q18⟩ := hall 18 c18 rfl
  cases e18
  obtain ⟨x18, rfl, hs18⟩ := mo_string Tryd.underlying9 q18
  obtain ⟨u19, e19, q19⟩ := hall 19 c19 rfl
  cases e19
  obtain ⟨x19, n19, k19, rfl⟩ := cell_slice Tryd.underlying26 q19
  obtain ⟨u20, e20, q20⟩ := hall 20 c20 rfl
  cases e20
  obtain ⟨x20, n20, k20, rfl⟩ := cell_slice Tryd.underlying27 q20
  exact ⟨⟨x0, x1, x2, x3, x4, x5, x6, x7, x8, x9, x10, x11, x12, x13, x14, x15, x16, n16, k16, x17, x18, x19, n19, k19, x20, n20, k20⟩, rfl, wf0⟩
end Go.Proofs.YtdfehdjpbmkaoaaDoor
/- A message that comes in: its texts' sizes, its numbers, its lists. -/
namespace Go.Proofs.YtdfehdjpbmkaoaaDoor
open Go.RowKit Go.WideShapes Go.ChangeShapes
set_option maxHeartbeats 400000
set_option linter.unusedVariables false

section
variable {H : Type} {enc : TypeId × Value → H} {P : Program} {W : World} {base : Nat} {sp : Nat → Bool} {held : Bool}
theorem each_w (q : Nat → Bool) : ∀ (ts : List TypeId) (ds : List (DataW H)), (DataW.weightsEach P ts ds).all q = true → ∀ (i : Nat) (t : TypeId) (d : DataW H), ts[i]? = some t → ds[i]? = some d → (d.weights P t).all q = true
  | [], _, _, i, t, d, ht, _ => by simp at ht
  | _ :: _, [], _, i, t, d, _, hd => by simp at hd
  | t0 :: ts, d0 :: ds, h, 0, t, d, ht, hd => by
    simp only [List.getElem?_cons_zero, Option.some.injEq] at ht hd
    subst ht hd
    unfold DataW.weightsEach at h
    rw [List.all_append, Bool.and_eq_true] at h
    exact h.1
  | t0 :: ts, d0 :: ds, h, i + 1, t, d, ht, hd => by
    simp only [List.getElem?_cons_succ] at ht hd
    unfold DataW.weightsEach at h
    rw [List.all_append, Bool.and_eq_true] at h
    exact each_w q ts ds h.2 i t d ht hd
theorem all_w (q : Nat → Bool) (e : TypeId) : ∀ (ds : List (DataW H)), (DataW.weightsAll P e ds).all q = true → ∀ (i : Nat) (d : DataW H), ds[i]? = some d → (d.weights P e).all q = true
  | [], _, i, d, hd => by simp at hd
  | d0 :: ds, h, 0, d, hd => by
    simp only [List.getElem?_cons_zero, Option.some.injEq] at hd
    subst hd
    unfold DataW.weightsAll at h
    rw [List.all_append, Bool.and_eq_true] at h
    exact h.1
  | d0 :: ds, h, i + 1, d, hd => by
    simp only [List.getElem?_cons_succ] at hd
    unfold DataW.weightsAll at h
    rw [List.all_append, Bool.and_eq_true] at h
    exact all_w q e ds h.2 i d hd
/-- a field of a struct that came in -/
theorem fld_w {t : TypeId} {fs : Array Field} {fuel : Nat} {cs : List Value} {x : DataW H × List MemPlace} (ht : P.underlying t = some (.struct fs)) (h : DataW.trod enc P W base sp held fuel t cs = some x) (hw : (x.1.weights P t).all (fun k => decide (k ≤ reachBytes)) = true) (i : Nat) (ty : TypeId) (off : Nat) (hf0 : (fs[i]?).map (fun f => (f.type, f.offset)) = some (ty, off)) :
    ∃ y n, DataW.trod enc P W base sp held n ty ((cs.drop off).take (P.cellsOf ty)) = some y ∧ (y.1.weights P ty).all (fun k => decide (k ≤ reachBytes)) = true := by
  obtain ⟨f, hi, hfe⟩ := Option.map_eq_some_iff.1 hf0
  injection hfe with hfe1 hfe2
  subst hfe1 hfe2
  obtain ⟨xs, n, _, rfl, hl, hlen, hf⟩ := DataW.trod_struct ht h
  have hix : i < xs.length := by rw [hlen]; exact (Array.getElem?_eq_some_iff.1 hi).1
  have h1 := hf i f hi
  rw [List.getElem?_eq_getElem hix] at h1
  refine ⟨xs[i], n, h1, ?_⟩
  unfold DataW.weights at hw
  rw [ht] at hw
  refine each_w _ _ _ hw i f.type _ ?_ ?_
  · rw [List.getElem?_map, Array.getElem?_toList, hi]; rfl
  · rw [List.getElem?_map, List.getElem?_eq_getElem hix]; rfl
theorem str_w {t : TypeId} {fuel : Nat} {cs : List Value} {y : DataW H × List MemPlace} (ht : P.underlying t = some .string) (h : DataW.trod enc P W base sp held fuel t cs = some y) (hw : (y.1.weights P t).all (fun k => decide (k ≤ reachBytes)) = true) (x : ByteArray) (hx : cs = [.string x]) : x.size ≤ 140737488355328 := by
  obtain ⟨s, e, rfl, _⟩ := DataW.trod_string ht h
  rw [hx] at e
  injection e with e _
  injection e with e
  subst e
  unfold DataW.weights at hw
  simp only [List.all_cons, List.all_nil, Bool.and_true, decide_eq_true_iff] at hw
  have h2 : x.data.toList.length = x.size := by simp
  rw [h2] at hw
  simp only [reachBytes] at hw
  omega
theorem int_w {t : TypeId} {k : IntKind} {fuel : Nat} {cs : List Value} {y : DataW H × List MemPlace} (ht : P.underlying t = some (.int k)) (h : DataW.trod enc P W base sp held fuel t cs = some y) (x : Int) (hx : cs = [.int k x]) : (Lit.int k x).wf = true := by
  obtain ⟨n, e, rfl, hw⟩ := DataW.trod_int ht h
  rw [hx] at e
  injection e with e _
  injection e with _ e
  subst e
  exact hw
/-- a slice of things that came in, and how much it is -/
theorem slice_w {α : Type} {I : World → (Nat → Prop) → List Value → α → Prop} {s bb : Nat} {N : Nat → Prop} {t e : TypeId} {fuel : Nat} {cs : List Value} {x : DataW H × List MemPlace}
    (ht : P.underlying t = some (.slice e)) (hc : P.cellsOf e = s) (hs : 0 < s) (hb : P.bytesOf e = bb) (hb0 : 0 < bb) (hN : ∀ i, i < W.heap.size → N i)
    (hel : ∀ (m : Nat) (zs : List Value) (y : DataW H × List MemPlace), DataW.trod enc P W 0 sp held m e zs = some y → (y.1.weights P e).all (fun k => decide (k ≤ reachBytes)) = true → ∃ a, I W N zs a)
    (h : DataW.trod enc P W 0 sp held fuel t cs = some x) (hw : (x.1.weights P t).all (fun k => decide (k ≤ reachBytes)) = true) (A : Option Addr) (n c : Nat) (hx : cs = [.slice A n c]) :
    ∃ (ls : List α), RdI s I W N A n c ls ∧ n ≤ 140737488355328 := by
  rcases DataW.trod_slice ht h with ⟨e1, rfl⟩ | ⟨a, len, cap, elems, rest, m, _, e1, rfl, _, hl, hm, hle, hat, _, _⟩
  · rw [hx] at e1
    injection e1 with e1 _
    injection e1 with e1 e2 e3
    subst e1 e2 e3
    exact ⟨[], RdI.nil_ s I W N, by omega⟩
  · rw [hx] at e1
    injection e1 with e1 _
    injection e1 with e1 e2 e3
    subst e1 e2 e3
    unfold DataW.weights at hw
    rw [ht] at hw
    simp only [List.all_cons, List.all_append, Bool.and_eq_true, decide_eq_true_iff] at hw
    obtain ⟨hw0, hw1, _⟩ := hw
    rw [hc] at hat
    have key : ∀ k, k ≤ n → ∃ (xs : List Value) (ls : List α), xs.length = k * s ∧ ItemsF I W N xs ls ∧ (∀ j u, xs[j]? = some u → W.cell? (a.add j) = some u) := by
      intro k
      induction k with
      | zero => exact fun _ => ⟨[], [], by simp, rfl, by simp⟩
      | succ k ih =>
        intro hk
        obtain ⟨xs, ls, h1, h2, h3⟩ := ih (by omega)
        have hk2 := hat k (by omega)
        have hkl : k < elems.length := by omega
        rw [List.getElem?_eq_getElem hkl, Option.bind_eq_some_iff] at hk2
        obtain ⟨zs, hz1, hz2⟩ := hk2
        obtain ⟨_, hzl, hza⟩ := World.cells?_some hz1
        obtain ⟨b, hb1⟩ := hel m zs _ hz2 (all_w _ e _ hw1 k _ (by rw [List.getElem?_map, List.getElem?_eq_getElem hkl]; rfl))
        refine ⟨xs ++ zs, ls ++ [b], by rw [List.length_append, h1, hzl, Nat.add_mul]; omega, ItemsF.app h2 (ItemsF.single hb1), ?_⟩
        intro j u hu
        rw [List.getElem?_append] at hu
        split at hu
        · exact h3 j u hu
        · rename_i hj
          rw [h1] at hu hj
          have hjl := (List.getElem?_eq_some_iff.1 hu).1
          have := hza (j - k * s) (by omega)
          rw [add_add, show k * s + (j - k * s) = j from by omega] at this
          rw [this, hu]
    obtain ⟨xs, ls, h1, h2, h3⟩ := key n (Nat.le_refl _)
    refine ⟨ls, ⟨⟨xs, ⟨h1, hl, hm, (fun e => nomatch e), fun ad e j u hu => by injection e with e; subst e; exact h3 j u hu⟩, h2⟩, fun ad e h0 => ?_⟩, ?_⟩
    · injection e with e
      subst e
      refine hN _ ?_
      have h5 : 0 < xs.length := by rw [h1]; exact Nat.mul_pos h0 hs
      have := World.block_lt_of_cell? _ _ (h3 0 _ (List.getElem?_eq_getElem h5))
      rwa [blk_add] at this
    · have h6 : n ≤ (elems.map (·.1)).length + (rest.map (·.1)).length := by rw [List.length_map]; omega
      rw [hb] at hw0
      have h7 : (elems.map (·.1)).length + (rest.map (·.1)).length ≤ ((elems.map (·.1)).length + (rest.map (·.1)).length) * bb := Nat.le_mul_of_pos_right _ hb0
      simp only [reachBytes] at hw0
      omega
end
section
variable {H : Type} {enc : TypeId × Value → H} {W : World}
theorem mo_cint : Tryd.prog.cellsOf 3 = 1 := by kernel_rfl
theorem mo_cstr : Tryd.prog.cellsOf 9 = 1 := by kernel_rfl
theorem mo_cu64 : Tryd.prog.cellsOf 22 = 1 := by kernel_rfl
theorem mo_cu8 : Tryd.prog.cellsOf 5 = 1 := by kernel_rfl
theorem mo_cbs : Tryd.prog.cellsOf 44 = 1 := by kernel_rfl
theorem mo_ctags : Tryd.prog.cellsOf 25 = 1 := by kernel_rfl
theorem mo_cpairs : Tryd.prog.cellsOf 26 = 1 := by kernel_rfl
theorem mo_cels : Tryd.prog.cellsOf 27 = 1 := by kernel_rfl
theorem mo_corg : Tryd.prog.cellsOf 24 = 2 := by kernel_rfl
theorem mo_u8s {fuel : Nat} {cs : List Value} {x : DataW H × List MemPlace} (hf : DataW.trod enc Tryd.prog W 0 (fun _ => true) true fuel 44 cs = some x) :
    ∃ (A : Option Addr) (n c : Nat) (l : List UInt8), cs = [.slice A n c] ∧ Rd W A n c (u8s l) := by
  rcases open_ints Tryd.underlying44 Tryd.underlying5 mo_cu8 hf with ⟨hcs, _⟩ | ⟨a, len', cap', zs, hcs, _, hl, hm, hz, _, hcell, hw⟩
  · exact ⟨none, 0, 0, [], hcs, Rd.nil_ W⟩
  · simp only [if_true] at hz
    obtain ⟨l, hle⟩ := u8s_of (zs := zs.take len') (fun z hz' => hw z (List.mem_of_mem_take hz'))
    refine ⟨some a, len', cap', l, hcs, hle ▸ ⟨by simp; omega, hl, hm, (fun e => nomatch e), ?_⟩⟩
    intro ad e j u hu
    injection e with e
    subst e
    rw [List.getElem?_map, Option.map_eq_some_iff] at hu
    obtain ⟨z, hz1, rfl⟩ := hu
    rw [List.getElem?_take] at hz1
    split at hz1
    · have hj := (List.getElem?_eq_some_iff.1 hz1).1
      rw [hcell j hj, List.getD, hz1]
      rfl
    · cases hz1
theorem two_list {a : List Value} (h : a.length = 2) : ∃ x y, a = [x, y] := by
  match a, h with
  | [x, y], _ => exact ⟨x, y, rfl⟩
set_option maxRecDepth 20000 in
theorem mo_tag {m : Nat} {zs : List Value} {y : DataW H × List MemPlace} (h : DataW.trod enc Tryd.prog W 0 (fun _ => true) true m 46 zs = some y) (hw : (y.1.weights Tryd.prog 46).all (fun k => decide (k ≤ reachBytes)) = true) : ∃ a, TagI W (fun i => i < W.heap.size) zs a := by
  have hl : zs.length = 2 := by
    obtain ⟨_, _, _, _, hl, _⟩ := DataW.trod_struct Tryd.underlying46 h
    rw [hl]; kernel_rfl
  obtain ⟨z0, z1, rfl⟩ := two_list hl
  obtain ⟨y0, n0, f0, _⟩ := fld_w Tryd.underlying46 h hw 0 3 0 rfl
  obtain ⟨y1, n1, f1, _⟩ := fld_w Tryd.underlying46 h hw 1 44 1 rfl
  obtain ⟨p, e0, _, hp⟩ := DataW.trod_int Tryd.underlying3 f0
  obtain ⟨A, k, c, l, e1, hr⟩ := mo_u8s f1
  simp only [mo_cint, mo_cbs, List.drop_zero, List.drop_succ_cons, List.take_succ_cons, List.take_zero, List.cons.injEq, and_true] at e0 e1
  subst e0 e1
  refine ⟨(p, l), A, k, c, rfl, hr, fun ad e h0 => hr.lt h0 ad e, hp, ?_⟩
  have h1 := hr.cap
  have h2 := hr.max
  simp only [maxLen] at h2
  omega
set_option maxRecDepth 20000 in
theorem mo_elt {m : Nat} {zs : List Value} {y : DataW H × List MemPlace} (h : DataW.trod enc Tryd.prog W 0 (fun _ => true) true m 50 zs = some y) (hw : (y.1.weights Tryd.prog 50).all (fun k => decide (k ≤ reachBytes)) = true) : ∃ a, TagI W (fun i => i < W.heap.size) zs a := by
  have hl : zs.length = 2 := by
    obtain ⟨_, _, _, _, hl, _⟩ := DataW.trod_struct Tryd.underlying50 h
    rw [hl]; kernel_rfl
  obtain ⟨z0, z1, rfl⟩ := two_list hl
  obtain ⟨y0, n0, f0, _⟩ := fld_w Tryd.underlying50 h hw 0 3 0 rfl
  obtain ⟨y1, n1, f1, _⟩ := fld_w Tryd.underlying50 h hw 1 44 1 rfl
  obtain ⟨p, e0, _, hp⟩ := DataW.trod_int Tryd.underlying3 f0
  obtain ⟨A, k, c, l, e1, hr⟩ := mo_u8s f1
  simp only [mo_cint, mo_cbs, List.drop_zero, List.drop_succ_cons, List.take_succ_cons, List.take_zero, List.cons.injEq, and_true] at e0 e1
  subst e0 e1
  refine ⟨(p, l), A, k, c, rfl, hr, fun ad e h0 => hr.lt h0 ad e, hp, ?_⟩
  have h1 := hr.cap
  have h2 := hr.max
  simp only [maxLen] at h2
  omega
set_option maxRecDepth 20000 in
theorem mo_pair {m : Nat} {zs : List Value} {y : DataW H × List MemPlace} (h : DataW.trod enc Tryd.prog W 0 (fun _ => true) true m 48 zs = some y) (hw : (y.1.weights Tryd.prog 48).all (fun k => decide (k ≤ reachBytes)) = true) : ∃ a, PairI W (fun i => i < W.heap.size) zs a := by
  have hl : zs.length = 2 := by
    obtain ⟨_, _, _, _, hl, _⟩ := DataW.trod_struct Tryd.underlying48 h
    rw [hl]; kernel_rfl
  obtain ⟨z0, z1, rfl⟩ := two_list hl
  obtain ⟨y0, n0, f0, w0⟩ := fld_w Tryd.underlying48 h hw 0 9 0 rfl
  obtain ⟨y1, n1, f1, w1⟩ := fld_w Tryd.underlying48 h hw 1 9 1 rfl
  obtain ⟨s0, e0, _⟩ := DataW.trod_string Tryd.underlying9 f0
  obtain ⟨s1, e1, _⟩ := DataW.trod_string Tryd.underlying9 f1
  have k0 := str_w Tryd.underlying9 f0 w0 s0 e0
  have k1 := str_w Tryd.underlying9 f1 w1 s1 e1
  simp only [mo_cstr, List.drop_zero, List.drop_succ_cons, List.take_succ_cons, List.take_zero, List.cons.injEq, and_true] at e0 e1
  subst e0 e1
  exact ⟨(s0, s1), rfl, k0, k1⟩
set_option maxRecDepth 20000 in
/-- a message that came in -/
theorem open_msgR {v : Value} {d : DataW H} {p : List MemPlace} {b0 : Nat} (hval : Value.okWide Tryd.prog W .any b0 29 v) (h : DataW.Trod enc Tryd.prog W 0 (fun _ => true) true 29 v d p) (hw : (d.weights Tryd.prog 29).all (fun k => decide (k ≤ reachBytes)) = true) :
    ∃ (m : MsgC) (tl : List (Int × List UInt8)) (el : List (ByteArray × ByteArray)) (ol : List (Int × List UInt8)), v = m.val ∧ MsgR W (fun i => i < W.heap.size) m tl el ol := by
  obtain ⟨m, rfl, _⟩ := open_msg hval
  obtain ⟨fuel, hf⟩ := h
  have hc : m.val.cells.toList = m.cells := rfl
  rw [hc] at hf
  have F := fun i ty off h0 => fld_w Tryd.underlying29 hf hw i ty off h0
  obtain ⟨y0, n0, f0, w0⟩ := F 0 3 0 rfl
  have k0 := int_w Tryd.underlying3 f0 m.kind (by rw [mo_cint]; rfl)
  obtain ⟨y1, n1, f1, w1⟩ := F 1 3 1 rfl
  have k1 := int_w Tryd.underlying3 f1 m.stan (by rw [mo_cint]; rfl)
  obtain ⟨y2, n2, f2, w2⟩ := F 2 9 2 rfl
  have k2 := str_w Tryd.underlying9 f2 w2 m.time (by rw [mo_cstr]; rfl)
  obtain ⟨y3, n3, f3, w3⟩ := F 3 9 3 rfl
  have k3 := str_w Tryd.underlying9 f3 w3 m.acq (by rw [mo_cstr]; rfl)
  obtain ⟨y4, n4, f4, w4⟩ := F 4 9 4 rfl
  have k4 := str_w Tryd.underlying9 f4 w4 m.pan (by rw [mo_cstr]; rfl)
  obtain ⟨y5, n5, f5, w5⟩ := F 5 9 5 rfl
  have k5 := str_w Tryd.underlying9 f5 w5 m.cur (by rw [mo_cstr]; rfl)
  obtain ⟨y6, n6, f6, w6⟩ := F 6 22 6 rfl
  have k6 := int_w Tryd.underlying22 f6 m.amount (by rw [mo_cu64]; rfl)
  obtain ⟨y7, n7, f7, w7⟩ := F 7 9 7 rfl
  have k7 := str_w Tryd.underlying9 f7 w7 m.rrn (by rw [mo_cstr]; rfl)
  obtain ⟨y8, n8, f8, w8⟩ := F 8 9 8 rfl
  have k8 := str_w Tryd.underlying9 f8 w8 m.mer (by rw [mo_cstr]; rfl)
  obtain ⟨y9, n9, f9, w9⟩ := F 9 9 9 rfl
  have k9 := str_w Tryd.underlying9 f9 w9 m.ter (by rw [mo_cstr]; rfl)
  obtain ⟨y10, n10, f10, w10⟩ := F 10 9 10 rfl
  have k10 := str_w Tryd.underlying9 f10 w10 m.app (by rw [mo_cstr]; rfl)
  obtain ⟨y11, n11, f11, w11⟩ := F 11 3 11 rfl
  have k11 := int_w Tryd.underlying3 f11 m.entry (by rw [mo_cint]; rfl)
  obtain ⟨y12, n12, f12, w12⟩ := F 12 9 12 rfl
  have k12 := str_w Tryd.underlying9 f12 w12 m.act (by rw [mo_cstr]; rfl)
  obtain ⟨y13, n13, f13, w13⟩ := F 13 9 13 rfl
  have k13 := str_w Tryd.underlying9 f13 w13 m.rea (by rw [mo_cstr]; rfl)
  obtain ⟨y14, n14, f14, w14⟩ := F 14 24 14 rfl
  obtain ⟨a0, b0', g0, u0⟩ := fld_w Tryd.underlying24 f14 w14 0 3 0 rfl
  obtain ⟨a1, b1', g1, u1⟩ := fld_w Tryd.underlying24 f14 w14 1 9 1 rfl
  have k14 := int_w Tryd.underlying3 g0 m.ostan (by rw [mo_cint, mo_corg]; rfl)
  have k15 := str_w Tryd.underlying9 g1 u1 m.otime (by rw [mo_cstr, mo_corg]; rfl)
  obtain ⟨y16, n16, f16, w16⟩ := F 15 25 16 rfl
  obtain ⟨tl, k16, k16n⟩ := slice_w (I := TagI) (s := 2) (N := fun i => i < W.heap.size) Tryd.underlying25 (by kernel_rfl) (by omega) (bb := 32) (by kernel_rfl) (by omega) (fun _ hi => hi) (fun _ _ _ => mo_tag) f16 w16 m.tA m.tn m.tc (by rw [mo_ctags]; rfl)
  obtain ⟨y17, n17, f17, w17⟩ := F 16 9 17 rfl
  have k17 := str_w Tryd.underlying9 f17 w17 m.key (by rw [mo_cstr]; rfl)
  obtain ⟨y18, n18, f18, w18⟩ := F 17 9 18 rfl
  have k18 := str_w Tryd.underlying9 f18 w18 m.note (by rw [mo_cstr]; rfl)
  obtain ⟨y19, n19, f19, w19⟩ := F 18 26 19 rfl
  obtain ⟨el, k19, k19n⟩ := slice_w (I := PairI) (s := 2) (N := fun i => i < W.heap.size) Tryd.underlying26 (by kernel_rfl) (by omega) (bb := 32) (by kernel_rfl) (by omega) (fun _ hi => hi) (fun _ _ _ => mo_pair) f19 w19 m.eA m.en m.ec (by rw [mo_cpairs]; rfl)
  obtain ⟨y20, n20, f20, w20⟩ := F 19 27 20 rfl
  obtain ⟨ol, k20, k20n⟩ := slice_w (I := TagI) (s := 2) (N := fun i => i < W.heap.size) Tryd.underlying27 (by kernel_rfl) (by omega) (bb := 32) (by kernel_rfl) (by omega) (fun _ hi => hi) (fun _ _ _ => mo_elt) f20 w20 m.oA m.on m.oc (by rw [mo_cels]; rfl)
  exact ⟨m, tl, el, ol, rfl, ⟨k0, k1, k6, k11, k14, k2, k3, k4, k5, k7, k8, k9, k10, k12, k13, k15, k17, k18, k16, k19, k20, k16n, k19n, k20n⟩⟩
end
end Go.Proofs.YtdfehdjpbmkaoaaDoor
/- What a row lists of plain structs, as cells. No program. -/
namespace Go.Proofs.YtdfehdjpbmkaoaaDoor
open Go.RowKit
set_option linter.unusedVariables false

/-- what a plain datum lies as -/
def litV : Lit → Value
  | .int k n => .int k n
  | .string s => .string ⟨s.toArray⟩
  | _ => .nilIface
def plainT (P : Program) (t : TypeId) : Prop := (∃ k, P.underlying t = some (.int k)) ∨ P.underlying t = some .string
section
variable {H : Type} {enc : TypeId × Value → H} {P : Program} {w : World} {base : Nat} {sp : Nat → Bool} {held : Bool}
theorem plain_trod {fuel : Nat} {t : TypeId} {cs : List Value} {l : Lit} {p : List MemPlace} (ht : plainT P t) (h : DataW.trod enc P w base sp held fuel t cs = some (.lit l, p)) : cs = [litV l] := by
  rcases ht with ⟨k, ht⟩ | ht
  · obtain ⟨n, rfl, hx, _⟩ := DataW.trod_int ht h
    injection hx with h1 h2
    injection h1 with h1
    subst h1
    rfl
  · obtain ⟨s, rfl, hx, _⟩ := DataW.trod_string ht h
    injection hx with h1 h2
    injection h1 with h1
    subst h1
    rfl
/-- a struct of plain fields of one cell each -/
theorem plain_struct {fuel : Nat} {t : TypeId} {fs : Array Field} {cs : List Value} {ls : List Lit} {p : List MemPlace} (ht : P.underlying t = some (.struct fs))
    (hf : ∀ (i : Nat) (f : Field), fs[i]? = some f → plainT P f.type ∧ f.offset = i ∧ P.cellsOf f.type = 1) (hct : P.cellsOf t = fs.size)
    (h : DataW.trod enc P w base sp held fuel t cs = some (.agg (ls.map DataW.lit), p)) : cs = ls.map litV := by
  obtain ⟨xs, n, rfl, hx, hl, hxl, hall⟩ := DataW.trod_struct ht h
  have hxs : xs.map (·.1) = ls.map (DataW.lit : Lit → DataW H) := by
    have := congrArg Prod.fst hx
    simpa using this.symm
  have hzl : ls.length = fs.size := by
    have := congrArg List.length hxs
    simp at this
    omega
  apply List.ext_getElem?
  intro i
  by_cases hi : i < fs.size
  · obtain ⟨hu, ho, hc⟩ := hf i fs[i] (by simp [hi])
    have h1 := hall i fs[i] (by simp [hi])
    obtain ⟨b, hb⟩ : ∃ b, xs[i]? = some b := ⟨xs[i]'(by omega), List.getElem?_eq_getElem (by omega)⟩
    have h3 : (xs.map (·.1))[i]? = some b.1 := by simp [hb]
    rw [hxs, List.getElem?_map, List.getElem?_eq_getElem (by omega), Option.map_some, Option.some.injEq] at h3
    rw [hb, ho, hc] at h1
    have h4 := plain_trod (l := ls[i]) (p := b.2) hu (by rw [h1, h3])
    have h2 : cs[i]? = some (litV ls[i]) := by
      have := congrArg (·[0]?) h4
      simpa [List.getElem?_take, List.getElem?_drop] using this
    rw [h2, List.getElem?_map, List.getElem?_eq_getElem (by omega)]
    rfl
  · rw [List.getElem?_eq_none (by omega), List.getElem?_eq_none (by simp; omega)]
end
end Go.Proofs.YtdfehdjpbmkaoaaDoor
/- What a row lists of package kinds' table, as cells. -/
namespace Go.Proofs.YtdfehdjpbmkaoaaDoor
open Go.RowKit
set_option linter.unusedVariables false

def DRow.lits (r : DRow) : List Lit := [.int .i64 r.kind, .string r.code.data.toList, .string r.mti.data.toList, .int .u16 (r.must : Int), .int .u16 (r.may : Int)]
def devData : DataW Unit := .agg (devT.map fun r => .agg (r.lits.map DataW.lit))
theorem lits_cells (r : DRow) : r.lits.map litV = r.cells := by simp [DRow.lits, DRow.cells, litV]
theorem devV_at (j : Nat) (hj : j < 55) : devV[j]? = ((dRow (j / 5)).cells)[j % 5]? := by
  have h : ∀ n : Fin 55, devV[n.val]? = ((dRow (n.val / 5)).cells)[n.val % 5]? := by
    intro n
    match n with
    | ⟨n, hn⟩ =>
      have h2 : n / 5 < 11 := by omega
      have e1 : n = n / 5 * 5 + n % 5 := by omega
      have h3 : n % 5 < 5 := by omega
      obtain ⟨a, ha⟩ : ∃ a, n / 5 = a := ⟨_, rfl⟩
      obtain ⟨b, hb⟩ : ∃ b, n % 5 = b := ⟨_, rfl⟩
      simp only [ha, hb] at *
      subst e1
      have h : a = 0 ∨ a = 1 ∨ a = 2 ∨ a = 3 ∨ a = 4 ∨ a = 5 ∨ a = 6 ∨ a = 7 ∨ a = 8 ∨ a = 9 ∨ a = 10 := by omega
      have h' : b = 0 ∨ b = 1 ∨ b = 2 ∨ b = 3 ∨ b = 4 := by omega
      rcases h with rfl | rfl | rfl | rfl | rfl | rfl | rfl | rfl | rfl | rfl | rfl <;> rcases h' with rfl | rfl | rfl | rfl | rfl <;> rfl
  exact h ⟨j, hj⟩
theorem devT_at (i : Nat) (hi : i < 11) : devT[i]? = some (dRow i) := by
  unfold dRow
  rw [List.getD_eq_getElem?_getD, List.getElem?_eq_getElem (by exact hi)]
  rfl
theorem kin_reads {W : World} (h : Lib.VarReads Tryd.prog W "comptoir/kinds.table" devData) : W.rangeAt 0 0 devV ∧ 0 < W.heap.size := by
  obtain ⟨g, t, cs, fuel, p, hg, hty, hvar, hd⟩ := h
  obtain rfl := Option.some.inj ((show Tryd.prog.globalNamed "comptoir/kinds.table" = some 0 by kernel_rfl).symm.trans hg)
  obtain rfl := Option.some.inj ((show (Tryd.prog.globals[0]?).map (·.type) = some 85 by kernel_rfl).symm.trans hty)
  have hr : W.rangeAt 0 0 devV := by
    intro j v hv
    have hj : j < 55 := (List.getElem?_eq_some_iff.1 hv).1
    obtain ⟨fuel', d, q, hdi, he⟩ := Lib.array_elem Tryd.underlying85 hd (j / 5) (by omega)
    rw [List.getElem?_map, devT_at (j / 5) (by omega), Option.map_some, Option.some.injEq] at hdi
    subst hdi
    have hc5 : Tryd.prog.cellsOf 68 = 5 := by kernel_rfl
    rw [hc5] at he
    have hcs := plain_struct Tryd.underlying68 (fun i f hf => by
      match i, hf with
      | 0, hf => simp at hf; subst hf; exact ⟨.inl ⟨.i64, by kernel_rfl⟩, rfl, by kernel_rfl⟩
      | 1, hf => simp at hf; subst hf; exact ⟨.inr (by kernel_rfl), rfl, by kernel_rfl⟩
      | 2, hf => simp at hf; subst hf; exact ⟨.inr (by kernel_rfl), rfl, by kernel_rfl⟩
      | 3, hf => simp at hf; subst hf; exact ⟨.inl ⟨.u16, by kernel_rfl⟩, rfl, by kernel_rfl⟩
      | 4, hf => simp at hf; subst hf; exact ⟨.inl ⟨.u16, by kernel_rfl⟩, rfl, by kernel_rfl⟩
      | i + 5, hf => simp at hf) (by rw [hc5]; rfl) he
    rw [lits_cells] at hcs
    have h1 := congrArg (·[j % 5]?) hcs
    simp only [List.getElem?_take, List.getElem?_drop] at h1
    rw [if_pos (by omega), show j / 5 * 5 + j % 5 = j by omega, ← devV_at j hj, hv] at h1
    rw [Nat.zero_add, World.var?_cell hg hvar j, ← Array.getElem?_toList]
    exact h1
  exact ⟨hr, World.block_lt_of_cell? _ _ (hr 0 _ (show devV[0]? = some _ from rfl))⟩
end Go.Proofs.YtdfehdjpbmkaoaaDoor
