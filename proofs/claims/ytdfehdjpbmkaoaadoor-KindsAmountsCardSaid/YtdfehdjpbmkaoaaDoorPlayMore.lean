/- The statements' own messages: what the XML side alone may say, and a key. -/
import Derived.Test.YtdfehdjpbmkaoaaDoorWhole2
import Derived.Test.YtdfehdjpbmkaoaaDoorPlay2
import Derived.Test.YtdfehdjpbmkaoaaDoorRefDig2
import Derived.Deep.RegionHeld2
import Derived.Deep.CutRange
namespace Go.Proofs.YtdfehdjpbmkaoaaDoor
open Go.RowKit
set_option maxHeartbeats 2000000
set_option linter.unusedVariables false
set_option linter.unusedSimpArgs false

/-- the same message, but for its key, and what one side alone may say -/
def Core (o o' : MsgC) : Prop := ∃ key note eA en ec oA on oc, o' = { o with key := key, note := note, eA := eA, en := en, ec := ec, oA := oA, on := on, oc := oc }
def MoreEnd (o : MsgC) (w : World) (e : Ending) (w' : World) : Prop := ∃ o' : MsgC, e = .returned o'.val ∧ Core o o' ∧ Fr No w w'
theorem info_pair : (Tryd.prog.info? 48).map (fun i => (i.zero, i.size, i.bytes)) = some (some (.agg #[.string ⟨#[]⟩, .string ⟨#[]⟩]), 2, 32) := by kernel_rfl
theorem stepP {ops : Array Oper} {o : Oper} {a : Act} {w : World} {K : Act → World → Prop} {Q : Exit → Act → World → Prop} {E : Prop} (hgd : Region.wanted o (yielded ops a.tmps) = true) (s x : Operand)
    (ho : o.op = .call { callee := .builtin .append, args := #[s, x], argTypes := #[26, 26] })
    (base : Nat) (v : Value) (n : Nat) (xs : List Value) (hs : a.eval s = v) (hown : w.ownsRow base 48 2 v n xs)
    (A : Option Addr) (m c : Nat) (news : List Value) (hx : a.eval x = .slice A m c) (hr : RdS w 2 A m c news) (h1 : ∀ u ∈ news, u.oneCell' = true) (hb : n + m ≤ 1000000) (hbase : base ≤ w.heap.size)
    (h : ∀ A' c' w', w'.ownsRow base 48 2 (.slice A' (n + m) c') (n + m) (xs ++ news) → w.grownBy w' v.ownBlock → ((Value.slice A' (n + m) c').ownBlock = v.ownBlock ∨ (Value.slice A' (n + m) c').ownBlock = some w.heap.size) → K (a.put o.dst (.slice A' (n + m) c')) w') :
    if Region.wanted o (yielded ops a.tmps) = true then Oper.wp Tryd.prog o a w K Q else E := by
  rw [if_pos hgd]
  obtain ⟨i, hi, hz, h2, h3⟩ := info_parts info_pair
  obtain ⟨v', w', hrun, g1, g2, g3⟩ := run_append_rdS (P := Tryd.prog) w base 26 o.type 48 i _ 2 32 Tryd.underlying26 hi hz h2 h3 rfl (by omega) v n xs hown A m c news hr h1 (by simp only [maxLen]; omega) (by omega) hbase
  unfold Oper.wp execOp
  simp only [ho, resolve, invoke, builtin, Sem.run_bind, Sem.run_pure, Result.andThen_ok, List.map_toArray, List.map_cons, List.map_nil, hs, hx, hrun]
  obtain ⟨A', c', rfl, -⟩ := RdS.of_own g1
  exact h A' c' w' g1 g2 g3
/-- how the message that grows lies -/
def MoreAt (o m : MsgC) (w : World) (k : Nat) (wx : World) : Prop := ∃ (o' : MsgC) (xs : List Value), Bk wx w.heap.size 29 o'.cells ∧ Bk wx (w.heap.size + 1) 29 m.cells ∧ Bk wx (w.heap.size + 2) 29 m0c ∧ Core o o' ∧
  wx.ownsRow (w.heap.size + 3) 48 2 (.slice o'.eA o'.en o'.ec) o'.en xs ∧ o'.en ≤ k ∧ Fr No w wx ∧ w.heap.size + 3 ≤ wx.heap.size
theorem Core.refl (o : MsgC) : Core o o := ⟨o.key, o.note, o.eA, o.en, o.ec, o.oA, o.on, o.oc, rfl⟩
theorem Core.note {o o' : MsgC} (h : Core o o') (s : ByteArray) : Core o { o' with note := s } := by
  obtain ⟨a, b, c, d, e, f, g, i, rfl⟩ := h
  exact ⟨a, s, c, d, e, f, g, i, rfl⟩
theorem Core.key {o o' : MsgC} (h : Core o o') (s : ByteArray) : Core o { o' with key := s } := by
  obtain ⟨a, b, c, d, e, f, g, i, rfl⟩ := h
  exact ⟨s, b, c, d, e, f, g, i, rfl⟩
theorem Core.extra {o o' : MsgC} (h : Core o o') (A : Option Addr) (n c : Nat) : Core o { o' with eA := A, en := n, ec := c } := by
  obtain ⟨a, b, _, _, _, f, g, i, rfl⟩ := h
  exact ⟨a, b, A, n, c, f, g, i, rfl⟩
theorem MoreAt.start {o m : MsgC} {w W : World} (h0 : Bk W w.heap.size 29 o.cells) (h1 : Bk W (w.heap.size + 1) 29 m.cells) (h2 : Bk W (w.heap.size + 2) 29 m0c) (hf : Fr No w W)
    (e1 : o.eA = none) (e2 : o.en = 0) (e3 : o.ec = 0) : MoreAt o m w 0 W := by
  refine ⟨o, [], h0, h1, h2, Core.refl o, ?_, by omega, hf, by have := h2.lt; omega⟩
  rw [e1, e2, e3]
  exact ⟨by simp, .inl ⟨rfl, rfl⟩⟩
theorem MoreAt.note {o m : MsgC} {w W : World} {k : Nat} (h : MoreAt o m w k W) (s : ByteArray) : MoreAt o m w k (W.setCell ⟨w.heap.size, 18, none⟩ (.string s)) := by
  obtain ⟨o', xs, h0, h1, h2, hc, hx, hk, hf, hz⟩ := h
  have hj : Fr (Just w.heap.size) W (W.setCell ⟨w.heap.size, 18, none⟩ (.string s)) := (Fr.refl _ W).setCell (p := ⟨w.heap.size, 18, none⟩) (.inl (Just.at _)) _
  have hn : ∀ i, Just w.heap.size i → ¬ w.heap.size + 3 ≤ i := fun i hi => by have hi : i = w.heap.size := hi; omega
  exact ⟨{ o' with note := s }, xs, h0.set_ 18 _, h1.fr hj (fun e => by have e : _ = w.heap.size := e; omega), h2.fr hj (fun e => by have e : _ = w.heap.size := e; omega), hc.note s, hj.own hx (fun g hg hi => hn g hi (hx.lt g hg).1), hk, hf.setCell (p := ⟨w.heap.size, 18, none⟩) (.inr (Nat.le_refl _)) _, by simpa using hz⟩
theorem MoreAt.extra {o m o' : MsgC} {w wr w9 : World} {k : Nat} {xs ns : List Value} {A : Option Addr} {c : Nat} (h0 : Bk wr w.heap.size 29 o'.cells) (h1 : Bk wr (w.heap.size + 1) 29 m.cells) (h2 : Bk wr (w.heap.size + 2) 29 m0c) (hc : Core o o')
    (hx : wr.ownsRow (w.heap.size + 3) 48 2 (.slice o'.eA o'.en o'.ec) o'.en xs) (hk : o'.en ≤ k) (hf : Fr No w wr) (hz : w.heap.size + 3 ≤ wr.heap.size) (f9 : Fr (fun i => (Value.slice o'.eA o'.en o'.ec).ownBlock = some i) wr w9)
    (o9 : w9.ownsRow (w.heap.size + 3) 48 2 (.slice A (o'.en + 1) c) (o'.en + 1) (xs ++ ns)) : MoreAt o m w (k + 1) (w9.setCell ⟨w.heap.size, 19, none⟩ (.slice A (o'.en + 1) c)) := by
  have hown := fun g hg => (hx.lt g hg).1
  have hne : ∀ j, j < 3 → ¬ (Value.slice o'.eA o'.en o'.ec).ownBlock = some (w.heap.size + j) := fun j hj e => by have := hown _ e; omega
  have b0 := h0.fr f9 (hne 0 (by omega))
  have b1 := h1.fr f9 (hne 1 (by omega))
  have b2 := h2.fr f9 (hne 2 (by omega))
  have hj : Fr (Just w.heap.size) w9 (w9.setCell ⟨w.heap.size, 19, none⟩ (.slice A (o'.en + 1) c)) := (Fr.refl _ w9).setCell (p := ⟨w.heap.size, 19, none⟩) (.inl (Just.at _)) _
  have hf9 : Fr No w w9 := hf.trans_new f9 (fun i hi => .inr (by have := hown i hi; omega))
  exact ⟨{ o' with eA := A, en := o'.en + 1, ec := c }, xs ++ ns, b0.set_ 19 _, b1.fr hj (fun e => by have e : _ = w.heap.size := e; omega), b2.fr hj (fun e => by have e : _ = w.heap.size := e; omega), hc.extra A _ c, hj.own o9 (fun g hg hi => by have hi : g = w.heap.size := hi; have := (o9.lt g hg).1; omega), by show o'.en + 1 ≤ k + 1; omega, hf9.setCell (p := ⟨w.heap.size, 19, none⟩) (.inr (Nat.le_refl _)) _, by have := f9.size; simp; omega⟩
def MoreEnd0 (o : MsgC) (w wx : World) : Prop := ∃ o2 : MsgC, Bk wx w.heap.size 29 o2.cells ∧ Bk wx (w.heap.size + 1 + 1) 29 m0c ∧ Core o o2 ∧ Fr No w wx
theorem moreEnd0_same {o o' : MsgC} {w wr w5 : World} (h0 : Bk wr w.heap.size 29 o'.cells) (h2 : Bk wr (w.heap.size + 2) 29 m0c) (hc : Core o o') (hf : Fr No w wr) (f5 : Fr No wr w5) : MoreEnd0 o w w5 :=
  ⟨o', h0.no f5, h2.no f5, hc, hf.trans f5⟩
theorem moreEnd0_key {o o' : MsgC} {w wr w5 : World} (s : ByteArray) (h0 : Bk wr w.heap.size 29 o'.cells) (h2 : Bk wr (w.heap.size + 2) 29 m0c) (hc : Core o o') (hf : Fr No w wr) (f5 : Fr No wr w5) : MoreEnd0 o w (w5.setCell ⟨w.heap.size, 17, none⟩ (.string s)) :=
  ⟨{ o' with key := s }, (h0.no f5).set_ 17 _, (h2.no f5).fr ((Fr.refl (Just w.heap.size) w5).setCell (p := ⟨w.heap.size, 17, none⟩) (.inl (Just.at _)) _) (fun e => by have e : w.heap.size + 2 = w.heap.size := e; omega), hc.key s, (hf.trans f5).setCell (p := ⟨w.heap.size, 17, none⟩) (.inr (Nat.le_refl _)) _⟩
theorem msg_one2 (m : MsgC) : m.cells.toArray.all (·.oneCell') = true := by simp [MsgC.cells, Value.oneCell']
set_option maxRecDepth 20000 in
theorem p_more_xml {N : Nat → Prop} {m : MsgC} {tl : List (Int × List UInt8)} {el : List (ByteArray × ByteArray)} {ol : List (Int × List UInt8)} (o : MsgC) (w : World) (hm : MsgR w N m tl el ol) (hN : ∀ i, N i → i < w.heap.size) (h1 : o.eA = none) (h2 : o.en = 0) (h3 : o.ec = 0) :
    Calls Tryd.prog 27 #[o.val, m.val, .int .i64 0] w (MoreEnd o w) := by
  have hb0 : Bk (((w.alloc (.cells o.cells.toArray 29)).alloc (.cells m.cells.toArray 29)).alloc (.cells m0c.toArray 29)) w.heap.size 29 o.cells := ((Bk.new w _ _).no ((Fr.refl No _).alloc _)).no ((Fr.refl No _).alloc _)
  have hb1 : Bk (((w.alloc (.cells o.cells.toArray 29)).alloc (.cells m.cells.toArray 29)).alloc (.cells m0c.toArray 29)) (w.heap.size + 1) 29 m.cells := by
    have h := (Bk.new (w.alloc (.cells o.cells.toArray 29)) 29 m.cells.toArray).no ((Fr.refl No _).alloc (.cells m0c.toArray 29))
    simpa using h
  have hb2 : Bk (((w.alloc (.cells o.cells.toArray 29)).alloc (.cells m.cells.toArray 29)).alloc (.cells m0c.toArray 29)) (w.heap.size + 2) 29 m0c := by
    have h := Bk.new ((w.alloc (.cells o.cells.toArray 29)).alloc (.cells m.cells.toArray 29)) 29 m0c.toArray
    simpa using h
  have hfa : Fr No w (((w.alloc (.cells o.cells.toArray 29)).alloc (.cells m.cells.toArray 29)).alloc (.cells m0c.toArray 29)) := (((Fr.refl No w).alloc _).alloc _).alloc _
  obtain ⟨W, hW⟩ : ∃ W, ((w.alloc (.cells o.cells.toArray 29)).alloc (.cells m.cells.toArray 29)).alloc (.cells m0c.toArray 29) = W := ⟨_, rfl⟩
  rw [hW] at hb0 hb1 hb2 hfa
  unfold MsgC.val
  unfold MsgC.cells m0c at hW
  have hmW := hm.no hfa
  have HMW := Lib.hid hm; have HNW := Lib.hid hN
  have d18 : W.cell? ⟨w.heap.size + 1, 18, none⟩ = some (.string m.note) := hb1.cell 18
  have HB0 := Lib.hid hb0; have HB1 := Lib.hid hb1; have HB2 := Lib.hid hb2; have HFA := Lib.hid hfa; have HM := Lib.hid hmW; have HH := Lib.hid (And.intro h1 (And.intro h2 h3))
  have z18 := hb0.frozen 18
  have y18 : W.cell? ⟨w.heap.size, 18, none⟩ = some (.string o.note) := hb0.cell 18
  clear hb0 hb1 hb2 hfa hm hmW hN h1 h2 h3
  go_enter Tryd.func27, Tryd.ntmps27
  have hst := MoreAt.start HB0.out HB1.out HB2.out HFA.out HH.out.1 HH.out.2.1 HH.out.2.2
  have HST := Lib.hid hst
  clear hst
  go_upto_if 17 with fail
  clear d18 z18 y18
  go_cut [] from 15 to 22 (fun wx => MoreAt o m w 0 wx)
  case first =>
    have d18 : W.cell? ⟨w.heap.size + 1, 18, none⟩ = some (.string m.note) := HB1.out.cell 18
    have z18 := HB0.out.frozen 18
    have y18 : W.cell? ⟨w.heap.size, 18, none⟩ = some (.string o.note) := HB0.out.cell 18
    have ht := p_text m.note 140 0 W HM.out.note (by omega)
    simp only [Int.cast_ofNat_Int] at ht
    have HT := Lib.hid ht
    clear ht
    go_wp2_with (go_at_call 23; refine HT.out.mono ?_; rintro e w1 ⟨T1, rfl, -, rfl⟩)
    all_goals
      go_meet
      first | exact HST.out | exact HST.out.note _
  case rest =>
    clear HB0 HB1 HB2 HST
    go_wp2_with fail
    go_loopw [7] (fun v wr => ∃ k : Nat, k ≤ 4 ∧ k ≤ m.en ∧ v = .int .i64 (k : Int) ∧ MoreAt o m w k wr) (fun v _ => 4 - (intOf v).toNat)
    case atStart => exact ⟨0, by omega, by omega, rfl, hcut⟩
    case round =>
      clear hcut
      obtain ⟨k, hk4, hke, rfl, o', xs, h0, h1, h2, hc, hx, hkk, hf, hz⟩ := hrel
      have d19 : wr.cell? ⟨w.heap.size + 1, 19, none⟩ = some (.slice m.eA m.en m.ec) := h1.cell 19
      have d17 : wr.cell? ⟨w.heap.size + 1, 17, none⟩ = some (.string m.key) := h1.cell 17
      have H0 := Lib.hid h0; have H1 := Lib.hid h1; have H2 := Lib.hid h2; have HC := Lib.hid hc; have HX := Lib.hid hx; have HF := Lib.hid hf
      have hcase : (k < m.en ∧ k < 4) ∨ (k < m.en ∧ 4 ≤ k) ∨ (m.en ≤ k ∧ 0 = 0) := by omega
      rcases hcase with ⟨q1, q2⟩ | hx2
      · have hI1 : (k : Int) < (m.en : Int) := by omega
        have hI2 : (k : Int) < 4 := by omega
        have hmw := (HMW.out.no hf).extra
        obtain ⟨ad, cs, a, hA, ⟨rfl, s1, s2⟩, hak, hc0, hc1⟩ := two_cells pair_ok hmw q1
        have c0 := hc0 _ rfl
        have c1 := hc1 _ rfl
        rw [hA] at d19
        obtain ⟨X, Y⟩ := a
        obtain ⟨P, hP⟩ : ∃ P, ad.add (k * 2) = P := ⟨_, rfl⟩
        rw [hP] at c0 c1
        have y19 : wr.cell? ⟨w.heap.size, 19, none⟩ = some (.slice o'.eA o'.en o'.ec) := h0.cell 19
        have hown : ∀ g, (Value.slice o'.eA o'.en o'.ec).ownBlock = some g → w.heap.size + 3 ≤ g := fun g hg => (hx.lt g hg).1
        have t1 := fun u => p_text X 20 0 u s1 (by omega)
        have t2 := fun u => p_text Y 100 0 u s2 (by omega)
        simp only [Int.cast_ofNat_Int] at t1 t2
        have C0 := Lib.hid c0; have C1 := Lib.hid c1; have D19 := Lib.hid d19; have Y19 := Lib.hid y19; have T1 := Lib.hid t1; have T2 := Lib.hid t2; have HOWN := Lib.hid hown
        have HPB := Lib.hid (World.block_lt_of_cell? _ _ c0)
        have hne : ∀ j, j < 3 → ¬ (Value.slice o'.eA o'.en o'.ec).ownBlock = some (w.heap.size + j) := fun j hj e => by have := HOWN.out _ e; omega
        have hnp : ¬ (Value.slice o'.eA o'.en o'.ec).ownBlock = some P.block := fun e => by
          have q1 := hown _ e
          have hb : N P.block := by rw [← hP, blk_add]; exact hmw.blk ad hA (by omega)
          have q2 := HNW.out _ hb
          omega
        have HNE := Lib.hid hne; have HNP := Lib.hid hnp
        have y19a : ∀ o, (wr.alloc o).cell? ⟨w.heap.size, 19, none⟩ = some (.slice o'.eA o'.en o'.ec) := fun o => ((Fr.refl No wr).alloc o).cell Y19.out (fun x => x)
        have NPJ := Lib.hid (show ¬ Just w.heap.size P.block from fun e => by have e : P.block = w.heap.size := e; have hb : N P.block := by { rw [← hP, blk_add]; exact hmw.blk ad hA (by omega) }; have q2 := HNW.out _ hb; omega)
        clear hc0 hc1 hak hmw s1 s2 t1 t2 hown hne hnp h0 h1 h2 hc hx hf hA d17
        go_wp2_with fail
        have hPb : ¬ P.block = w.heap.size := NPJ.out
        refine wp_region_held_drew (S := fun w' => w'.cell? ⟨w.heap.size + 1, 19, none⟩ = some (.slice (some ad) m.en m.ec) ∧ w'.cell? P = some (.string X) ∧ w'.cell? ⟨P.block, P.off + 1, none⟩ = some (.string Y)) (by kernel_rfl) (by go_keep) (fun hHeld => ?_)
        refine wpAnyH_take (i := 0) (v := ?va1) rfl (by kernel_rfl) (by kernel_rfl) (by kernel_rfl) (fun _ _ _ h => h) (Or.inl ⟨by rfl, ?hy1⟩) (by assumption) ?rest1
        case hy1 => (intro w hSw; (try dsimp only at hSw); go_simp; all_goals with_reducible rfl)
        try simp only [Act.put, List.setIfInBounds_toArray, List.set_cons_zero, List.set_cons_succ, List.getElem_toArray, List.getElem_cons_zero, List.getElem_cons_succ]
        refine wpAnyH_take (i := 2) (v := ?va2) rfl (by kernel_rfl) (by kernel_rfl) (by kernel_rfl) (fun _ _ _ h => h) (Or.inl ⟨by rfl, ?hy2⟩) (by assumption) ?rest2
        case hy2 => (intro w hSw; (try dsimp only at hSw); go_simp; all_goals with_reducible rfl)
        try simp only [Act.put, List.setIfInBounds_toArray, List.set_cons_zero, List.set_cons_succ, List.getElem_toArray, List.getElem_cons_zero, List.getElem_cons_succ]
        refine wpAnyH_take (i := 3) (v := ?va3) rfl (by kernel_rfl) (by kernel_rfl) (by kernel_rfl) (fun _ _ _ h => h) (Or.inl ⟨by rfl, ?hy3⟩) (by assumption) ?rest3
        case hy3 => (intro w hSw; (try dsimp only at hSw); go_simp; all_goals with_reducible rfl)
        try simp only [Act.put, List.setIfInBounds_toArray, List.set_cons_zero, List.set_cons_succ, List.getElem_toArray, List.getElem_cons_zero, List.getElem_cons_succ]
        refine wpAnyH_take (i := 4) (v := ?va4) rfl (by kernel_rfl) (by kernel_rfl) (by kernel_rfl) (fun _ _ _ h => h) (Or.inl ⟨by rfl, ?hy4⟩) (by assumption) ?rest4
        case hy4 => (intro w hSw; (try dsimp only at hSw); go_simp; all_goals with_reducible rfl)
        try simp only [Act.put, List.setIfInBounds_toArray, List.set_cons_zero, List.set_cons_succ, List.getElem_toArray, List.getElem_cons_zero, List.getElem_cons_succ]
        refine wpAnyH_take (i := 5) (v := ?va5) rfl (by kernel_rfl) (by kernel_rfl) (by kernel_rfl) (fun _ _ _ h => h) (Or.inl ⟨by rfl, ?hy5⟩) (by assumption) ?rest5
        case hy5 => (intro w hSw; (try dsimp only at hSw); go_simp; all_goals with_reducible rfl)
        try simp only [Act.put, List.setIfInBounds_toArray, List.set_cons_zero, List.set_cons_succ, List.getElem_toArray, List.getElem_cons_zero, List.getElem_cons_succ]
        refine wpAnyH_take (i := 6) (v := ?va6) rfl (by kernel_rfl) (by kernel_rfl) (by kernel_rfl) (fun _ _ _ h => h) (Or.inl ⟨by rfl, ?hy6⟩) (by assumption) ?rest6
        case hy6 => (intro w hSw; (try dsimp only at hSw); go_simp; all_goals with_reducible rfl)
        try simp only [Act.put, List.setIfInBounds_toArray, List.set_cons_zero, List.set_cons_succ, List.getElem_toArray, List.getElem_cons_zero, List.getElem_cons_succ]
        refine wpAnyH_take (i := 7) (v := ?va7) rfl (by kernel_rfl) (by kernel_rfl) (by kernel_rfl) (fun _ _ _ h => h) (Or.inl ⟨by rfl, ?hy7⟩) (by assumption) ?rest7
        case hy7 => (intro w hSw; (try dsimp only at hSw); go_simp; all_goals with_reducible rfl)
        try simp only [Act.put, List.setIfInBounds_toArray, List.set_cons_zero, List.set_cons_succ, List.getElem_toArray, List.getElem_cons_zero, List.getElem_cons_succ]
        refine wpAnyH_take (i := 8) (v := ?va8) rfl (by kernel_rfl) (by kernel_rfl) (by kernel_rfl) (fun _ _ _ h => h) (Or.inl ⟨by rfl, ?hy8⟩) (by assumption) ?rest8
        case hy8 => (intro w hSw; (try dsimp only at hSw); go_simp; all_goals with_reducible rfl)
        try simp only [Act.put, List.setIfInBounds_toArray, List.set_cons_zero, List.set_cons_succ, List.getElem_toArray, List.getElem_cons_zero, List.getElem_cons_succ]
        refine wpAnyH_take (i := 10) (v := ?va9) rfl (by kernel_rfl) (by kernel_rfl) (by kernel_rfl) (fun _ _ _ h => h) (Or.inl ⟨by rfl, ?hy9⟩) (by assumption) ?rest9
        case hy9 => (intro w hSw; (try dsimp only at hSw); go_simp; all_goals with_reducible rfl)
        try simp only [Act.put, List.setIfInBounds_toArray, List.set_cons_zero, List.set_cons_succ, List.getElem_toArray, List.getElem_cons_zero, List.getElem_cons_succ]
        refine wpAnyH_take (i := 11) (v := ?va10) rfl (by kernel_rfl) (by kernel_rfl) (by kernel_rfl) (fun _ _ _ h => h) (Or.inl ⟨by rfl, ?hy10⟩) (by assumption) ?rest10
        case hy10 => (intro w hSw; (try dsimp only at hSw); go_simp; all_goals with_reducible rfl)
        try simp only [Act.put, List.setIfInBounds_toArray, List.set_cons_zero, List.set_cons_succ, List.getElem_toArray, List.getElem_cons_zero, List.getElem_cons_succ]
        refine wpAnyH_take (i := 12) (v := ?va11) rfl (by kernel_rfl) (by kernel_rfl) (by kernel_rfl) (fun _ _ _ h => h) (Or.inl ⟨by rfl, ?hy11⟩) (by assumption) ?rest11
        case hy11 => (intro w hSw; (try dsimp only at hSw); go_simp; all_goals with_reducible rfl)
        try simp only [Act.put, List.setIfInBounds_toArray, List.set_cons_zero, List.set_cons_succ, List.getElem_toArray, List.getElem_cons_zero, List.getElem_cons_succ]
        refine wpAnyH_take (i := 13) (v := ?va12) rfl (by kernel_rfl) (by kernel_rfl) (by kernel_rfl) (fun _ _ _ h => h) (Or.inl ⟨by rfl, ?hy12⟩) (by assumption) ?rest12
        case hy12 => (intro w hSw; (try dsimp only at hSw); go_simp; all_goals with_reducible rfl)
        try simp only [Act.put, List.setIfInBounds_toArray, List.set_cons_zero, List.set_cons_succ, List.getElem_toArray, List.getElem_cons_zero, List.getElem_cons_succ]
        refine wpAnyH_take (i := 14) (v := ?va13) rfl (by kernel_rfl) (by kernel_rfl) (by kernel_rfl) (fun _ _ _ h => h) (Or.inl ⟨by rfl, ?hy13⟩) (by assumption) ?rest13
        case hy13 => (intro w hSw; (try dsimp only at hSw); go_simp; all_goals with_reducible rfl)
        try simp only [Act.put, List.setIfInBounds_toArray, List.set_cons_zero, List.set_cons_succ, List.getElem_toArray, List.getElem_cons_zero, List.getElem_cons_succ]
        refine wpAnyH_take (i := 15) (v := ?va14) rfl (by kernel_rfl) (by kernel_rfl) (by kernel_rfl) (fun _ _ _ h => h) (Or.inl ⟨by rfl, ?hy14⟩) (by assumption) ?rest14
        case hy14 => (intro w hSw; (try dsimp only at hSw); go_simp; all_goals with_reducible rfl)
        try simp only [Act.put, List.setIfInBounds_toArray, List.set_cons_zero, List.set_cons_succ, List.getElem_toArray, List.getElem_cons_zero, List.getElem_cons_succ]
        refine wpAnyH_take (i := 16) (v := ?va15) rfl (by kernel_rfl) (by kernel_rfl) (by kernel_rfl) (fun _ _ _ h => h) (Or.inl ⟨by rfl, ?hy15⟩) (by assumption) ?rest15
        case hy15 => (intro w hSw; (try dsimp only at hSw); go_simp; all_goals with_reducible rfl)
        try simp only [Act.put, List.setIfInBounds_toArray, List.set_cons_zero, List.set_cons_succ, List.getElem_toArray, List.getElem_cons_zero, List.getElem_cons_succ]
        refine wpAnyH_ready (rs := [1, 9]) (by kernel_rfl) (by simp) ?_
        refine AllReadyH.cons rfl (fun K hK => ?_) (AllReadyH.cons rfl (fun K hK => ?_) AllReadyH.nil)
        · go_simp
          refine hK.out _ _ (by first | exact hHeld | (go_keep; done) | exact ⟨F9.out.cell D19.out (HNE.out 1 (by omega)), F9.out.cell C0.out HNP.out, F9.out.cell C1.out HNP.out⟩ | exact ⟨FJ9.out.cell (F9.out.cell D19.out (HNE.out 1 (by omega))) (fun e => by have e : w.heap.size + 1 = w.heap.size := e; omega), FJ9.out.cell (F9.out.cell C0.out HNP.out) NPJ.out, FJ9.out.cell (F9.out.cell C1.out HNP.out) NPJ.out⟩) (fun hHeld2 => ?_)
          clear hK K hHeld
          have hHeld := hHeld2
          clear hHeld2
          try simp only [Act.put, List.setIfInBounds_toArray, List.set_cons_zero, List.set_cons_succ, List.getElem_toArray, List.getElem_cons_zero, List.getElem_cons_succ]
          refine wpAnyH_ready (rs := [9]) (by kernel_rfl) (by simp) ?_
          refine AllReadyH.cons rfl (fun K hK => ?_) AllReadyH.nil
          go_simp
          go_wp2_with ((go_at_call 23; (with_reducible refine (T1.out _).mono ?_); rintro e w1 ⟨T1s, rfl, -, rfl⟩))
          refine hK.out _ _ (by first | exact hHeld | (go_keep; done) | exact ⟨F9.out.cell D19.out (HNE.out 1 (by omega)), F9.out.cell C0.out HNP.out, F9.out.cell C1.out HNP.out⟩ | exact ⟨FJ9.out.cell (F9.out.cell D19.out (HNE.out 1 (by omega))) (fun e => by have e : w.heap.size + 1 = w.heap.size := e; omega), FJ9.out.cell (F9.out.cell C0.out HNP.out) NPJ.out, FJ9.out.cell (F9.out.cell C1.out HNP.out) NPJ.out⟩) (fun hHeld2 => ?_)
          clear hK K hHeld
          have hHeld := hHeld2
          clear hHeld2
          try simp only [Act.put, List.setIfInBounds_toArray, List.set_cons_zero, List.set_cons_succ, List.getElem_toArray, List.getElem_cons_zero, List.getElem_cons_succ]
          refine wpAnyH_ready (rs := [17]) (by kernel_rfl) (by simp) ?_
          refine AllReadyH.cons rfl (fun K hK => ?_) AllReadyH.nil
          go_simp
          go_wp2_with ((go_at_call 23; (with_reducible refine (T2.out _).mono ?_); rintro e w1 ⟨T2s, rfl, -, rfl⟩))
          refine hK.out _ _ (by first | exact hHeld | (go_keep; done) | exact ⟨F9.out.cell D19.out (HNE.out 1 (by omega)), F9.out.cell C0.out HNP.out, F9.out.cell C1.out HNP.out⟩ | exact ⟨FJ9.out.cell (F9.out.cell D19.out (HNE.out 1 (by omega))) (fun e => by have e : w.heap.size + 1 = w.heap.size := e; omega), FJ9.out.cell (F9.out.cell C0.out HNP.out) NPJ.out, FJ9.out.cell (F9.out.cell C1.out HNP.out) NPJ.out⟩) (fun hHeld2 => ?_)
          clear hK K hHeld
          have hHeld := hHeld2
          clear hHeld2
          try simp only [Act.put, List.setIfInBounds_toArray, List.set_cons_zero, List.set_cons_succ, List.getElem_toArray, List.getElem_cons_zero, List.getElem_cons_succ]
          refine wpAnyH_take (i := 18) (v := ?va16) rfl (by kernel_rfl) (by kernel_rfl) (by kernel_rfl) (fun _ _ _ h => h) (Or.inl ⟨by rfl, ?hy16⟩) (by assumption) ?rest16
          case hy16 => (intro w hSw; (try dsimp only at hSw); go_simp; all_goals with_reducible rfl)
          try simp only [Act.put, List.setIfInBounds_toArray, List.set_cons_zero, List.set_cons_succ, List.getElem_toArray, List.getElem_cons_zero, List.getElem_cons_succ]
          refine wpAnyH_ready (rs := [19]) (by kernel_rfl) (by simp) ?_
          refine AllReadyH.cons rfl (fun K hK => ?_) AllReadyH.nil
          go_simp
          refine hK.out _ _ (by first | exact hHeld | (go_keep; done) | exact ⟨F9.out.cell D19.out (HNE.out 1 (by omega)), F9.out.cell C0.out HNP.out, F9.out.cell C1.out HNP.out⟩ | exact ⟨FJ9.out.cell (F9.out.cell D19.out (HNE.out 1 (by omega))) (fun e => by have e : w.heap.size + 1 = w.heap.size := e; omega), FJ9.out.cell (F9.out.cell C0.out HNP.out) NPJ.out, FJ9.out.cell (F9.out.cell C1.out HNP.out) NPJ.out⟩) (fun hHeld2 => ?_)
          clear hK K hHeld
          have hHeld := hHeld2
          clear hHeld2
          try simp only [Act.put, List.setIfInBounds_toArray, List.set_cons_zero, List.set_cons_succ, List.getElem_toArray, List.getElem_cons_zero, List.getElem_cons_succ]
          refine wpAnyH_ready (rs := [20]) (by kernel_rfl) (by simp) ?_
          refine AllReadyH.cons rfl (fun K hK => ?_) AllReadyH.nil
          refine stepP rfl (.tmp 35) (.tmp 53) rfl (w.heap.size + 3) (.slice o'.eA o'.en o'.ec) o'.en xs (by rfl) ((HX.out.alloc _).drew) (some ⟨wr.heap.size, 0, none⟩) 1 1 [.string T1s, .string T2s] (by rfl) ((RdS.lit (s := 2) wr _ _ 1 rfl (by simp [maxLen])).fr (S := No) (Dr.refl _).drew.fr (fun _ _ x => x)) (by intro u hu; simp only [List.mem_cons, List.not_mem_nil, or_false] at hu; rcases hu with rfl | rfl <;> rfl) (by omega) (by simp; omega) ?_; intro A9 c9 w9 o9 g9 q9; have F9 := Lib.hid (((Fr.refl (fun i => (Value.slice o'.eA o'.en o'.ec).ownBlock = some i) wr).alloc _).drew.grown g9 (fun g e => .inl e)); have O9 := Lib.hid o9; have z19 := (H0.out.fr F9.out (HNE.out 0 (by omega))).frozen 19; have y29 := F9.out.cell Y19.out (HNE.out 0 (by omega)); have FJ9 := Lib.hid ((Fr.refl (Just w.heap.size) w9).setCell (p := ⟨w.heap.size, 19, none⟩) (.inl (Just.at _)) (.slice A9 (o'.en + 1) c9)); clear o9 g9 q9
          refine hK.out _ _ (by first | exact hHeld | (go_keep; done) | exact ⟨F9.out.cell D19.out (HNE.out 1 (by omega)), F9.out.cell C0.out HNP.out, F9.out.cell C1.out HNP.out⟩ | exact ⟨FJ9.out.cell (F9.out.cell D19.out (HNE.out 1 (by omega))) (fun e => by have e : w.heap.size + 1 = w.heap.size := e; omega), FJ9.out.cell (F9.out.cell C0.out HNP.out) NPJ.out, FJ9.out.cell (F9.out.cell C1.out HNP.out) NPJ.out⟩) (fun hHeld2 => ?_)
          clear hK K hHeld
          have hHeld := hHeld2
          clear hHeld2
          try simp only [Act.put, List.setIfInBounds_toArray, List.set_cons_zero, List.set_cons_succ, List.getElem_toArray, List.getElem_cons_zero, List.getElem_cons_succ]
          refine wpAnyH_take (i := 21) (v := ?va17) rfl (by kernel_rfl) (by kernel_rfl) (by kernel_rfl) (fun _ _ _ h => h) (Or.inl ⟨by rfl, ?hy17⟩) (by assumption) ?rest17
          case hy17 => (intro w hSw; (try dsimp only at hSw); go_simp; all_goals with_reducible rfl)
          try simp only [Act.put, List.setIfInBounds_toArray, List.set_cons_zero, List.set_cons_succ, List.getElem_toArray, List.getElem_cons_zero, List.getElem_cons_succ]
          refine wpAnyH_ready (rs := [22]) (by kernel_rfl) (by simp) ?_
          refine AllReadyH.cons rfl (fun K hK => ?_) AllReadyH.nil
          go_simp
          refine hK.out _ _ (by first | exact hHeld | (go_keep; done) | exact ⟨F9.out.cell D19.out (HNE.out 1 (by omega)), F9.out.cell C0.out HNP.out, F9.out.cell C1.out HNP.out⟩ | exact ⟨FJ9.out.cell (F9.out.cell D19.out (HNE.out 1 (by omega))) (fun e => by have e : w.heap.size + 1 = w.heap.size := e; omega), FJ9.out.cell (F9.out.cell C0.out HNP.out) NPJ.out, FJ9.out.cell (F9.out.cell C1.out HNP.out) NPJ.out⟩) (fun hHeld2 => ?_)
          clear hK K hHeld
          have hHeld := hHeld2
          clear hHeld2
          try simp only [Act.put, List.setIfInBounds_toArray, List.set_cons_zero, List.set_cons_succ, List.getElem_toArray, List.getElem_cons_zero, List.getElem_cons_succ]
          refine wpAnyH_done (by kernel_rfl) ?_ _
          go_wp2_with fail
          go_roundw
          case rel => exact ⟨k + 1, by omega, by omega, by go_num, MoreAt.extra H0.out H1.out H2.out HC.out HX.out hkk HF.out hz F9.out O9.out⟩
          case measure => simp [intOf]; omega
        · go_simp
          go_wp2_with ((go_at_call 23; (with_reducible refine (T1.out _).mono ?_); rintro e w1 ⟨T1s, rfl, -, rfl⟩))
          refine hK.out _ _ (by first | exact hHeld | (go_keep; done) | exact ⟨F9.out.cell D19.out (HNE.out 1 (by omega)), F9.out.cell C0.out HNP.out, F9.out.cell C1.out HNP.out⟩ | exact ⟨FJ9.out.cell (F9.out.cell D19.out (HNE.out 1 (by omega))) (fun e => by have e : w.heap.size + 1 = w.heap.size := e; omega), FJ9.out.cell (F9.out.cell C0.out HNP.out) NPJ.out, FJ9.out.cell (F9.out.cell C1.out HNP.out) NPJ.out⟩) (fun hHeld2 => ?_)
          clear hK K hHeld
          have hHeld := hHeld2
          clear hHeld2
          try simp only [Act.put, List.setIfInBounds_toArray, List.set_cons_zero, List.set_cons_succ, List.getElem_toArray, List.getElem_cons_zero, List.getElem_cons_succ]
          refine wpAnyH_ready (rs := [1, 17]) (by kernel_rfl) (by simp) ?_
          refine AllReadyH.cons rfl (fun K hK => ?_) (AllReadyH.cons rfl (fun K hK => ?_) AllReadyH.nil)
          · go_simp
            refine hK.out _ _ (by first | exact hHeld | (go_keep; done) | exact ⟨F9.out.cell D19.out (HNE.out 1 (by omega)), F9.out.cell C0.out HNP.out, F9.out.cell C1.out HNP.out⟩ | exact ⟨FJ9.out.cell (F9.out.cell D19.out (HNE.out 1 (by omega))) (fun e => by have e : w.heap.size + 1 = w.heap.size := e; omega), FJ9.out.cell (F9.out.cell C0.out HNP.out) NPJ.out, FJ9.out.cell (F9.out.cell C1.out HNP.out) NPJ.out⟩) (fun hHeld2 => ?_)
            clear hK K hHeld
            have hHeld := hHeld2
            clear hHeld2
            try simp only [Act.put, List.setIfInBounds_toArray, List.set_cons_zero, List.set_cons_succ, List.getElem_toArray, List.getElem_cons_zero, List.getElem_cons_succ]
            refine wpAnyH_ready (rs := [17]) (by kernel_rfl) (by simp) ?_
            refine AllReadyH.cons rfl (fun K hK => ?_) AllReadyH.nil
            go_simp
            go_wp2_with ((go_at_call 23; (with_reducible refine (T2.out _).mono ?_); rintro e w1 ⟨T2s, rfl, -, rfl⟩))
            refine hK.out _ _ (by first | exact hHeld | (go_keep; done) | exact ⟨F9.out.cell D19.out (HNE.out 1 (by omega)), F9.out.cell C0.out HNP.out, F9.out.cell C1.out HNP.out⟩ | exact ⟨FJ9.out.cell (F9.out.cell D19.out (HNE.out 1 (by omega))) (fun e => by have e : w.heap.size + 1 = w.heap.size := e; omega), FJ9.out.cell (F9.out.cell C0.out HNP.out) NPJ.out, FJ9.out.cell (F9.out.cell C1.out HNP.out) NPJ.out⟩) (fun hHeld2 => ?_)
            clear hK K hHeld
            have hHeld := hHeld2
            clear hHeld2
            try simp only [Act.put, List.setIfInBounds_toArray, List.set_cons_zero, List.set_cons_succ, List.getElem_toArray, List.getElem_cons_zero, List.getElem_cons_succ]
            refine wpAnyH_take (i := 18) (v := ?va18) rfl (by kernel_rfl) (by kernel_rfl) (by kernel_rfl) (fun _ _ _ h => h) (Or.inl ⟨by rfl, ?hy18⟩) (by assumption) ?rest18
            case hy18 => (intro w hSw; (try dsimp only at hSw); go_simp; all_goals with_reducible rfl)
            try simp only [Act.put, List.setIfInBounds_toArray, List.set_cons_zero, List.set_cons_succ, List.getElem_toArray, List.getElem_cons_zero, List.getElem_cons_succ]
            refine wpAnyH_ready (rs := [19]) (by kernel_rfl) (by simp) ?_
            refine AllReadyH.cons rfl (fun K hK => ?_) AllReadyH.nil
            go_simp
            refine hK.out _ _ (by first | exact hHeld | (go_keep; done) | exact ⟨F9.out.cell D19.out (HNE.out 1 (by omega)), F9.out.cell C0.out HNP.out, F9.out.cell C1.out HNP.out⟩ | exact ⟨FJ9.out.cell (F9.out.cell D19.out (HNE.out 1 (by omega))) (fun e => by have e : w.heap.size + 1 = w.heap.size := e; omega), FJ9.out.cell (F9.out.cell C0.out HNP.out) NPJ.out, FJ9.out.cell (F9.out.cell C1.out HNP.out) NPJ.out⟩) (fun hHeld2 => ?_)
            clear hK K hHeld
            have hHeld := hHeld2
            clear hHeld2
            try simp only [Act.put, List.setIfInBounds_toArray, List.set_cons_zero, List.set_cons_succ, List.getElem_toArray, List.getElem_cons_zero, List.getElem_cons_succ]
            refine wpAnyH_ready (rs := [20]) (by kernel_rfl) (by simp) ?_
            refine AllReadyH.cons rfl (fun K hK => ?_) AllReadyH.nil
            refine stepP rfl (.tmp 35) (.tmp 53) rfl (w.heap.size + 3) (.slice o'.eA o'.en o'.ec) o'.en xs (by rfl) ((HX.out.alloc _).drew) (some ⟨wr.heap.size, 0, none⟩) 1 1 [.string T1s, .string T2s] (by rfl) ((RdS.lit (s := 2) wr _ _ 1 rfl (by simp [maxLen])).fr (S := No) (Dr.refl _).drew.fr (fun _ _ x => x)) (by intro u hu; simp only [List.mem_cons, List.not_mem_nil, or_false] at hu; rcases hu with rfl | rfl <;> rfl) (by omega) (by simp; omega) ?_; intro A9 c9 w9 o9 g9 q9; have F9 := Lib.hid (((Fr.refl (fun i => (Value.slice o'.eA o'.en o'.ec).ownBlock = some i) wr).alloc _).drew.grown g9 (fun g e => .inl e)); have O9 := Lib.hid o9; have z19 := (H0.out.fr F9.out (HNE.out 0 (by omega))).frozen 19; have y29 := F9.out.cell Y19.out (HNE.out 0 (by omega)); have FJ9 := Lib.hid ((Fr.refl (Just w.heap.size) w9).setCell (p := ⟨w.heap.size, 19, none⟩) (.inl (Just.at _)) (.slice A9 (o'.en + 1) c9)); clear o9 g9 q9
            refine hK.out _ _ (by first | exact hHeld | (go_keep; done) | exact ⟨F9.out.cell D19.out (HNE.out 1 (by omega)), F9.out.cell C0.out HNP.out, F9.out.cell C1.out HNP.out⟩ | exact ⟨FJ9.out.cell (F9.out.cell D19.out (HNE.out 1 (by omega))) (fun e => by have e : w.heap.size + 1 = w.heap.size := e; omega), FJ9.out.cell (F9.out.cell C0.out HNP.out) NPJ.out, FJ9.out.cell (F9.out.cell C1.out HNP.out) NPJ.out⟩) (fun hHeld2 => ?_)
            clear hK K hHeld
            have hHeld := hHeld2
            clear hHeld2
            try simp only [Act.put, List.setIfInBounds_toArray, List.set_cons_zero, List.set_cons_succ, List.getElem_toArray, List.getElem_cons_zero, List.getElem_cons_succ]
            refine wpAnyH_take (i := 21) (v := ?va19) rfl (by kernel_rfl) (by kernel_rfl) (by kernel_rfl) (fun _ _ _ h => h) (Or.inl ⟨by rfl, ?hy19⟩) (by assumption) ?rest19
            case hy19 => (intro w hSw; (try dsimp only at hSw); go_simp; all_goals with_reducible rfl)
            try simp only [Act.put, List.setIfInBounds_toArray, List.set_cons_zero, List.set_cons_succ, List.getElem_toArray, List.getElem_cons_zero, List.getElem_cons_succ]
            refine wpAnyH_ready (rs := [22]) (by kernel_rfl) (by simp) ?_
            refine AllReadyH.cons rfl (fun K hK => ?_) AllReadyH.nil
            go_simp
            refine hK.out _ _ (by first | exact hHeld | (go_keep; done) | exact ⟨F9.out.cell D19.out (HNE.out 1 (by omega)), F9.out.cell C0.out HNP.out, F9.out.cell C1.out HNP.out⟩ | exact ⟨FJ9.out.cell (F9.out.cell D19.out (HNE.out 1 (by omega))) (fun e => by have e : w.heap.size + 1 = w.heap.size := e; omega), FJ9.out.cell (F9.out.cell C0.out HNP.out) NPJ.out, FJ9.out.cell (F9.out.cell C1.out HNP.out) NPJ.out⟩) (fun hHeld2 => ?_)
            clear hK K hHeld
            have hHeld := hHeld2
            clear hHeld2
            try simp only [Act.put, List.setIfInBounds_toArray, List.set_cons_zero, List.set_cons_succ, List.getElem_toArray, List.getElem_cons_zero, List.getElem_cons_succ]
            refine wpAnyH_done (by kernel_rfl) ?_ _
            go_wp2_with fail
            go_roundw
            case rel => exact ⟨k + 1, by omega, by omega, by go_num, MoreAt.extra H0.out H1.out H2.out HC.out HX.out hkk HF.out hz F9.out O9.out⟩
            case measure => simp [intOf]; omega
          · go_simp
            go_wp2_with ((go_at_call 23; (with_reducible refine (T2.out _).mono ?_); rintro e w1 ⟨T2s, rfl, -, rfl⟩))
            refine hK.out _ _ (by first | exact hHeld | (go_keep; done) | exact ⟨F9.out.cell D19.out (HNE.out 1 (by omega)), F9.out.cell C0.out HNP.out, F9.out.cell C1.out HNP.out⟩ | exact ⟨FJ9.out.cell (F9.out.cell D19.out (HNE.out 1 (by omega))) (fun e => by have e : w.heap.size + 1 = w.heap.size := e; omega), FJ9.out.cell (F9.out.cell C0.out HNP.out) NPJ.out, FJ9.out.cell (F9.out.cell C1.out HNP.out) NPJ.out⟩) (fun hHeld2 => ?_)
            clear hK K hHeld
            have hHeld := hHeld2
            clear hHeld2
            try simp only [Act.put, List.setIfInBounds_toArray, List.set_cons_zero, List.set_cons_succ, List.getElem_toArray, List.getElem_cons_zero, List.getElem_cons_succ]
            refine wpAnyH_take (i := 18) (v := ?va20) rfl (by kernel_rfl) (by kernel_rfl) (by kernel_rfl) (fun _ _ _ h => h) (Or.inl ⟨by rfl, ?hy20⟩) (by assumption) ?rest20
            case hy20 => (intro w hSw; (try dsimp only at hSw); go_simp; all_goals with_reducible rfl)
            try simp only [Act.put, List.setIfInBounds_toArray, List.set_cons_zero, List.set_cons_succ, List.getElem_toArray, List.getElem_cons_zero, List.getElem_cons_succ]
            refine wpAnyH_ready (rs := [1, 19]) (by kernel_rfl) (by simp) ?_
            refine AllReadyH.cons rfl (fun K hK => ?_) (AllReadyH.cons rfl (fun K hK => ?_) AllReadyH.nil)
            · go_simp
              refine hK.out _ _ (by first | exact hHeld | (go_keep; done) | exact ⟨F9.out.cell D19.out (HNE.out 1 (by omega)), F9.out.cell C0.out HNP.out, F9.out.cell C1.out HNP.out⟩ | exact ⟨FJ9.out.cell (F9.out.cell D19.out (HNE.out 1 (by omega))) (fun e => by have e : w.heap.size + 1 = w.heap.size := e; omega), FJ9.out.cell (F9.out.cell C0.out HNP.out) NPJ.out, FJ9.out.cell (F9.out.cell C1.out HNP.out) NPJ.out⟩) (fun hHeld2 => ?_)
              clear hK K hHeld
              have hHeld := hHeld2
              clear hHeld2
              try simp only [Act.put, List.setIfInBounds_toArray, List.set_cons_zero, List.set_cons_succ, List.getElem_toArray, List.getElem_cons_zero, List.getElem_cons_succ]
              refine wpAnyH_ready (rs := [19]) (by kernel_rfl) (by simp) ?_
              refine AllReadyH.cons rfl (fun K hK => ?_) AllReadyH.nil
              go_simp
              refine hK.out _ _ (by first | exact hHeld | (go_keep; done) | exact ⟨F9.out.cell D19.out (HNE.out 1 (by omega)), F9.out.cell C0.out HNP.out, F9.out.cell C1.out HNP.out⟩ | exact ⟨FJ9.out.cell (F9.out.cell D19.out (HNE.out 1 (by omega))) (fun e => by have e : w.heap.size + 1 = w.heap.size := e; omega), FJ9.out.cell (F9.out.cell C0.out HNP.out) NPJ.out, FJ9.out.cell (F9.out.cell C1.out HNP.out) NPJ.out⟩) (fun hHeld2 => ?_)
              clear hK K hHeld
              have hHeld := hHeld2
              clear hHeld2
              try simp only [Act.put, List.setIfInBounds_toArray, List.set_cons_zero, List.set_cons_succ, List.getElem_toArray, List.getElem_cons_zero, List.getElem_cons_succ]
              refine wpAnyH_ready (rs := [20]) (by kernel_rfl) (by simp) ?_
              refine AllReadyH.cons rfl (fun K hK => ?_) AllReadyH.nil
              refine stepP rfl (.tmp 35) (.tmp 53) rfl (w.heap.size + 3) (.slice o'.eA o'.en o'.ec) o'.en xs (by rfl) ((HX.out.alloc _).drew) (some ⟨wr.heap.size, 0, none⟩) 1 1 [.string T1s, .string T2s] (by rfl) ((RdS.lit (s := 2) wr _ _ 1 rfl (by simp [maxLen])).fr (S := No) (Dr.refl _).drew.fr (fun _ _ x => x)) (by intro u hu; simp only [List.mem_cons, List.not_mem_nil, or_false] at hu; rcases hu with rfl | rfl <;> rfl) (by omega) (by simp; omega) ?_; intro A9 c9 w9 o9 g9 q9; have F9 := Lib.hid (((Fr.refl (fun i => (Value.slice o'.eA o'.en o'.ec).ownBlock = some i) wr).alloc _).drew.grown g9 (fun g e => .inl e)); have O9 := Lib.hid o9; have z19 := (H0.out.fr F9.out (HNE.out 0 (by omega))).frozen 19; have y29 := F9.out.cell Y19.out (HNE.out 0 (by omega)); have FJ9 := Lib.hid ((Fr.refl (Just w.heap.size) w9).setCell (p := ⟨w.heap.size, 19, none⟩) (.inl (Just.at _)) (.slice A9 (o'.en + 1) c9)); clear o9 g9 q9
              refine hK.out _ _ (by first | exact hHeld | (go_keep; done) | exact ⟨F9.out.cell D19.out (HNE.out 1 (by omega)), F9.out.cell C0.out HNP.out, F9.out.cell C1.out HNP.out⟩ | exact ⟨FJ9.out.cell (F9.out.cell D19.out (HNE.out 1 (by omega))) (fun e => by have e : w.heap.size + 1 = w.heap.size := e; omega), FJ9.out.cell (F9.out.cell C0.out HNP.out) NPJ.out, FJ9.out.cell (F9.out.cell C1.out HNP.out) NPJ.out⟩) (fun hHeld2 => ?_)
              clear hK K hHeld
              have hHeld := hHeld2
              clear hHeld2
              try simp only [Act.put, List.setIfInBounds_toArray, List.set_cons_zero, List.set_cons_succ, List.getElem_toArray, List.getElem_cons_zero, List.getElem_cons_succ]
              refine wpAnyH_take (i := 21) (v := ?va21) rfl (by kernel_rfl) (by kernel_rfl) (by kernel_rfl) (fun _ _ _ h => h) (Or.inl ⟨by rfl, ?hy21⟩) (by assumption) ?rest21
              case hy21 => (intro w hSw; (try dsimp only at hSw); go_simp; all_goals with_reducible rfl)
              try simp only [Act.put, List.setIfInBounds_toArray, List.set_cons_zero, List.set_cons_succ, List.getElem_toArray, List.getElem_cons_zero, List.getElem_cons_succ]
              refine wpAnyH_ready (rs := [22]) (by kernel_rfl) (by simp) ?_
              refine AllReadyH.cons rfl (fun K hK => ?_) AllReadyH.nil
              go_simp
              refine hK.out _ _ (by first | exact hHeld | (go_keep; done) | exact ⟨F9.out.cell D19.out (HNE.out 1 (by omega)), F9.out.cell C0.out HNP.out, F9.out.cell C1.out HNP.out⟩ | exact ⟨FJ9.out.cell (F9.out.cell D19.out (HNE.out 1 (by omega))) (fun e => by have e : w.heap.size + 1 = w.heap.size := e; omega), FJ9.out.cell (F9.out.cell C0.out HNP.out) NPJ.out, FJ9.out.cell (F9.out.cell C1.out HNP.out) NPJ.out⟩) (fun hHeld2 => ?_)
              clear hK K hHeld
              have hHeld := hHeld2
              clear hHeld2
              try simp only [Act.put, List.setIfInBounds_toArray, List.set_cons_zero, List.set_cons_succ, List.getElem_toArray, List.getElem_cons_zero, List.getElem_cons_succ]
              refine wpAnyH_done (by kernel_rfl) ?_ _
              go_wp2_with fail
              go_roundw
              case rel => exact ⟨k + 1, by omega, by omega, by go_num, MoreAt.extra H0.out H1.out H2.out HC.out HX.out hkk HF.out hz F9.out O9.out⟩
              case measure => simp [intOf]; omega
            · go_simp
              refine hK.out _ _ (by first | exact hHeld | (go_keep; done) | exact ⟨F9.out.cell D19.out (HNE.out 1 (by omega)), F9.out.cell C0.out HNP.out, F9.out.cell C1.out HNP.out⟩ | exact ⟨FJ9.out.cell (F9.out.cell D19.out (HNE.out 1 (by omega))) (fun e => by have e : w.heap.size + 1 = w.heap.size := e; omega), FJ9.out.cell (F9.out.cell C0.out HNP.out) NPJ.out, FJ9.out.cell (F9.out.cell C1.out HNP.out) NPJ.out⟩) (fun hHeld2 => ?_)
              clear hK K hHeld
              have hHeld := hHeld2
              clear hHeld2
              try simp only [Act.put, List.setIfInBounds_toArray, List.set_cons_zero, List.set_cons_succ, List.getElem_toArray, List.getElem_cons_zero, List.getElem_cons_succ]
              refine wpAnyH_ready (rs := [1]) (by kernel_rfl) (by simp) ?_
              refine AllReadyH.cons rfl (fun K hK => ?_) AllReadyH.nil
              go_simp
              refine hK.out _ _ (by first | exact hHeld | (go_keep; done) | exact ⟨F9.out.cell D19.out (HNE.out 1 (by omega)), F9.out.cell C0.out HNP.out, F9.out.cell C1.out HNP.out⟩ | exact ⟨FJ9.out.cell (F9.out.cell D19.out (HNE.out 1 (by omega))) (fun e => by have e : w.heap.size + 1 = w.heap.size := e; omega), FJ9.out.cell (F9.out.cell C0.out HNP.out) NPJ.out, FJ9.out.cell (F9.out.cell C1.out HNP.out) NPJ.out⟩) (fun hHeld2 => ?_)
              clear hK K hHeld
              have hHeld := hHeld2
              clear hHeld2
              try simp only [Act.put, List.setIfInBounds_toArray, List.set_cons_zero, List.set_cons_succ, List.getElem_toArray, List.getElem_cons_zero, List.getElem_cons_succ]
              refine wpAnyH_ready (rs := [20]) (by kernel_rfl) (by simp) ?_
              refine AllReadyH.cons rfl (fun K hK => ?_) AllReadyH.nil
              refine stepP rfl (.tmp 35) (.tmp 53) rfl (w.heap.size + 3) (.slice o'.eA o'.en o'.ec) o'.en xs (by rfl) ((HX.out.alloc _).drew) (some ⟨wr.heap.size, 0, none⟩) 1 1 [.string T1s, .string T2s] (by rfl) ((RdS.lit (s := 2) wr _ _ 1 rfl (by simp [maxLen])).fr (S := No) (Dr.refl _).drew.fr (fun _ _ x => x)) (by intro u hu; simp only [List.mem_cons, List.not_mem_nil, or_false] at hu; rcases hu with rfl | rfl <;> rfl) (by omega) (by simp; omega) ?_; intro A9 c9 w9 o9 g9 q9; have F9 := Lib.hid (((Fr.refl (fun i => (Value.slice o'.eA o'.en o'.ec).ownBlock = some i) wr).alloc _).drew.grown g9 (fun g e => .inl e)); have O9 := Lib.hid o9; have z19 := (H0.out.fr F9.out (HNE.out 0 (by omega))).frozen 19; have y29 := F9.out.cell Y19.out (HNE.out 0 (by omega)); have FJ9 := Lib.hid ((Fr.refl (Just w.heap.size) w9).setCell (p := ⟨w.heap.size, 19, none⟩) (.inl (Just.at _)) (.slice A9 (o'.en + 1) c9)); clear o9 g9 q9
              refine hK.out _ _ (by first | exact hHeld | (go_keep; done) | exact ⟨F9.out.cell D19.out (HNE.out 1 (by omega)), F9.out.cell C0.out HNP.out, F9.out.cell C1.out HNP.out⟩ | exact ⟨FJ9.out.cell (F9.out.cell D19.out (HNE.out 1 (by omega))) (fun e => by have e : w.heap.size + 1 = w.heap.size := e; omega), FJ9.out.cell (F9.out.cell C0.out HNP.out) NPJ.out, FJ9.out.cell (F9.out.cell C1.out HNP.out) NPJ.out⟩) (fun hHeld2 => ?_)
              clear hK K hHeld
              have hHeld := hHeld2
              clear hHeld2
              try simp only [Act.put, List.setIfInBounds_toArray, List.set_cons_zero, List.set_cons_succ, List.getElem_toArray, List.getElem_cons_zero, List.getElem_cons_succ]
              refine wpAnyH_take (i := 21) (v := ?va22) rfl (by kernel_rfl) (by kernel_rfl) (by kernel_rfl) (fun _ _ _ h => h) (Or.inl ⟨by rfl, ?hy22⟩) (by assumption) ?rest22
              case hy22 => (intro w hSw; (try dsimp only at hSw); go_simp; all_goals with_reducible rfl)
              try simp only [Act.put, List.setIfInBounds_toArray, List.set_cons_zero, List.set_cons_succ, List.getElem_toArray, List.getElem_cons_zero, List.getElem_cons_succ]
              refine wpAnyH_ready (rs := [22]) (by kernel_rfl) (by simp) ?_
              refine AllReadyH.cons rfl (fun K hK => ?_) AllReadyH.nil
              go_simp
              refine hK.out _ _ (by first | exact hHeld | (go_keep; done) | exact ⟨F9.out.cell D19.out (HNE.out 1 (by omega)), F9.out.cell C0.out HNP.out, F9.out.cell C1.out HNP.out⟩ | exact ⟨FJ9.out.cell (F9.out.cell D19.out (HNE.out 1 (by omega))) (fun e => by have e : w.heap.size + 1 = w.heap.size := e; omega), FJ9.out.cell (F9.out.cell C0.out HNP.out) NPJ.out, FJ9.out.cell (F9.out.cell C1.out HNP.out) NPJ.out⟩) (fun hHeld2 => ?_)
              clear hK K hHeld
              have hHeld := hHeld2
              clear hHeld2
              try simp only [Act.put, List.setIfInBounds_toArray, List.set_cons_zero, List.set_cons_succ, List.getElem_toArray, List.getElem_cons_zero, List.getElem_cons_succ]
              refine wpAnyH_done (by kernel_rfl) ?_ _
              go_wp2_with fail
              go_roundw
              case rel => exact ⟨k + 1, by omega, by omega, by go_num, MoreAt.extra H0.out H1.out H2.out HC.out HX.out hkk HF.out hz F9.out O9.out⟩
              case measure => simp [intOf]; omega
      · have hx3 : ((k : Int) < (m.en : Int) ∧ ¬ (k : Int) < 4) ∨ (¬ (k : Int) < (m.en : Int) ∧ 0 = 0) := by omega
        have hun := ref_unhex m.key wr HM.out.key
        generalize unhexE m.key.data.toList = z5 at hun
        generalize unhexR m.key.data.toList = r5 at hun
        have HUN := Lib.hid hun
        clear hun hx2 h0 h1 h2 hc hx hf
        have hz5 : (z5 == 0) = false ∨ ((z5 == 0) = true ∧ ((r5.length : Int) == 4) = true) ∨ ((z5 == 0) = true ∧ ((r5.length : Int) == 4) = false) := by
          cases (z5 == 0) <;> cases ((r5.length : Int) == 4) <;> simp
        rcases hx3 with ⟨hI1, hI2⟩ | ⟨hI1, -⟩
        all_goals
          rcases hz5 with q5 | ⟨q5, q6⟩ | ⟨q5, q6⟩
          all_goals
            go_wp2_with (first
              | (go_at_call 45; refine HUN.out.mono ?_; rintro e w5 ⟨v5, rfl, o5, f5⟩; obtain ⟨A5, c5, rfl, -, -⟩ := Rd.of_own o5; have F5 := Lib.hid f5; have b50 := H0.out.no f5; have b51 := H1.out.no f5; have c517 : w5.cell? ⟨w.heap.size + 1, 17, none⟩ = some (.string m.key) := b51.cell 17; have y17 : w5.cell? ⟨w.heap.size, 17, none⟩ = some (.string o'.key) := b50.cell 17; have z17 := b50.frozen 17; have HE1 := Lib.hid (moreEnd0_same H0.out H2.out HC.out HF.out f5); have HE2 := Lib.hid (moreEnd0_key m.key H0.out H2.out HC.out HF.out f5); clear b50 b51 f5 o5)
              | (obtain ⟨o2, bo, br, hc2, hf2⟩ := HE1.out; refine wpList_load_bk rfl 29 _ rfl w.heap.size rfl o2.cells _ bo (Tryd.underlying29) rfl (msgSize o2) ?_; have BR := Lib.hid br; have HC2 := Lib.hid hc2; have HF2 := Lib.hid hf2; clear bo br hc2 hf2 HE1 HE2)
              | (obtain ⟨o2, bo, br, hc2, hf2⟩ := HE2.out; refine wpList_load_bk rfl 29 _ rfl w.heap.size rfl o2.cells _ bo (Tryd.underlying29) rfl (msgSize o2) ?_; have BR := Lib.hid br; have HC2 := Lib.hid hc2; have HF2 := Lib.hid hf2; clear bo br hc2 hf2 HE1 HE2)
              | (refine wpList_store_bk rfl 29 _ _ rfl (w.heap.size + 1 + 1) rfl m0c o2.cells rfl BR.out rfl (msgSize o2) (msg_one2 o2) ?_; intro w8 b8 f8 s8; have B8 := Lib.hid b8; have F8 := Lib.hid f8; clear b8 f8 s8))
            refine bodyPost_ret (v := o2.val) (results_bk (g := w.heap.size + 1 + 1) Tryd.results27 (by rfl) B8.out Tryd.underlying29 rfl (msgSize o2)) rfl ?_
            exact ⟨o2, rfl, HC2.out, HF2.out.trans_just F8.out (by omega)⟩
end Go.Proofs.YtdfehdjpbmkaoaaDoor
