/- The texts ElmItems, joined. -/
import Derived.Test.YthlgnmgjfgbffaaGreatDoorL02
import Derived.LoopTactic
import Derived.Test.YthlgnmgjfgbffaaGreatDoorL01
import Derived.Lib.QuietBelow
/- Rows of data elements: append onto one's own, alike ones held against each other. -/
namespace Go.Proofs.YthlgnmgjfgbffaaGreatDoor
open Go.RowKit
set_option maxHeartbeats 1000000
set_option linter.unusedVariables false
set_option maxRecDepth 20000

theorem info_elm : (Tryz.prog.info? 24).map (fun i => (i.zero, i.size, i.bytes)) = some (some (.agg #[.int .i64 0, .slice none 0 0]), 2, 32) := by kernel_rfl
theorem elmSize (a b : Value) : (Tryz.prog.info? 24).map (·.size) = some [a, b].length := by kernel_rfl
/-- one more element, just laid in a block of its own -/
theorem ap_elm1 (u : World) {ops : Array Oper} {rest : List Oper} {o : Oper} {a : Act} {Q : Exit → Act → World → Prop} (hgd : Region.wanted o (yielded ops a.tmps) = true) (s x : Operand)
    (ho : o.op = .call { callee := .builtin .append, args := #[s, x], argTypes := #[25, 25] })
    (base : Nat) (v : Value) (n : Nat) (ls : List (Int × List UInt8)) (N M : Nat → Prop) (hs : a.eval s = v) (hown : OwnI 2 TagI u base 24 N v n ls) (tg : Int × List UInt8) (cs : List Value) (htg : TagI u M cs tg) (t : TypeId)
    (bk : Nat) (hbk : u.heap.size = bk) (hx : a.eval x = .slice (some ⟨bk, 0, none⟩) 1 1) (hb : n + 1 ≤ 1000000000) (hbase : base ≤ u.heap.size)
    (hN : ∀ i, N i → v.ownBlock ≠ some i) (hM : ∀ i, M i → v.ownBlock ≠ some i)
    (h : ∀ v' w', OwnI 2 TagI w' base 24 (fun i => N i ∨ M i) v' (n + 1) (ls ++ [tg]) → (u.alloc (.cells cs.toArray t)).grownBy w' v.ownBlock → (v'.ownBlock = v.ownBlock ∨ v'.ownBlock = some (u.heap.size + 1)) → wpList Tryz.prog ops Q rest (a.put o.dst v') w') :
    wpList Tryz.prog ops Q (o :: rest) a (u.alloc (.cells cs.toArray t)) := by
  subst hbk
  obtain ⟨i, hi, hz, h1, h2⟩ := info_parts info_elm
  have hfa : Fr No u (u.alloc (.cells cs.toArray t)) := (Fr.refl No u).alloc _
  have ho1 : OwnI 2 TagI (u.alloc (.cells cs.toArray t)) base 24 (fun i => N i ∨ M i) v n ls := (hown.no tag_ok hfa).mono tag_ok (fun _ x => .inl x)
  have hcl := tag_ok.len htg
  refine apI2 _ tag_ok (by omega) hgd s x 25 ho base 24 i _ 32 Tryz.underlying25 hi hz h1 h2 rfl v n ls [tg] hs ho1 _ 1 1 hx cs (RdS.lit u cs t 1 (by simpa using hcl) (by simp [maxLen])) (ItemsF.single (tag_ok.mono (tag_ok.fr htg hfa (fun _ _ x => x)) (fun _ x => .inr x))) (by simp only [maxLen]; omega) (by omega) (by simp; omega) (fun i hi => by rcases hi with hi | hi; exact hN i hi; exact hM i hi) ?_
  intro v' w' g1 g2 g3
  exact h v' w' g1 g2 (by simpa using g3)
/-- elements' cells behind elements' cells, as one step of a region that draws its order -/
theorem stepE {ops : Array Oper} {o : Oper} {a : Act} {w : World} {K : Act → World → Prop} {Q : Exit → Act → World → Prop} {E : Prop} (hgd : Region.wanted o (yielded ops a.tmps) = true) (s x : Operand)
    (ho : o.op = .call { callee := .builtin .append, args := #[s, x], argTypes := #[25, 25] })
    (base : Nat) (v : Value) (n : Nat) (xs : List Value) (hs : a.eval s = v) (hown : w.ownsRow base 24 2 v n xs)
    (A : Option Addr) (m c : Nat) (news : List Value) (hx : a.eval x = .slice A m c) (hr : RdS w 2 A m c news) (h1 : ∀ u ∈ news, u.oneCell' = true) (hb : n + m ≤ 1000000) (hbase : base ≤ w.heap.size)
    (h : ∀ A' c' w', w'.ownsRow base 24 2 (.slice A' (n + m) c') (n + m) (xs ++ news) → w.grownBy w' v.ownBlock → ((Value.slice A' (n + m) c').ownBlock = v.ownBlock ∨ (Value.slice A' (n + m) c').ownBlock = some w.heap.size) → K (a.put o.dst (.slice A' (n + m) c')) w') :
    if Region.wanted o (yielded ops a.tmps) = true then Oper.wp Tryz.prog o a w K Q else E := by
  rw [if_pos hgd]
  obtain ⟨i, hi, hz, h2, h3⟩ := info_parts info_elm
  obtain ⟨v', w', hrun, g1, g2, g3⟩ := run_append_rdS (P := Tryz.prog) w base 25 o.type 24 i _ 2 32 Tryz.underlying25 hi hz h2 h3 rfl (by omega) v n xs hown A m c news hr h1 (by simp only [maxLen]; omega) (by omega) hbase
  unfold Oper.wp execOp
  simp only [ho, resolve, invoke, builtin, Sem.run_bind, Sem.run_pure, Result.andThen_ok, List.map_toArray, List.map_cons, List.map_nil, hs, hx, hrun]
  obtain ⟨A', c', rfl, -⟩ := RdS.of_own g1
  exact h A' c' w' g1 g2 g3
/-- one more element, just laid in a block of its own, as one step of a region that draws its order -/
theorem stepE1 (u W : World) {ops : Array Oper} {o : Oper} {a : Act} {K : Act → World → Prop} {Q : Exit → Act → World → Prop} {E : Prop} (hgd : Region.wanted o (yielded ops a.tmps) = true) (s x : Operand)
    (ho : o.op = .call { callee := .builtin .append, args := #[s, x], argTypes := #[25, 25] })
    (base : Nat) (v : Value) (n : Nat) (ls : List (Int × List UInt8)) (N M : Nat → Prop) (hs : a.eval s = v) (hown : OwnI 2 TagI u base 24 N v n ls) (tg : Int × List UInt8) (cs : List Value) (htg : TagI u M cs tg) (t : TypeId) (hW : Fr No (u.alloc (.cells cs.toArray t)) W) (hWz : W.heap.size = u.heap.size + 1)
    (bk : Nat) (hbk : u.heap.size = bk) (hx : a.eval x = .slice (some ⟨bk, 0, none⟩) 1 1) (hb : n + 1 ≤ 1000000) (hbase : base ≤ u.heap.size)
    (hN : ∀ i, N i → v.ownBlock ≠ some i) (hM : ∀ i, M i → v.ownBlock ≠ some i)
    (h : ∀ A' c' w', OwnI 2 TagI w' base 24 (fun i => N i ∨ M i) (.slice A' (n + 1) c') (n + 1) (ls ++ [tg]) → W.grownBy w' v.ownBlock → ((Value.slice A' (n + 1) c').ownBlock = v.ownBlock ∨ (Value.slice A' (n + 1) c').ownBlock = some (u.heap.size + 1)) → K (a.put o.dst (.slice A' (n + 1) c')) w') :
    if Region.wanted o (yielded ops a.tmps) = true then Oper.wp Tryz.prog o a W K Q else E := by
  subst hbk
  have hfa : Fr No u (u.alloc (.cells cs.toArray t)) := (Fr.refl No u).alloc _
  have hfW : Fr No u W := hfa.trans hW
  have ho1 : OwnI 2 TagI W base 24 (fun i => N i ∨ M i) v n ls := (hown.no tag_ok hfW).mono tag_ok (fun _ x => .inl x)
  have hcl := tag_ok.len htg
  obtain ⟨xs, hov, hxe⟩ := ho1.xs
  have hse : ItemsF TagI W (fun i => N i ∨ M i) cs [tg] := ItemsF.single (tag_ok.mono (tag_ok.fr htg hfW (fun _ _ x => x)) (fun _ x => .inr x))
  have hcs : RdS W 2 (some ⟨u.heap.size, 0, none⟩) 1 1 cs := (RdS.lit u cs t 1 (by simpa using hcl) (by simp [maxLen])).fr hW (fun _ _ x => x)
  refine stepE hgd s x ho base v n xs hs hov _ 1 1 cs hx hcs (tag_ok.one htg) hb (by omega) ?_
  intro A' c' w' g1 g2 g3
  have hf : Fr (fun k => v.ownBlock = some k) W w' := (Fr.refl _ _).grown g2 (fun g e => .inl e)
  refine h A' c' w' ⟨⟨xs ++ cs, g1, ItemsF.fr tag_ok (ItemsF.app hxe hse) hf (fun k hk e => ?_)⟩⟩ g2 (by rw [← hWz]; exact g3)
  rcases hk with hk | hk
  · exact hN k hk e
  · exact hM k hk e
theorem eqE_any (t : Int) (A B : Option Addr) (n c d : Nat) (l : List UInt8) (w : World) (ha : Rd w A n c (u8s l)) (hb : Rd w B n d (u8s l)) :
    Calls Tryz.prog 38 #[.agg #[.int .i64 t, .slice A n c], .agg #[.int .i64 t, .slice B n d]] w fun e w' => e = .returned (.bool true) ∧ Below w.heap.size w w' := by
  have hp := fun u (hf : Fr No w u) => bytes_any A B n c n d l l u (ha.no hf) (hb.no hf)
  rw [show (l == l) = true by simp] at hp
  have HP := Lib.hid hp
  clear hp ha hb
  go_enter Tryz.func38, Tryz.ntmps38
  go_wp2_with (go_at_call 71; refine (HP.out _ (((Fr.refl No w).alloc _).alloc _)).mono ?_; rintro e w1 ⟨rfl, rfl⟩)
  go_ret
  exact ⟨rfl, ((((Fr.refl No w).alloc _).alloc _)).toBelow⟩
theorem sameE_any (A B : Option Addr) (n c d : Nat) (l : List (Int × List UInt8)) (N M : Nat → Prop) (w : World) (ha : RdI 2 TagI w N A n c l) (hb : RdI 2 TagI w M B n d l) :
    Calls Tryz.prog 37 #[.slice A n c, .slice B n d, .func (.func 38) #[] #[]] w fun e w' => e = .returned (.bool true) ∧ Fr No w w' := by
  have hn := ha.len tag_ok (by omega)
  have hm := ha.top
  go_enter Tryz.func37, Tryz.ntmps37
  go_wp2
  go_loopw [7] (fun v wr => ∃ k : Nat, k ≤ n ∧ v = .int .i64 (k : Int) ∧ Fr No w wr) (fun v _ => n - (intOf v).toNat)
  case atStart => exact ⟨0, by omega, rfl, Fr.refl _ _⟩
  case round =>
    obtain ⟨k, hk, rfl, hdr⟩ := hrel
    rcases Nat.lt_or_ge k n with hlt | hge
    · have hkl : k < l.length := by omega
      obtain ⟨ad, cs, rfl, ⟨A1, n1, x1, rfl, hA1, -, -, -⟩, hc⟩ := (ha.no tag_ok hdr).at_ tag_ok (by omega) (i := k) hkl
      obtain ⟨bd, ds, rfl, ⟨B1, m1, y1, rfl, hB1, -, -, -⟩, hd⟩ := (hb.no tag_ok hdr).at_ tag_ok (by omega) (i := k) hkl
      have e1 := hA1.len
      have e2 := hB1.len
      rw [u8s_length] at e1 e2
      obtain rfl : m1 = n1 := by omega
      have c0 := hc 0 _ rfl; have c1 := hc 1 _ rfl
      have d0 := hd 0 _ rfl; have d1 := hd 1 _ rfl
      rw [tag_next ad] at c1
      rw [tag_next bd] at d1
      obtain ⟨P, hP⟩ : ∃ P, ad.add (k * 2) = P := ⟨_, rfl⟩
      obtain ⟨Q, hQ⟩ : ∃ Q, bd.add (k * 2) = Q := ⟨_, rfl⟩
      rw [Nat.add_zero, hP] at c0
      rw [Nat.add_zero, hQ] at d0
      rw [hP] at c1
      rw [hQ] at d1
      have heq := fun u (hf : Fr No wr u) => eqE_any l[k].1 A1 B1 m1 x1 y1 l[k].2 u (hA1.no hf) (hB1.no hf)
      generalize l[k].1 = K at c0 d0 heq
      have HEQ := Lib.hid heq
      have q0 := fun x os => cell_regrown c0 x os; have q1 := fun x os => cell_regrown c1 x os
      have r0 := fun x os => cell_regrown d0 x os; have r1 := fun x os => cell_regrown d1 x os
      clear hc hd heq c0 c1 d0 d1 e1 e2 hA1 hB1
      go_wp2
      refine wp_region_quiet_below (by kernel_rfl) (by kernel_rfl) ?_
      repeat (quiet_step ((go_at_call 38; exact Calls.regrown_of (HEQ.out _ (Fr.of_below (below_regrown wr _ _))))))
      refine wpQuiet_nil ?_
      intro w7 hw7r
      obtain ⟨⟨nr, osr⟩, hw7r⟩ := hw7r
      have hf7 : Fr No wr w7 := by rw [hw7r]; exact Fr.of_below (below_regrown wr nr osr)
      clear hw7r
      go_wp2
      go_roundw
      case rel => exact ⟨k + 1, by omega, by go_num, hdr.trans hf7⟩
      case measure => simp [intOf]; omega
    · obtain rfl : k = n := by omega
      go_wp2
      go_ret
      exact ⟨rfl, hdr⟩
/-! ### rows of elements of one's own, their data behind a base -/
/-- where the elements' data lie: in blocks behind the base, not in their own row's -/
def IsoN (base : Nat) (w : World) (v : Value) : Nat → Prop := fun i => base ≤ i ∧ i < w.heap.size ∧ v.ownBlock ≠ some i
def OwnE (w : World) (base : Nat) (v : Value) (es : List (Int × List UInt8)) : Prop := OwnI 2 TagI w base 24 (IsoN base w v) v es.length es
theorem OwnE.far {w w' : World} {S : Nat → Prop} {base : Nat} {v : Value} {es : List (Int × List UInt8)} (h : OwnE w base v es) (hf : Fr S w w') (hS : ∀ i, base ≤ i → ¬ S i) : OwnE w' base v es :=
  (OwnI.fr tag_ok h hf (fun i hi => hS i hi.1) (fun i hi => hS i (h.lt i hi).1)).mono tag_ok (fun i hi => ⟨hi.1, Nat.lt_of_lt_of_le hi.2.1 hf.size, hi.2.2⟩)
theorem OwnE.no {w w' : World} {base : Nat} {v : Value} {es : List (Int × List UInt8)} (h : OwnE w base v es) (hf : Fr No w w') : OwnE w' base v es := h.far hf (fun _ _ x => x)
theorem OwnE.nil_ (w : World) (base : Nat) : OwnE w base (.slice none 0 0) [] := OwnI.nil_ _ _ _ _ _ _
/-- one more element was put behind -/
theorem owne_more {w w2 w4 : World} {base : Nat} {va v2 : Value} {es : List (Int × List UInt8)} {a : Int × List UInt8} {cs : List Value} {t : TypeId} (hf : Fr No w w2) (ho : OwnE w base va es)
    (h4 : OwnI 2 TagI w4 base 24 (fun i => IsoN base w va i ∨ (w.heap.size ≤ i ∧ i < w2.heap.size)) v2 (es.length + 1) (es ++ [a])) (hg : (w2.alloc (.cells cs.toArray t)).grownBy w4 va.ownBlock) (hv : v2.ownBlock = va.ownBlock ∨ v2.ownBlock = some (w2.heap.size + 1)) (hb : base ≤ w.heap.size) : OwnE w4 base v2 (es ++ [a]) := by
  have hsz : w2.heap.size + 1 ≤ w4.heap.size := by
    have h1 := ((Fr.refl (fun i => va.ownBlock = some i) (w2.alloc (.cells cs.toArray t))).grown hg (fun i e => .inl e)).size
    simpa using h1
  have h1 := hf.size
  show OwnI 2 TagI w4 base 24 _ v2 (es ++ [a]).length (es ++ [a])
  rw [show (es ++ [a]).length = es.length + 1 by simp]
  refine h4.mono tag_ok (fun i hi => ?_)
  rcases hi with ⟨i1, i2, i3⟩ | ⟨i1, i2⟩
  · refine ⟨i1, by omega, fun e => ?_⟩
    rcases hv with hv | hv
    · exact i3 (by rw [← hv]; exact e)
    · rw [hv] at e; injection e with e; omega
  · refine ⟨by omega, by omega, fun e => ?_⟩
    rcases hv with hv | hv
    · rw [hv] at e
      have := (ho.lt i e).2
      omega
    · rw [hv] at e; injection e with e; omega
theorem OwnE.low {w : World} {base base' : Nat} {v : Value} {es : List (Int × List UInt8)} (h : OwnE w base v es) (hb : base' ≤ base) : OwnE w base' v es :=
  (OwnI.low tag_ok h hb).mono tag_ok (fun i hi => ⟨Nat.le_trans hb hi.1, hi.2⟩)
theorem owne_moreW {w w2 W w4 : World} {base : Nat} {va v2 : Value} {es : List (Int × List UInt8)} {a : Int × List UInt8} (hf : Fr No w w2) (ho : OwnE w base va es)
    (h4 : OwnI 2 TagI w4 base 24 (fun i => IsoN base w va i ∨ (w.heap.size ≤ i ∧ i < w2.heap.size)) v2 (es.length + 1) (es ++ [a])) (hWz : W.heap.size = w2.heap.size + 1) (hg : W.grownBy w4 va.ownBlock) (hv : v2.ownBlock = va.ownBlock ∨ v2.ownBlock = some (w2.heap.size + 1)) (hb : base ≤ w.heap.size) : OwnE w4 base v2 (es ++ [a]) := by
  have hsz : w2.heap.size + 1 ≤ w4.heap.size := by
    have h1 := ((Fr.refl (fun i => va.ownBlock = some i) W).grown hg (fun i e => .inl e)).size
    omega
  have h1 := hf.size
  show OwnI 2 TagI w4 base 24 _ v2 (es ++ [a]).length (es ++ [a])
  rw [show (es ++ [a]).length = es.length + 1 by simp]
  refine h4.mono tag_ok (fun i hi => ?_)
  rcases hi with ⟨i1, i2, i3⟩ | ⟨i1, i2⟩
  · refine ⟨i1, by omega, fun e => ?_⟩
    rcases hv with hv | hv
    · exact i3 (by rw [← hv]; exact e)
    · rw [hv] at e; injection e with e; omega
  · refine ⟨by omega, by omega, fun e => ?_⟩
    rcases hv with hv | hv
    · rw [hv] at e
      have := (ho.lt i e).2
      omega
    · rw [hv] at e; injection e with e; omega
theorem owne_rd {w : World} {base : Nat} {v : Value} {es : List (Int × List UInt8)} (h : OwnE w base v es) : ∃ A c, v = .slice A es.length c ∧ RdI 2 TagI w (fun i => i < w.heap.size) A es.length c es :=
  OwnI.rd' h (M := fun i => i < w.heap.size) (fun i e => (h.lt i e).2) tag_ok (fun i hi => hi.2.1)
theorem rd_len63 {w : World} {A : Option Addr} {n c : Nat} {xs : List Value} (h : Rd w A n c xs) : n ≤ 9223372036854775807 := by
  have h1 := h.cap
  have h2 := h.max
  simp only [maxLen] at h2
  omega
end Go.Proofs.YthlgnmgjfgbffaaGreatDoor
