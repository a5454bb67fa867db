/- The texts OwnM, joined. -/
import Derived.Test.YthlgnmgjfgbffaaGreatDoorL01
import Derived.Laws.IdiomStrings
/- []byte(s): a row of one's own, which may bear the run-time's mark behind its end; append onto it. -/
namespace Go.Proofs.YthlgnmgjfgbffaaGreatDoor
open Go.RowKit
set_option maxHeartbeats 400000
set_option linter.unusedVariables false

/-- nothing of so many cells is frozen -/
def clearB (fz : Nat × Nat) (n : Nat) : Prop := fz.2 = 0 ∨ n ≤ fz.1
/-- a row of one's own, of bytes or other things of one cell -/
def World.ownM (w : World) (base : Nat) (e : TypeId) (v : Value) (n : Nat) (xs : List Value) : Prop :=
  xs.length = n ∧ ((v = .slice none 0 0 ∧ n = 0) ∨ ∃ g cap cur fz, v = .slice (some ⟨g, 0, none⟩) n cap ∧ base ≤ g ∧ w.heap[g]? = some (.cells cur e fz) ∧ clearB fz cur.size ∧ n ≤ cap ∧ cap ≤ maxLen ∧ cur.size = cap ∧ cur.toList.take n = xs)
abbrev OwnM (w : World) (base : Nat) (v : Value) (l : List UInt8) : Prop := World.ownM w base 5 v l.length (u8s l)
section
variable {S : Nat → Prop} {w w' : World} {base n : Nat} {e : TypeId} {v : Value} {xs : List Value}
theorem ownM_of (h : w.ownsRow base e 1 v n xs) : World.ownM w base e v n xs := by
  refine ⟨by have := h.1; omega, ?_⟩
  rcases h.2 with hn | ⟨g, cap, cur, rfl, hb, hg, hnc, hm, hc, ht⟩
  · exact .inl hn
  · exact .inr ⟨g, cap, cur, (0, 0), rfl, hb, hg, .inl rfl, hnc, hm, by omega, by simpa using ht⟩
theorem ownM_lt (h : World.ownM w base e v n xs) : ∀ k, v.ownBlock = some k → base ≤ k ∧ k < w.heap.size := by
  intro k hk
  rcases h.2 with ⟨rfl, _⟩ | ⟨g, cap, cur, fz, rfl, hb, hg, _⟩
  · simp [Value.ownBlock] at hk
  · simp [Value.ownBlock] at hk
    subst hk
    exact ⟨hb, (Array.getElem?_eq_some_iff.1 hg).1⟩
theorem ownM_fr (h : World.ownM w base e v n xs) (hf : Fr S w w') (hS : ∀ g, v.ownBlock = some g → ¬ S g) : World.ownM w' base e v n xs := by
  refine ⟨h.1, ?_⟩
  rcases h.2 with hn | ⟨g, cap, cur, fz, rfl, hb, hg, rest⟩
  · exact .inl hn
  · exact .inr ⟨g, cap, cur, fz, rfl, hb, hf.heap hg (hS g rfl), rest⟩
theorem ownM_low (h : World.ownM w base e v n xs) {b : Nat} (hb : b ≤ base) : World.ownM w b e v n xs := by
  refine ⟨h.1, ?_⟩
  rcases h.2 with hn | ⟨g, cap, cur, fz, rfl, hb2, rest⟩
  · exact .inl hn
  · exact .inr ⟨g, cap, cur, fz, rfl, Nat.le_trans hb hb2, rest⟩
theorem ownM_cells (h : World.ownM w base e v n xs) {g : Nat} (hg : v.ownBlock = some g) : ∀ j u, xs[j]? = some u → w.cell? ((⟨g, 0, none⟩ : Addr).add j) = some u := by
  intro j u hu
  rcases h.2 with ⟨rfl, _⟩ | ⟨g', cap, cur, fz, rfl, _, hgg, _, _, _, _, ht⟩
  · simp [Value.ownBlock] at hg
  · simp [Value.ownBlock] at hg
    subst hg
    have hadd : (⟨g', 0, none⟩ : Addr).add j = ⟨g', j, none⟩ := by unfold Addr.add; split <;> simp_all
    rw [hadd]
    rw [← ht, List.getElem?_take] at hu
    split at hu
    · simp [World.cell?, hgg]
      simpa using hu
    · cases hu
/-- what it reads as -/
theorem ownM_rd (h : World.ownM w base e v n xs) : ∃ A c, v = .slice A n c ∧ Rd w A n c xs ∧ (∀ ad, A = some ad → base ≤ ad.block ∧ ad.block < w.heap.size) := by
  have hc := fun g hg => ownM_cells h (g := g) hg
  have hl := ownM_lt h
  rcases h.2 with ⟨rfl, rfl⟩ | ⟨g, cap, cur, fz, rfl, hb, hg, _, hn, hm, _, _⟩
  · have : xs = [] := List.eq_nil_of_length_eq_zero h.1
    subst this
    exact ⟨none, 0, rfl, Rd.nil_ w, fun _ e => nomatch e⟩
  · refine ⟨some ⟨g, 0, none⟩, cap, rfl, ⟨h.1, hn, hm, (fun e => nomatch e), ?_⟩, ?_⟩
    · intro ad e j u hu
      injection e with e
      subst e
      exact hc g rfl j u hu
    · intro ad e
      injection e with e
      subst e
      exact hl g rfl
end
/-- []byte(s) -/
theorem conv_own {P : Program} (w : World) (src dst e : TypeId) (l : List UInt8) (hs : P.underlying src = some .string) (hd : P.underlying dst = some (.slice e)) (he : P.underlying e = some (.int .u8)) (hm : l.length ≤ maxLen) :
    ∃ c w', (convert src dst (.string (bstr l))).run P w = .ok (.slice (some ⟨w.heap.size, 0, none⟩) l.length c) w' ∧ World.ownM w' w.heap.size e (.slice (some ⟨w.heap.size, 0, none⟩) l.length c) l.length (u8s l) ∧ Fr No w w' ∧ w'.heap.size = w.heap.size + 1 := by
  have hr := run_bytes_of_string w src dst e (bstr l) hs hd he
  rw [bstr_size] at hr
  have hge := grownCap_ge w l.length 0 e
  have hle := grownCap_le_maxLen w l.length 0 e hm
  have hsz : (bytesRow (bstr l) (grownCap w l.length 0 e)).size = grownCap w l.length 0 e := by
    have hz : (bstr l).size = l.length := bstr_size l
    unfold bytesRow
    rw [hz]
    simp [bstr]
    omega
  refine ⟨_, _, hr, ⟨by simp, .inr ⟨_, _, _, _, rfl, Nat.le_refl _, heap_alloc_new w.drew _, .inr (Nat.le_refl _), hge, hle, hsz, ?_⟩⟩, (Fr.refl No w).drew.alloc _, by simp⟩
  have hd : (bstr l).data.toList = l := by simp [bstr]
  have e1 : (bytesRow (bstr l) (grownCap w l.length 0 e)).toList = u8s l ++ List.replicate (grownCap w l.length 0 e - l.length) (.int .u8 0) := by
    have hz : (bstr l).size = l.length := bstr_size l
    unfold bytesRow
    rw [hz]
    simp [u8s, bstr]
  rw [e1, List.take_append_of_le_length (by simp)]
  exact List.take_of_length_le (by simp)
/-- cells of which none is frozen -/
theorem run_storeCells_M (P : Program) (g o : Nat) (t : TypeId) (fz : Nat × Nat) : ∀ (vs : List Value) (i : Nat) (cur : Array Value) (w : World), w.heap[g]? = some (.cells cur t fz) → clearB fz cur.size → o + i + vs.length ≤ cur.size → (∀ v ∈ vs, v.oneCell' = true) →
    (storeCells ⟨g, o, none⟩ vs i).run P w = .ok () (w.setRow g (cur.toList.take (o + i) ++ vs ++ cur.toList.drop (o + i + vs.length)).toArray)
  | [], i, cur, w, hg, _, _, _ => by
    simp only [storeCells, List.append_nil, List.length_nil, Nat.add_zero, List.take_append_drop, Array.toArray_toList]
    rw [setRow_self w g cur t fz hg]
    rfl
  | v :: rest, i, cur, w, hg, hfz, hl, h1 => by
    have hi : o + i < cur.size := by simp at hl; omega
    have hadd : (⟨g, o, none⟩ : Addr).add i = ⟨g, o + i, none⟩ := by unfold Addr.add; split <;> simp_all
    have hcell : w.cell? ⟨g, o + i, none⟩ = some cur[o + i] := by simp [World.cell?, hg, hi]
    have hfro : w.frozen? ⟨g, o + i, none⟩ = false := by
      obtain ⟨lo, hi'⟩ := fz
      simp only [World.frozen?, hg, Bool.and_eq_false_iff, decide_eq_false_iff_not]
      rcases hfz with h | h
      · simp only at h; right; omega
      · simp only at h; left; omega
    have hst : (store ((⟨g, o, none⟩ : Addr).add i) v).run P w = .ok () (w.setRow g (cur.setIfInBounds (o + i) v)) := by
      rw [hadd, run_store P w _ v _ (h1 v (by simp)), hcell]
      simp [hfro, setCell_eq_setRow w g (o + i) cur t fz v hg]
    have ih := run_storeCells_M P g o t fz rest (i + 1) (cur.setIfInBounds (o + i) v) (w.setRow g (cur.setIfInBounds (o + i) v)) (setRow_heap w g cur _ t _ hg) (by simpa [clearB] using hfz) (by simp at hl ⊢; omega) (fun x hx => h1 x (by simp [hx]))
    simp only [storeCells, Sem.run_bind, hst, Result.andThen_ok, ih, setRow_setRow]
    congr 3
    have e := list_seg_step cur.toList (o + i) v rest (by simp at hl ⊢; omega)
    simpa [Array.toList_setIfInBounds, Nat.add_assoc] using e
section
variable {P : Program} (w : World)
theorem run_append_M (base : Nat) (t ty e : TypeId) (i : TypeInfo) (z : Value) (bytes : Nat) (ht : P.underlying t = some (.slice e)) (hi : P.info? e = some i) (hz : i.zero = some z)
    (hsize : i.size = 1) (hby : i.bytes = bytes) (hzs : z.cells.size = 1)
    (v : Value) (n : Nat) (xs : List Value) (hown : World.ownM w base e v n xs)
    (A : Option Addr) (m c : Nat) (news : List Value) (hr : Rd w A m c news) (h1 : ∀ u ∈ news, u.oneCell' = true)
    (h63 : n + m ≤ maxLen) (hbytes : (n + m) * bytes ≤ 140737488355328) (hbase : base ≤ w.heap.size) :
    ∃ v' w', (Builtin.append_ #[t, t] ty #[v, .slice A m c]).run P w = .ok v' w' ∧ World.ownM w' base e v' (n + m) (xs ++ news) ∧ w.grownBy w' v.ownBlock ∧
      (v'.ownBlock = v.ownBlock ∨ v'.ownBlock = some w.heap.size) := by
  rcases hown.2 with ⟨rfl, rfl⟩ | ⟨g, cap, cur, fz, rfl, hb, hg, hfz, hnc, hcm, hcs, htk⟩
  · have ho : w.ownsRow base e 1 (.slice none 0 0) 0 xs := ⟨by have := hown.1; omega, .inl ⟨rfl, rfl⟩⟩
    obtain ⟨v', w', r1, r2, r3, r4⟩ := run_append_rd (P := P) w base t ty e i z bytes ht hi hz hsize hby hzs (.slice none 0 0) 0 xs ho A m c news hr h1 h63 hbytes hbase
    exact ⟨v', w', r1, ownM_of r2, r3, r4⟩
  · have hxl := hown.1
    cases A with
    | none =>
      have hc := hr.nil rfl
      have hn := hr.cap
      have hm : m = 0 := by omega
      subst hm hc
      have hn : news = [] := List.eq_nil_of_length_eq_zero (by simpa using hr.len)
      subst hn
      refine ⟨_, w, ?_, by simpa using hown, World.grownBy.refl w _, .inl rfl⟩
      simp [Builtin.append_, run_underlying ht, sizeOf, typeInfo, hi, Builtin.lenOf, Builtin.firstCells, hnc, storeCells]
    | some ad =>
      have hnl := hr.len
      have hlen : (xs ++ news).length = n + m := by rw [List.length_append, hxl, hnl]
      by_cases hroom : n + m ≤ cap
      · have hf := run_firstCells_some (P := P) w i.size m ad m c news (by rw [hsize]; omega) (hr.cells ad rfl)
        have hst := run_storeCells_M P g (n * i.size) e fz news 0 cur w hg hfz (by rw [hsize]; omega) h1
        simp only [Nat.add_zero] at hst
        have hrun : (Builtin.append_ #[t, t] ty #[.slice (some ⟨g, 0, none⟩) n cap, .slice (some ad) m c]).run P w =
            .ok (.slice (some ⟨g, 0, none⟩) (n + m) cap) (w.setRow g (cur.toList.take (n * i.size) ++ news ++ cur.toList.drop (n * i.size + news.length)).toArray) := by
          simp [Builtin.append_, run_underlying ht, sizeOf, typeInfo, hi, Builtin.lenOf, hroom, hf, Addr.add_lit, hst]
        rw [hsize, Nat.mul_one, htk] at hrun
        refine ⟨_, _, hrun, ⟨hlen, .inr ⟨g, cap, _, fz, rfl, hb, setRow_heap w g cur _ e _ hg, ?_, hroom, hcm, ?_, ?_⟩⟩, ⟨rfl, rfl, rfl, by simp, fun k _ hk => setRow_other w g k _ (fun e => hk (by simp [Value.ownBlock, e]))⟩, .inl rfl⟩
        · have : (xs ++ news ++ cur.toList.drop (n + news.length)).toArray.size = cur.size := by
            simp only [List.size_toArray, List.length_append, List.length_drop, Array.length_toList]; omega
          rw [this]; exact hfz
        · simp only [List.size_toArray, List.length_append, List.length_drop, Array.length_toList]; omega
        · show List.take (n + m) (xs ++ news ++ cur.toList.drop (n + news.length)) = xs ++ news
          rw [← hlen]
          exact List.take_left
      · have holds : ∀ j u, xs[j]? = some u → w.cell? ((⟨g, 0, none⟩ : Addr).add j) = some u := ownM_cells (g := g) hown rfl
        have hr2 := run_append_grow (P := P) w t ty e i z ht hi hz ⟨g, 0, none⟩ n cap xs (by rw [hsize]; omega) holds ad m c news (by rw [hsize]; omega) (hr.cells ad rfl) (by omega) (by simp only [maxLen] at h63; omega) (growslice_fits (by omega) (by rw [hby]; exact hbytes))
        have hge := grownCap_ge w (n + m) cap e
        have hcm2 : grownCap w (n + m) cap e ≤ maxLen := grownCap_le_maxLen w (n + m) cap e h63
        refine ⟨_, _, hr2, ⟨hlen, .inr ⟨w.heap.size, _, _, (0, 0), rfl, hbase, heap_alloc_new w.drew _, .inl rfl, hge, hcm2, ?_, ?_⟩⟩, ⟨rfl, rfl, rfl, by simp, fun k hk _ => Below.heap_alloc w.drew _ k hk⟩, .inr rfl⟩
        · simp only [Array.size_append, List.size_toArray, size_zeroCells, hzs, hxl, hnl]
          omega
        · simp only [Array.toList_append, List.append_assoc]
          rw [← List.append_assoc, ← hlen]
          exact List.take_left
end
/-- []byte(s), at the operation -/
theorem convM (w : World) {ops : Array Oper} {rest : List Oper} {o : Oper} {a : Act} {Q : Exit → Act → World → Prop} (hgd : Region.wanted o (yielded ops a.tmps) = true) (s : Operand)
    (ho : o.op = .convert 9 22 s) (l : List UInt8) (hs : a.eval s = .string (bstr l)) (hm : l.length ≤ 140737488355328)
    (h : ∀ c w', OwnM w' w.heap.size (.slice (some ⟨w.heap.size, 0, none⟩) l.length c) l → Fr No w w' → w'.heap.size = w.heap.size + 1 → wpList Tryz.prog ops Q rest (a.put o.dst (.slice (some ⟨w.heap.size, 0, none⟩) l.length c)) w') :
    wpList Tryz.prog ops Q (o :: rest) a w := by
  refine wpList_go hgd fun K hK => ?_
  obtain ⟨c, w', hrun, h1, h2, h3⟩ := conv_own (P := Tryz.prog) w 9 22 5 l Tryz.underlying9 Tryz.underlying22 Tryz.underlying5 (by simp only [maxLen]; omega)
  unfold Oper.wp
  simp only [execOp, ho, hs, hrun, Result.andThen, Sem.run_bind, Sem.run_pure]
  exact hK _ _ (h c w' h1 h2 h3)
/-- the same, as one step of a region that draws its order -/
theorem stepC {ops : Array Oper} {o : Oper} {a : Act} {w : World} {K : Act → World → Prop} {Q : Exit → Act → World → Prop} {E : Prop} (hgd : Region.wanted o (yielded ops a.tmps) = true) (s : Operand)
    (ho : o.op = .convert 9 22 s) (l : List UInt8) (hs : a.eval s = .string (bstr l)) (hm : l.length ≤ 140737488355328)
    (h : ∀ c w', OwnM w' w.heap.size (.slice (some ⟨w.heap.size, 0, none⟩) l.length c) l → Fr No w w' → w'.heap.size = w.heap.size + 1 → K (a.put o.dst (.slice (some ⟨w.heap.size, 0, none⟩) l.length c)) w') :
    if Region.wanted o (yielded ops a.tmps) = true then Oper.wp Tryz.prog o a w K Q else E := by
  rw [if_pos hgd]
  obtain ⟨c, w', hrun, h1, h2, h3⟩ := conv_own (P := Tryz.prog) w 9 22 5 l Tryz.underlying9 Tryz.underlying22 Tryz.underlying5 (by simp only [maxLen]; omega)
  unfold Oper.wp
  simp only [execOp, ho, hs, hrun, Result.andThen, Sem.run_bind, Sem.run_pure]
  exact h c w' h1 h2 h3
/-- append of bytes onto such a row -/
theorem apM (w : World) {ops : Array Oper} {rest : List Oper} {o : Oper} {a : Act} {Q : Exit → Act → World → Prop} (hgd : Region.wanted o (yielded ops a.tmps) = true) (s x : Operand)
    (ho : o.op = .call { callee := .builtin .append, args := #[s, x], argTypes := #[22, 22] })
    (base : Nat) (v : Value) (l : List UInt8) (hs : a.eval s = v) (hown : OwnM w base v l)
    (A : Option Addr) (m c : Nat) (k : List UInt8) (hx : a.eval x = .slice A m c) (hr : Rd w A m c (u8s k)) (hb : l.length + m ≤ 140737488355328) (hbase : base ≤ w.heap.size)
    (h : ∀ v' w', OwnM w' base v' (l ++ k) → w.grownBy w' v.ownBlock → (v'.ownBlock = v.ownBlock ∨ v'.ownBlock = some w.heap.size) → wpList Tryz.prog ops Q rest (a.put o.dst v') w') :
    wpList Tryz.prog ops Q (o :: rest) a w := by
  refine wpList_go hgd fun K hK => ?_
  obtain ⟨i, hi, hz, h1, h2⟩ := info_parts info_u8
  obtain ⟨v', w', hrun, g1, g2, g3⟩ := run_append_M (P := Tryz.prog) w base 22 o.type 5 i (.int .u8 0) 1 Tryz.underlying22 hi hz h1 h2 rfl v l.length (u8s l) hown A m c (u8s k) hr (u8s_one k) (by simp only [maxLen]; omega) (by omega) hbase
  have hk : k.length = m := by simpa using hr.len
  unfold Oper.wp execOp
  simp only [ho, resolve, invoke, builtin, Sem.run_bind, Sem.run_pure, Result.andThen_ok, List.map_toArray, List.map_cons, List.map_nil, hs, hx, hrun]
  exact hK _ _ (h v' w' (by unfold OwnM; rw [u8s_append, List.length_append, hk]; exact g1) g2 g3)
/-- the same, as one step of a region that draws its order ('go_region_law') -/
theorem stepM {ops : Array Oper} {o : Oper} {a : Act} {w : World} {K : Act → World → Prop} {Q : Exit → Act → World → Prop} {E : Prop} (hgd : Region.wanted o (yielded ops a.tmps) = true) (s x : Operand)
    (ho : o.op = .call { callee := .builtin .append, args := #[s, x], argTypes := #[22, 22] })
    (base : Nat) (v : Value) (l : List UInt8) (hs : a.eval s = v) (hown : OwnM w base v l)
    (A : Option Addr) (m c : Nat) (k : List UInt8) (hx : a.eval x = .slice A m c) (hr : Rd w A m c (u8s k)) (hb : l.length + m ≤ 140737488355328) (hbase : base ≤ w.heap.size)
    (h : ∀ v' w', OwnM w' base v' (l ++ k) → w.grownBy w' v.ownBlock → (v'.ownBlock = v.ownBlock ∨ v'.ownBlock = some w.heap.size) → K (a.put o.dst v') w') :
    if Region.wanted o (yielded ops a.tmps) = true then Oper.wp Tryz.prog o a w K Q else E := by
  rw [if_pos hgd]
  obtain ⟨i, hi, hz, h1, h2⟩ := info_parts info_u8
  obtain ⟨v', w', hrun, g1, g2, g3⟩ := run_append_M (P := Tryz.prog) w base 22 o.type 5 i (.int .u8 0) 1 Tryz.underlying22 hi hz h1 h2 rfl v l.length (u8s l) hown A m c (u8s k) hr (u8s_one k) (by simp only [maxLen]; omega) (by omega) hbase
  have hk : k.length = m := by simpa using hr.len
  unfold Oper.wp execOp
  simp only [ho, resolve, invoke, builtin, Sem.run_bind, Sem.run_pure, Result.andThen_ok, List.map_toArray, List.map_cons, List.map_nil, hs, hx, hrun]
  exact h v' w' (by unfold OwnM; rw [u8s_append, List.length_append, hk]; exact g1) g2 g3
end Go.Proofs.YthlgnmgjfgbffaaGreatDoor
