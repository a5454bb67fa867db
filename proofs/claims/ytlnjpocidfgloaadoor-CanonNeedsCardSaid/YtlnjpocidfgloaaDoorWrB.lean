/- A strings.Builder that is a struct's second field (package canon's writer): what is written into it, and what it tells. -/
import Derived.Test.YtlnjpocidfgloaaDoorBuild
import Derived.Test.YtlnjpocidfgloaaDoorEscMath
import Derived.Test.YtlnjpocidfgloaaDoorRefTok
namespace Go.Proofs.YtlnjpocidfgloaaDoor
open Go.RowKit
set_option maxHeartbeats 400000
set_option linter.unusedVariables false

theorem wb_lies : liesAt Tryd.prog Tryd.prog.depth 43 (3 / Tryd.prog.cellsOf 43) 1 41 1 = true := by kernel_rfl
/-- the writer at block g: its nodes, and what was written -/
structure WrV (w : World) (B g : Nat) (V p v : Value) (l : List UInt8) : Prop where
  low : B ≤ g
  heap : w.heap[g]? = some (.cells #[V, p, v] 43 (0, 0))
  pp : p = .pointer none ∨ p = .pointer (some ⟨g, 1, none⟩)
  own : w.ownsRowF B 5 1 v (Lib.byteCells l).length (Lib.byteCells l)
  ne : v.ownBlock ≠ some g
variable {w w' : World} {B g : Nat} {V p v : Value} {l : List UInt8}
theorem WrV.lt (h : WrV w B g V p v l) : g < w.heap.size := (Array.getElem?_eq_some_iff.1 h.heap).1
theorem WrV.cell0 (h : WrV w B g V p v l) : w.cell? ⟨g, 0, none⟩ = some V := by rw [Lib.cell_of_heap h.heap]; rfl
theorem WrV.cell1 (h : WrV w B g V p v l) : w.cell? ⟨g, 1, none⟩ = some p := by rw [Lib.cell_of_heap h.heap]; rfl
theorem WrV.cell2 (h : WrV w B g V p v l) : w.cell? ⟨g, 2, none⟩ = some v := by rw [Lib.cell_of_heap h.heap]; rfl
theorem WrV.fr {S : Nat → Prop} (h : WrV w B g V p v l) (hf : Fr S w w') (h1 : ¬ S g) (h2 : ∀ i, v.ownBlock = some i → ¬ S i) : WrV w' B g V p v l where
  low := h.low
  heap := hf.heap h.heap h1
  pp := h.pp
  own := by
    refine ⟨h.own.1, ?_⟩
    rcases h.own.2 with hn | ⟨r, cap, cur, fz, rfl, hb, hgg, rest⟩
    · exact .inl hn
    · exact .inr ⟨r, cap, cur, fz, rfl, hb, hf.heap hgg (h2 r rfl), rest⟩
  ne := h.ne
theorem WrV.no (h : WrV w B g V p v l) (hf : Fr No w w') : WrV w' B g V p v l := h.fr hf (fun x => x) (fun _ _ x => x)
/-- written behind what was there: only the writer, its row, and new blocks have turned -/
def Went (B g : Nat) (V v : Value) (l : List UInt8) (w w' : World) : Prop := ∃ p' v', WrV w' B g V p' v' l ∧ Fr (fun i => i = g ∨ v.ownBlock = some i) w w' ∧ (v'.ownBlock = v.ownBlock ∨ ∀ i, v'.ownBlock = some i → w.heap.size ≤ i)
theorem Went.step {a b c : World} {v1 : Value} {l2 : List UInt8} (hf : Fr (fun i => i = g ∨ v.ownBlock = some i) a b) (hv : v1.ownBlock = v.ownBlock ∨ ∀ i, v1.ownBlock = some i → a.heap.size ≤ i) (k : Went B g V v1 l2 b c) : Went B g V v l2 a c := by
  obtain ⟨p', v', h1, h2, h3⟩ := k
  refine ⟨p', v', h1, hf.trans_new h2 ?_, ?_⟩
  · rintro i (rfl | hi)
    · exact .inl (.inl rfl)
    · rcases hv with hv | hv
      · exact .inl (.inr (by rw [← hv]; exact hi))
      · exact .inr (hv i hi)
  · rcases h3 with h3 | h3
    · rcases hv with hv | hv
      · exact .inl (h3.trans hv)
      · exact .inr (fun i hi => hv i (by rw [← h3]; exact hi))
    · exact .inr (fun i hi => Nat.le_trans hf.size (h3 i hi))
theorem Went.refl (h : WrV w B g V p v l) : Went B g V v l w w := ⟨p, v, h, Fr.refl _ _, .inl rfl⟩
/-- a block that is neither -/
theorem WrV.apart (h : WrV w B g V p v l) {k : Nat} (hk : w.heap.size ≤ k) : ¬ (k = g ∨ v.ownBlock = some k) := by
  rintro (rfl | e)
  · have := h.lt; omega
  · have := (h.own.lt k e).2; omega

set_option maxHeartbeats 1000000 in
set_option maxRecDepth 100000 in
theorem wb_check_used (w : World) (h0 : w.cell? ⟨g, 1, none⟩ = some (.pointer (some ⟨g, 1, none⟩))) :
    Calls Tryd.prog 45 #[.pointer (some ⟨g, 1, none⟩)] w fun e w' => e = .returned (.tuple #[]) ∧ w' = w := by
  obtain ⟨j, hj, _⟩ := Option.map_eq_some_iff.1 sb_size
  go_enter Tryd.func45, Tryd.ntmps45
  go_wp2
  rw [Lib.run_neq_ptr_same w _ Tryd.underlying39 hj]
  go_wp2
  go_end0
  exact ⟨rfl, rfl⟩
set_option maxHeartbeats 1000000 in
set_option maxRecDepth 100000 in
theorem wb_check_fresh (w : World) (h0 : w.cell? ⟨g, 1, none⟩ = some (.pointer none)) (hsh : w.shape? g = some (43, 3)) (hfz : w.frozen? ⟨g, 1, none⟩ = false) :
    Calls Tryd.prog 45 #[.pointer (some ⟨g, 1, none⟩)] w fun e w' => e = .returned (.tuple #[]) ∧ w' = w.setCell ⟨g, 1, none⟩ (.pointer (some ⟨g, 1, none⟩)) := by
  obtain ⟨j, hj, hjs⟩ := Option.map_eq_some_iff.1 sb_size
  go_enter Tryd.func45, Tryd.ntmps45
  go_wp2
  rw [Lib.run_to_unsafe w ⟨g, 1, none⟩ Tryd.underlying39 Tryd.underlying88 hj (by rw [hjs]; decide) hsh (Nat.lt_of_sub_eq_succ rfl)]
  simp only [Result.andThen]
  rw [Oper.upon_value]
  go_wp2
  rw [run_callFunc_extern Tryd.func56 (by kernel_rfl) (by kernel_rfl) (by kernel_rfl) (e := Extern.AbiNoEscape.same) (by kernel_rfl)]
  rw [Lib.run_noEscape]
  simp only [Result.andThen]
  rw [Oper.upon_value]
  go_wp2
  rw [Lib.run_from_unsafe w ⟨g, 1, none⟩ Tryd.underlying88 Tryd.underlying39 hj hsh wb_lies]
  simp only [Result.andThen]
  rw [Oper.upon_value]
  go_wp2
  go_end0
  exact ⟨rfl, rfl⟩
theorem wb_check (h : WrV w B g V p v l) :
    Calls Tryd.prog 45 #[.pointer (some ⟨g, 1, none⟩)] w fun e w' => e = .returned (.tuple #[]) ∧ WrV w' B g V (.pointer (some ⟨g, 1, none⟩)) v l ∧ Fr (Just g) w w' := by
  rcases h.pp with rfl | rfl
  · refine (wb_check_fresh w h.cell1 ?_ ?_).mono ?_
    · simp [World.shape?, h.heap]
    · exact Lib.frozen_of_heap h.heap 1
    · rintro e w' ⟨rfl, rfl⟩
      have hf : Fr (Just g) w (w.setCell ⟨g, 1, none⟩ (.pointer (some ⟨g, 1, none⟩))) := (Fr.refl (Just g) w).setCell (p := ⟨g, 1, none⟩) (.inl (Just.at g)) _
      refine ⟨rfl, ⟨h.low, ?_, .inr rfl, ?_, h.ne⟩, hf⟩
      · have hbk : Bk w g 43 [V, .pointer none, v] := h.heap
        exact hbk.set_ 1 (.pointer (some ⟨g, 1, none⟩))
      · refine ⟨h.own.1, ?_⟩
        rcases h.own.2 with hn | ⟨r, cap, cur, fz, rfl, hb, hgg, rest⟩
        · exact .inl hn
        · exact .inr ⟨r, cap, cur, fz, rfl, hb, hf.heap hgg (fun e => h.ne (by rw [show g = r from (show r = g from e).symm]; rfl)), rest⟩
  · refine (wb_check_used w h.cell1).mono ?_
    rintro e w' ⟨rfl, rfl⟩
    exact ⟨rfl, h, Fr.refl _ _⟩
/-- a text behind a row: where the row lies then -/
theorem str_where {P : Program} (w : World) (base : Nat) (t u ty e : TypeId) (i : TypeInfo) (ht : P.underlying t = some (.slice e)) (hu : P.underlying u = some .string) (hi : P.info? e = some i) (hz : i.zero = some (.int .u8 0))
    (hsize : i.size = 1) (hby : i.bytes = 1) (v : Value) (n : Nat) (xs : List Value) (hown : w.ownsRowF base e 1 v n xs) (s : ByteArray)
    (h63 : n + s.size ≤ maxLen) (hbytes : n + s.size ≤ 140737488355328) {v' : Value} {w' : World} (hrun : (Builtin.append_ #[t, u] ty #[v, .string s]).run P w = .ok v' w') :
    v'.ownBlock = v.ownBlock ∨ ∀ k, v'.ownBlock = some k → w.heap.size ≤ k := by
  rcases hown.2 with ⟨rfl, rfl⟩ | ⟨g, cap, cur, fz, rfl, hbg, hg, hfz, hnc, hcm, hcs, htake⟩
  · obtain ⟨v2, w2, h1, h2, _, _⟩ := Lib.run_append_own_string (P := P) w w.heap.size t u ty e i ht hu hi hz hsize hby (.slice none 0 0) 0 xs ⟨hown.1, .inl ⟨rfl, rfl⟩⟩ s h63 hbytes (Nat.le_refl _)
    rw [hrun] at h1
    injection h1 with h1 _
    subst h1
    exact .inr (fun k hk => (h2.lt k hk).1)
  · by_cases hroom : n + s.size ≤ cap
    · have hr := Lib.run_append_room_stringF (P := P) w t u ty e i ht hu hi hsize g n cap cur fz hg (by simpa using hfz) s hroom (by simp at hcs; omega)
      rw [hrun] at hr
      injection hr with hr _
      subst hr
      exact .inl rfl
    · have hr := Lib.run_append_grow_string (P := P) w t u ty e i (.int .u8 0) ht hu hi hz ⟨g, 0, none⟩ n cap xs (by rw [hsize]; exact hown.1) (hown.cells (g := g) rfl) s (by omega) (by simp only [maxLen] at h63; omega) (by rw [hby]; exact growslice_fits (by omega) (by omega))
      rw [hrun] at hr
      injection hr with hr _
      subst hr
      exact .inr (fun k hk => by have hk2 : some w.heap.size = some k := hk; injection hk2 with hk2; omega)
theorem wpList_append_strL {P : Program} {ops : Array Oper} {rest : List Oper} {o : Oper} {a : Act} {w : World} {Q : Exit → Act → World → Prop} (hgd : Region.wanted o (yielded ops a.tmps) = true) (sl x : Operand) (t u : TypeId)
    (ho : o.op = .call { callee := .builtin .append, args := #[sl, x], argTypes := #[t, u] })
    (base : Nat) (e : TypeId) (i : TypeInfo) (ht : P.underlying t = some (.slice e)) (hu : P.underlying u = some .string) (hi : P.info? e = some i) (hz : i.zero = some (.int .u8 0))
    (hsize : i.size = 1) (hby : i.bytes = 1)
    (v : Value) (n : Nat) (xs : List Value) (hs : a.eval sl = v) (hown : w.ownsRowF base e 1 v n xs) (s : ByteArray) (hx : a.eval x = .string s)
    (h63 : n + s.size ≤ maxLen) (hbytes : n + s.size ≤ 140737488355328) (hbase : base ≤ w.heap.size)
    (h : ∀ v' w', w'.ownsRowF base e 1 v' (n + s.size) (xs ++ Lib.strCells s) → w.grownBy w' v.ownBlock → (v'.ownBlock = v.ownBlock ∨ ∀ k, v'.ownBlock = some k → w.heap.size ≤ k) → wpList P ops Q rest (a.put o.dst v') w') : wpList P ops Q (o :: rest) a w := by
  refine wpList_go hgd fun K hK => ?_
  obtain ⟨v', w', hr, h2, h3, _⟩ := Lib.run_append_own_stringF (P := P) w base t u o.type e i ht hu hi hz hsize hby v n xs hown s h63 hbytes hbase
  have h4 := str_where w base t u o.type e i ht hu hi hz hsize hby v n xs hown s h63 hbytes hr
  unfold Oper.wp execOp
  simp only [ho, resolve, invoke, builtin, Sem.run_bind, Sem.run_pure, Result.andThen_ok, List.map_toArray, List.map_cons, List.map_nil, hs, hx, hr]
  exact hK _ _ (h v' w' h2 h3 h4)
set_option maxHeartbeats 2000000 in
set_option maxRecDepth 100000 in
theorem wb_write (S : ByteArray) (h : WrV w B g V p v l) (hlen : l.length + S.size ≤ 140737488355328) :
    Calls Tryd.prog 38 #[.pointer (some ⟨g, 1, none⟩), .string S] w fun e w' => e = .returned (.tuple #[.int .i64 S.size, .nilIface]) ∧ Went B g V v (l ++ S.data.toList) w w' := by
  obtain ⟨i0, hi, hz0, hz1, hz2⟩ := info_parts sb_byte
  have hck := wb_check h
  have HCK := Lib.hid hck
  have hlw := h.lt; have hlo := h.low
  have HOL := Lib.hid h.own.lt
  clear h hck
  go_enter Tryd.func38, Tryd.ntmps38
  go_wp2_with (go_at_call 45; refine HCK.out.mono ?_)
  rintro e w1 ⟨rfl, h1, hf1⟩
  have c2 := h1.cell2
  have hs1 := hf1.size
  go_wp2_with (at_builtin; refine wpList_append_strL rfl _ _ 34 9 rfl B 5 i0 Tryd.underlying34 Tryd.underlying9 hi hz0 hz1 hz2 _ _ _ rfl h1.own S rfl ?c3 ?c4 ?c5 ?_)
  case c3 => rw [Lib.byteCells_length]; unfold maxLen; omega
  case c4 => rw [Lib.byteCells_length]; omega
  case c5 => omega
  intro v' w2 hown' hgrow hvv
  have hb2 : w2.heap[g]? = some (.cells #[V, .pointer (some ⟨g, 1, none⟩), v] 43 (0, 0)) := by
    rw [hgrow.block g h1.lt (fun e => h1.ne e.symm)]
    exact h1.heap
  have hng' : v'.ownBlock ≠ some g := by
    rcases hvv with h | h
    · rw [h]; exact h1.ne
    · intro e; have := h g e; have := h1.lt; omega
  have hng : ∀ r : Nat, ∀ {n cap : Nat}, v' = .slice (some ⟨r, 0, none⟩) n cap → r ≠ g := by
    rintro r n cap rfl rfl
    exact hng' rfl
  have d1 : w2.cell? ⟨g, 2, none⟩ = some v := by rw [Lib.cell_of_heap hb2]; rfl
  have f1 : w2.frozen? ⟨g, 2, none⟩ = false := Lib.frozen_of_heap hb2 2
  obtain ⟨ao, n', cap, rfl⟩ : ∃ ao n' cap, v' = .slice ao n' cap := by
    rcases hown'.2 with ⟨hv, _⟩ | ⟨r, cap, cur, fz, hv, _⟩
    · exact ⟨_, _, _, hv⟩
    · exact ⟨_, _, _, hv⟩
  go_wp2
  go_ret2
  refine ⟨rfl, .pointer (some ⟨g, 1, none⟩), .slice ao n' cap, ⟨hlo, ?_, .inr rfl, ?_, ?_⟩, ?_, ?_⟩
  · have hbk : Bk w2 g 43 [V, .pointer (some ⟨g, 1, none⟩), v] := hb2
    exact hbk.set_ 2 (.slice ao n' cap)
  · have e1 : Lib.byteCells (l ++ S.data.toList) = Lib.byteCells l ++ Lib.strCells S := by unfold Lib.byteCells Lib.strCells; rw [List.map_append]
    rw [e1]
    have hs2 : Fr (Just g) w2 (w2.setCell ⟨g, 2, none⟩ (.slice ao n' cap)) := (Fr.refl (Just g) w2).setCell (p := ⟨g, 2, none⟩) (.inl (Just.at g)) _
    refine ⟨by rw [Nat.mul_one], ?_⟩
    rcases hown'.2 with ⟨hn, hz⟩ | ⟨r, cap', cur, fz, hv, hb, hgg, rest⟩
    · exact .inl ⟨hn, by rw [List.length_append, Lib.strCells_length]; exact hz⟩
    · refine .inr ⟨r, cap', cur, fz, ?_, hb, hs2.heap hgg (fun e => hng r hv (show r = g from e)), ?_⟩
      · rw [List.length_append, Lib.strCells_length]; exact hv
      · rw [List.length_append, Lib.strCells_length]; exact rest
  · exact hng'
  · exact (hf1.mono (fun i hi => .inl hi)).trans (((Fr.refl (fun i => i = g ∨ v.ownBlock = some i) w1).grown hgrow (fun k e => .inl (.inr e))).setCell (p := ⟨g, 2, none⟩) (.inl (.inl rfl)) _)
  · rcases hvv with h | h
    · exact .inl h
    · exact .inr (fun i hi => Nat.le_trans hs1 (h i hi))
set_option maxHeartbeats 2000000 in
set_option maxRecDepth 100000 in
/-- what was written, as a text (the order of evaluation is drawn; the bytes are marked) -/
theorem wb_string (h : WrV w B g V p v l) (h0 : l ≠ []) :
    Calls Tryd.prog 14 #[.pointer (some ⟨g, 1, none⟩)] w fun e w' => e = .returned (.string (bstr l)) ∧ Below B w w' := by
  obtain ⟨hB, hbk, hpp, hown, hne⟩ := h
  have hl0 : l.length ≠ 0 := by simpa using h0
  rw [Lib.byteCells_length] at hown
  obtain ⟨r, cap, cur, fz, rfl, hbg, hg, hfz, hnc, hcm, hcs, htake⟩ : ∃ r cap cur fz, v = .slice (some ⟨r, 0, none⟩) l.length cap ∧ B ≤ r ∧ w.heap[r]? = some (.cells cur 5 fz) ∧ fz.2 ≤ l.length * 1 ∧ l.length ≤ cap ∧ cap ≤ maxLen ∧ cur.size = cap * 1 ∧ cur.toList.take (l.length * 1) = Lib.byteCells l := by
    rcases hown.2 with ⟨_, hz⟩ | ⟨r, cap, cur, fz, hv, q⟩
    · exact absurd hz hl0
    · exact ⟨r, cap, cur, fz, hv, q⟩
  have c1 : w.drew.cell? ⟨g, 2, none⟩ = some (.slice (some ⟨r, 0, none⟩) l.length cap) := by
    have : w.drew.heap[g]? = some (.cells #[V, p, .slice (some ⟨r, 0, none⟩) l.length cap] 43 (0, 0)) := hbk
    rw [Lib.cell_of_heap this]; rfl
  have hSD : (Builtin.unsafeSliceData_ #[34] 57 #[.slice (some ⟨r, 0, none⟩) l.length cap]).run Tryd.prog w.drew = .ok (.pointer (some ⟨r, 0, none⟩)) w.drew :=
    Lib.run_unsafeSliceData_row _ _ _ _ _ _ (by omega)
  have hUS : (Builtin.unsafeString_ #[57, 3] 9 #[.pointer (some ⟨r, 0, none⟩), .int .i64 l.length]).run Tryd.prog w.drew = .ok (.string (bstr l)) (w.drew.freeze ⟨r, 0, none⟩ l.length) := by
    refine Lib.run_unsafeString_row w.drew 57 3 9 5 Tryd.underlying57 (by kernel_rfl) r cur.size (by have hg' : w.drew.heap[r]? = some (.cells cur 5 fz) := hg; simp [World.shape?, hg']) l h0 (by omega) (by unfold maxLen at hcm; omega) ?_
    intro j x hx
    exact hown.cells (g := r) rfl j (.int .u8 x.toNat) (by simp [Lib.byteCells, hx])
  have mixed : Tryd.prog.follows .mixedOrders = true := by kernel_rfl
  clear hown hg htake hbk hpp hne h0 hl0 hfz hcs
  go_enter Tryd.func14, Tryd.ntmps14
  go_wp2
  go_region_o
  all_goals (go_wp2; go_ret; exact ⟨rfl, Lib.below_freeze (Below.drew (Below.refl B w)) (p := ⟨r, 0, none⟩) hbg _⟩)
end Go.Proofs.YtlnjpocidfgloaaDoor
