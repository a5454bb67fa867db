/- The texts WrB, CanPut, CanEach, joined. -/
import Derived.Test.YthkjmbkfcnehoaaGreatDoorTokV
import Derived.Test.YthkjmbkfcnehoaaGreatDoorEscMath
import Derived.Test.YthkjmbkfcnehoaaGreatDoorRefTokX
import Derived.Test.YthkjmbkfcnehoaaGreatDoorIts
import Derived.Test.YthkjmbkfcnehoaaGreatDoorHn
import Derived.Test.YthkjmbkfcnehoaaGreatDoorSm
import Derived.Test.YthkjmbkfcnehoaaGreatDoorCanM
/- A strings.Builder that is a struct's second field (package canon's writer): what is written into it, and what it tells. -/
namespace Go.Proofs.YthkjmbkfcnehoaaGreatDoor
open Go.RowKit
set_option maxHeartbeats 400000
set_option linter.unusedVariables false

theorem wb_lies : liesAt Tryz.prog Tryz.prog.depth 68 (3 / Tryz.prog.cellsOf 68) 1 66 1 = true := by kernel_rfl
/-- the writer at block g: its nodes, and what was written -/
structure WrV (w : World) (B g : Nat) (V p v : Value) (l : List UInt8) : Prop where
  low : B ≤ g
  heap : w.heap[g]? = some (.cells #[V, p, v] 68 (0, 0))
  pp : p = .pointer none ∨ p = .pointer (some ⟨g, 1, none⟩)
  own : w.ownsRowF B 5 1 v (Lib.byteCells l).length (Lib.byteCells l)
  ne : v.ownBlock ≠ some g
variable {w w' : World} {B g : Nat} {V p v : Value} {l : List UInt8}
theorem WrV.lt (h : WrV w B g V p v l) : g < w.heap.size := (Array.getElem?_eq_some_iff.1 h.heap).1
theorem WrV.cell0 (h : WrV w B g V p v l) : w.cell? ⟨g, 0, none⟩ = some V := by rw [Lib.cell_of_heap h.heap]; rfl
theorem WrV.cell1 (h : WrV w B g V p v l) : w.cell? ⟨g, 1, none⟩ = some p := by rw [Lib.cell_of_heap h.heap]; rfl
theorem WrV.cell2 (h : WrV w B g V p v l) : w.cell? ⟨g, 2, none⟩ = some v := by rw [Lib.cell_of_heap h.heap]; rfl
theorem WrV.fr {S : Nat → Prop} (h : WrV w B g V p v l) (hf : Fr S w w') (h1 : ¬ S g) (h2 : ∀ i, v.ownBlock = some i → ¬ S i) : WrV w' B g V p v l where
  low := h.low
  heap := hf.heap h.heap h1
  pp := h.pp
  own := by
    refine ⟨h.own.1, ?_⟩
    rcases h.own.2 with hn | ⟨r, cap, cur, fz, rfl, hb, hgg, rest⟩
    · exact .inl hn
    · exact .inr ⟨r, cap, cur, fz, rfl, hb, hf.heap hgg (h2 r rfl), rest⟩
  ne := h.ne
theorem WrV.no (h : WrV w B g V p v l) (hf : Fr No w w') : WrV w' B g V p v l := h.fr hf (fun x => x) (fun _ _ x => x)
/-- written behind what was there: only the writer, its row, and new blocks have turned -/
def Went (B g : Nat) (V v : Value) (l : List UInt8) (w w' : World) : Prop := ∃ p' v', WrV w' B g V p' v' l ∧ Fr (fun i => i = g ∨ v.ownBlock = some i) w w' ∧ (v'.ownBlock = v.ownBlock ∨ ∀ i, v'.ownBlock = some i → w.heap.size ≤ i)
theorem Went.step {a b c : World} {v1 : Value} {l2 : List UInt8} (hf : Fr (fun i => i = g ∨ v.ownBlock = some i) a b) (hv : v1.ownBlock = v.ownBlock ∨ ∀ i, v1.ownBlock = some i → a.heap.size ≤ i) (k : Went B g V v1 l2 b c) : Went B g V v l2 a c := by
  obtain ⟨p', v', h1, h2, h3⟩ := k
  refine ⟨p', v', h1, hf.trans_new h2 ?_, ?_⟩
  · rintro i (rfl | hi)
    · exact .inl (.inl rfl)
    · rcases hv with hv | hv
      · exact .inl (.inr (by rw [← hv]; exact hi))
      · exact .inr (hv i hi)
  · rcases h3 with h3 | h3
    · rcases hv with hv | hv
      · exact .inl (h3.trans hv)
      · exact .inr (fun i hi => hv i (by rw [← h3]; exact hi))
    · exact .inr (fun i hi => Nat.le_trans hf.size (h3 i hi))
theorem Went.refl (h : WrV w B g V p v l) : Went B g V v l w w := ⟨p, v, h, Fr.refl _ _, .inl rfl⟩
/-- a block that is neither -/
theorem WrV.apart (h : WrV w B g V p v l) {k : Nat} (hk : w.heap.size ≤ k) : ¬ (k = g ∨ v.ownBlock = some k) := by
  rintro (rfl | e)
  · have := h.lt; omega
  · have := (h.own.lt k e).2; omega

set_option maxHeartbeats 1000000 in
set_option maxRecDepth 100000 in
theorem wb_check_used (w : World) (h0 : w.cell? ⟨g, 1, none⟩ = some (.pointer (some ⟨g, 1, none⟩))) :
    Calls Tryz.prog 95 #[.pointer (some ⟨g, 1, none⟩)] w fun e w' => e = .returned (.tuple #[]) ∧ w' = w := by
  obtain ⟨j, hj, _⟩ := Option.map_eq_some_iff.1 sb_size
  go_enter Tryz.func95, Tryz.ntmps95
  go_wp2
  rw [Lib.run_neq_ptr_same w _ Tryz.underlying63 hj]
  go_wp2
  go_end0
  exact ⟨rfl, rfl⟩
set_option maxHeartbeats 1000000 in
set_option maxRecDepth 100000 in
theorem wb_check_fresh (w : World) (h0 : w.cell? ⟨g, 1, none⟩ = some (.pointer none)) (hsh : w.shape? g = some (68, 3)) (hfz : w.frozen? ⟨g, 1, none⟩ = false) :
    Calls Tryz.prog 95 #[.pointer (some ⟨g, 1, none⟩)] w fun e w' => e = .returned (.tuple #[]) ∧ w' = w.setCell ⟨g, 1, none⟩ (.pointer (some ⟨g, 1, none⟩)) := by
  obtain ⟨j, hj, hjs⟩ := Option.map_eq_some_iff.1 sb_size
  go_enter Tryz.func95, Tryz.ntmps95
  go_wp2
  rw [Lib.run_to_unsafe w ⟨g, 1, none⟩ Tryz.underlying63 Tryz.underlying149 hj (by rw [hjs]; decide) hsh (Nat.lt_of_sub_eq_succ rfl)]
  simp only [Result.andThen]
  rw [Oper.upon_value]
  go_wp2
  rw [run_callFunc_extern Tryz.func113 (by kernel_rfl) (by kernel_rfl) (by kernel_rfl) (e := Extern.AbiNoEscape.same) (by kernel_rfl)]
  rw [Lib.run_noEscape]
  simp only [Result.andThen]
  rw [Oper.upon_value]
  go_wp2
  rw [Lib.run_from_unsafe w ⟨g, 1, none⟩ Tryz.underlying149 Tryz.underlying63 hj hsh wb_lies]
  simp only [Result.andThen]
  rw [Oper.upon_value]
  go_wp2
  go_end0
  exact ⟨rfl, rfl⟩
theorem wb_check (h : WrV w B g V p v l) :
    Calls Tryz.prog 95 #[.pointer (some ⟨g, 1, none⟩)] w fun e w' => e = .returned (.tuple #[]) ∧ WrV w' B g V (.pointer (some ⟨g, 1, none⟩)) v l ∧ Fr (Just g) w w' := by
  rcases h.pp with rfl | rfl
  · refine (wb_check_fresh w h.cell1 ?_ ?_).mono ?_
    · simp [World.shape?, h.heap]
    · exact Lib.frozen_of_heap h.heap 1
    · rintro e w' ⟨rfl, rfl⟩
      have hf : Fr (Just g) w (w.setCell ⟨g, 1, none⟩ (.pointer (some ⟨g, 1, none⟩))) := (Fr.refl (Just g) w).setCell (p := ⟨g, 1, none⟩) (.inl (Just.at g)) _
      refine ⟨rfl, ⟨h.low, ?_, .inr rfl, ?_, h.ne⟩, hf⟩
      · have hbk : Bk w g 68 [V, .pointer none, v] := h.heap
        exact hbk.set_ 1 (.pointer (some ⟨g, 1, none⟩))
      · refine ⟨h.own.1, ?_⟩
        rcases h.own.2 with hn | ⟨r, cap, cur, fz, rfl, hb, hgg, rest⟩
        · exact .inl hn
        · exact .inr ⟨r, cap, cur, fz, rfl, hb, hf.heap hgg (fun e => h.ne (by rw [show g = r from (show r = g from e).symm]; rfl)), rest⟩
  · refine (wb_check_used w h.cell1).mono ?_
    rintro e w' ⟨rfl, rfl⟩
    exact ⟨rfl, h, Fr.refl _ _⟩
/-- a text behind a row: where the row lies then -/
theorem str_where {P : Program} (w : World) (base : Nat) (t u ty e : TypeId) (i : TypeInfo) (ht : P.underlying t = some (.slice e)) (hu : P.underlying u = some .string) (hi : P.info? e = some i) (hz : i.zero = some (.int .u8 0))
    (hsize : i.size = 1) (hby : i.bytes = 1) (v : Value) (n : Nat) (xs : List Value) (hown : w.ownsRowF base e 1 v n xs) (s : ByteArray)
    (h63 : n + s.size ≤ maxLen) (hbytes : n + s.size ≤ 140737488355328) {v' : Value} {w' : World} (hrun : (Builtin.append_ #[t, u] ty #[v, .string s]).run P w = .ok v' w') :
    v'.ownBlock = v.ownBlock ∨ ∀ k, v'.ownBlock = some k → w.heap.size ≤ k := by
  rcases hown.2 with ⟨rfl, rfl⟩ | ⟨g, cap, cur, fz, rfl, hbg, hg, hfz, hnc, hcm, hcs, htake⟩
  · obtain ⟨v2, w2, h1, h2, _, _⟩ := Lib.run_append_own_string (P := P) w w.heap.size t u ty e i ht hu hi hz hsize hby (.slice none 0 0) 0 xs ⟨hown.1, .inl ⟨rfl, rfl⟩⟩ s h63 hbytes (Nat.le_refl _)
    rw [hrun] at h1
    injection h1 with h1 _
    subst h1
    exact .inr (fun k hk => (h2.lt k hk).1)
  · by_cases hroom : n + s.size ≤ cap
    · have hr := Lib.run_append_room_stringF (P := P) w t u ty e i ht hu hi hsize g n cap cur fz hg (by simpa using hfz) s hroom (by simp at hcs; omega)
      rw [hrun] at hr
      injection hr with hr _
      subst hr
      exact .inl rfl
    · have hr := Lib.run_append_grow_string (P := P) w t u ty e i (.int .u8 0) ht hu hi hz ⟨g, 0, none⟩ n cap xs (by rw [hsize]; exact hown.1) (hown.cells (g := g) rfl) s (by omega) (by simp only [maxLen] at h63; omega) (by rw [hby]; exact growslice_fits (by omega) (by omega))
      rw [hrun] at hr
      injection hr with hr _
      subst hr
      exact .inr (fun k hk => by have hk2 : some w.heap.size = some k := hk; injection hk2 with hk2; omega)
theorem wpList_append_strL {P : Program} {ops : Array Oper} {rest : List Oper} {o : Oper} {a : Act} {w : World} {Q : Exit → Act → World → Prop} (hgd : Region.wanted o (yielded ops a.tmps) = true) (sl x : Operand) (t u : TypeId)
    (ho : o.op = .call { callee := .builtin .append, args := #[sl, x], argTypes := #[t, u] })
    (base : Nat) (e : TypeId) (i : TypeInfo) (ht : P.underlying t = some (.slice e)) (hu : P.underlying u = some .string) (hi : P.info? e = some i) (hz : i.zero = some (.int .u8 0))
    (hsize : i.size = 1) (hby : i.bytes = 1)
    (v : Value) (n : Nat) (xs : List Value) (hs : a.eval sl = v) (hown : w.ownsRowF base e 1 v n xs) (s : ByteArray) (hx : a.eval x = .string s)
    (h63 : n + s.size ≤ maxLen) (hbytes : n + s.size ≤ 140737488355328) (hbase : base ≤ w.heap.size)
    (h : ∀ v' w', w'.ownsRowF base e 1 v' (n + s.size) (xs ++ Lib.strCells s) → w.grownBy w' v.ownBlock → (v'.ownBlock = v.ownBlock ∨ ∀ k, v'.ownBlock = some k → w.heap.size ≤ k) → wpList P ops Q rest (a.put o.dst v') w') : wpList P ops Q (o :: rest) a w := by
  refine wpList_go hgd fun K hK => ?_
  obtain ⟨v', w', hr, h2, h3, _⟩ := Lib.run_append_own_stringF (P := P) w base t u o.type e i ht hu hi hz hsize hby v n xs hown s h63 hbytes hbase
  have h4 := str_where w base t u o.type e i ht hu hi hz hsize hby v n xs hown s h63 hbytes hr
  unfold Oper.wp execOp
  simp only [ho, resolve, invoke, builtin, Sem.run_bind, Sem.run_pure, Result.andThen_ok, List.map_toArray, List.map_cons, List.map_nil, hs, hx, hr]
  exact hK _ _ (h v' w' h2 h3 h4)
set_option maxHeartbeats 2000000 in
set_option maxRecDepth 100000 in
theorem wb_write (S : ByteArray) (h : WrV w B g V p v l) (hlen : l.length + S.size ≤ 140737488355328) :
    Calls Tryz.prog 68 #[.pointer (some ⟨g, 1, none⟩), .string S] w fun e w' => e = .returned (.tuple #[.int .i64 S.size, .nilIface]) ∧ Went B g V v (l ++ S.data.toList) w w' := by
  obtain ⟨i0, hi, hz0, hz1, hz2⟩ := info_parts sb_byte
  have hck := wb_check h
  have HCK := Lib.hid hck
  have hlw := h.lt; have hlo := h.low
  have HOL := Lib.hid h.own.lt
  clear h hck
  go_enter Tryz.func68, Tryz.ntmps68
  go_wp2_with (go_at_call 95; refine HCK.out.mono ?_)
  rintro e w1 ⟨rfl, h1, hf1⟩
  have c2 := h1.cell2
  have hs1 := hf1.size
  go_wp2_with (at_builtin; refine wpList_append_strL rfl _ _ 64 9 rfl B 5 i0 Tryz.underlying64 Tryz.underlying9 hi hz0 hz1 hz2 _ _ _ rfl h1.own S rfl ?c3 ?c4 ?c5 ?_)
  case c3 => rw [Lib.byteCells_length]; unfold maxLen; omega
  case c4 => rw [Lib.byteCells_length]; omega
  case c5 => omega
  intro v' w2 hown' hgrow hvv
  have hb2 : w2.heap[g]? = some (.cells #[V, .pointer (some ⟨g, 1, none⟩), v] 68 (0, 0)) := by
    rw [hgrow.block g h1.lt (fun e => h1.ne e.symm)]
    exact h1.heap
  have hng' : v'.ownBlock ≠ some g := by
    rcases hvv with h | h
    · rw [h]; exact h1.ne
    · intro e; have := h g e; have := h1.lt; omega
  have hng : ∀ r : Nat, ∀ {n cap : Nat}, v' = .slice (some ⟨r, 0, none⟩) n cap → r ≠ g := by
    rintro r n cap rfl rfl
    exact hng' rfl
  have d1 : w2.cell? ⟨g, 2, none⟩ = some v := by rw [Lib.cell_of_heap hb2]; rfl
  have f1 : w2.frozen? ⟨g, 2, none⟩ = false := Lib.frozen_of_heap hb2 2
  obtain ⟨ao, n', cap, rfl⟩ : ∃ ao n' cap, v' = .slice ao n' cap := by
    rcases hown'.2 with ⟨hv, _⟩ | ⟨r, cap, cur, fz, hv, _⟩
    · exact ⟨_, _, _, hv⟩
    · exact ⟨_, _, _, hv⟩
  go_wp2
  go_ret2
  refine ⟨rfl, .pointer (some ⟨g, 1, none⟩), .slice ao n' cap, ⟨hlo, ?_, .inr rfl, ?_, ?_⟩, ?_, ?_⟩
  · have hbk : Bk w2 g 68 [V, .pointer (some ⟨g, 1, none⟩), v] := hb2
    exact hbk.set_ 2 (.slice ao n' cap)
  · have e1 : Lib.byteCells (l ++ S.data.toList) = Lib.byteCells l ++ Lib.strCells S := by unfold Lib.byteCells Lib.strCells; rw [List.map_append]
    rw [e1]
    have hs2 : Fr (Just g) w2 (w2.setCell ⟨g, 2, none⟩ (.slice ao n' cap)) := (Fr.refl (Just g) w2).setCell (p := ⟨g, 2, none⟩) (.inl (Just.at g)) _
    refine ⟨by rw [Nat.mul_one], ?_⟩
    rcases hown'.2 with ⟨hn, hz⟩ | ⟨r, cap', cur, fz, hv, hb, hgg, rest⟩
    · exact .inl ⟨hn, by rw [List.length_append, Lib.strCells_length]; exact hz⟩
    · refine .inr ⟨r, cap', cur, fz, ?_, hb, hs2.heap hgg (fun e => hng r hv (show r = g from e)), ?_⟩
      · rw [List.length_append, Lib.strCells_length]; exact hv
      · rw [List.length_append, Lib.strCells_length]; exact rest
  · exact hng'
  · exact (hf1.mono (fun i hi => .inl hi)).trans (((Fr.refl (fun i => i = g ∨ v.ownBlock = some i) w1).grown hgrow (fun k e => .inl (.inr e))).setCell (p := ⟨g, 2, none⟩) (.inl (.inl rfl)) _)
  · rcases hvv with h | h
    · exact .inl h
    · exact .inr (fun i hi => Nat.le_trans hs1 (h i hi))
set_option maxHeartbeats 2000000 in
set_option maxRecDepth 100000 in
/-- what was written, as a text (the order of evaluation is drawn; the bytes are marked) -/
theorem wb_string (h : WrV w B g V p v l) (h0 : l ≠ []) :
    Calls Tryz.prog 27 #[.pointer (some ⟨g, 1, none⟩)] w fun e w' => e = .returned (.string (bstr l)) ∧ Below B w w' := by
  obtain ⟨hB, hbk, hpp, hown, hne⟩ := h
  have hl0 : l.length ≠ 0 := by simpa using h0
  rw [Lib.byteCells_length] at hown
  obtain ⟨r, cap, cur, fz, rfl, hbg, hg, hfz, hnc, hcm, hcs, htake⟩ : ∃ r cap cur fz, v = .slice (some ⟨r, 0, none⟩) l.length cap ∧ B ≤ r ∧ w.heap[r]? = some (.cells cur 5 fz) ∧ fz.2 ≤ l.length * 1 ∧ l.length ≤ cap ∧ cap ≤ maxLen ∧ cur.size = cap * 1 ∧ cur.toList.take (l.length * 1) = Lib.byteCells l := by
    rcases hown.2 with ⟨_, hz⟩ | ⟨r, cap, cur, fz, hv, q⟩
    · exact absurd hz hl0
    · exact ⟨r, cap, cur, fz, hv, q⟩
  have c1 : w.drew.cell? ⟨g, 2, none⟩ = some (.slice (some ⟨r, 0, none⟩) l.length cap) := by
    have : w.drew.heap[g]? = some (.cells #[V, p, .slice (some ⟨r, 0, none⟩) l.length cap] 68 (0, 0)) := hbk
    rw [Lib.cell_of_heap this]; rfl
  have hSD : (Builtin.unsafeSliceData_ #[64] 93 #[.slice (some ⟨r, 0, none⟩) l.length cap]).run Tryz.prog w.drew = .ok (.pointer (some ⟨r, 0, none⟩)) w.drew :=
    Lib.run_unsafeSliceData_row _ _ _ _ _ _ (by omega)
  have hUS : (Builtin.unsafeString_ #[93, 3] 9 #[.pointer (some ⟨r, 0, none⟩), .int .i64 l.length]).run Tryz.prog w.drew = .ok (.string (bstr l)) (w.drew.freeze ⟨r, 0, none⟩ l.length) := by
    refine Lib.run_unsafeString_row w.drew 93 3 9 5 Tryz.underlying93 (by kernel_rfl) r cur.size (by have hg' : w.drew.heap[r]? = some (.cells cur 5 fz) := hg; simp [World.shape?, hg']) l h0 (by omega) (by unfold maxLen at hcm; omega) ?_
    intro j x hx
    exact hown.cells (g := r) rfl j (.int .u8 x.toNat) (by simp [Lib.byteCells, hx])
  have mixed : Tryz.prog.follows .mixedOrders = true := by kernel_rfl
  clear hown hg htake hbk hpp hne h0 hl0 hfz hcs
  go_enter Tryz.func27, Tryz.ntmps27
  go_wp2
  go_region_o
  all_goals (go_wp2; go_ret; exact ⟨rfl, Lib.below_freeze (Below.drew (Below.refl B w)) (p := ⟨r, 0, none⟩) hbg _⟩)
end Go.Proofs.YthkjmbkfcnehoaaGreatDoor
/- What package canon's writer does: texts, one behind the other. -/
namespace Go.Proofs.YthkjmbkfcnehoaaGreatDoor
open Go.RowKit
set_option maxHeartbeats 400000
set_option linter.unusedVariables false

variable {w w' : World} {B g : Nat} {V p v : Value} {l : List UInt8}
def catL (Ps : List ByteArray) : List UInt8 := (Ps.map (fun x => x.data.toList)).flatten
theorem cat_next (Ps : List ByteArray) (k : Nat) (h : k < Ps.length) : catL (Ps.take (k + 1)) = catL (Ps.take k) ++ Ps[k].data.toList := by
  unfold catL
  rw [List.take_succ_eq_append_getElem h, List.map_append, List.flatten_append]
  simp
theorem cat_le (Ps : List ByteArray) : ∀ k, (catL (Ps.take k)).length ≤ (catL Ps).length := by
  intro k
  have : catL Ps = catL (Ps.take k) ++ catL (Ps.drop k) := by
    unfold catL
    rw [← List.flatten_append, ← List.map_append, List.take_append_drop]
  rw [this, List.length_append]
  omega
theorem strs_at (Ps : List ByteArray) (k : Nat) (h : k < Ps.length) : (strs Ps)[k]? = some (.string Ps[k]) := by simp [strs, h]
theorem c_put_any (Ps : List ByteArray) (A : Option Addr) (n c : Nat) (h : WrV w B g V p v l) (hr : Rd w A n c (strs Ps)) (hA : ∀ ad, A = some ad → ¬ (ad.block = g ∨ v.ownBlock = some ad.block)) (hlen : l.length + (catL Ps).length ≤ 1000000000000) :
    Calls Tryz.prog 45 #[.pointer (some ⟨g, 0, none⟩), .slice A n c] w fun e w' => e = .returned (.tuple #[]) ∧ Went B g V v (l ++ catL Ps) w w' := by
  have hn : Ps.length = n := by have := hr.len; rw [strs_len] at this; exact this
  have hnm : n ≤ 9223372036854775807 := by have := hr.cap; have := hr.max; simp only [maxLen] at this; omega
  have HR := Lib.hid hr; have HA := Lib.hid hA
  have hw0 := Went.refl h
  have HW0 := Lib.hid hw0
  clear hr hA h hw0
  go_enter Tryz.func45, Tryz.ntmps45
  go_wp2
  go_loopw [8] (fun iv wr => ∃ k : Nat, iv = .int .i64 (k : Int) ∧ k ≤ n ∧ Went B g V v (l ++ catL (Ps.take k)) w wr) (fun iv _ => n - (intOf iv).toNat)
  case atStart => exact ⟨0, rfl, Nat.zero_le _, by simpa [catL] using HW0.out⟩
  case round =>
    obtain ⟨k, rfl, hk, hwt⟩ := hrel
    obtain ⟨p1, v1, h1, hf1, hv1⟩ := hwt
    rcases Nat.lt_or_ge k n with hlt | hge
    · have hltI : (k : Int) < (n : Int) := by omega
      have hkl : k < Ps.length := by omega
      obtain ⟨ad, u, rfl, hu, hc⟩ := (HR.out.fr hf1 HA.out).at_ hlt
      rw [strs_at Ps k hkl] at hu
      injection hu with hu
      subst hu
      have hnx := cat_next Ps k hkl
      have hle := cat_le Ps (k + 1)
      rw [hnx, List.length_append, size_list] at hle
      have hwr := wb_write Ps[k] h1 (by rw [List.length_append]; omega)
      rw [List.append_assoc, ← hnx] at hwr
      have c0 := h1.cell0
      have HWR := Lib.hid hwr; have HF := Lib.hid hf1; have HV := Lib.hid hv1
      clear hwr hf1 hv1 h1 hnx hle c0
      generalize Ps[k] = P at *
      go_wp2_with (go_at_call 68; refine HWR.out.mono ?_; rintro e w2 ⟨rfl, hw2⟩)
      go_roundw
      case rel => exact ⟨k + 1, by go_num, hlt, Went.step HF.out HV.out hw2⟩
      case measure => simp [intOf]; omega
    · have hke : k = n := by omega
      subst hke
      have hW : Went B g V v (l ++ catL Ps) w wr := ⟨p1, v1, by rw [List.take_of_length_le (by omega)] at h1; exact h1, hf1, hv1⟩
      have HW := Lib.hid hW
      clear h1 hf1 hv1 hW
      go_wp2
      go_end0
      exact ⟨rfl, HW.out⟩
/-- texts that were just laid in a block of their own -/
theorem c_put_lit (Ps : List ByteArray) (hn0 : Ps.length ≤ 100) (T : TypeId) (h : WrV w B g V p v l) (hlen : l.length + (catL Ps).length ≤ 1000000000000) :
    Calls Tryz.prog 45 #[.pointer (some ⟨g, 0, none⟩), .slice (some ⟨w.heap.size, 0, none⟩) Ps.length Ps.length] (w.alloc (.cells (strs Ps).toArray T)) fun e w' => e = .returned (.tuple #[]) ∧ Went B g V v (l ++ catL Ps) w w' := by
  have hf := (Fr.refl No w).alloc (.cells (strs Ps).toArray T)
  have hbk := Bk.new w T (strs Ps).toArray
  have hrd : Rd (w.alloc (.cells (strs Ps).toArray T)) (some ⟨w.heap.size, 0, none⟩) Ps.length Ps.length (strs Ps) := by
    have := hbk.rd (n := Ps.length) (cap := Ps.length) (Nat.le_refl _) (by simp only [maxLen]; omega) (by simp [strs])
    rw [List.take_of_length_le (by simp [strs])] at this
    exact this
  refine (c_put_any Ps _ _ _ (h.no hf) hrd ?_ hlen).mono ?_
  · intro ad e
    injection e with e
    subst e
    exact h.apart (Nat.le_refl _)
  · rintro e w' ⟨he, p', v', h1, h2, h3⟩
    refine ⟨he, p', v', h1, (hf.no).trans h2, ?_⟩
    rcases h3 with h3 | h3
    · exact .inl h3
    · exact .inr (fun i hi => Nat.le_trans hf.size (h3 i hi))
variable (T : TypeId)
theorem c_put_1 (x : ByteArray) (h : WrV w B g V p v l) (hlen : l.length + x.size ≤ 1000000000000) :
    Calls Tryz.prog 45 #[.pointer (some ⟨g, 0, none⟩), .slice (some ⟨w.heap.size, 0, none⟩) 1 1] (w.alloc (.cells #[.string x] T)) fun e w' => e = .returned (.tuple #[]) ∧ Went B g V v (l ++ x.data.toList) w w' := by
  have := c_put_lit [x] (by simp) T h (by simp [catL]; omega)
  simpa [catL, strs] using this
theorem c_put_2 (x y : ByteArray) (h : WrV w B g V p v l) (hlen : l.length + (x.size + y.size) ≤ 1000000000000) :
    Calls Tryz.prog 45 #[.pointer (some ⟨g, 0, none⟩), .slice (some ⟨w.heap.size, 0, none⟩) 2 2] (w.alloc (.cells #[.string x, .string y] T)) fun e w' => e = .returned (.tuple #[]) ∧ Went B g V v (l ++ (x.data.toList ++ y.data.toList)) w w' := by
  have := c_put_lit [x, y] (by simp) T h (by simp [catL]; omega)
  simpa [catL, strs] using this
theorem c_put_3 (x y z : ByteArray) (h : WrV w B g V p v l) (hlen : l.length + (x.size + (y.size + z.size)) ≤ 1000000000000) :
    Calls Tryz.prog 45 #[.pointer (some ⟨g, 0, none⟩), .slice (some ⟨w.heap.size, 0, none⟩) 3 3] (w.alloc (.cells #[.string x, .string y, .string z] T)) fun e w' => e = .returned (.tuple #[]) ∧ Went B g V v (l ++ (x.data.toList ++ (y.data.toList ++ z.data.toList))) w w' := by
  have := c_put_lit [x, y, z] (by simp) T h (by simp [catL]; omega)
  simpa [catL, strs] using this
theorem c_put_5 (x y z r s : ByteArray) (h : WrV w B g V p v l) (hlen : l.length + (x.size + (y.size + (z.size + (r.size + s.size)))) ≤ 1000000000000) :
    Calls Tryz.prog 45 #[.pointer (some ⟨g, 0, none⟩), .slice (some ⟨w.heap.size, 0, none⟩) 5 5] (w.alloc (.cells #[.string x, .string y, .string z, .string r, .string s] T)) fun e w' => e = .returned (.tuple #[]) ∧ Went B g V v (l ++ (x.data.toList ++ (y.data.toList ++ (z.data.toList ++ (r.data.toList ++ s.data.toList))))) w w' := by
  have := c_put_lit [x, y, z, r, s] (by simp) T h (by simp [catL]; omega)
  simpa [catL, strs] using this
end Go.Proofs.YthkjmbkfcnehoaaGreatDoor
/- What package canon's writer does: nodes, one behind the other, each with what stands in it. -/
namespace Go.Proofs.YthkjmbkfcnehoaaGreatDoor
open Go.RowKit
set_option maxHeartbeats 400000
set_option linter.unusedVariables false

/-- what a node's writing leaves, for all that are small enough -/
def NodeCon (F : Fo) (B g : Nat) (A : Option Addr) (n c : Nat) (N : Nat → Prop) (m : Nat) : Prop :=
  ∀ (nm t : List UInt8) (a : List (List UInt8 × List UInt8)) (k r : Fo) (pp : Int) (b : Nat), At F (-1) 0 (.cons nm t a k r) pp b → 1 + k.size ≤ m → ∀ (w : World) (p v : Value) (l : List UInt8),
    WrV w B g (.slice A n c) p v l → RdI 4 NodI w N A n c (F.flat (-1) 0) → l.length + (wr1 nm t a k).length ≤ 1000000000000 →
    Calls Tryz.prog 26 #[.pointer (some ⟨g, 0, none⟩), .int .i64 (b : Int)] w fun e w' => e = .returned (.tuple #[]) ∧ Went B g (.slice A n c) v (l ++ wr1 nm t a k) w w'
variable {F : Fo} {B g : Nat} {A : Option Addr} {n c : Nat} {N : Nat → Prop} {m : Nat} {w : World} {p v : Value} {l : List UInt8}
theorem WrV.below {V : Value} (h : WrV w B g V p v l) {i : Nat} (hi : i < B) : ¬ (i = g ∨ v.ownBlock = some i) := by
  rintro (rfl | e)
  · have := h.low; omega
  · have := (h.own.lt i e).1; omega
theorem ce_drop_one {α : Type} {L : List α} {j : Nat} {x : α} {r : List α} (h : L.drop j = x :: r) : L[j]? = some x ∧ L.drop (j + 1) = r := by
  have h1 : (L.drop j)[0]? = some x := by rw [h]; rfl
  rw [List.getElem?_drop] at h1
  refine ⟨by simpa using h1, ?_⟩
  rw [← List.drop_drop, h]
  rfl
theorem c_each_any (hcon : NodeCon F B g A n c N m) (hN : ∀ i, N i → i < B) (f : Fo) (pp : Int) (b0 : Nat) (hat : At F (-1) 0 f pp b0) (hm : f.size ≤ m) (h : WrV w B g (.slice A n c) p v l) (hR : RdI 4 NodI w N A n c (F.flat (-1) 0))
    (KA : Option Addr) (kn kc : Nat) (hr : Rd w KA kn kc (ints (natI (f.tops b0)))) (hA : ∀ ad, KA = some ad → ¬ (ad.block = g ∨ v.ownBlock = some ad.block)) (hlen : l.length + f.wr.length ≤ 1000000000000) :
    Calls Tryz.prog 47 #[.slice KA kn kc, .func (.func 26) #[.pointer (some ⟨g, 0, none⟩)] #[]] w fun e w' => e = .returned (.tuple #[]) ∧ Went B g (.slice A n c) v (l ++ f.wr) w w' := by
  have hn : (natI (f.tops b0)).length = kn := by have := hr.len; rw [ints_length] at this; exact this
  have hnm : kn ≤ 9223372036854775807 := by have := hr.cap; have := hr.max; simp only [maxLen] at this; omega
  have hent : ∀ args u, (callFunc 26 args).run Tryz.prog u = .ok (.enter 26 args) u := fun _ _ => by kernel_rfl
  have hbl : ∀ i, N i → ¬ (i = g ∨ v.ownBlock = some i) := fun i hi => h.below (hN i hi)
  have hw0 := Went.refl h
  obtain ⟨T, hT⟩ : ∃ T, natI (f.tops b0) = T := ⟨_, rfl⟩
  rw [hT] at hr hn
  have HR := Lib.hid hr; have HA := Lib.hid hA; have HN := Lib.hid hR; have HB := Lib.hid hbl; have HW0 := Lib.hid hw0; have HC := Lib.hid hcon; have HAT := Lib.hid hat; have HT := Lib.hid hT
  clear hr hA hR hbl h hw0 hcon hat hN hT
  go_enter Tryz.func47, Tryz.ntmps47
  go_wp2
  go_loopw [8] (fun iv wr => ∃ (j : Nat) (f' : Fo) (p' : Int) (b' : Nat) (out : List UInt8), iv = .int .i64 (j : Int) ∧ j ≤ kn ∧ T.drop j = natI (f'.tops b') ∧ At F (-1) 0 f' p' b' ∧ f'.size ≤ m ∧ Went B g (.slice A n c) v (l ++ out) w wr ∧ out ++ f'.wr = f.wr) (fun iv _ => kn - (intOf iv).toNat)
  case atStart => exact ⟨0, f, pp, b0, [], rfl, Nat.zero_le _, by rw [List.drop_zero, HT.out], HAT.out, hm, by simpa using HW0.out, rfl⟩
  case round =>
    obtain ⟨j, f', p', b', out, rfl, hj, hdr, hat', hm', hwt, hout⟩ := hrel
    obtain ⟨p1, v1, h1, hf1, hv1⟩ := hwt
    rcases Nat.lt_or_ge j kn with hlt | hge
    · have hltI : (j : Int) < (kn : Int) := by omega
      have hjl : j < T.length := by omega
      obtain ⟨ad, u, rfl, hu, hc⟩ := (HR.out.fr hf1 HA.out).at_ hlt
      rw [ints_get T j hjl] at hu
      injection hu with hu
      subst hu
      cases f' with
      | nil =>
        have := congrArg List.length hdr
        simp [Fo.tops, natI] at this
        omega
      | cons nm t a k r =>
        have hdr2 : T.drop j = (b' : Int) :: natI (r.tops (b' + 1 + k.size)) := hdr
        obtain ⟨e1, e2⟩ := ce_drop_one hdr2
        have e3 : T[j] = (b' : Int) := by rw [List.getElem?_eq_getElem hjl] at e1; injection e1
        rw [e3] at hc
        rw [Fo.wr_one, ← List.append_assoc] at hout
        have hlo : (l ++ out).length + (wr1 nm t a k).length ≤ 1000000000000 := by
          have := congrArg List.length hout
          simp only [List.length_append] at this ⊢
          omega
        have hsz : 1 + k.size ≤ m := by simp only [Fo.size] at hm'; omega
        have hcal := HC.out nm t a k r p' b' hat' hsz wr p1 v1 (l ++ out) h1 (HN.out.fr nod_ok hf1 HB.out) hlo
        rw [List.append_assoc] at hcal
        have hrest := At.rest hat'
        have hms : r.size ≤ m := by simp only [Fo.size] at hm'; omega
        have HCAL := Lib.hid hcal; have HF := Lib.hid hf1; have HV := Lib.hid hv1; have HRE := Lib.hid hrest; have HO := Lib.hid hout; have HD := Lib.hid e2
        clear hcal hf1 hv1 hrest hout e2 e1 e3 hdr hdr2 hat' h1 hm' hlo
        go_wp2_with (go_at_call 26; refine HCAL.out.mono ?_; rintro e w2 ⟨rfl, hw2⟩)
        go_roundw
        case rel => exact ⟨j + 1, r, p', b' + 1 + k.size, out ++ wr1 nm t a k, by go_num, hlt, HD.out, HRE.out, hms, Went.step HF.out HV.out hw2, HO.out⟩
        case measure => simp [intOf]; omega
    · have hke : j = kn := by omega
      subst hke
      have hnil : f'.wr = [] := by
        rw [List.drop_eq_nil_of_le (by omega)] at hdr
        cases f' with
        | nil => rfl
        | cons => simp [Fo.tops, natI] at hdr
      rw [hnil, List.append_nil] at hout
      have hW : Went B g (.slice A n c) v (l ++ f.wr) w wr := ⟨p1, v1, by rw [hout] at h1; exact h1, hf1, hv1⟩
      have HW := Lib.hid hW
      clear h1 hf1 hv1 hW hdr hat' hout hnil
      go_wp2
      go_end0
      exact ⟨rfl, HW.out⟩
end Go.Proofs.YthkjmbkfcnehoaaGreatDoor
