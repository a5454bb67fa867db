/- The statements' own tree that grows: two of its rows put anew at once; one more text, one more mark, as a step of a region that draws its order. -/
import Derived.Test.YthkjmbkfcnehoaaGreatDoorRefTree2
import Derived.Deep.CutRange
namespace Go.Proofs.YthkjmbkfcnehoaaGreatDoor
open Go.RowKit
set_option maxHeartbeats 400000
set_option linter.unusedVariables false

variable {w : World} {base g : Nat} {v1 v2 v3 v4 : Value} {xs : List ByteArray} {G : Gro}
theorem GrV.put34 {u w2 : World} {v3' v4' : Value} (h : GrV u base g v1 v2 v3 v4 xs G) (hf : Fr (fun i => v3.ownBlock = some i ∨ v4.ownBlock = some i) u w2) {xs' : List ByteArray} (ho3 : w2.ownsRow base 9 1 v3' xs'.length (strs xs')) {ink' : List Bool} (ho4 : w2.ownsRow base 4 1 v4' ink'.length (bls ink'))
    (hv3 : v3'.ownBlock = v3.ownBlock ∨ ∀ i, v3'.ownBlock = some i → u.heap.size ≤ i) (hv4 : v4'.ownBlock = v4.ownBlock ∨ ∀ i, v4'.ownBlock = some i → u.heap.size ≤ i) (h34 : ∀ i, v3'.ownBlock = some i → v4'.ownBlock ≠ some i) :
    GrV ((w2.setCell ⟨g, 2, none⟩ v3').setCell ⟨g, 3, none⟩ v4') base g v1 v2 v3' v4' xs' { G with txt := xs'.map (fun x => x.data.toList), ink := ink' } := by
  have hs : Fr (Just g) w2 ((w2.setCell ⟨g, 2, none⟩ v3').setCell ⟨g, 3, none⟩ v4') := ((Fr.refl (Just g) w2).setCell (p := ⟨g, 2, none⟩) (.inl (Just.at g)) _).setCell (p := ⟨g, 3, none⟩) (.inl (Just.at g)) _
  have hgs : g < u.heap.size := h.bk.lt
  have hz := hf.size
  have hzz := hs.size
  have hb := ((h.bk.fr hf (fun e => e.elim h.ap.g3 h.ap.g4)).set_ 2 v3').set_ 3 v4'
  have l1 := h.o1.lt
  have l2 := h.o2.lt
  have hn3 : v3'.ownBlock ≠ some g := fresh_ne hv3 h.ap.g3 hgs
  have hn4 : v4'.ownBlock ≠ some g := fresh_ne hv4 h.ap.g4 hgs
  exact ⟨hb, h.low,
    ((h.o1.fr nod_ok hf (fun i hi e => e.elim hi.2.2.2.2.2.1 hi.2.2.2.2.2.2) (fun i e e2 => e2.elim (h.ap.h13 i e) (h.ap.h14 i e))).fr nod_ok hs (fun i hi e => hi.2.2.1 e) (fun i e e2 => h.ap.g1 (by rw [show g = i from e2.symm]; exact e))).mono nod_ok
      (fun i hi => ⟨hi.1, by have := hi.2.1; omega, hi.2.2.1, hi.2.2.2.1, hi.2.2.2.2.1, fresh_ne hv3 hi.2.2.2.2.2.1 hi.2.1, fresh_ne hv4 hi.2.2.2.2.2.2 hi.2.1⟩),
    hs.own (hf.own h.o2 (fun i e e2 => e2.elim (h.ap.h23 i e) (h.ap.h24 i e))) (fun i e e2 => h.ap.g2 (by rw [show g = i from e2.symm]; exact e)), rfl,
    hs.own ho3 (fun i e e2 => hn3 (by rw [show g = i from e2.symm]; exact e)), hs.own ho4 (fun i e e2 => hn4 (by rw [show g = i from e2.symm]; exact e)),
    ⟨h.ap.g1, h.ap.g2, hn3, hn4, h.ap.h12, (fun i e => fresh_ne hv3 (h.ap.h13 i e) (l1 i e).2), (fun i e => fresh_ne hv4 (h.ap.h14 i e) (l1 i e).2), (fun i e => fresh_ne hv3 (h.ap.h23 i e) (l2 i e).2), (fun i e => fresh_ne hv4 (h.ap.h24 i e) (l2 i e).2), h34⟩⟩
theorem gr_strs_app (l m : List ByteArray) : strs (l ++ m) = strs l ++ strs m := by simp [strs]
theorem gr_bls_app (l m : List Bool) : bls (l ++ m) = bls l ++ bls m := by simp [bls]
theorem gr_strs_one (l : List ByteArray) : ∀ u ∈ strs l, u.oneCell' = true := by
  intro u hu
  simp only [strs, List.mem_map] at hu
  obtain ⟨b, _, rfl⟩ := hu
  rfl
theorem gr_bls_one (l : List Bool) : ∀ u ∈ bls l, u.oneCell' = true := by
  intro u hu
  simp only [bls, List.mem_map] at hu
  obtain ⟨b, _, rfl⟩ := hu
  rfl
theorem stepS1 {ops : Array Oper} {o : Oper} {a : Act} {w : World} {K : Act → World → Prop} {Q : Exit → Act → World → Prop} {E : Prop} (hgd : Region.wanted o (yielded ops a.tmps) = true) (s x : Operand)
    (ho : o.op = .call { callee := .builtin .append, args := #[s, x], argTypes := #[51, 51] })
    (base : Nat) (v : Value) (n : Nat) (l : List ByteArray) (hs : a.eval s = v) (hown : w.ownsRow base 9 1 v n (strs l))
    (A : Option Addr) (c : Nat) (Y : ByteArray) (hx : a.eval x = .slice A 1 c) (hr : Rd w A 1 c (strs [Y])) (hb : n + 1 ≤ 4000000000) (hbase : base ≤ w.heap.size)
    (h : ∀ A' c' w', w'.ownsRow base 9 1 (.slice A' (n + 1) c') (n + 1) (strs (l ++ [Y])) → Fr (fun i => v.ownBlock = some i) w w' → ((Value.slice A' (n + 1) c').ownBlock = v.ownBlock ∨ (Value.slice A' (n + 1) c').ownBlock = some w.heap.size) → K (a.put o.dst (.slice A' (n + 1) c')) w') :
    if Region.wanted o (yielded ops a.tmps) = true then Oper.wp Tryz.prog o a w K Q else E := by
  rw [if_pos hgd]
  obtain ⟨i, hi, hz, h1, h2⟩ := info_parts info_str
  obtain ⟨v', w', hrun, g1, g2, g3⟩ := run_append_rd (P := Tryz.prog) w base 51 o.type 9 i (.string ⟨#[]⟩) 16 Tryz.underlying51 hi hz h1 h2 rfl v n (strs l) hown A 1 c (strs [Y]) hr (gr_strs_one _) (by simp only [maxLen]; omega) (by omega) hbase
  unfold Oper.wp execOp
  simp only [ho, resolve, invoke, builtin, Sem.run_bind, Sem.run_pure, Result.andThen_ok, List.map_toArray, List.map_cons, List.map_nil, hs, hx, hrun]
  obtain ⟨A', c', rfl, -⟩ := Rd.of_own g1
  exact h A' c' w' (by rw [gr_strs_app]; exact g1) ((Fr.refl _ w).grown g2 (fun g e => .inl e)) g3
theorem stepB1 {ops : Array Oper} {o : Oper} {a : Act} {w : World} {K : Act → World → Prop} {Q : Exit → Act → World → Prop} {E : Prop} (hgd : Region.wanted o (yielded ops a.tmps) = true) (s x : Operand)
    (ho : o.op = .call { callee := .builtin .append, args := #[s, x], argTypes := #[52, 52] })
    (base : Nat) (v : Value) (n : Nat) (l : List Bool) (hs : a.eval s = v) (hown : w.ownsRow base 4 1 v n (bls l))
    (A : Option Addr) (c : Nat) (Y : Bool) (hx : a.eval x = .slice A 1 c) (hr : Rd w A 1 c (bls [Y])) (hb : n + 1 ≤ 4000000000) (hbase : base ≤ w.heap.size)
    (h : ∀ A' c' w', w'.ownsRow base 4 1 (.slice A' (n + 1) c') (n + 1) (bls (l ++ [Y])) → Fr (fun i => v.ownBlock = some i) w w' → ((Value.slice A' (n + 1) c').ownBlock = v.ownBlock ∨ (Value.slice A' (n + 1) c').ownBlock = some w.heap.size) → K (a.put o.dst (.slice A' (n + 1) c')) w') :
    if Region.wanted o (yielded ops a.tmps) = true then Oper.wp Tryz.prog o a w K Q else E := by
  rw [if_pos hgd]
  obtain ⟨i, hi, hz, h1, h2⟩ := info_parts info_bool
  obtain ⟨v', w', hrun, g1, g2, g3⟩ := run_append_rd (P := Tryz.prog) w base 52 o.type 4 i (.bool false) 1 Tryz.underlying52 hi hz h1 h2 rfl v n (bls l) hown A 1 c (bls [Y]) hr (gr_bls_one _) (by simp only [maxLen]; omega) (by omega) hbase
  unfold Oper.wp execOp
  simp only [ho, resolve, invoke, builtin, Sem.run_bind, Sem.run_pure, Result.andThen_ok, List.map_toArray, List.map_cons, List.map_nil, hs, hx, hrun]
  obtain ⟨A', c', rfl, -⟩ := Rd.of_own g1
  exact h A' c' w' (by rw [gr_bls_app]; exact g1) ((Fr.refl _ w).grown g2 (fun g e => .inl e)) g3
/-- one text, one mark, just laid in a block of its own; behind another block, too -/
theorem lit_s (w : World) (Y : ByteArray) (t : TypeId) : Rd (w.alloc (.cells #[.string Y] t)) (some ⟨w.heap.size, 0, none⟩) 1 1 (strs [Y]) :=
  (Bk.new w t #[.string Y]).rd (n := 1) (cap := 1) (Nat.le_refl _) (by simp [maxLen]) (by simp)
theorem lit_s2 (w : World) (o : Obj) (Y : ByteArray) (t : TypeId) : Rd ((w.alloc o).alloc (.cells #[.string Y] t)) (some ⟨w.heap.size + 1, 0, none⟩) 1 1 (strs [Y]) := by
  have h := lit_s (w.alloc o) Y t
  rwa [show (w.alloc o).heap.size = w.heap.size + 1 by simp] at h
theorem lit_b (w : World) (Y : Bool) (t : TypeId) : Rd (w.alloc (.cells #[.bool Y] t)) (some ⟨w.heap.size, 0, none⟩) 1 1 (bls [Y]) :=
  (Bk.new w t #[.bool Y]).rd (n := 1) (cap := 1) (Nat.le_refl _) (by simp [maxLen]) (by simp)
theorem lit_b2 (w : World) (o : Obj) (Y : Bool) (t : TypeId) : Rd ((w.alloc o).alloc (.cells #[.bool Y] t)) (some ⟨w.heap.size + 1, 0, none⟩) 1 1 (bls [Y]) := by
  have h := lit_b (w.alloc o) Y t
  rwa [show (w.alloc o).heap.size = w.heap.size + 1 by simp] at h
end Go.Proofs.YthkjmbkfcnehoaaGreatDoor
