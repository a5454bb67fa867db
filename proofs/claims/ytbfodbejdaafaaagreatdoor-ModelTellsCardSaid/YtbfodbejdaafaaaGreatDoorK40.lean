/- The texts RefTree2, RefTree3, joined. -/
import Derived.Test.YtbfodbejdaafaaaGreatDoorK39
import Derived.Deep.CutRange
/- The statements' own tree that grows: what a Text does. -/
namespace Go.Proofs.YtbfodbejdaafaaaGreatDoor
open Go.RowKit
set_option maxHeartbeats 400000
set_option linter.unusedVariables false

variable {w : World} {base g : Nat} {v1 v2 v3 v4 : Value} {xs : List ByteArray} {G : Gro}
set_option maxHeartbeats 4000000 in
set_option maxRecDepth 20000 in
theorem r_take_text0 (X Y : ByteArray) (A : Option Addr) (n c : Nat) (em : Bool) (t : Tok) (w : World) (hG : GrV w base g v1 v2 v3 v4 xs G) (ho : Okg G) (hk : t.kind = 3) (hY : Y.data.toList = t.text) (hys : Y.size ≤ 9223372036854775806) (h0 : G.opn = []) (ht : topG G = -1) :
    Calls Tryz.prog 32 #[.pointer (some ⟨g, 0, none⟩), .agg #[.int .i64 3, .string X, .string Y, .slice A n c, .bool em]] w fun e w' => e = .returned (.int .i64 (takeE G t)) ∧ Fr (fun i => base ≤ i) w w' ∧ (takeE G t = 0 → GrT w' base g (takeS G t)) := by
  have c1 : ∀ o, (w.alloc o).cell? ⟨g, 1, none⟩ = some v2 := fun o => (hG.bk.no ((Fr.refl No w).alloc o)).cell 1
  obtain ⟨A2, c2, rfl⟩ := hG.none_ h0
  have hq := fun u => r_Blank_any Y u hys
  rw [hY] at hq
  have hS : takeS G t = G := by unfold takeS; rw [if_neg (by omega), if_neg (by omega), if_pos (by omega)]
  rw [hS]
  cases hbl : blankB t.text with
  | true =>
    have hE : takeE G t = 0 := by unfold takeE; rw [if_neg (by omega), if_neg (by omega), if_pos hk, if_neg]; rintro ⟨_, h⟩; exact h hbl
    rw [hE]
    rw [hbl] at hq
    have HQ := Lib.hid hq; have HG := Lib.hid hG
    clear h0 ht hk hY ho hE hbl hS hq hG
    go_enter Tryz.func32, Tryz.ntmps32
    go_wp2_with (go_at_call 23; refine (HQ.out _).mono ?_; rintro e w2 ⟨rfl, rfl⟩)
    go_ret
    exact ⟨rfl, (Fr.refl _ w).alloc _, fun _ => ⟨_, _, _, _, _, HG.out.no ((Fr.refl No w).alloc _)⟩⟩
  | false =>
    have hE : takeE G t = 10 := by unfold takeE; rw [if_neg (by omega), if_neg (by omega), if_pos hk, if_pos]; exact ⟨by omega, by rw [hbl]; exact fun h => by cases h⟩
    rw [hE]
    rw [hbl] at hq
    have HQ := Lib.hid hq
    clear h0 ht hk hY ho hE hbl hS hq hG
    go_enter Tryz.func32, Tryz.ntmps32
    go_wp2_with (go_at_call 23; refine (HQ.out _).mono ?_; rintro e w2 ⟨rfl, rfl⟩)
    go_ret
    exact ⟨rfl, (Fr.refl _ w).alloc _, fun e => by cases e⟩

set_option maxHeartbeats 4000000 in
set_option maxRecDepth 20000 in
theorem r_take_text1 (X Y : ByteArray) (A : Option Addr) (n c : Nat) (em : Bool) (t : Tok) (w : World) (hG : GrV w base g v1 v2 v3 v4 xs G) (ho : Okg G) (hk : t.kind = 3) (hY : Y.data.toList = t.text) (hys : Y.size ≤ 9223372036854775806) {k : Nat} {r : List Int} (hr : G.opn = r ++ [(k : Int)]) (ht : topG G = (k : Int)) (hkl : k < G.l.length) (hsz : ∀ x ∈ xs, x.size + Y.size ≤ 9223372036854775806) :
    Calls Tryz.prog 32 #[.pointer (some ⟨g, 0, none⟩), .agg #[.int .i64 3, .string X, .string Y, .slice A n c, .bool em]] w fun e w' => e = .returned (.int .i64 (takeE G t)) ∧ Fr (fun i => base ≤ i) w w' ∧ (takeE G t = 0 → GrT w' base g (takeS G t)) := by
  have c1 : ∀ o, (w.alloc o).cell? ⟨g, 1, none⟩ = some v2 := fun o => (hG.bk.no ((Fr.refl No w).alloc o)).cell 1
  obtain ⟨b2, c2, rfl, ct, hrl⟩ := hG.top k r hr
  have hxl : xs.length = G.txt.length := by rw [← hG.ex]; simp
  have hkx : k < xs.length := by rw [hxl, ho.txt]; exact hkl
  have hki : k < G.ink.length := by rw [ho.ink]; exact hkl
  obtain ⟨b3, c3, rfl, x3, f3⟩ := hG.at3 hkx
  obtain ⟨b4, c4, rfl, x4, f4⟩ := hG.at4 hki
  have ct0 : ∀ o, (w.alloc o).cell? ⟨b2, r.length, none⟩ = some (.int .i64 (k : Int)) := fun o => ((Fr.refl No w).alloc o).cell ct (fun x => x)
  have hE : takeE G t = 0 := by unfold takeE; rw [if_neg (by omega), if_neg (by omega), if_pos hk, if_neg]; rintro ⟨h, _⟩; omega
  have hq := fun u => r_Blank_any Y u hys
  have hS : takeS G t = { G with txt := G.txt.set k (xs[k] ++ Y).data.toList, ink := G.ink.set k (G.ink[k] || !blankB Y.data.toList) } := by
    have e1 : G.txt[k]? = some xs[k].data.toList := by rw [← hG.ex]; simp [hkx]
    unfold takeS
    rw [if_neg (by omega), if_neg (by omega), if_neg (by omega), ht, Int.toNat_natCast, e1, List.getElem?_eq_getElem hki, app_list, hY]
    rfl
  rw [hE, hS]
  have hsk := hsz xs[k] (List.getElem_mem hkx)
  have htop := ho.top
  have hkI : ¬ (k : Int) < 0 := by omega
  have hxn : xs.length ≤ 500 := by rw [hxl, ho.txt]; exact htop
  have hin : G.ink.length ≤ 500 := by rw [ho.ink]; exact htop
  generalize hxk : xs[k] = Z at *
  generalize hik : G.ink[k] = z at *
  generalize blankB Y.data.toList = bl at *
  have HQ := Lib.hid hq; have HG := Lib.hid hG; have CT := Lib.hid ct
  clear hE hS hq hG hk hY hr ht ho ct hsz x3 f3 x4 f4 hxl
  cases z
  all_goals
    go_enter Tryz.func32, Tryz.ntmps32
    go_wp2
    go_name_world u hu
    have H1 := HG.out.start 3 X Y A n c em _ hu
    clear ct0 c1
    obtain ⟨hG1, hTb, hf1⟩ := H1
    have d1 : u.cell? ⟨g, 1, none⟩ = some _ := hG1.bk.cell 1
    have d2 : u.cell? ⟨g, 2, none⟩ = some _ := hG1.bk.cell 2
    have d3 : u.cell? ⟨g, 3, none⟩ = some _ := hG1.bk.cell 3
    have dk : u.cell? ⟨w.heap.size, 0, none⟩ = some (.int .i64 3) := hTb.cell 0
    have dy : u.cell? ⟨w.heap.size, 2, none⟩ = some (.string Y) := hTb.cell 2
    have dt := hf1.cell CT.out (fun x => x)
    have hwr : IntKind.i64.wrap (r.length : Int) = (r.length : Int) := IntWalk.i64_in _ ⟨by omega, by omega⟩
    go_quiet (fail)
    go_wp2
    go_name_world u3 hu3
    have hdu : Dr u u3 := by rw [← hu3]; exact (Dr.refl u).drewN _
    clear hu3
    refine wp_region_reads 15 (by kernel_rfl) (by kernel_rfl) ?_
    intro u4 hd4
    simp only [List.take_succ_cons, List.take_zero, List.drop_succ_cons, List.drop_zero]
    have hd : Dr u u4 := hdu.trans hd4
    have G4 := hG1.no hd.fr
    have d2 : u4.cell? ⟨g, 2, none⟩ = some _ := G4.bk.cell 2
    have dy : u4.cell? ⟨w.heap.size, 2, none⟩ = some (.string Y) := (hTb.no hd.fr).cell 2
    obtain ⟨b3', c3', e3, x3, f3⟩ := G4.at3 hkx
    injection e3 with e3 _ e3'
    injection e3 with e3
    injection e3 with e3
    subst e3 e3'
    rw [hxk] at x3
    have G5 := G4.set3 (Y := Z ++ Y) hkx
    have hf5 : Fr (fun i => base ≤ i) w (u4.setCell ⟨b3, k, none⟩ (.string (Z ++ Y))) := (hf1.trans hd.fr).no.setCell (p := ⟨b3, k, none⟩) (.inl (G4.o3.lt b3 rfl).1) _
    have hTb5 := (hTb.no hd.fr).fr ((Fr.refl (Just b3) u4).setCell (p := ⟨b3, k, none⟩) (.inl (Just.at b3)) (.string (Z ++ Y))) (fun e => by have e : w.heap.size = b3 := e; have := (HG.out.o3.lt b3 rfl).2; omega)
    have HG5 := Lib.hid G5; have HT5 := Lib.hid hTb5
    clear G5 G4 hG1 hTb hTb5 dt dk hu
    have hkxI : (k : Int) < (xs.length : Int) := by omega
    have hk0 : (0 : Int) ≤ (k : Int) := by omega
    have hcat : ¬ 9223372036854775807 < Z.size + Y.size := by omega
    repeat still_step
    refine wpStill_nil ?_
    go_wp2
    go_name_world u5 hu5
    rw [hu5] at hf5
    have HG6 := HG5.out
    have hTb6 := HT5.out
    rw [hu5] at HG6 hTb6
    clear hu5 HG5 HT5 d2 dy x3 f3
    refine wp_region_reads 18 (by kernel_rfl) (by kernel_rfl) ?_
    intro u6 hd6
    simp only [List.take_succ_cons, List.take_zero, List.drop_succ_cons, List.drop_zero]
    have G6 := HG6.no hd6.fr
    have d3 : u6.cell? ⟨g, 3, none⟩ = some _ := G6.bk.cell 3
    have dy : u6.cell? ⟨w.heap.size, 2, none⟩ = some (.string Y) := (hTb6.no hd6.fr).cell 2
    obtain ⟨b4', c4', e4, x4, f4⟩ := G6.at4 hki
    injection e4 with e4 _ e4'
    injection e4 with e4
    injection e4 with e4
    subst e4 e4'
    have hikI : (k : Int) < (G.ink.length : Int) := by omega
    have hk0 : (0 : Int) ≤ (k : Int) := by omega
    repeat still_step
    try still_call ((HQ.out _).mono (fun e w' h => ⟨h.1, h.2.symm⟩))
    repeat still_step
    refine wpStill_nil ?_
    go_wp2
    go_ret
    rw [app_list] at G6
    have G7 := fun y => GrV.set4 (G := { G with txt := G.txt.set k (Z.data.toList ++ Y.data.toList) }) (y := y) G6 hki
    have hf7 : Fr (fun i => base ≤ i) w u6 := hf5.dr hd6
    have hb4 := (G6.o4.lt b4 rfl).1
    refine ⟨rfl, hf7.setCell (p := ⟨b4, k, none⟩) (.inl hb4) _, ?_⟩
    first
      | exact ⟨_, _, _, _, _, G7 (!bl)⟩
      | exact ⟨_, _, _, _, _, G7 true⟩
end Go.Proofs.YtbfodbejdaafaaaGreatDoor
/- The statements' own tree that grows: two of its rows put anew at once; one more text, one more mark, as a step of a region that draws its order. -/
namespace Go.Proofs.YtbfodbejdaafaaaGreatDoor
open Go.RowKit
set_option maxHeartbeats 400000
set_option linter.unusedVariables false

variable {w : World} {base g : Nat} {v1 v2 v3 v4 : Value} {xs : List ByteArray} {G : Gro}
theorem GrV.put34 {u w2 : World} {v3' v4' : Value} (h : GrV u base g v1 v2 v3 v4 xs G) (hf : Fr (fun i => v3.ownBlock = some i ∨ v4.ownBlock = some i) u w2) {xs' : List ByteArray} (ho3 : w2.ownsRow base 9 1 v3' xs'.length (strs xs')) {ink' : List Bool} (ho4 : w2.ownsRow base 4 1 v4' ink'.length (bls ink'))
    (hv3 : v3'.ownBlock = v3.ownBlock ∨ ∀ i, v3'.ownBlock = some i → u.heap.size ≤ i) (hv4 : v4'.ownBlock = v4.ownBlock ∨ ∀ i, v4'.ownBlock = some i → u.heap.size ≤ i) (h34 : ∀ i, v3'.ownBlock = some i → v4'.ownBlock ≠ some i) :
    GrV ((w2.setCell ⟨g, 2, none⟩ v3').setCell ⟨g, 3, none⟩ v4') base g v1 v2 v3' v4' xs' { G with txt := xs'.map (fun x => x.data.toList), ink := ink' } := by
  have hs : Fr (Just g) w2 ((w2.setCell ⟨g, 2, none⟩ v3').setCell ⟨g, 3, none⟩ v4') := ((Fr.refl (Just g) w2).setCell (p := ⟨g, 2, none⟩) (.inl (Just.at g)) _).setCell (p := ⟨g, 3, none⟩) (.inl (Just.at g)) _
  have hgs : g < u.heap.size := h.bk.lt
  have hz := hf.size
  have hzz := hs.size
  have hb := ((h.bk.fr hf (fun e => e.elim h.ap.g3 h.ap.g4)).set_ 2 v3').set_ 3 v4'
  have l1 := h.o1.lt
  have l2 := h.o2.lt
  have hn3 : v3'.ownBlock ≠ some g := fresh_ne hv3 h.ap.g3 hgs
  have hn4 : v4'.ownBlock ≠ some g := fresh_ne hv4 h.ap.g4 hgs
  exact ⟨hb, h.low,
    ((h.o1.fr nod_ok hf (fun i hi e => e.elim hi.2.2.2.2.2.1 hi.2.2.2.2.2.2) (fun i e e2 => e2.elim (h.ap.h13 i e) (h.ap.h14 i e))).fr nod_ok hs (fun i hi e => hi.2.2.1 e) (fun i e e2 => h.ap.g1 (by rw [show g = i from e2.symm]; exact e))).mono nod_ok
      (fun i hi => ⟨hi.1, by have := hi.2.1; omega, hi.2.2.1, hi.2.2.2.1, hi.2.2.2.2.1, fresh_ne hv3 hi.2.2.2.2.2.1 hi.2.1, fresh_ne hv4 hi.2.2.2.2.2.2 hi.2.1⟩),
    hs.own (hf.own h.o2 (fun i e e2 => e2.elim (h.ap.h23 i e) (h.ap.h24 i e))) (fun i e e2 => h.ap.g2 (by rw [show g = i from e2.symm]; exact e)), rfl,
    hs.own ho3 (fun i e e2 => hn3 (by rw [show g = i from e2.symm]; exact e)), hs.own ho4 (fun i e e2 => hn4 (by rw [show g = i from e2.symm]; exact e)),
    ⟨h.ap.g1, h.ap.g2, hn3, hn4, h.ap.h12, (fun i e => fresh_ne hv3 (h.ap.h13 i e) (l1 i e).2), (fun i e => fresh_ne hv4 (h.ap.h14 i e) (l1 i e).2), (fun i e => fresh_ne hv3 (h.ap.h23 i e) (l2 i e).2), (fun i e => fresh_ne hv4 (h.ap.h24 i e) (l2 i e).2), h34⟩⟩
theorem gr_strs_app (l m : List ByteArray) : strs (l ++ m) = strs l ++ strs m := by simp [strs]
theorem gr_bls_app (l m : List Bool) : bls (l ++ m) = bls l ++ bls m := by simp [bls]
theorem gr_strs_one (l : List ByteArray) : ∀ u ∈ strs l, u.oneCell' = true := by
  intro u hu
  simp only [strs, List.mem_map] at hu
  obtain ⟨b, _, rfl⟩ := hu
  rfl
theorem gr_bls_one (l : List Bool) : ∀ u ∈ bls l, u.oneCell' = true := by
  intro u hu
  simp only [bls, List.mem_map] at hu
  obtain ⟨b, _, rfl⟩ := hu
  rfl
theorem stepS1 {ops : Array Oper} {o : Oper} {a : Act} {w : World} {K : Act → World → Prop} {Q : Exit → Act → World → Prop} {E : Prop} (hgd : Region.wanted o (yielded ops a.tmps) = true) (s x : Operand)
    (ho : o.op = .call { callee := .builtin .append, args := #[s, x], argTypes := #[72, 72] })
    (base : Nat) (v : Value) (n : Nat) (l : List ByteArray) (hs : a.eval s = v) (hown : w.ownsRow base 9 1 v n (strs l))
    (A : Option Addr) (c : Nat) (Y : ByteArray) (hx : a.eval x = .slice A 1 c) (hr : Rd w A 1 c (strs [Y])) (hb : n + 1 ≤ 4000000000) (hbase : base ≤ w.heap.size)
    (h : ∀ A' c' w', w'.ownsRow base 9 1 (.slice A' (n + 1) c') (n + 1) (strs (l ++ [Y])) → Fr (fun i => v.ownBlock = some i) w w' → ((Value.slice A' (n + 1) c').ownBlock = v.ownBlock ∨ (Value.slice A' (n + 1) c').ownBlock = some w.heap.size) → K (a.put o.dst (.slice A' (n + 1) c')) w') :
    if Region.wanted o (yielded ops a.tmps) = true then Oper.wp Tryz.prog o a w K Q else E := by
  rw [if_pos hgd]
  obtain ⟨i, hi, hz, h1, h2⟩ := info_parts info_str
  obtain ⟨v', w', hrun, g1, g2, g3⟩ := run_append_rd (P := Tryz.prog) w base 72 o.type 9 i (.string ⟨#[]⟩) 16 Tryz.underlying72 hi hz h1 h2 rfl v n (strs l) hown A 1 c (strs [Y]) hr (gr_strs_one _) (by simp only [maxLen]; omega) (by omega) hbase
  unfold Oper.wp execOp
  simp only [ho, resolve, invoke, builtin, Sem.run_bind, Sem.run_pure, Result.andThen_ok, List.map_toArray, List.map_cons, List.map_nil, hs, hx, hrun]
  obtain ⟨A', c', rfl, -⟩ := Rd.of_own g1
  exact h A' c' w' (by rw [gr_strs_app]; exact g1) ((Fr.refl _ w).grown g2 (fun g e => .inl e)) g3
theorem stepB1 {ops : Array Oper} {o : Oper} {a : Act} {w : World} {K : Act → World → Prop} {Q : Exit → Act → World → Prop} {E : Prop} (hgd : Region.wanted o (yielded ops a.tmps) = true) (s x : Operand)
    (ho : o.op = .call { callee := .builtin .append, args := #[s, x], argTypes := #[73, 73] })
    (base : Nat) (v : Value) (n : Nat) (l : List Bool) (hs : a.eval s = v) (hown : w.ownsRow base 4 1 v n (bls l))
    (A : Option Addr) (c : Nat) (Y : Bool) (hx : a.eval x = .slice A 1 c) (hr : Rd w A 1 c (bls [Y])) (hb : n + 1 ≤ 4000000000) (hbase : base ≤ w.heap.size)
    (h : ∀ A' c' w', w'.ownsRow base 4 1 (.slice A' (n + 1) c') (n + 1) (bls (l ++ [Y])) → Fr (fun i => v.ownBlock = some i) w w' → ((Value.slice A' (n + 1) c').ownBlock = v.ownBlock ∨ (Value.slice A' (n + 1) c').ownBlock = some w.heap.size) → K (a.put o.dst (.slice A' (n + 1) c')) w') :
    if Region.wanted o (yielded ops a.tmps) = true then Oper.wp Tryz.prog o a w K Q else E := by
  rw [if_pos hgd]
  obtain ⟨i, hi, hz, h1, h2⟩ := info_parts info_bool
  obtain ⟨v', w', hrun, g1, g2, g3⟩ := run_append_rd (P := Tryz.prog) w base 73 o.type 4 i (.bool false) 1 Tryz.underlying73 hi hz h1 h2 rfl v n (bls l) hown A 1 c (bls [Y]) hr (gr_bls_one _) (by simp only [maxLen]; omega) (by omega) hbase
  unfold Oper.wp execOp
  simp only [ho, resolve, invoke, builtin, Sem.run_bind, Sem.run_pure, Result.andThen_ok, List.map_toArray, List.map_cons, List.map_nil, hs, hx, hrun]
  obtain ⟨A', c', rfl, -⟩ := Rd.of_own g1
  exact h A' c' w' (by rw [gr_bls_app]; exact g1) ((Fr.refl _ w).grown g2 (fun g e => .inl e)) g3
/-- one text, one mark, just laid in a block of its own; behind another block, too -/
theorem lit_s (w : World) (Y : ByteArray) (t : TypeId) : Rd (w.alloc (.cells #[.string Y] t)) (some ⟨w.heap.size, 0, none⟩) 1 1 (strs [Y]) :=
  (Bk.new w t #[.string Y]).rd (n := 1) (cap := 1) (Nat.le_refl _) (by simp [maxLen]) (by simp)
theorem lit_s2 (w : World) (o : Obj) (Y : ByteArray) (t : TypeId) : Rd ((w.alloc o).alloc (.cells #[.string Y] t)) (some ⟨w.heap.size + 1, 0, none⟩) 1 1 (strs [Y]) := by
  have h := lit_s (w.alloc o) Y t
  rwa [show (w.alloc o).heap.size = w.heap.size + 1 by simp] at h
theorem lit_b (w : World) (Y : Bool) (t : TypeId) : Rd (w.alloc (.cells #[.bool Y] t)) (some ⟨w.heap.size, 0, none⟩) 1 1 (bls [Y]) :=
  (Bk.new w t #[.bool Y]).rd (n := 1) (cap := 1) (Nat.le_refl _) (by simp [maxLen]) (by simp)
theorem lit_b2 (w : World) (o : Obj) (Y : Bool) (t : TypeId) : Rd ((w.alloc o).alloc (.cells #[.bool Y] t)) (some ⟨w.heap.size + 1, 0, none⟩) 1 1 (bls [Y]) := by
  have h := lit_b (w.alloc o) Y t
  rwa [show (w.alloc o).heap.size = w.heap.size + 1 by simp] at h
end Go.Proofs.YtbfodbejdaafaaaGreatDoor
