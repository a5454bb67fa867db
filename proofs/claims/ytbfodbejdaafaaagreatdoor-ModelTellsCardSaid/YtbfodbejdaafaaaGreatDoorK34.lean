/- The texts ModFile, joined. -/
import Derived.Test.YtbfodbejdaafaaaGreatDoorK23
import Derived.Test.YtbfodbejdaafaaaGreatDoorK33
import Derived.Test.YtbfodbejdaafaaaGreatDoorK21
import Derived.Test.YtbfodbejdaafaaaGreatDoorK12
import Derived.Test.YtbfodbejdaafaaaGreatDoorK32
/- Package model: the checks of one node: contracts. -/
namespace Go.Proofs.YtbfodbejdaafaaaGreatDoor
open Go.RowKit
set_option maxHeartbeats 1000000
set_option linter.unusedVariables false

/-- a file that is checked: its nodes, and what each place's parent has it as -/
structure FileT (w : World) (g G : Nat) (A : Option Addr) (n c : Nat) (N : Nat → Prop) (ns : List Nod) (a : List Chd) : Prop where
  bk : Bk w g 47 [.slice A n c, .slice (some ⟨G, 0, none⟩) n n]
  as_ : Bk w G 32 (cellsL a)
  len : a.length = n
  rd : RdI 4 NodI w N A n c ns
  ne : g ≠ G
  hN : ∀ i, N i → i ≠ g ∧ i ≠ G
variable {w w' : World} {g G : Nat} {A : Option Addr} {n c : Nat} {N : Nat → Prop} {ns : List Nod} {a : List Chd}
theorem FileT.no (h : FileT w g G A n c N ns a) (hf : Fr No w w') : FileT w' g G A n c N ns a := ⟨h.bk.no hf, h.as_.no hf, h.len, h.rd.no nod_ok hf, h.ne, h.hN⟩
theorem FileT.c0 (h : FileT w g G A n c N ns a) : w.cell? ⟨g, 0, none⟩ = some (.slice A n c) := h.bk.cell 0
theorem FileT.c1 (h : FileT w g G A n c N ns a) : w.cell? ⟨g, 1, none⟩ = some (.slice (some ⟨G, 0, none⟩) n n) := h.bk.cell 1
theorem m_unless (b : Bool) (w : World) : Calls Tryz.prog 63 #[.bool b] w fun e w' => e = .returned (.int .i64 (if b then 0 else 13)) ∧ w = w' := by
  cases b <;>
  · go_enter Tryz.func63, Tryz.ntmps63
    go_wp2
    go_ret
    exact ⟨rfl, rfl⟩
theorem m_bare (i : Nat) (h : FileT w g G A n c N ns a) (hi : i < n) (hil : i < ns.length) : Calls Tryz.prog 36 #[.pointer (some ⟨g, 0, none⟩), .int .i64 (i : Int)] w fun e w' => e = .returned (.int .i64 (if ns[i].attrs = [] then 0 else 13)) ∧ Fr No w w' := by
  have hiI : (i : Int) < (n : Int) := by omega
  obtain ⟨ad, rfl, P, X, Y, A1, n1, c1, hP, z0, z1, z2, z3, hX, hY, hA1⟩ := nod_cells h.rd hil
  have f0 := h.c0
  have hl := hA1.len attr_ok (by omega)
  have HU := Lib.hid m_unless
  by_cases hn : n1 = 0
  · subst hn
    have ha : ns[i].attrs = [] := List.eq_nil_of_length_eq_zero hl
    rw [if_pos ha]
    clear h hX hY hA1 hl ha
    go_enter Tryz.func36, Tryz.ntmps36
    go_wp2_with (first
      | (go_at_call 63; refine (HU.out true _).mono ?_; rintro e w1 ⟨rfl, rfl⟩))
    go_ret
    exact ⟨rfl, Fr.refl _ _⟩
  · have ha : ns[i].attrs ≠ [] := fun e => hn (by rw [← hl, e]; rfl)
    rw [if_neg ha]
    have hq : ((n1 : Int) == 0) = false := by rw [beq_eq_false_iff_ne]; omega
    clear h hX hY hA1 hl ha hn
    go_enter Tryz.func36, Tryz.ntmps36
    go_wp2_with (first
      | (go_at_call 63; rw [hq]; refine (HU.out false _).mono ?_; rintro e w1 ⟨rfl, rfl⟩)
      | (go_at_call 63; refine (HU.out false _).mono ?_; rintro e w1 ⟨rfl, rfl⟩))
    go_ret
    exact ⟨rfl, Fr.refl _ _⟩
theorem same_pair {x y p q : ByteArray} : ((x.data.toList, y.data.toList) = (p.data.toList, q.data.toList)) ↔ (x.toList == p.toList && y.toList == q.toList) = true := by
  rw [Bool.and_eq_true, beq_iff_eq, beq_iff_eq, Prod.mk.injEq, s_list, s_list, s_list, s_list]
/-- one attribute alone, held against a row of attributes -/
theorem m_equal (l : List (List UInt8 × List UInt8)) (A : Option Addr) (n c : Nat) (N : Nat → Prop) (w : World) (h : RdI 2 AttrI w N A n c l) (B : Addr) (p q : ByteArray) (h0 : w.cell? B = some (.string p)) (h1 : w.cell? ⟨B.block, B.off + 1, none⟩ = some (.string q)) (hB : B.add 0 = B) :
    Calls Tryz.prog 66 #[.slice A n c, .slice (some B) 1 1] w fun e w' => e = .returned (.bool (decide (l = [(p.data.toList, q.data.toList)]))) ∧ Fr No w w' := by
  have hl := h.len attr_ok (by omega)
  by_cases hn : n = 1
  · subst hn
    obtain ⟨ad, ds, rfl, ⟨X, Y, rfl, hX, hY⟩, hc⟩ := h.at_ attr_ok (by omega) (show 0 < l.length by omega)
    have x0 := hc 0 _ rfl
    have x1 := hc 1 _ rfl
    rw [add_next ad] at x1
    rw [Nat.zero_mul, Nat.add_zero] at x0
    rw [Nat.zero_mul] at x1
    obtain ⟨P, hP⟩ : ∃ P, ad.add 0 = P := ⟨_, rfl⟩
    have hPe : ad = P := by rw [← hP]; unfold Addr.add; simp
    rw [hP] at x0 x1
    subst hPe
    have x1 : w.cell? ⟨ad.block, ad.off + 1, none⟩ = some (.string Y) := x1
    have hv : decide (l = [(p.data.toList, q.data.toList)]) = (X.toList == p.toList && Y.toList == q.toList) := by
      rw [Bool.eq_iff_iff, decide_eq_true_iff, ← same_pair, attrs_one hl, Prod.mk.injEq, hX, hY]
    rw [hv]
    clear hv hc hX hY h hl hP
    cases e1 : (X.toList == p.toList) <;> cases e2 : (Y.toList == q.toList)
    all_goals
      go_enter Tryz.func66, Tryz.ntmps66
      go_wp2
      refine wp_loop_rounds 2 ?_
      rw [rounds_succ]
      go_wp2
      go_quiet (fail)
      go_wp2
      first
        | (go_ret; exact ⟨rfl, ((Dr.refl w).drewN nq).fr⟩)
        | (rw [rounds_succ]; go_wp2; go_ret; exact ⟨rfl, ((Dr.refl w).drewN nq).fr⟩)
  · have hv : decide (l = [(p.data.toList, q.data.toList)]) = false := by
      rw [decide_eq_false_iff_not]
      intro e
      rw [e] at hl
      exact hn hl.symm
    rw [hv]
    have hq : ¬ (n : Int) = 1 := by omega
    clear h hl hv hn h0 h1
    go_enter Tryz.func66, Tryz.ntmps66
    go_wp2
    go_ret
    exact ⟨rfl, Fr.refl _ _⟩
theorem two_new (w : World) (o : Obj) (t : TypeId) (p q : ByteArray) : ((w.alloc o).alloc (.cells #[.string p, .string q] t)).cell? ⟨w.heap.size + 1, 0, none⟩ = some (.string p) ∧ ((w.alloc o).alloc (.cells #[.string p, .string q] t)).cell? ⟨w.heap.size + 1, 0 + 1, none⟩ = some (.string q) := by
  have h := Bk.new (w.alloc o) t #[.string p, .string q]
  have e : (w.alloc o).heap.size = w.heap.size + 1 := by simp
  rw [e] at h
  exact ⟨h.cell 0, h.cell 1⟩
theorem add_zero_at (g : Nat) : (⟨g, 0, none⟩ : Addr).add 0 = ⟨g, 0, none⟩ := by unfold Addr.add; simp
theorem m_first (h : FileT w g G A n c N ns a) (hil : 0 < ns.length) : Calls Tryz.prog 38 #[.pointer (some ⟨g, 0, none⟩), .int .i64 0] w fun e w' => e = .returned (.int .i64 (if firstB ns then 0 else 13)) ∧ Fr No w w' := by
  have hlen := h.rd.len nod_ok (by omega)
  have hiI : (0 : Int) < (n : Int) := by omega
  obtain ⟨ad, rfl, P, X, Y, A1, n1, c1, hP, z0, z1, z2, z3, hX, hY, hA1⟩ := nod_cells h.rd hil
  have f0 := h.c0
  have HU := Lib.hid m_unless
  have hfb := first_name hil
  rw [hfb]
  clear hfb
  have hP0 : ad = P := by rw [← hP, Nat.zero_mul]; unfold Addr.add; simp
  subst hP0
  by_cases q1 : ns[0].name = docS
  · have hq : (X.toList == [68, 111, 99, 117, 109, 101, 110, 116]) = true := by rw [beq_iff_eq, s_list, hX]; exact q1
    have hEq := fun u (hf : Fr No w u) B h0 h1 hB => m_equal ns[0].attrs A1 n1 c1 N u (hA1.no attr_ok hf) B ⟨xmlnsS.toArray⟩ ⟨caaaS.toArray⟩ h0 h1 hB
    rw [decide_eq_true q1, Bool.true_and]
    have e1 : ((⟨xmlnsS.toArray⟩ : ByteArray).data.toList, (⟨caaaS.toArray⟩ : ByteArray).data.toList) = (xmlnsS, caaaS) := rfl
    rw [e1] at hEq
    generalize decide (ns[0].attrs = [(xmlnsS, caaaS)]) = b at *
    have HE := Lib.hid hEq
    clear hEq hX hY hA1 h q1 e1
    unfold xmlnsS caaaS at HE
    cases b
    all_goals
      go_enter Tryz.func38, Tryz.ntmps38
      go_wp2_with (first
        | (go_at_call 66; refine (HE.out _ (((Fr.refl No w).alloc _).alloc _) ⟨w.heap.size + 1, 0, none⟩ (two_new _ _ _ _ _).1 (two_new _ _ _ _ _).2 (add_zero_at _)).mono ?_; rintro e w1 ⟨rfl, hf1⟩)
        | (go_at_call 63; refine (HU.out _ _).mono ?_; rintro e w2 ⟨rfl, rfl⟩))
      go_ret
      exact ⟨rfl, (((Fr.refl No w).alloc _).alloc _).trans hf1⟩
  · have hq : (X.toList == [68, 111, 99, 117, 109, 101, 110, 116]) = false := by rw [beq_eq_false_iff_ne, s_list, hX]; exact q1
    rw [decide_eq_false q1, Bool.false_and]
    clear hX hY hA1 h q1
    go_enter Tryz.func38, Tryz.ntmps38
    go_wp2_with (first
      | (go_at_call 63; refine (HU.out false _).mono ?_; rintro e w2 ⟨rfl, rfl⟩))
    go_ret
    exact ⟨rfl, (Fr.refl No w).alloc _⟩
theorem m_plain_kids (i : Nat) (h : FileT w g G A n c N ns a) (hi : i < n) (hn : n ≤ 1000000) (hk : kidsL ns (i : Int) ≠ []) : Calls Tryz.prog 37 #[.pointer (some ⟨g, 0, none⟩), .int .i64 (i : Int)] w fun e w' => e = .returned (.int .i64 13) ∧ Fr No w w' := by
  have hkd := fun u (hf : Fr No w u) => kids_any ns A n c (i : Int) N u (h.rd.no nod_ok hf) (by omega)
  have hq0 : ((kidsL ns (i : Int)).length : Int) > 0 := by have := List.length_pos_iff.2 hk; omega
  have f0 := h.c0
  have HK := Lib.hid hkd
  clear hkd hk h
  generalize (kidsL ns (i : Int)).length = q at *
  go_enter Tryz.func37, Tryz.ntmps37
  go_wp2_with (go_at_call 64; refine (HK.out _ (Fr.refl _ _)).mono ?_; rintro e w3 ⟨v, rfl, ho3, hf3⟩; obtain ⟨K, ck, rfl, hrk, -⟩ := Rd.of_own ho3; clear ho3 hrk)
  go_ret
  exact ⟨rfl, hf3⟩
theorem cells_reg {w : World} {p : Nat} {a : List Chd} {G : Nat} {t : TypeId} (h : Bk w G t (cellsL a)) (hp : p < a.length) : w.cell? ⟨G, p * 6, none⟩ = some (.string a[p].nm) ∧ w.cell? ⟨G, p * 6 + 1, none⟩ = some (.int .i64 a[p].mn) ∧ w.cell? ⟨G, p * 6 + 2, none⟩ = some (.int .i64 a[p].mx) ∧ w.cell? ⟨G, p * 6 + 3, none⟩ = some (.int .i64 a[p].ty) ∧ w.cell? ⟨G, p * 6 + 4, none⟩ = some (.int .i64 a[p].low) ∧ w.cell? ⟨G, p * 6 + 5, none⟩ = some (.int .i64 a[p].top) := by
  refine ⟨?_, ?_, ?_, ?_, ?_, ?_⟩
  · rw [h.cell]; exact cells_at a p 0 hp (by omega)
  · rw [h.cell]; exact cells_at a p 1 hp (by omega)
  · rw [h.cell]; exact cells_at a p 2 hp (by omega)
  · rw [h.cell]; exact cells_at a p 3 hp (by omega)
  · rw [h.cell]; exact cells_at a p 4 hp (by omega)
  · rw [h.cell]; exact cells_at a p 5 hp (by omega)
theorem add_at (g i : Nat) : (⟨g, 0, none⟩ : Addr).add i = ⟨g, i, none⟩ := by unfold Addr.add; split <;> simp_all
theorem m_plain_leaf (i : Nat) (d : Chd) (h : FileT w g G A n c N ns a) (hi : i < n) (hil : i < ns.length) (hn : n ≤ 1000000) (hk : kidsL ns (i : Int) = []) (hd : a[i]? = some d) (hs : NodW ns[i]) (hT : Tabs w) : Calls Tryz.prog 37 #[.pointer (some ⟨g, 0, none⟩), .int .i64 (i : Int)] w fun e w' => e = .returned (.int .i64 (chkE d.ty d.low d.top ns[i].text)) ∧ Fr No w w' := by
  have hiI : (i : Int) < (n : Int) := by omega
  have hkd := fun u (hf : Fr No w u) => kids_any ns A n c (i : Int) N u (h.rd.no nod_ok hf) (by omega)
  rw [hk] at hkd
  have hia : i < a.length := by rw [h.len]; exact hi
  rw [List.getElem?_eq_getElem hia] at hd
  injection hd with hd
  obtain ⟨ad, rfl, P, X, Y, A1, n1, c1, hP, z0, z1, z2, z3, hX, hY, hA1⟩ := nod_cells h.rd hil
  obtain ⟨d0, d1, d2, d3, d4, d5⟩ := cells_reg h.as_ hia
  rw [hd] at d0 d1 d2 d3 d4 d5
  have hYs : Y.size ≤ 140737488355328 := by rw [← size_list, hY]; exact hs.text
  have hck := fun u (hu : Tabs u) => s_check_any (nm := d.nm) (mn := d.mn) (mx := d.mx) (ty := d.ty) (low := d.low) (top := d.top) Y u hYs hu
  rw [hY] at hck
  generalize chkE d.ty d.low d.top ns[i].text = E at *
  have f0 := h.c0
  have f1 := h.c1
  have HK := Lib.hid hkd; have HC := Lib.hid hck
  have hG : (⟨G, 0, none⟩ : Addr).add (i * 6) = ⟨G, i * 6, none⟩ := add_at G (i * 6)
  clear hkd hk h hck hd hX hY hA1 hs
  go_enter Tryz.func37, Tryz.ntmps37
  go_wp2_with (go_at_call 64; refine (HK.out _ (Fr.refl _ _)).mono ?_; rintro e w3 ⟨v, rfl, ho3, hf3⟩; obtain ⟨K, ck, rfl, hrk, -⟩ := Rd.of_own ho3; clear ho3 hrk)
  have F0 := hf3.cell f0 (fun x => x); have F1 := hf3.cell f1 (fun x => x)
  have Y2 := hf3.cell z2 (fun x => x)
  have D0 := hf3.cell d0 (fun x => x); have D1 := hf3.cell d1 (fun x => x); have D2 := hf3.cell d2 (fun x => x); have D3 := hf3.cell d3 (fun x => x); have D4 := hf3.cell d4 (fun x => x); have D5 := hf3.cell d5 (fun x => x)
  have T3 := Lib.hid (hT.fr hf3); have F3 := Lib.hid hf3
  clear f0 f1 z0 z1 z2 z3 d0 d1 d2 d3 d4 d5 hT hf3
  have g0 := cell_regrown F0; have g1 := cell_regrown F1; have g2 := cell_regrown Y2
  have k0 := cell_regrown D0; have k1 := cell_regrown D1; have k2 := cell_regrown D2; have k3 := cell_regrown D3; have k4 := cell_regrown D4; have k5 := cell_regrown D5
  refine wp_region_quiet_below (by kernel_rfl) (by kernel_rfl) ?_
  repeat (first
    | quiet_step ((first
      | (go_at_call 65; exact Calls.regrown_of (below_of (HC.out _ (T3.out.fr (fr_regrown _ _ _))))))))
  refine wpQuiet_nil ?_
  intro w9 hw9r
  obtain ⟨⟨nr, osr⟩, hw9r⟩ := hw9r
  have hf9 : Fr No w3 w9 := by rw [hw9r]; exact fr_regrown w3 nr osr
  clear hw9r
  go_wp2
  go_ret
  exact ⟨rfl, F3.out.trans hf9⟩
end Go.Proofs.YtbfodbejdaafaaaGreatDoor
