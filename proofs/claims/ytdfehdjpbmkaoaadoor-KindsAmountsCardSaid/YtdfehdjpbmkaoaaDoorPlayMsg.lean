/- The statements' own messages: a whole message. -/
import Derived.Test.YtdfehdjpbmkaoaaDoorPlayMore
import Derived.Test.YtdfehdjpbmkaoaaDoorPlayTag3
import Derived.Test.YtdfehdjpbmkaoaaDoorRefCod
namespace Go.Proofs.YtdfehdjpbmkaoaaDoor
open Go.RowKit
set_option maxHeartbeats 2000000
set_option linter.unusedVariables false
set_option linter.unusedSimpArgs false

/-- an alloc at a step of a region that draws -/
theorem stepA {ops : Array Oper} {o : Oper} {a : Act} {w : World} {K : Act → World → Prop} {Q : Exit → Act → World → Prop} {E : Prop} (hgd : Region.wanted o (yielded ops a.tmps) = true) (ho : o.op = .alloc 29)
    (h : ∀ g w', Bk w' g 29 m0c → Fr No w w' → w.heap.size ≤ g → g < w'.heap.size → K (a.put o.dst (.pointer (some ⟨g, 0, none⟩))) w') :
    if Region.wanted o (yielded ops a.tmps) = true then Oper.wp Tryd.prog o a w K Q else E := by
  have h0 := h w.heap.size _ (Bk.new w 29 m0c.toArray) ((Fr.refl No w).alloc _) (Nat.le_refl _) (by simp)
  clear h
  rw [if_pos hgd]
  obtain ⟨dst, op, type, pos, after, guard⟩ := o
  subst ho
  go_simp
  exact h0
/-- a whole block is written at a step of a region that draws -/
theorem stepS {P : Program} {ops : Array Oper} {o : Oper} {a : Act} {w : World} {K : Act → World → Prop} {Q : Exit → Act → World → Prop} {E : Prop} (hgd : Region.wanted o (yielded ops a.tmps) = true) (ty : TypeId) (x y : Operand) (ho : o.op = .store ty x y) (g : Nat) (hx : a.eval x = .pointer (some ⟨g, 0, none⟩)) {t : TypeId} (cs vs : List Value) (hy : a.eval y = .agg vs.toArray) (hc : Bk w g t cs)
    (hl : vs.length = cs.length) (hi : (P.info? ty).map (·.size) = some vs.length) (h1 : vs.toArray.all (·.oneCell') = true)
    (h : ∀ w', Bk w' g t vs → Fr (Just g) w w' → w'.heap.size = w.heap.size → K (a.put o.dst undef) w') :
    if Region.wanted o (yielded ops a.tmps) = true then Oper.wp P o a w K Q else E := by
  rw [if_pos hgd]
  exact wp_store_mid ty x y ho g 0 vs.toArray hx hy (by rw [List.size_toArray, hl]; exact hc.there) (by rw [hi]; simp) h1
    (h _ (by have := Bk.setCells vs 0 hc; rwa [setL_all hl] at this) (Fr.setCells vs 0 (Fr.refl _ w) (.inl (Just.at g))) (setCells_size g _ 0 w))
/-- an alloc of a row of the table -/
theorem stepR {ops : Array Oper} {o : Oper} {a : Act} {w : World} {K : Act → World → Prop} {Q : Exit → Act → World → Prop} {E : Prop} (hgd : Region.wanted o (yielded ops a.tmps) = true) (ho : o.op = .alloc 37)
    (h : ∀ g w', Bk w' g 37 [.string ⟨#[]⟩, .string ⟨#[]⟩, .string ⟨#[]⟩, .string ⟨#[]⟩] → Fr No w w' → w.heap.size ≤ g → g < w'.heap.size → K (a.put o.dst (.pointer (some ⟨g, 0, none⟩))) w') :
    if Region.wanted o (yielded ops a.tmps) = true then Oper.wp Tryd.prog o a w K Q else E := by
  have h0 := h w.heap.size _ (Bk.new w 37 #[.string ⟨#[]⟩, .string ⟨#[]⟩, .string ⟨#[]⟩, .string ⟨#[]⟩]) ((Fr.refl No w).alloc _) (Nat.le_refl _) (by simp)
  clear h
  rw [if_pos hgd]
  obtain ⟨dst, op, type, pos, after, guard⟩ := o
  subst ho
  go_simp
  exact h0
theorem rowSize4 (r : KRow) : (Tryd.prog.info? 37).map (·.size) = some (rowV r).length := by kernel_rfl
theorem row_one (r : KRow) : (rowV r).toArray.all (·.oneCell') = true := by simp [rowV, Value.oneCell']
theorem wrap_in64 (n : Int) : -9223372036854775808 ≤ IntKind.i64.wrap n ∧ IntKind.i64.wrap n ≤ 9223372036854775807 := by
  have h := wrap_within .i64 n
  have e1 : IntKind.i64.min = -9223372036854775808 := rfl
  have e2 : IntKind.i64.max = 9223372036854775807 := rfl
  rw [e1, e2] at h
  exact h
theorem bstr_self (s : ByteArray) : bstr s.data.toList = s := by
  rcases s with ⟨⟨l⟩⟩
  rfl
theorem p_time2 (s : ByteArray) (w : World) (hs : s.size ≤ maxLen) :
    Calls Tryd.prog 18 #[.string s] w fun e w' => e = .returned (.string (bstr (nowTL s.data.toList))) ∧ Dr w w' := by
  refine (p_time s w hs).mono ?_
  rintro e w' ⟨T, rfl, hT, hd⟩
  exact ⟨by rw [← hT, bstr_self], hd⟩
def z0 : MsgC := ⟨0, 0, ⟨#[]⟩, ⟨#[]⟩, ⟨#[]⟩, ⟨#[]⟩, 0, ⟨#[]⟩, ⟨#[]⟩, ⟨#[]⟩, ⟨#[]⟩, 0, ⟨#[]⟩, ⟨#[]⟩, 0, ⟨#[]⟩, none, 0, 0, ⟨#[]⟩, ⟨#[]⟩, none, 0, 0, none, 0, 0⟩
/-- the kind that a message gets, from 0 to 10, less one -/
def kindN (m : MsgC) : Nat := modN (IntKind.i64.wrap (m.kind - 1)) 11
/-- what each message has -/
def msg0 (m : MsgC) : MsgC := { z0 with kind := ((kindN m + 1 : Nat) : Int), stan := (modN m.stan 1000000 : Int), time := bstr (nowTL m.time.data.toList), acq := bstr (digL m.acq.data.toList 1 11) }
theorem kindN_lt (m : MsgC) : kindN m < 11 := (modN_lt _ 11 (by omega) (by omega)).1
def upd (b : Bool) (f : MsgC → MsgC) (o : MsgC) : MsgC := if b then f o else o
theorem upd_t {b : Bool} {f : MsgC → MsgC} {o : MsgC} (h : b = true) : upd b f o = f o := by rw [upd, if_pos h]
theorem upd_f {b : Bool} {f : MsgC → MsgC} {o : MsgC} (h : b = false) : upd b f o = o := by rw [upd, h]; rfl
theorem p_text2 (s : ByteArray) (top : Nat) (w : World) (hs : s.size ≤ 140737488355328) (ht : top ≤ 1000) :
    Calls Tryd.prog 23 #[.string s, .int .i64 (top : Int), .int .i64 0] w fun e w' => e = .returned (.string (bstr (txtL s.data.toList top 0))) ∧ w = w' := by
  refine (p_text s top 0 w hs ht).mono ?_
  rintro e w' ⟨T, rfl, hT, rfl⟩
  exact ⟨by rw [← hT, bstr_self], rfl⟩
theorem kRow_small {n : Nat} (h : n < 12) : (kRow n).must.size ≤ 11 ∧ (kRow n).may.size ≤ 11 := by
  have h2 := small_table
  by_cases h0 : n = 0
  · subst h0
    decide
  · have h3 := row_small (n : Int)
    rw [show rowOf (n : Int) = kRow n by unfold rowOf; rw [if_pos (by omega), Int.toNat_natCast]] at h3
    exact h3
def mP (r : KRow) (m o : MsgC) : MsgC := upd (wantB r 80 (!m.pan.toList.isEmpty)) (fun o => { o with pan := bstr (digL m.pan.data.toList 12 19) }) o
def mC (r : KRow) (m o : MsgC) : MsgC := upd (wantB r 67 (!m.cur.toList.isEmpty)) (fun o => { o with cur := bstr (digL m.cur.data.toList 3 3), amount := m.amount.tmod 1000000000000 }) o
def mR (r : KRow) (m o : MsgC) : MsgC := upd (wantB r 82 (!m.rrn.toList.isEmpty)) (fun o => { o with rrn := bstr (alnL m.rrn.data.toList 12) }) o
def mM (r : KRow) (m o : MsgC) : MsgC := upd (wantB r 77 (!m.mer.toList.isEmpty)) (fun o => { o with mer := bstr (txtL m.mer.data.toList 35 0) }) o
def mT (r : KRow) (m o : MsgC) : MsgC := upd (wantB r 84 (!m.ter.toList.isEmpty)) (fun o => { o with ter := bstr (txtL m.ter.data.toList 35 0) }) o
def mA (r : KRow) (m o : MsgC) : MsgC := upd (wantB r 65 (!m.app.toList.isEmpty)) (fun o => { o with app := bstr (alnL m.app.data.toList 6) }) o
def mE (r : KRow) (m o : MsgC) : MsgC := upd (wantB r 69 (m.entry != 0)) (fun o => { o with entry := (modN m.entry 999 : Int) + 1 }) o
def actN (m : MsgC) : Nat := modN (IntKind.i64.wrap ((m.act.size : Int) + m.entry)) 22
def actP (m : MsgC) : ByteArray := if wK m.act then m.act else actsL.getD (actN m) ⟨#[]⟩
def mD (r : KRow) (m o : MsgC) : MsgC := upd (wantB r 68 (!m.act.toList.isEmpty)) (fun o => { o with act := actP m }) o
def mN (r : KRow) (m o : MsgC) : MsgC := upd (wantB r 78 (!m.rea.toList.isEmpty)) (fun o => { o with rea := bstr (digL m.rea.data.toList 4 4) }) o
def mO (r : KRow) (m o : MsgC) : MsgC := upd (wantB r 79 (!m.otime.toList.isEmpty)) (fun o => { o with ostan := (modN m.ostan 1000000 : Int), otime := bstr (nowTL m.otime.data.toList) }) o
/-- the parts that a message gets, one behind the other -/
def chainM (r : KRow) (m o : MsgC) : MsgC := mO r m (mN r m (mD r m (mE r m (mA r m (mT r m (mM r m (mR r m (mC r m (mP r m o)))))))))
def wantG (r : KRow) (m : MsgC) : Bool := wantB r 71 (decide (0 < m.tn))
def gM (r : KRow) (m : MsgC) (A : Option Addr) (k c : Nat) (o : MsgC) : MsgC := upd (wantG r m) (fun o => { o with tA := A, tn := k, tc := c }) o
/-- its tags -/
def GAt (r : KRow) (m o : MsgC) (g : Nat) (wx : World) : Prop := ∃ (A : Option Addr) (k c : Nat) (ls : List (Int × List UInt8)), Bk wx g 29 (gM r m A k c o).cells ∧ (wantG r m = true → 1 ≤ k ∧ k ≤ 6 ∧ wrE ls = 0 ∧ RdI 2 TagI wx (fun i => g < i ∧ i < wx.heap.size) A k c ls)
/-- what comes out: a message of that kind, what it must and may have, and what More says beside -/
def MsgEnd (m : MsgC) (w : World) (e : Ending) (w' : World) : Prop := ∃ (A : Option Addr) (k c : Nat) (ls : List (Int × List UInt8)) (o' : MsgC), e = .returned o'.val ∧ Core (gM (kRow (kindN m + 1)) m A k c (chainM (kRow (kindN m + 1)) m (msg0 m))) o' ∧
  (wantG (kRow (kindN m + 1)) m = true → 1 ≤ k ∧ k ≤ 6 ∧ wrE ls = 0 ∧ RdI 2 TagI w' (fun i => w.heap.size ≤ i ∧ i < w'.heap.size) A k c ls) ∧ Fr No w w'
theorem ext_upd {b : Bool} {f : MsgC → MsgC} {o : MsgC} (h : ∀ o, (f o).eA = o.eA ∧ (f o).en = o.en ∧ (f o).ec = o.ec) (ho : o.eA = none ∧ o.en = 0 ∧ o.ec = 0) : (upd b f o).eA = none ∧ (upd b f o).en = 0 ∧ (upd b f o).ec = 0 := by
  cases b with
  | false => exact ho
  | true => exact ⟨(h o).1.trans ho.1, (h o).2.1.trans ho.2.1, (h o).2.2.trans ho.2.2⟩
theorem wrap64_i64 (n : Int) : wrap64 n = IntKind.i64.wrap n := by rw [IntKind.wrap_i64]; unfold wrap64; omega
theorem acts_cell {w : World} {ad : Addr} {k : Nat} {u : Value} (hu : (strs actsL)[k]? = some u) (hc : w.cell? (ad.add k) = some u) : w.cell? (ad.add k) = some (.string (actsL.getD k ⟨#[]⟩)) := by
  unfold strs at hu
  rw [List.getElem?_map, Option.map_eq_some_iff] at hu
  obtain ⟨x, hx, rfl⟩ := hu
  rw [hc, List.getD, hx]
  rfl
theorem gat_yes {r : KRow} {m o : MsgC} {g k c : Nat} {wx w1 : World} {A : Option Addr} {ls : List (Int × List UInt8)} (hw : wantG r m = true) (hg : g < wx.heap.size) (hb : Bk w1 g 29 o.cells) (hn : 1 ≤ k ∧ k ≤ 6 ∧ wrE ls = 0)
    (hr : RdI 2 TagI w1 (fun i => wx.heap.size ≤ i ∧ i < w1.heap.size) A k c ls) : GAt r m o g (w1.setCell ⟨g, 16, none⟩ (.slice A k c)) :=
  ⟨A, k, c, ls, by unfold gM; rw [upd_t hw]; exact hb.set_ 16 _, fun _ => ⟨hn.1, hn.2.1, hn.2.2, (hr.fr tag_ok ((Fr.refl (Just g) w1).setCell (.inl (Just.at g)) _) (fun i hi e => by have e : i = g := e; omega)).mono tag_ok (fun i hi => ⟨by omega, by simpa using hi.2⟩)⟩⟩
theorem gat_no {r : KRow} {m o : MsgC} {g : Nat} {wx : World} (hw : wantG r m = false) (hb : Bk wx g 29 o.cells) : GAt r m o g wx :=
  ⟨none, 0, 0, [], by unfold gM; rw [upd_f hw]; exact hb, fun h => by rw [hw] at h; cases h⟩
set_option maxRecDepth 20000 in
theorem p_message_xml {N : Nat → Prop} {m : MsgC} {tl : List (Int × List UInt8)} {el : List (ByteArray × ByteArray)} {ol : List (Int × List UInt8)} (w : World) (hm : MsgR w N m tl el ol) (hN : ∀ i, N i → i < w.heap.size) :
    Calls Tryd.prog 7 #[m.val, .int .i64 0] w (MsgEnd m w) := by
  have hb0 : Bk ((w.alloc (.cells m.cells.toArray 29)).alloc (.cells m0c.toArray 29)) w.heap.size 29 m.cells := (Bk.new w _ _).no ((Fr.refl No _).alloc _)
  have hb1 : Bk ((w.alloc (.cells m.cells.toArray 29)).alloc (.cells m0c.toArray 29)) (w.heap.size + 1) 29 m0c := by
    have h := Bk.new (w.alloc (.cells m.cells.toArray 29)) 29 m0c.toArray
    simpa using h
  have hfa : Fr No w ((w.alloc (.cells m.cells.toArray 29)).alloc (.cells m0c.toArray 29)) := ((Fr.refl No w).alloc _).alloc _
  have hws : w.heap.size + 2 ≤ ((w.alloc (.cells m.cells.toArray 29)).alloc (.cells m0c.toArray 29)).heap.size := by simp
  obtain ⟨W, hW⟩ : ∃ W, (w.alloc (.cells m.cells.toArray 29)).alloc (.cells m0c.toArray 29) = W := ⟨_, rfl⟩
  rw [hW] at hb0 hb1 hfa hws
  unfold MsgC.val
  unfold MsgC.cells m0c at hW
  have HM := Lib.hid (hm.no hfa)
  have HMR := Lib.hid hm
  have HB0 := Lib.hid hb0; have HB1 := Lib.hid hb1; have HFA := Lib.hid hfa; have HWS := Lib.hid hws; have HN := Lib.hid hN
  have hq := wf_i64 hm.kind
  have hst := wf_i64 hm.stan
  have hqw := wrap_in64 (m.kind - 1)
  have t1 := fun u => p_mod (IntKind.i64.wrap (m.kind - 1)) 11 hqw.1 hqw.2 (by omega) (by omega) u
  have t2 := fun u => p_mod m.stan 1000000 (by omega) (by omega) (by omega) (by omega) u
  have t3 := fun u => p_time2 m.time u (by have := hm.time; simp only [maxLen]; omega)
  have t4 := fun u => p_digits m.acq 1 11 u (by have := hm.acq; simp only [maxLen]; omega) (by omega) (by omega)
  simp only [Int.cast_ofNat_Int] at t1 t2 t4
  rw [show modN (IntKind.i64.wrap (m.kind - 1)) 11 = kindN m from rfl] at t1
  have hk := kindN_lt m
  have hadd : IntKind.i64.wrap (1 + (kindN m : Int)) = ((kindN m + 1 : Nat) : Int) := by
    rw [IntWalk.i64_in _ ⟨by omega, by omega⟩]
    omega
  have T1 := Lib.hid t1; have T2 := Lib.hid t2; have T3 := Lib.hid t3; have T4 := Lib.hid t4
  clear t1 t2 t3 t4 hm hN hb0 hb1 hfa hws hq hst hqw
  go_enter Tryd.func7, Tryd.ntmps7
  go_wp2_with fail
  go_cut [5] from 11 to 25 (fun v wx => ∃ g, v = .pointer (some ⟨g, 0, none⟩) ∧ Bk wx g 29 (msg0 m).cells ∧ Bk wx w.heap.size 29 m.cells ∧ Bk wx (w.heap.size + 1) 29 m0c ∧ Fr No w wx ∧ w.heap.size + 2 ≤ g)
  case first =>
    -- REGION 1
    refine wp_region_held_drew (S := fun w' => Bk w' w.heap.size 29 m.cells ∧ Bk w' (w.heap.size + 1) 29 m0c ∧ Fr No W w') (by kernel_rfl) (by exact ⟨HB0.out.no (Dr.refl _).drew.fr, HB1.out.no (Dr.refl _).drew.fr, (Dr.refl W).drew.fr⟩) (fun hHeld => ?_)
    refine wpAnyH_take (i := 0) (v := ?va1x1) rfl (by kernel_rfl) (by kernel_rfl) (by kernel_rfl) (fun _ _ _ h => h) (Or.inl ⟨by rfl, ?hy1x1⟩) (by assumption) ?rest1x1
    case hy1x1 => (intro uw hSw; have e0 : uw.cell? ⟨w.heap.size, 0, none⟩ = some (.int .i64 m.kind) := hSw.1.cell 0; have e1 : uw.cell? ⟨w.heap.size, 1, none⟩ = some (.int .i64 m.stan) := hSw.1.cell 1; have e2 : uw.cell? ⟨w.heap.size, 2, none⟩ = some (.string m.time) := hSw.1.cell 2; have e3 : uw.cell? ⟨w.heap.size, 3, none⟩ = some (.string m.acq) := hSw.1.cell 3; clear hSw; go_simp; all_goals with_reducible rfl)
    try simp only [Act.put, List.setIfInBounds_toArray, List.set_cons_zero, List.set_cons_succ, List.getElem_toArray, List.getElem_cons_zero, List.getElem_cons_succ]
    refine wpAnyH_take (i := 1) (v := ?va1x2) rfl (by kernel_rfl) (by kernel_rfl) (by kernel_rfl) (fun _ _ _ h => h) (Or.inl ⟨by rfl, ?hy1x2⟩) (by assumption) ?rest1x2
    case hy1x2 => (intro uw hSw; have e0 : uw.cell? ⟨w.heap.size, 0, none⟩ = some (.int .i64 m.kind) := hSw.1.cell 0; have e1 : uw.cell? ⟨w.heap.size, 1, none⟩ = some (.int .i64 m.stan) := hSw.1.cell 1; have e2 : uw.cell? ⟨w.heap.size, 2, none⟩ = some (.string m.time) := hSw.1.cell 2; have e3 : uw.cell? ⟨w.heap.size, 3, none⟩ = some (.string m.acq) := hSw.1.cell 3; clear hSw; go_simp; all_goals with_reducible rfl)
    try simp only [Act.put, List.setIfInBounds_toArray, List.set_cons_zero, List.set_cons_succ, List.getElem_toArray, List.getElem_cons_zero, List.getElem_cons_succ]
    refine wpAnyH_take (i := 2) (v := ?va1x3) rfl (by kernel_rfl) (by kernel_rfl) (by kernel_rfl) (fun _ _ _ h => h) (Or.inl ⟨by rfl, ?hy1x3⟩) (by assumption) ?rest1x3
    case hy1x3 => (intro uw hSw; have e0 : uw.cell? ⟨w.heap.size, 0, none⟩ = some (.int .i64 m.kind) := hSw.1.cell 0; have e1 : uw.cell? ⟨w.heap.size, 1, none⟩ = some (.int .i64 m.stan) := hSw.1.cell 1; have e2 : uw.cell? ⟨w.heap.size, 2, none⟩ = some (.string m.time) := hSw.1.cell 2; have e3 : uw.cell? ⟨w.heap.size, 3, none⟩ = some (.string m.acq) := hSw.1.cell 3; clear hSw; go_simp; all_goals with_reducible rfl)
    try simp only [Act.put, List.setIfInBounds_toArray, List.set_cons_zero, List.set_cons_succ, List.getElem_toArray, List.getElem_cons_zero, List.getElem_cons_succ]
    refine wpAnyH_take (i := 5) (v := ?va1x4) rfl (by kernel_rfl) (by kernel_rfl) (by kernel_rfl) (fun _ _ _ h => h) (Or.inl ⟨by rfl, ?hy1x4⟩) (by assumption) ?rest1x4
    case hy1x4 => (intro uw hSw; have e0 : uw.cell? ⟨w.heap.size, 0, none⟩ = some (.int .i64 m.kind) := hSw.1.cell 0; have e1 : uw.cell? ⟨w.heap.size, 1, none⟩ = some (.int .i64 m.stan) := hSw.1.cell 1; have e2 : uw.cell? ⟨w.heap.size, 2, none⟩ = some (.string m.time) := hSw.1.cell 2; have e3 : uw.cell? ⟨w.heap.size, 3, none⟩ = some (.string m.acq) := hSw.1.cell 3; clear hSw; go_simp; all_goals with_reducible rfl)
    try simp only [Act.put, List.setIfInBounds_toArray, List.set_cons_zero, List.set_cons_succ, List.getElem_toArray, List.getElem_cons_zero, List.getElem_cons_succ]
    refine wpAnyH_take (i := 6) (v := ?va1x5) rfl (by kernel_rfl) (by kernel_rfl) (by kernel_rfl) (fun _ _ _ h => h) (Or.inl ⟨by rfl, ?hy1x5⟩) (by assumption) ?rest1x5
    case hy1x5 => (intro uw hSw; have e0 : uw.cell? ⟨w.heap.size, 0, none⟩ = some (.int .i64 m.kind) := hSw.1.cell 0; have e1 : uw.cell? ⟨w.heap.size, 1, none⟩ = some (.int .i64 m.stan) := hSw.1.cell 1; have e2 : uw.cell? ⟨w.heap.size, 2, none⟩ = some (.string m.time) := hSw.1.cell 2; have e3 : uw.cell? ⟨w.heap.size, 3, none⟩ = some (.string m.acq) := hSw.1.cell 3; clear hSw; go_simp; all_goals with_reducible rfl)
    try simp only [Act.put, List.setIfInBounds_toArray, List.set_cons_zero, List.set_cons_succ, List.getElem_toArray, List.getElem_cons_zero, List.getElem_cons_succ]
    refine wpAnyH_take (i := 8) (v := ?va1x6) rfl (by kernel_rfl) (by kernel_rfl) (by kernel_rfl) (fun _ _ _ h => h) (Or.inl ⟨by rfl, ?hy1x6⟩) (by assumption) ?rest1x6
    case hy1x6 => (intro uw hSw; have e0 : uw.cell? ⟨w.heap.size, 0, none⟩ = some (.int .i64 m.kind) := hSw.1.cell 0; have e1 : uw.cell? ⟨w.heap.size, 1, none⟩ = some (.int .i64 m.stan) := hSw.1.cell 1; have e2 : uw.cell? ⟨w.heap.size, 2, none⟩ = some (.string m.time) := hSw.1.cell 2; have e3 : uw.cell? ⟨w.heap.size, 3, none⟩ = some (.string m.acq) := hSw.1.cell 3; clear hSw; go_simp; all_goals with_reducible rfl)
    try simp only [Act.put, List.setIfInBounds_toArray, List.set_cons_zero, List.set_cons_succ, List.getElem_toArray, List.getElem_cons_zero, List.getElem_cons_succ]
    refine wpAnyH_take (i := 9) (v := ?va1x7) rfl (by kernel_rfl) (by kernel_rfl) (by kernel_rfl) (fun _ _ _ h => h) (Or.inl ⟨by rfl, ?hy1x7⟩) (by assumption) ?rest1x7
    case hy1x7 => (intro uw hSw; have e0 : uw.cell? ⟨w.heap.size, 0, none⟩ = some (.int .i64 m.kind) := hSw.1.cell 0; have e1 : uw.cell? ⟨w.heap.size, 1, none⟩ = some (.int .i64 m.stan) := hSw.1.cell 1; have e2 : uw.cell? ⟨w.heap.size, 2, none⟩ = some (.string m.time) := hSw.1.cell 2; have e3 : uw.cell? ⟨w.heap.size, 3, none⟩ = some (.string m.acq) := hSw.1.cell 3; clear hSw; go_simp; all_goals with_reducible rfl)
    try simp only [Act.put, List.setIfInBounds_toArray, List.set_cons_zero, List.set_cons_succ, List.getElem_toArray, List.getElem_cons_zero, List.getElem_cons_succ]
    refine wpAnyH_take (i := 11) (v := ?va1x8) rfl (by kernel_rfl) (by kernel_rfl) (by kernel_rfl) (fun _ _ _ h => h) (Or.inl ⟨by rfl, ?hy1x8⟩) (by assumption) ?rest1x8
    case hy1x8 => (intro uw hSw; have e0 : uw.cell? ⟨w.heap.size, 0, none⟩ = some (.int .i64 m.kind) := hSw.1.cell 0; have e1 : uw.cell? ⟨w.heap.size, 1, none⟩ = some (.int .i64 m.stan) := hSw.1.cell 1; have e2 : uw.cell? ⟨w.heap.size, 2, none⟩ = some (.string m.time) := hSw.1.cell 2; have e3 : uw.cell? ⟨w.heap.size, 3, none⟩ = some (.string m.acq) := hSw.1.cell 3; clear hSw; go_simp; all_goals with_reducible rfl)
    try simp only [Act.put, List.setIfInBounds_toArray, List.set_cons_zero, List.set_cons_succ, List.getElem_toArray, List.getElem_cons_zero, List.getElem_cons_succ]
    refine wpAnyH_take (i := 12) (v := ?va1x9) rfl (by kernel_rfl) (by kernel_rfl) (by kernel_rfl) (fun _ _ _ h => h) (Or.inl ⟨by rfl, ?hy1x9⟩) (by assumption) ?rest1x9
    case hy1x9 => (intro uw hSw; have e0 : uw.cell? ⟨w.heap.size, 0, none⟩ = some (.int .i64 m.kind) := hSw.1.cell 0; have e1 : uw.cell? ⟨w.heap.size, 1, none⟩ = some (.int .i64 m.stan) := hSw.1.cell 1; have e2 : uw.cell? ⟨w.heap.size, 2, none⟩ = some (.string m.time) := hSw.1.cell 2; have e3 : uw.cell? ⟨w.heap.size, 3, none⟩ = some (.string m.acq) := hSw.1.cell 3; clear hSw; go_simp; all_goals with_reducible rfl)
    try simp only [Act.put, List.setIfInBounds_toArray, List.set_cons_zero, List.set_cons_succ, List.getElem_toArray, List.getElem_cons_zero, List.getElem_cons_succ]
    refine wpAnyH_ready (rs := [3, 15]) (by kernel_rfl) (by simp) ?_
    refine AllReadyH.cons rfl (fun K hK => ?_) (AllReadyH.cons rfl (fun K hK => ?_) AllReadyH.nil)
    · go_simp
      go_wp2_with ((go_at_call 17; (with_reducible refine (T1.out _).mono ?_); rintro e w1 ⟨rfl, rfl⟩))
      refine hK.out _ _ (by exact hHeld) (fun hHeld2 => ?_)
      clear hK K hHeld
      have hHeld := hHeld2
      clear hHeld2
      try simp only [Act.put, List.setIfInBounds_toArray, List.set_cons_zero, List.set_cons_succ, List.getElem_toArray, List.getElem_cons_zero, List.getElem_cons_succ]
      refine wpAnyH_take (i := 4) (v := ?va1x10) rfl (by kernel_rfl) (by kernel_rfl) (by kernel_rfl) (fun _ _ _ h => h) (Or.inl ⟨by rfl, ?hy1x10⟩) (by assumption) ?rest1x10
      case hy1x10 => (intro uw hSw; have e0 : uw.cell? ⟨w.heap.size, 0, none⟩ = some (.int .i64 m.kind) := hSw.1.cell 0; have e1 : uw.cell? ⟨w.heap.size, 1, none⟩ = some (.int .i64 m.stan) := hSw.1.cell 1; have e2 : uw.cell? ⟨w.heap.size, 2, none⟩ = some (.string m.time) := hSw.1.cell 2; have e3 : uw.cell? ⟨w.heap.size, 3, none⟩ = some (.string m.acq) := hSw.1.cell 3; clear hSw; go_simp; all_goals with_reducible rfl)
      try simp only [Act.put, List.setIfInBounds_toArray, List.set_cons_zero, List.set_cons_succ, List.getElem_toArray, List.getElem_cons_zero, List.getElem_cons_succ]
      refine wpAnyH_ready (rs := [7, 15]) (by kernel_rfl) (by simp) ?_
      refine AllReadyH.cons rfl (fun K hK => ?_) (AllReadyH.cons rfl (fun K hK => ?_) AllReadyH.nil)
      · go_simp
        go_wp2_with ((go_at_call 17; (with_reducible refine (T2.out _).mono ?_); rintro e w1 ⟨rfl, rfl⟩))
        refine hK.out _ _ (by exact hHeld) (fun hHeld2 => ?_)
        clear hK K hHeld
        have hHeld := hHeld2
        clear hHeld2
        try simp only [Act.put, List.setIfInBounds_toArray, List.set_cons_zero, List.set_cons_succ, List.getElem_toArray, List.getElem_cons_zero, List.getElem_cons_succ]
        refine wpAnyH_ready (rs := [10, 15]) (by kernel_rfl) (by simp) ?_
        refine AllReadyH.cons rfl (fun K hK => ?_) (AllReadyH.cons rfl (fun K hK => ?_) AllReadyH.nil)
        · go_simp
          go_wp2_with ((go_at_call 18; (with_reducible refine (T3.out _).mono ?_); rintro e w1 ⟨rfl, hd⟩))
          first | (have HBn := Lib.hid (HB.out.no hd.fr); clear HB; have HB := HBn; clear HBn) | skip
          refine hK.out _ _ (by exact ⟨hHeld.1.no hd.fr, hHeld.2.1.no hd.fr, hHeld.2.2.trans hd.fr⟩) (fun hHeld2 => ?_)
          clear hK K hHeld
          have hHeld := hHeld2
          clear hHeld2
          try simp only [Act.put, List.setIfInBounds_toArray, List.set_cons_zero, List.set_cons_succ, List.getElem_toArray, List.getElem_cons_zero, List.getElem_cons_succ]
          refine wpAnyH_ready (rs := [13, 15]) (by kernel_rfl) (by simp) ?_
          refine AllReadyH.cons rfl (fun K hK => ?_) (AllReadyH.cons rfl (fun K hK => ?_) AllReadyH.nil)
          · go_simp
            go_wp2_with ((go_at_call 19; (with_reducible refine (T4.out _).mono ?_); rintro e w1 ⟨rfl, rfl⟩))
            refine hK.out _ _ (by exact hHeld) (fun hHeld2 => ?_)
            clear hK K hHeld
            have hHeld := hHeld2
            clear hHeld2
            try simp only [Act.put, List.setIfInBounds_toArray, List.set_cons_zero, List.set_cons_succ, List.getElem_toArray, List.getElem_cons_zero, List.getElem_cons_succ]
            refine wpAnyH_take (i := 14) (v := ?va1x11) rfl (by kernel_rfl) (by kernel_rfl) (by kernel_rfl) (fun _ _ _ h => h) (Or.inl ⟨by rfl, ?hy1x11⟩) (by assumption) ?rest1x11
            case hy1x11 => (intro uw hSw; have e0 : uw.cell? ⟨w.heap.size, 0, none⟩ = some (.int .i64 m.kind) := hSw.1.cell 0; have e1 : uw.cell? ⟨w.heap.size, 1, none⟩ = some (.int .i64 m.stan) := hSw.1.cell 1; have e2 : uw.cell? ⟨w.heap.size, 2, none⟩ = some (.string m.time) := hSw.1.cell 2; have e3 : uw.cell? ⟨w.heap.size, 3, none⟩ = some (.string m.acq) := hSw.1.cell 3; clear hSw; go_simp; all_goals with_reducible rfl)
            try simp only [Act.put, List.setIfInBounds_toArray, List.set_cons_zero, List.set_cons_succ, List.getElem_toArray, List.getElem_cons_zero, List.getElem_cons_succ]
            refine wpAnyH_ready (rs := [15]) (by kernel_rfl) (by simp) ?_
            refine AllReadyH.cons rfl (fun K hK => ?_) AllReadyH.nil
            refine stepA rfl rfl ?_
            intro g w9 hb9 hf9 hg9 hl9
            have HB := Lib.hid hb9
            have HG := Lib.hid (Nat.le_trans hHeld.2.2.size hg9)
            refine hK.out _ _ (by exact ⟨hHeld.1.no hf9, hHeld.2.1.no hf9, hHeld.2.2.trans hf9⟩) (fun hHeld2 => ?_)
            clear hK K hHeld
            have hHeld := hHeld2
            clear hHeld2
            try simp only [Act.put, List.setIfInBounds_toArray, List.set_cons_zero, List.set_cons_succ, List.getElem_toArray, List.getElem_cons_zero, List.getElem_cons_succ]
            refine wpAnyH_ready (rs := [16]) (by kernel_rfl) (by simp) ?_
            refine AllReadyH.cons rfl (fun K hK => ?_) AllReadyH.nil
            refine stepS rfl 29 (.tmp 5) (.tmp 25) rfl g rfl m0c (msg0 m).cells rfl HB.out rfl (msgSize _) (msg_one2 _) ?_
            intro w8 b8 f8 s8
            refine hK.out _ _ (by exact ⟨hHeld.1.fr f8 (fun e => by have e : w.heap.size = g := e; have := HG.out; have := HWS.out; omega), hHeld.2.1.fr f8 (fun e => by have e : w.heap.size + 1 = g := e; have := HG.out; have := HWS.out; omega), hHeld.2.2.trans_just f8 HG.out⟩) (fun hHeld2 => ?_)
            clear hK K hHeld
            have hHeld := hHeld2
            clear hHeld2
            try simp only [Act.put, List.setIfInBounds_toArray, List.set_cons_zero, List.set_cons_succ, List.getElem_toArray, List.getElem_cons_zero, List.getElem_cons_succ]
            refine wpAnyH_done (by kernel_rfl) ?_ _
            go_wp2_with fail
            go_meet
            exact ⟨g, rfl, b8, hHeld.1, hHeld.2.1, HFA.out.trans hHeld.2.2, by have := HG.out; have := HWS.out; omega⟩
          · refine stepA rfl rfl ?_
            intro g w9 hb9 hf9 hg9 hl9
            have HB := Lib.hid hb9
            have HG := Lib.hid (Nat.le_trans hHeld.2.2.size hg9)
            refine hK.out _ _ (by exact ⟨hHeld.1.no hf9, hHeld.2.1.no hf9, hHeld.2.2.trans hf9⟩) (fun hHeld2 => ?_)
            clear hK K hHeld
            have hHeld := hHeld2
            clear hHeld2
            try simp only [Act.put, List.setIfInBounds_toArray, List.set_cons_zero, List.set_cons_succ, List.getElem_toArray, List.getElem_cons_zero, List.getElem_cons_succ]
            refine wpAnyH_ready (rs := [13]) (by kernel_rfl) (by simp) ?_
            refine AllReadyH.cons rfl (fun K hK => ?_) AllReadyH.nil
            go_simp
            go_wp2_with ((go_at_call 19; (with_reducible refine (T4.out _).mono ?_); rintro e w1 ⟨rfl, rfl⟩))
            refine hK.out _ _ (by exact hHeld) (fun hHeld2 => ?_)
            clear hK K hHeld
            have hHeld := hHeld2
            clear hHeld2
            try simp only [Act.put, List.setIfInBounds_toArray, List.set_cons_zero, List.set_cons_succ, List.getElem_toArray, List.getElem_cons_zero, List.getElem_cons_succ]
            refine wpAnyH_take (i := 14) (v := ?va1x12) rfl (by kernel_rfl) (by kernel_rfl) (by kernel_rfl) (fun _ _ _ h => h) (Or.inl ⟨by rfl, ?hy1x12⟩) (by assumption) ?rest1x12
            case hy1x12 => (intro uw hSw; have e0 : uw.cell? ⟨w.heap.size, 0, none⟩ = some (.int .i64 m.kind) := hSw.1.cell 0; have e1 : uw.cell? ⟨w.heap.size, 1, none⟩ = some (.int .i64 m.stan) := hSw.1.cell 1; have e2 : uw.cell? ⟨w.heap.size, 2, none⟩ = some (.string m.time) := hSw.1.cell 2; have e3 : uw.cell? ⟨w.heap.size, 3, none⟩ = some (.string m.acq) := hSw.1.cell 3; clear hSw; go_simp; all_goals with_reducible rfl)
            try simp only [Act.put, List.setIfInBounds_toArray, List.set_cons_zero, List.set_cons_succ, List.getElem_toArray, List.getElem_cons_zero, List.getElem_cons_succ]
            refine wpAnyH_ready (rs := [16]) (by kernel_rfl) (by simp) ?_
            refine AllReadyH.cons rfl (fun K hK => ?_) AllReadyH.nil
            refine stepS rfl 29 (.tmp 5) (.tmp 25) rfl g rfl m0c (msg0 m).cells rfl HB.out rfl (msgSize _) (msg_one2 _) ?_
            intro w8 b8 f8 s8
            refine hK.out _ _ (by exact ⟨hHeld.1.fr f8 (fun e => by have e : w.heap.size = g := e; have := HG.out; have := HWS.out; omega), hHeld.2.1.fr f8 (fun e => by have e : w.heap.size + 1 = g := e; have := HG.out; have := HWS.out; omega), hHeld.2.2.trans_just f8 HG.out⟩) (fun hHeld2 => ?_)
            clear hK K hHeld
            have hHeld := hHeld2
            clear hHeld2
            try simp only [Act.put, List.setIfInBounds_toArray, List.set_cons_zero, List.set_cons_succ, List.getElem_toArray, List.getElem_cons_zero, List.getElem_cons_succ]
            refine wpAnyH_done (by kernel_rfl) ?_ _
            go_wp2_with fail
            go_meet
            exact ⟨g, rfl, b8, hHeld.1, hHeld.2.1, HFA.out.trans hHeld.2.2, by have := HG.out; have := HWS.out; omega⟩
        · refine stepA rfl rfl ?_
          intro g w9 hb9 hf9 hg9 hl9
          have HB := Lib.hid hb9
          have HG := Lib.hid (Nat.le_trans hHeld.2.2.size hg9)
          refine hK.out _ _ (by exact ⟨hHeld.1.no hf9, hHeld.2.1.no hf9, hHeld.2.2.trans hf9⟩) (fun hHeld2 => ?_)
          clear hK K hHeld
          have hHeld := hHeld2
          clear hHeld2
          try simp only [Act.put, List.setIfInBounds_toArray, List.set_cons_zero, List.set_cons_succ, List.getElem_toArray, List.getElem_cons_zero, List.getElem_cons_succ]
          refine wpAnyH_ready (rs := [10]) (by kernel_rfl) (by simp) ?_
          refine AllReadyH.cons rfl (fun K hK => ?_) AllReadyH.nil
          go_simp
          go_wp2_with ((go_at_call 18; (with_reducible refine (T3.out _).mono ?_); rintro e w1 ⟨rfl, hd⟩))
          first | (have HBn := Lib.hid (HB.out.no hd.fr); clear HB; have HB := HBn; clear HBn) | skip
          refine hK.out _ _ (by exact ⟨hHeld.1.no hd.fr, hHeld.2.1.no hd.fr, hHeld.2.2.trans hd.fr⟩) (fun hHeld2 => ?_)
          clear hK K hHeld
          have hHeld := hHeld2
          clear hHeld2
          try simp only [Act.put, List.setIfInBounds_toArray, List.set_cons_zero, List.set_cons_succ, List.getElem_toArray, List.getElem_cons_zero, List.getElem_cons_succ]
          refine wpAnyH_ready (rs := [13]) (by kernel_rfl) (by simp) ?_
          refine AllReadyH.cons rfl (fun K hK => ?_) AllReadyH.nil
          go_simp
          go_wp2_with ((go_at_call 19; (with_reducible refine (T4.out _).mono ?_); rintro e w1 ⟨rfl, rfl⟩))
          refine hK.out _ _ (by exact hHeld) (fun hHeld2 => ?_)
          clear hK K hHeld
          have hHeld := hHeld2
          clear hHeld2
          try simp only [Act.put, List.setIfInBounds_toArray, List.set_cons_zero, List.set_cons_succ, List.getElem_toArray, List.getElem_cons_zero, List.getElem_cons_succ]
          refine wpAnyH_take (i := 14) (v := ?va1x13) rfl (by kernel_rfl) (by kernel_rfl) (by kernel_rfl) (fun _ _ _ h => h) (Or.inl ⟨by rfl, ?hy1x13⟩) (by assumption) ?rest1x13
          case hy1x13 => (intro uw hSw; have e0 : uw.cell? ⟨w.heap.size, 0, none⟩ = some (.int .i64 m.kind) := hSw.1.cell 0; have e1 : uw.cell? ⟨w.heap.size, 1, none⟩ = some (.int .i64 m.stan) := hSw.1.cell 1; have e2 : uw.cell? ⟨w.heap.size, 2, none⟩ = some (.string m.time) := hSw.1.cell 2; have e3 : uw.cell? ⟨w.heap.size, 3, none⟩ = some (.string m.acq) := hSw.1.cell 3; clear hSw; go_simp; all_goals with_reducible rfl)
          try simp only [Act.put, List.setIfInBounds_toArray, List.set_cons_zero, List.set_cons_succ, List.getElem_toArray, List.getElem_cons_zero, List.getElem_cons_succ]
          refine wpAnyH_ready (rs := [16]) (by kernel_rfl) (by simp) ?_
          refine AllReadyH.cons rfl (fun K hK => ?_) AllReadyH.nil
          refine stepS rfl 29 (.tmp 5) (.tmp 25) rfl g rfl m0c (msg0 m).cells rfl HB.out rfl (msgSize _) (msg_one2 _) ?_
          intro w8 b8 f8 s8
          refine hK.out _ _ (by exact ⟨hHeld.1.fr f8 (fun e => by have e : w.heap.size = g := e; have := HG.out; have := HWS.out; omega), hHeld.2.1.fr f8 (fun e => by have e : w.heap.size + 1 = g := e; have := HG.out; have := HWS.out; omega), hHeld.2.2.trans_just f8 HG.out⟩) (fun hHeld2 => ?_)
          clear hK K hHeld
          have hHeld := hHeld2
          clear hHeld2
          try simp only [Act.put, List.setIfInBounds_toArray, List.set_cons_zero, List.set_cons_succ, List.getElem_toArray, List.getElem_cons_zero, List.getElem_cons_succ]
          refine wpAnyH_done (by kernel_rfl) ?_ _
          go_wp2_with fail
          go_meet
          exact ⟨g, rfl, b8, hHeld.1, hHeld.2.1, HFA.out.trans hHeld.2.2, by have := HG.out; have := HWS.out; omega⟩
      · refine stepA rfl rfl ?_
        intro g w9 hb9 hf9 hg9 hl9
        have HB := Lib.hid hb9
        have HG := Lib.hid (Nat.le_trans hHeld.2.2.size hg9)
        refine hK.out _ _ (by exact ⟨hHeld.1.no hf9, hHeld.2.1.no hf9, hHeld.2.2.trans hf9⟩) (fun hHeld2 => ?_)
        clear hK K hHeld
        have hHeld := hHeld2
        clear hHeld2
        try simp only [Act.put, List.setIfInBounds_toArray, List.set_cons_zero, List.set_cons_succ, List.getElem_toArray, List.getElem_cons_zero, List.getElem_cons_succ]
        refine wpAnyH_ready (rs := [7]) (by kernel_rfl) (by simp) ?_
        refine AllReadyH.cons rfl (fun K hK => ?_) AllReadyH.nil
        go_simp
        go_wp2_with ((go_at_call 17; (with_reducible refine (T2.out _).mono ?_); rintro e w1 ⟨rfl, rfl⟩))
        refine hK.out _ _ (by exact hHeld) (fun hHeld2 => ?_)
        clear hK K hHeld
        have hHeld := hHeld2
        clear hHeld2
        try simp only [Act.put, List.setIfInBounds_toArray, List.set_cons_zero, List.set_cons_succ, List.getElem_toArray, List.getElem_cons_zero, List.getElem_cons_succ]
        refine wpAnyH_ready (rs := [10]) (by kernel_rfl) (by simp) ?_
        refine AllReadyH.cons rfl (fun K hK => ?_) AllReadyH.nil
        go_simp
        go_wp2_with ((go_at_call 18; (with_reducible refine (T3.out _).mono ?_); rintro e w1 ⟨rfl, hd⟩))
        first | (have HBn := Lib.hid (HB.out.no hd.fr); clear HB; have HB := HBn; clear HBn) | skip
        refine hK.out _ _ (by exact ⟨hHeld.1.no hd.fr, hHeld.2.1.no hd.fr, hHeld.2.2.trans hd.fr⟩) (fun hHeld2 => ?_)
        clear hK K hHeld
        have hHeld := hHeld2
        clear hHeld2
        try simp only [Act.put, List.setIfInBounds_toArray, List.set_cons_zero, List.set_cons_succ, List.getElem_toArray, List.getElem_cons_zero, List.getElem_cons_succ]
        refine wpAnyH_ready (rs := [13]) (by kernel_rfl) (by simp) ?_
        refine AllReadyH.cons rfl (fun K hK => ?_) AllReadyH.nil
        go_simp
        go_wp2_with ((go_at_call 19; (with_reducible refine (T4.out _).mono ?_); rintro e w1 ⟨rfl, rfl⟩))
        refine hK.out _ _ (by exact hHeld) (fun hHeld2 => ?_)
        clear hK K hHeld
        have hHeld := hHeld2
        clear hHeld2
        try simp only [Act.put, List.setIfInBounds_toArray, List.set_cons_zero, List.set_cons_succ, List.getElem_toArray, List.getElem_cons_zero, List.getElem_cons_succ]
        refine wpAnyH_take (i := 14) (v := ?va1x14) rfl (by kernel_rfl) (by kernel_rfl) (by kernel_rfl) (fun _ _ _ h => h) (Or.inl ⟨by rfl, ?hy1x14⟩) (by assumption) ?rest1x14
        case hy1x14 => (intro uw hSw; have e0 : uw.cell? ⟨w.heap.size, 0, none⟩ = some (.int .i64 m.kind) := hSw.1.cell 0; have e1 : uw.cell? ⟨w.heap.size, 1, none⟩ = some (.int .i64 m.stan) := hSw.1.cell 1; have e2 : uw.cell? ⟨w.heap.size, 2, none⟩ = some (.string m.time) := hSw.1.cell 2; have e3 : uw.cell? ⟨w.heap.size, 3, none⟩ = some (.string m.acq) := hSw.1.cell 3; clear hSw; go_simp; all_goals with_reducible rfl)
        try simp only [Act.put, List.setIfInBounds_toArray, List.set_cons_zero, List.set_cons_succ, List.getElem_toArray, List.getElem_cons_zero, List.getElem_cons_succ]
        refine wpAnyH_ready (rs := [16]) (by kernel_rfl) (by simp) ?_
        refine AllReadyH.cons rfl (fun K hK => ?_) AllReadyH.nil
        refine stepS rfl 29 (.tmp 5) (.tmp 25) rfl g rfl m0c (msg0 m).cells rfl HB.out rfl (msgSize _) (msg_one2 _) ?_
        intro w8 b8 f8 s8
        refine hK.out _ _ (by exact ⟨hHeld.1.fr f8 (fun e => by have e : w.heap.size = g := e; have := HG.out; have := HWS.out; omega), hHeld.2.1.fr f8 (fun e => by have e : w.heap.size + 1 = g := e; have := HG.out; have := HWS.out; omega), hHeld.2.2.trans_just f8 HG.out⟩) (fun hHeld2 => ?_)
        clear hK K hHeld
        have hHeld := hHeld2
        clear hHeld2
        try simp only [Act.put, List.setIfInBounds_toArray, List.set_cons_zero, List.set_cons_succ, List.getElem_toArray, List.getElem_cons_zero, List.getElem_cons_succ]
        refine wpAnyH_done (by kernel_rfl) ?_ _
        go_wp2_with fail
        go_meet
        exact ⟨g, rfl, b8, hHeld.1, hHeld.2.1, HFA.out.trans hHeld.2.2, by have := HG.out; have := HWS.out; omega⟩
    · refine stepA rfl rfl ?_
      intro g w9 hb9 hf9 hg9 hl9
      have HB := Lib.hid hb9
      have HG := Lib.hid (Nat.le_trans hHeld.2.2.size hg9)
      refine hK.out _ _ (by exact ⟨hHeld.1.no hf9, hHeld.2.1.no hf9, hHeld.2.2.trans hf9⟩) (fun hHeld2 => ?_)
      clear hK K hHeld
      have hHeld := hHeld2
      clear hHeld2
      try simp only [Act.put, List.setIfInBounds_toArray, List.set_cons_zero, List.set_cons_succ, List.getElem_toArray, List.getElem_cons_zero, List.getElem_cons_succ]
      refine wpAnyH_ready (rs := [3]) (by kernel_rfl) (by simp) ?_
      refine AllReadyH.cons rfl (fun K hK => ?_) AllReadyH.nil
      go_simp
      go_wp2_with ((go_at_call 17; (with_reducible refine (T1.out _).mono ?_); rintro e w1 ⟨rfl, rfl⟩))
      refine hK.out _ _ (by exact hHeld) (fun hHeld2 => ?_)
      clear hK K hHeld
      have hHeld := hHeld2
      clear hHeld2
      try simp only [Act.put, List.setIfInBounds_toArray, List.set_cons_zero, List.set_cons_succ, List.getElem_toArray, List.getElem_cons_zero, List.getElem_cons_succ]
      refine wpAnyH_take (i := 4) (v := ?va1x15) rfl (by kernel_rfl) (by kernel_rfl) (by kernel_rfl) (fun _ _ _ h => h) (Or.inl ⟨by rfl, ?hy1x15⟩) (by assumption) ?rest1x15
      case hy1x15 => (intro uw hSw; have e0 : uw.cell? ⟨w.heap.size, 0, none⟩ = some (.int .i64 m.kind) := hSw.1.cell 0; have e1 : uw.cell? ⟨w.heap.size, 1, none⟩ = some (.int .i64 m.stan) := hSw.1.cell 1; have e2 : uw.cell? ⟨w.heap.size, 2, none⟩ = some (.string m.time) := hSw.1.cell 2; have e3 : uw.cell? ⟨w.heap.size, 3, none⟩ = some (.string m.acq) := hSw.1.cell 3; clear hSw; go_simp; all_goals with_reducible rfl)
      try simp only [Act.put, List.setIfInBounds_toArray, List.set_cons_zero, List.set_cons_succ, List.getElem_toArray, List.getElem_cons_zero, List.getElem_cons_succ]
      refine wpAnyH_ready (rs := [7]) (by kernel_rfl) (by simp) ?_
      refine AllReadyH.cons rfl (fun K hK => ?_) AllReadyH.nil
      go_simp
      go_wp2_with ((go_at_call 17; (with_reducible refine (T2.out _).mono ?_); rintro e w1 ⟨rfl, rfl⟩))
      refine hK.out _ _ (by exact hHeld) (fun hHeld2 => ?_)
      clear hK K hHeld
      have hHeld := hHeld2
      clear hHeld2
      try simp only [Act.put, List.setIfInBounds_toArray, List.set_cons_zero, List.set_cons_succ, List.getElem_toArray, List.getElem_cons_zero, List.getElem_cons_succ]
      refine wpAnyH_ready (rs := [10]) (by kernel_rfl) (by simp) ?_
      refine AllReadyH.cons rfl (fun K hK => ?_) AllReadyH.nil
      go_simp
      go_wp2_with ((go_at_call 18; (with_reducible refine (T3.out _).mono ?_); rintro e w1 ⟨rfl, hd⟩))
      first | (have HBn := Lib.hid (HB.out.no hd.fr); clear HB; have HB := HBn; clear HBn) | skip
      refine hK.out _ _ (by exact ⟨hHeld.1.no hd.fr, hHeld.2.1.no hd.fr, hHeld.2.2.trans hd.fr⟩) (fun hHeld2 => ?_)
      clear hK K hHeld
      have hHeld := hHeld2
      clear hHeld2
      try simp only [Act.put, List.setIfInBounds_toArray, List.set_cons_zero, List.set_cons_succ, List.getElem_toArray, List.getElem_cons_zero, List.getElem_cons_succ]
      refine wpAnyH_ready (rs := [13]) (by kernel_rfl) (by simp) ?_
      refine AllReadyH.cons rfl (fun K hK => ?_) AllReadyH.nil
      go_simp
      go_wp2_with ((go_at_call 19; (with_reducible refine (T4.out _).mono ?_); rintro e w1 ⟨rfl, rfl⟩))
      refine hK.out _ _ (by exact hHeld) (fun hHeld2 => ?_)
      clear hK K hHeld
      have hHeld := hHeld2
      clear hHeld2
      try simp only [Act.put, List.setIfInBounds_toArray, List.set_cons_zero, List.set_cons_succ, List.getElem_toArray, List.getElem_cons_zero, List.getElem_cons_succ]
      refine wpAnyH_take (i := 14) (v := ?va1x16) rfl (by kernel_rfl) (by kernel_rfl) (by kernel_rfl) (fun _ _ _ h => h) (Or.inl ⟨by rfl, ?hy1x16⟩) (by assumption) ?rest1x16
      case hy1x16 => (intro uw hSw; have e0 : uw.cell? ⟨w.heap.size, 0, none⟩ = some (.int .i64 m.kind) := hSw.1.cell 0; have e1 : uw.cell? ⟨w.heap.size, 1, none⟩ = some (.int .i64 m.stan) := hSw.1.cell 1; have e2 : uw.cell? ⟨w.heap.size, 2, none⟩ = some (.string m.time) := hSw.1.cell 2; have e3 : uw.cell? ⟨w.heap.size, 3, none⟩ = some (.string m.acq) := hSw.1.cell 3; clear hSw; go_simp; all_goals with_reducible rfl)
      try simp only [Act.put, List.setIfInBounds_toArray, List.set_cons_zero, List.set_cons_succ, List.getElem_toArray, List.getElem_cons_zero, List.getElem_cons_succ]
      refine wpAnyH_ready (rs := [16]) (by kernel_rfl) (by simp) ?_
      refine AllReadyH.cons rfl (fun K hK => ?_) AllReadyH.nil
      refine stepS rfl 29 (.tmp 5) (.tmp 25) rfl g rfl m0c (msg0 m).cells rfl HB.out rfl (msgSize _) (msg_one2 _) ?_
      intro w8 b8 f8 s8
      refine hK.out _ _ (by exact ⟨hHeld.1.fr f8 (fun e => by have e : w.heap.size = g := e; have := HG.out; have := HWS.out; omega), hHeld.2.1.fr f8 (fun e => by have e : w.heap.size + 1 = g := e; have := HG.out; have := HWS.out; omega), hHeld.2.2.trans_just f8 HG.out⟩) (fun hHeld2 => ?_)
      clear hK K hHeld
      have hHeld := hHeld2
      clear hHeld2
      try simp only [Act.put, List.setIfInBounds_toArray, List.set_cons_zero, List.set_cons_succ, List.getElem_toArray, List.getElem_cons_zero, List.getElem_cons_succ]
      refine wpAnyH_done (by kernel_rfl) ?_ _
      go_wp2_with fail
      go_meet
      exact ⟨g, rfl, b8, hHeld.1, hHeld.2.1, HFA.out.trans hHeld.2.2, by have := HG.out; have := HWS.out; omega⟩
    -- END 1
  case rest =>
    obtain ⟨g, rfl, b0, b1, b2, hf, hg⟩ := hcut
    obtain ⟨n, hn⟩ : ∃ n, kindN m + 1 = n := ⟨_, rfl⟩
    have hn12 : n < 12 := by omega
    have hI1 : (0 : Int) ≤ (n : Int) := by omega
    have hI2 : (n : Int) < 12 := by omega
    have B0 := Lib.hid b0; have B1 := Lib.hid b1; have B2 := Lib.hid b2; have HF := Lib.hid hf; have HG := Lib.hid hg; have HSZ := Lib.hid (And.intro b0.lt b2.lt); have HNN := Lib.hid hn
    clear b0 b1 b2 hf hg hadd T1 T2 T3 T4 hW HB0 HB1 HFA HWS HM hk hn
    go_wp2_with fail
    go_cut [6] from 26 to 30 (fun v wx => ∃ g6, v = .pointer (some ⟨g6, 0, none⟩) ∧ Bk wx g6 37 (rowV (kRow n)) ∧ Fr No wc wx ∧ wc.heap.size ≤ g6)
    case first =>
      -- REGION 2
      refine wp_region_held_drew (S := fun w' => Bk w' g 29 (msg0 m).cells ∧ Fr No wc w') (by kernel_rfl) (by exact ⟨B0.out.no (Dr.refl _).drew.fr, (Dr.refl wc).drew.fr⟩) (fun hHeld => ?_)
      refine wpAnyH_take (i := 1) (v := ?va2x1) rfl (by kernel_rfl) (by kernel_rfl) (by kernel_rfl) (fun _ _ _ h => h) (Or.inl ⟨by rfl, ?hy2x1⟩) (by assumption) ?rest2x1
      case hy2x1 => (intro uw hSw; have e0 : uw.cell? ⟨g, 0, none⟩ = some (.int .i64 (n : Int)) := by { have h := hSw.1.cell 0; rw [show (msg0 m).cells[0]? = some (.int .i64 ((kindN m + 1 : Nat) : Int)) from rfl, HNN.out] at h; exact h }; clear hSw; go_simp; all_goals with_reducible rfl)
      try simp only [Act.put, List.setIfInBounds_toArray, List.set_cons_zero, List.set_cons_succ, List.getElem_toArray, List.getElem_cons_zero, List.getElem_cons_succ]
      refine wpAnyH_take (i := 2) (v := ?va2x2) rfl (by kernel_rfl) (by kernel_rfl) (by kernel_rfl) (fun _ _ _ h => h) (Or.inl ⟨by rfl, ?hy2x2⟩) (by assumption) ?rest2x2
      case hy2x2 => (intro uw hSw; have e0 : uw.cell? ⟨g, 0, none⟩ = some (.int .i64 (n : Int)) := by { have h := hSw.1.cell 0; rw [show (msg0 m).cells[0]? = some (.int .i64 ((kindN m + 1 : Nat) : Int)) from rfl, HNN.out] at h; exact h }; clear hSw; go_simp; all_goals with_reducible rfl)
      try simp only [Act.put, List.setIfInBounds_toArray, List.set_cons_zero, List.set_cons_succ, List.getElem_toArray, List.getElem_cons_zero, List.getElem_cons_succ]
      refine wpAnyH_ready (rs := [0, 5]) (by kernel_rfl) (by simp) ?_
      refine AllReadyH.cons rfl (fun K hK => ?_) (AllReadyH.cons rfl (fun K hK => ?_) AllReadyH.nil)
      · go_simp
        go_wp2_with ((go_at_call 10; (with_reducible refine (r_Rows _).mono ?_); rintro e w1 ⟨ad, rfl, hA, hf1⟩))
        have HR := Lib.hid hA
        first | (have HBn := Lib.hid (HB.out.no hf1); clear HB; have HB := HBn; clear HBn) | skip
        obtain ⟨P, hP⟩ : ∃ P, ad.add (n * 4) = P := ⟨_, rfl⟩
        refine hK.out _ _ (by exact ⟨hHeld.1.no hf1, hHeld.2.trans hf1⟩) (fun hHeld2 => ?_)
        clear hK K hHeld
        have hHeld := hHeld2
        clear hHeld2
        try simp only [Act.put, List.setIfInBounds_toArray, List.set_cons_zero, List.set_cons_succ, List.getElem_toArray, List.getElem_cons_zero, List.getElem_cons_succ]
        refine wpAnyH_take (i := 3) (v := ?va2x3) rfl (by kernel_rfl) (by kernel_rfl) (by kernel_rfl) (fun _ _ _ h => h) (Or.inl ⟨by rfl, ?hy2x3⟩) (by assumption) ?rest2x3
        case hy2x3 => (intro uw hSw; have e0 : uw.cell? ⟨g, 0, none⟩ = some (.int .i64 (n : Int)) := by { have h := hSw.1.cell 0; rw [show (msg0 m).cells[0]? = some (.int .i64 ((kindN m + 1 : Nat) : Int)) from rfl, HNN.out] at h; exact h }; clear hSw; go_simp; all_goals with_reducible rfl)
        try simp only [Act.put, List.setIfInBounds_toArray, List.set_cons_zero, List.set_cons_succ, List.getElem_toArray, List.getElem_cons_zero, List.getElem_cons_succ]
        refine wpAnyH_ready (rs := [4, 5]) (by kernel_rfl) (by simp) ?_
        refine AllReadyH.cons rfl (fun K hK => ?_) (AllReadyH.cons rfl (fun K hK => ?_) AllReadyH.nil)
        · obtain ⟨c0, c1, c2, c3⟩ := row_cells HR.out hn12
          rw [hP] at c0 c1 c2 c3
          go_simp
          refine hK.out _ _ (by exact hHeld) (fun hHeld2 => ?_)
          clear hK K hHeld
          have hHeld := hHeld2
          clear hHeld2
          try simp only [Act.put, List.setIfInBounds_toArray, List.set_cons_zero, List.set_cons_succ, List.getElem_toArray, List.getElem_cons_zero, List.getElem_cons_succ]
          refine wpAnyH_ready (rs := [5]) (by kernel_rfl) (by simp) ?_
          refine AllReadyH.cons rfl (fun K hK => ?_) AllReadyH.nil
          refine stepR rfl rfl ?_
          intro g6 w9 hb9 hf9 hg9 hl9
          have HB := Lib.hid hb9
          have HG6 := Lib.hid (Nat.le_trans hHeld.2.size hg9)
          first | (have HRn := Lib.hid (HR.out.fr (S := No) hf9 (fun _ _ x => x)); clear HR; have HR := HRn; clear HRn) | skip
          refine hK.out _ _ (by exact ⟨hHeld.1.no hf9, hHeld.2.trans hf9⟩) (fun hHeld2 => ?_)
          clear hK K hHeld
          have hHeld := hHeld2
          clear hHeld2
          try simp only [Act.put, List.setIfInBounds_toArray, List.set_cons_zero, List.set_cons_succ, List.getElem_toArray, List.getElem_cons_zero, List.getElem_cons_succ]
          refine wpAnyH_ready (rs := [6]) (by kernel_rfl) (by simp) ?_
          refine AllReadyH.cons rfl (fun K hK => ?_) AllReadyH.nil
          refine stepS rfl 37 (.tmp 6) (.tmp 30) rfl g6 rfl _ (rowV (kRow n)) rfl HB.out rfl (rowSize4 _) (row_one _) ?_
          intro w8 b8 f8 s8
          refine hK.out _ _ (by exact ⟨hHeld.1.fr f8 (fun e => by have e : g = g6 := e; have := HG6.out; have := HSZ.out.1; omega), hHeld.2.trans_just f8 HG6.out⟩) (fun hHeld2 => ?_)
          clear hK K hHeld
          have hHeld := hHeld2
          clear hHeld2
          try simp only [Act.put, List.setIfInBounds_toArray, List.set_cons_zero, List.set_cons_succ, List.getElem_toArray, List.getElem_cons_zero, List.getElem_cons_succ]
          refine wpAnyH_done (by kernel_rfl) ?_ _
          go_wp2_with fail
          go_meet
          exact ⟨g6, rfl, b8, hHeld.2, HG6.out⟩
        · refine stepR rfl rfl ?_
          intro g6 w9 hb9 hf9 hg9 hl9
          have HB := Lib.hid hb9
          have HG6 := Lib.hid (Nat.le_trans hHeld.2.size hg9)
          first | (have HRn := Lib.hid (HR.out.fr (S := No) hf9 (fun _ _ x => x)); clear HR; have HR := HRn; clear HRn) | skip
          refine hK.out _ _ (by exact ⟨hHeld.1.no hf9, hHeld.2.trans hf9⟩) (fun hHeld2 => ?_)
          clear hK K hHeld
          have hHeld := hHeld2
          clear hHeld2
          try simp only [Act.put, List.setIfInBounds_toArray, List.set_cons_zero, List.set_cons_succ, List.getElem_toArray, List.getElem_cons_zero, List.getElem_cons_succ]
          refine wpAnyH_ready (rs := [4]) (by kernel_rfl) (by simp) ?_
          refine AllReadyH.cons rfl (fun K hK => ?_) AllReadyH.nil
          obtain ⟨c0, c1, c2, c3⟩ := row_cells HR.out hn12
          rw [hP] at c0 c1 c2 c3
          go_simp
          refine hK.out _ _ (by exact hHeld) (fun hHeld2 => ?_)
          clear hK K hHeld
          have hHeld := hHeld2
          clear hHeld2
          try simp only [Act.put, List.setIfInBounds_toArray, List.set_cons_zero, List.set_cons_succ, List.getElem_toArray, List.getElem_cons_zero, List.getElem_cons_succ]
          refine wpAnyH_ready (rs := [6]) (by kernel_rfl) (by simp) ?_
          refine AllReadyH.cons rfl (fun K hK => ?_) AllReadyH.nil
          refine stepS rfl 37 (.tmp 6) (.tmp 30) rfl g6 rfl _ (rowV (kRow n)) rfl HB.out rfl (rowSize4 _) (row_one _) ?_
          intro w8 b8 f8 s8
          refine hK.out _ _ (by exact ⟨hHeld.1.fr f8 (fun e => by have e : g = g6 := e; have := HG6.out; have := HSZ.out.1; omega), hHeld.2.trans_just f8 HG6.out⟩) (fun hHeld2 => ?_)
          clear hK K hHeld
          have hHeld := hHeld2
          clear hHeld2
          try simp only [Act.put, List.setIfInBounds_toArray, List.set_cons_zero, List.set_cons_succ, List.getElem_toArray, List.getElem_cons_zero, List.getElem_cons_succ]
          refine wpAnyH_done (by kernel_rfl) ?_ _
          go_wp2_with fail
          go_meet
          exact ⟨g6, rfl, b8, hHeld.2, HG6.out⟩
      · refine stepR rfl rfl ?_
        intro g6 w9 hb9 hf9 hg9 hl9
        have HB := Lib.hid hb9
        have HG6 := Lib.hid (Nat.le_trans hHeld.2.size hg9)
        first | (have HRn := Lib.hid (HR.out.fr (S := No) hf9 (fun _ _ x => x)); clear HR; have HR := HRn; clear HRn) | skip
        refine hK.out _ _ (by exact ⟨hHeld.1.no hf9, hHeld.2.trans hf9⟩) (fun hHeld2 => ?_)
        clear hK K hHeld
        have hHeld := hHeld2
        clear hHeld2
        try simp only [Act.put, List.setIfInBounds_toArray, List.set_cons_zero, List.set_cons_succ, List.getElem_toArray, List.getElem_cons_zero, List.getElem_cons_succ]
        refine wpAnyH_ready (rs := [0]) (by kernel_rfl) (by simp) ?_
        refine AllReadyH.cons rfl (fun K hK => ?_) AllReadyH.nil
        go_simp
        go_wp2_with ((go_at_call 10; (with_reducible refine (r_Rows _).mono ?_); rintro e w1 ⟨ad, rfl, hA, hf1⟩))
        have HR := Lib.hid hA
        first | (have HBn := Lib.hid (HB.out.no hf1); clear HB; have HB := HBn; clear HBn) | skip
        obtain ⟨P, hP⟩ : ∃ P, ad.add (n * 4) = P := ⟨_, rfl⟩
        refine hK.out _ _ (by exact ⟨hHeld.1.no hf1, hHeld.2.trans hf1⟩) (fun hHeld2 => ?_)
        clear hK K hHeld
        have hHeld := hHeld2
        clear hHeld2
        try simp only [Act.put, List.setIfInBounds_toArray, List.set_cons_zero, List.set_cons_succ, List.getElem_toArray, List.getElem_cons_zero, List.getElem_cons_succ]
        refine wpAnyH_take (i := 3) (v := ?va2x4) rfl (by kernel_rfl) (by kernel_rfl) (by kernel_rfl) (fun _ _ _ h => h) (Or.inl ⟨by rfl, ?hy2x4⟩) (by assumption) ?rest2x4
        case hy2x4 => (intro uw hSw; have e0 : uw.cell? ⟨g, 0, none⟩ = some (.int .i64 (n : Int)) := by { have h := hSw.1.cell 0; rw [show (msg0 m).cells[0]? = some (.int .i64 ((kindN m + 1 : Nat) : Int)) from rfl, HNN.out] at h; exact h }; clear hSw; go_simp; all_goals with_reducible rfl)
        try simp only [Act.put, List.setIfInBounds_toArray, List.set_cons_zero, List.set_cons_succ, List.getElem_toArray, List.getElem_cons_zero, List.getElem_cons_succ]
        refine wpAnyH_ready (rs := [4]) (by kernel_rfl) (by simp) ?_
        refine AllReadyH.cons rfl (fun K hK => ?_) AllReadyH.nil
        obtain ⟨c0, c1, c2, c3⟩ := row_cells HR.out hn12
        rw [hP] at c0 c1 c2 c3
        go_simp
        refine hK.out _ _ (by exact hHeld) (fun hHeld2 => ?_)
        clear hK K hHeld
        have hHeld := hHeld2
        clear hHeld2
        try simp only [Act.put, List.setIfInBounds_toArray, List.set_cons_zero, List.set_cons_succ, List.getElem_toArray, List.getElem_cons_zero, List.getElem_cons_succ]
        refine wpAnyH_ready (rs := [6]) (by kernel_rfl) (by simp) ?_
        refine AllReadyH.cons rfl (fun K hK => ?_) AllReadyH.nil
        refine stepS rfl 37 (.tmp 6) (.tmp 30) rfl g6 rfl _ (rowV (kRow n)) rfl HB.out rfl (rowSize4 _) (row_one _) ?_
        intro w8 b8 f8 s8
        refine hK.out _ _ (by exact ⟨hHeld.1.fr f8 (fun e => by have e : g = g6 := e; have := HG6.out; have := HSZ.out.1; omega), hHeld.2.trans_just f8 HG6.out⟩) (fun hHeld2 => ?_)
        clear hK K hHeld
        have hHeld := hHeld2
        clear hHeld2
        try simp only [Act.put, List.setIfInBounds_toArray, List.set_cons_zero, List.set_cons_succ, List.getElem_toArray, List.getElem_cons_zero, List.getElem_cons_succ]
        refine wpAnyH_done (by kernel_rfl) ?_ _
        go_wp2_with fail
        go_meet
        exact ⟨g6, rfl, b8, hHeld.2, HG6.out⟩
      -- END 2
    case rest =>
      obtain ⟨g6, rfl, c0, cf, cg⟩ := hcut
      obtain ⟨WR, hWR⟩ : ∃ WR, WR = wc := ⟨_, rfl⟩
      rw [← hWR] at c0 cf
      have hg6 : g6 ≠ g := fun e => by have := HSZ.out.1; omega
      have hgs : ¬ Just g w.heap.size := fun e => by have e : w.heap.size = g := e; have := HG.out; omega
      have hM : Bk WR w.heap.size 29 m.cells := B1.out.no cf
      have hz : Bk WR (w.heap.size + 1) 29 m0c := B2.out.no cf
      have hat : Bk WR g 29 (msg0 m).cells := B0.out.no cf
      have hF : Fr No w WR := HF.out.trans cf
      have HROW := Lib.hid c0; have HMM := Lib.hid hM; have HZ := Lib.hid hz; have HFW := Lib.hid hF; have HGS := Lib.hid hgs; have HG6 := Lib.hid hg6
      clear B0 B1 B2 HF HSZ c0 cf cg hM hz hF hgs hg6
      have hf : Fr (Just g) WR wc := by rw [← hWR]; exact Fr.refl _ _
      rw [hWR] at hat
      clear hWR
      obtain ⟨o0, ho0⟩ : ∃ o0, o0 = msg0 m := ⟨_, rfl⟩
      rw [← ho0] at hat
      have HO0 := Lib.hid ho0
      clear ho0
      obtain ⟨wx, hwx⟩ : ∃ wx, wx = wc := ⟨_, rfl⟩
      rw [← hwx] at hat hf
      rw [← hwx]
      have y : wx.cell? ⟨w.heap.size, 4, none⟩ = some (.string m.pan) := (HMM.out.fr hf HGS.out).cell 4
      have HAT := Lib.hid hat; have HFX := Lib.hid hf
      clear hat hf hwx
      go_upto_if 36 with (go_at_call 20; refine (p_want (kRow n) g6 80 _ (kRow_small hn12).1 (kRow_small hn12).2 _ (HROW.out.fr HFX.out HG6.out)).mono ?_; rintro e w1 ⟨rfl, rfl⟩)
      go_cut [] from 32 to 40 (fun w2 => Bk w2 g 29 (mP (kRow n) m o0).cells ∧ Fr (Just g) WR w2)
      case first =>
        have hpd := p_digits m.pan 12 19 wx (by have := HMR.out.pan; simp only [maxLen]; omega) (by omega) (by omega)
        try simp only [Int.cast_ofNat_Int] at hpd
        have HPD := Lib.hid hpd
        have z4 := HAT.out.frozen 4
        have x4 : wx.cell? ⟨g, 4, none⟩ = some (.string o0.pan) := HAT.out.cell 4
        clear hpd
        go_wp2_with (go_at_call 19; refine HPD.out.mono ?_; rintro e w1 ⟨rfl, rfl⟩)
        · go_meet
          rename_i hw
          exact ⟨by unfold mP; rw [upd_t hw]; exact HAT.out.set_ 4 _, HFX.out.setCell (.inl (Just.at _)) _⟩
        · go_meet
          rename_i hw
          exact ⟨by unfold mP; rw [upd_f hw]; exact HAT.out, HFX.out⟩
      case' rest => skip
      obtain ⟨hat, hf⟩ := hcut
      clear HAT HFX y
      obtain ⟨oP, hoP⟩ : ∃ oP, oP = mP (kRow n) m o0 := ⟨_, rfl⟩
      rw [← hoP] at hat
      have HOP := Lib.hid hoP
      clear hoP
      have hcl := True.intro
      clear hcl
      obtain ⟨wx, hwx⟩ : ∃ wx, wx = wc := ⟨_, rfl⟩
      rw [← hwx] at hat hf
      rw [← hwx]
      have y : wx.cell? ⟨w.heap.size, 5, none⟩ = some (.string m.cur) := (HMM.out.fr hf HGS.out).cell 5
      have HAT := Lib.hid hat; have HFX := Lib.hid hf
      clear hat hf hwx
      go_upto_if 45 with (go_at_call 20; refine (p_want (kRow n) g6 67 _ (kRow_small hn12).1 (kRow_small hn12).2 _ (HROW.out.fr HFX.out HG6.out)).mono ?_; rintro e w1 ⟨rfl, rfl⟩)
      go_cut [] from 41 to 53 (fun w2 => Bk w2 g 29 (mC (kRow n) m oP).cells ∧ Fr (Just g) WR w2)
      case first =>
        have hpd := fun u => p_digits m.cur 3 3 u (by have := HMR.out.cur; simp only [maxLen]; omega) (by omega) (by omega)
        try simp only [Int.cast_ofNat_Int] at hpd
        have HPD := Lib.hid hpd
        have z5 := HAT.out.frozen 5
        have x5 : wx.cell? ⟨g, 5, none⟩ = some (.string oP.cur) := HAT.out.cell 5
        have z6 := HAT.out.frozen 6
        have x6 : wx.cell? ⟨g, 6, none⟩ = some (.int .u64 oP.amount) := HAT.out.cell 6
        clear hpd
        go_wp2_with fail
        · -- REGION 7
          refine wp_region_held_drew (S := fun w' => Bk w' w.heap.size 29 m.cells ∧ Fr (Just g) WR w') (by kernel_rfl) (by exact ⟨(HMM.out.fr HFX.out HGS.out).no (Dr.refl _).drew.fr, HFX.out.trans (Dr.refl _).drew.fr⟩) (fun hHeld => ?_)
          refine wpAnyH_take (i := 0) (v := ?va7x1) rfl (by kernel_rfl) (by kernel_rfl) (by kernel_rfl) (fun _ _ _ h => h) (Or.inl ⟨by rfl, ?hy7x1⟩) (by assumption) ?rest7x1
          case hy7x1 => (intro uw hSw; have e5 : uw.cell? ⟨w.heap.size, 5, none⟩ = some (.string m.cur) := hSw.1.cell 5; have e6 : uw.cell? ⟨w.heap.size, 6, none⟩ = some (.int .u64 m.amount) := hSw.1.cell 6; clear hSw; go_simp; all_goals with_reducible rfl)
          try simp only [Act.put, List.setIfInBounds_toArray, List.set_cons_zero, List.set_cons_succ, List.getElem_toArray, List.getElem_cons_zero, List.getElem_cons_succ]
          refine wpAnyH_take (i := 1) (v := ?va7x2) rfl (by kernel_rfl) (by kernel_rfl) (by kernel_rfl) (fun _ _ _ h => h) (Or.inl ⟨by rfl, ?hy7x2⟩) (by assumption) ?rest7x2
          case hy7x2 => (intro uw hSw; have e5 : uw.cell? ⟨w.heap.size, 5, none⟩ = some (.string m.cur) := hSw.1.cell 5; have e6 : uw.cell? ⟨w.heap.size, 6, none⟩ = some (.int .u64 m.amount) := hSw.1.cell 6; clear hSw; go_simp; all_goals with_reducible rfl)
          try simp only [Act.put, List.setIfInBounds_toArray, List.set_cons_zero, List.set_cons_succ, List.getElem_toArray, List.getElem_cons_zero, List.getElem_cons_succ]
          refine wpAnyH_take (i := 3) (v := ?va7x3) rfl (by kernel_rfl) (by kernel_rfl) (by kernel_rfl) (fun _ _ _ h => h) (Or.inl ⟨by rfl, ?hy7x3⟩) (by assumption) ?rest7x3
          case hy7x3 => (intro uw hSw; have e5 : uw.cell? ⟨w.heap.size, 5, none⟩ = some (.string m.cur) := hSw.1.cell 5; have e6 : uw.cell? ⟨w.heap.size, 6, none⟩ = some (.int .u64 m.amount) := hSw.1.cell 6; clear hSw; go_simp; all_goals with_reducible rfl)
          try simp only [Act.put, List.setIfInBounds_toArray, List.set_cons_zero, List.set_cons_succ, List.getElem_toArray, List.getElem_cons_zero, List.getElem_cons_succ]
          refine wpAnyH_take (i := 4) (v := ?va7x4) rfl (by kernel_rfl) (by kernel_rfl) (by kernel_rfl) (fun _ _ _ h => h) (Or.inl ⟨by rfl, ?hy7x4⟩) (by assumption) ?rest7x4
          case hy7x4 => (intro uw hSw; have e5 : uw.cell? ⟨w.heap.size, 5, none⟩ = some (.string m.cur) := hSw.1.cell 5; have e6 : uw.cell? ⟨w.heap.size, 6, none⟩ = some (.int .u64 m.amount) := hSw.1.cell 6; clear hSw; go_simp; all_goals with_reducible rfl)
          try simp only [Act.put, List.setIfInBounds_toArray, List.set_cons_zero, List.set_cons_succ, List.getElem_toArray, List.getElem_cons_zero, List.getElem_cons_succ]
          refine wpAnyH_take (i := 5) (v := ?va7x5) rfl (by kernel_rfl) (by kernel_rfl) (by kernel_rfl) (fun _ _ _ h => h) (Or.inl ⟨by rfl, ?hy7x5⟩) (by assumption) ?rest7x5
          case hy7x5 => (intro uw hSw; have e5 : uw.cell? ⟨w.heap.size, 5, none⟩ = some (.string m.cur) := hSw.1.cell 5; have e6 : uw.cell? ⟨w.heap.size, 6, none⟩ = some (.int .u64 m.amount) := hSw.1.cell 6; clear hSw; go_simp; all_goals with_reducible rfl)
          try simp only [Act.put, List.setIfInBounds_toArray, List.set_cons_zero, List.set_cons_succ, List.getElem_toArray, List.getElem_cons_zero, List.getElem_cons_succ]
          refine wpAnyH_ready (rs := [2]) (by kernel_rfl) (by simp) ?_
          refine AllReadyH.cons rfl (fun K hK => ?_) AllReadyH.nil
          go_simp
          go_wp2_with ((go_at_call 19; (with_reducible refine (HPD.out _).mono ?_); rintro e w1 ⟨rfl, rfl⟩))
          refine hK.out _ _ (by exact hHeld) (fun hHeld2 => ?_)
          clear hK K hHeld
          have hHeld := hHeld2
          clear hHeld2
          try simp only [Act.put, List.setIfInBounds_toArray, List.set_cons_zero, List.set_cons_succ, List.getElem_toArray, List.getElem_cons_zero, List.getElem_cons_succ]
          refine wpAnyH_take (i := 6) (v := ?va7x6) rfl (by kernel_rfl) (by kernel_rfl) (by kernel_rfl) (fun _ _ _ h => h) (Or.inl ⟨by rfl, ?hy7x6⟩) (by assumption) ?rest7x6
          case hy7x6 => (intro uw hSw; have e5 : uw.cell? ⟨w.heap.size, 5, none⟩ = some (.string m.cur) := hSw.1.cell 5; have e6 : uw.cell? ⟨w.heap.size, 6, none⟩ = some (.int .u64 m.amount) := hSw.1.cell 6; clear hSw; go_simp; all_goals with_reducible rfl)
          try simp only [Act.put, List.setIfInBounds_toArray, List.set_cons_zero, List.set_cons_succ, List.getElem_toArray, List.getElem_cons_zero, List.getElem_cons_succ]
          refine wpAnyH_ready (rs := [7]) (by kernel_rfl) (by simp) ?_
          refine AllReadyH.cons rfl (fun K hK => ?_) AllReadyH.nil
          go_simp
          refine hK.out _ _ (by exact ⟨hHeld.1.fr ((Fr.refl (Just g) _).setCell (p := ⟨g, 5, none⟩) (.inl (Just.at _)) _) HGS.out, hHeld.2.setCell (p := ⟨g, 5, none⟩) (.inl (Just.at _)) _⟩) (fun hHeld2 => ?_)
          clear hK K hHeld
          have hHeld := hHeld2
          clear hHeld2
          try simp only [Act.put, List.setIfInBounds_toArray, List.set_cons_zero, List.set_cons_succ, List.getElem_toArray, List.getElem_cons_zero, List.getElem_cons_succ]
          refine wpAnyH_take (i := 8) (v := ?va7x7) rfl (by kernel_rfl) (by kernel_rfl) (by kernel_rfl) (fun _ _ _ h => h) (Or.inl ⟨by rfl, ?hy7x7⟩) (by assumption) ?rest7x7
          case hy7x7 => (intro uw hSw; have e5 : uw.cell? ⟨w.heap.size, 5, none⟩ = some (.string m.cur) := hSw.1.cell 5; have e6 : uw.cell? ⟨w.heap.size, 6, none⟩ = some (.int .u64 m.amount) := hSw.1.cell 6; clear hSw; go_simp; all_goals with_reducible rfl)
          try simp only [Act.put, List.setIfInBounds_toArray, List.set_cons_zero, List.set_cons_succ, List.getElem_toArray, List.getElem_cons_zero, List.getElem_cons_succ]
          refine wpAnyH_ready (rs := [9]) (by kernel_rfl) (by simp) ?_
          refine AllReadyH.cons rfl (fun K hK => ?_) AllReadyH.nil
          go_simp
          refine hK.out _ _ (by exact ⟨hHeld.1.fr ((Fr.refl (Just g) _).setCell (p := ⟨g, 6, none⟩) (.inl (Just.at _)) _) HGS.out, hHeld.2.setCell (p := ⟨g, 6, none⟩) (.inl (Just.at _)) _⟩) (fun hHeld2 => ?_)
          clear hK K hHeld
          have hHeld := hHeld2
          clear hHeld2
          try simp only [Act.put, List.setIfInBounds_toArray, List.set_cons_zero, List.set_cons_succ, List.getElem_toArray, List.getElem_cons_zero, List.getElem_cons_succ]
          refine wpAnyH_done (by kernel_rfl) ?_ _
          go_wp2_with fail
          go_meet
          rename_i hw
          exact ⟨by unfold mC; rw [upd_t hw]; exact ((HAT.out.set_ 5 _).set_ 6 _).no (Dr.refl _).drew.fr, ((HFX.out.setCell (p := ⟨g, 5, none⟩) (.inl (Just.at _)) _).setCell (p := ⟨g, 6, none⟩) (.inl (Just.at _)) _).drew⟩
          -- END 7
        · go_meet
          rename_i hw
          exact ⟨by unfold mC; rw [upd_f hw]; exact HAT.out, HFX.out⟩
      case' rest => skip
      obtain ⟨hat, hf⟩ := hcut
      clear HAT HFX y
      obtain ⟨oC, hoC⟩ : ∃ oC, oC = mC (kRow n) m oP := ⟨_, rfl⟩
      rw [← hoC] at hat
      have HOC := Lib.hid hoC
      clear hoC
      have hcl := True.intro
      clear hcl
      obtain ⟨wx, hwx⟩ : ∃ wx, wx = wc := ⟨_, rfl⟩
      rw [← hwx] at hat hf
      rw [← hwx]
      have y : wx.cell? ⟨w.heap.size, 7, none⟩ = some (.string m.rrn) := (HMM.out.fr hf HGS.out).cell 7
      have HAT := Lib.hid hat; have HFX := Lib.hid hf
      clear hat hf hwx
      go_upto_if 58 with (go_at_call 20; refine (p_want (kRow n) g6 82 _ (kRow_small hn12).1 (kRow_small hn12).2 _ (HROW.out.fr HFX.out HG6.out)).mono ?_; rintro e w1 ⟨rfl, rfl⟩)
      go_cut [] from 54 to 62 (fun w2 => Bk w2 g 29 (mR (kRow n) m oC).cells ∧ Fr (Just g) WR w2)
      case first =>
        have hpd := p_alnum m.rrn 12 wx (by have := HMR.out.rrn; simp only [maxLen]; omega) (by omega)
        try simp only [Int.cast_ofNat_Int] at hpd
        have HPD := Lib.hid hpd
        have z4 := HAT.out.frozen 7
        have x4 : wx.cell? ⟨g, 7, none⟩ = some (.string oC.rrn) := HAT.out.cell 7
        clear hpd
        go_wp2_with (go_at_call 22; refine HPD.out.mono ?_; rintro e w1 ⟨rfl, rfl⟩)
        · go_meet
          rename_i hw
          exact ⟨by unfold mR; rw [upd_t hw]; exact HAT.out.set_ 7 _, HFX.out.setCell (.inl (Just.at _)) _⟩
        · go_meet
          rename_i hw
          exact ⟨by unfold mR; rw [upd_f hw]; exact HAT.out, HFX.out⟩
      case' rest => skip
      obtain ⟨hat, hf⟩ := hcut
      clear HAT HFX y
      obtain ⟨oR, hoR⟩ : ∃ oR, oR = mR (kRow n) m oC := ⟨_, rfl⟩
      rw [← hoR] at hat
      have HOR := Lib.hid hoR
      clear hoR
      have hcl := True.intro
      clear hcl
      obtain ⟨wx, hwx⟩ : ∃ wx, wx = wc := ⟨_, rfl⟩
      rw [← hwx] at hat hf
      rw [← hwx]
      have y : wx.cell? ⟨w.heap.size, 8, none⟩ = some (.string m.mer) := (HMM.out.fr hf HGS.out).cell 8
      have HAT := Lib.hid hat; have HFX := Lib.hid hf
      clear hat hf hwx
      go_upto_if 69 with (go_at_call 20; refine (p_want (kRow n) g6 77 _ (kRow_small hn12).1 (kRow_small hn12).2 _ (HROW.out.fr HFX.out HG6.out)).mono ?_; rintro e w1 ⟨rfl, rfl⟩)
      go_cut [] from 65 to 75 (fun w2 => Bk w2 g 29 (mM (kRow n) m oR).cells ∧ Fr (Just g) WR w2)
      case first =>
        have hpd := p_text2 m.mer 35 wx HMR.out.mer (by omega)
        try simp only [Int.cast_ofNat_Int] at hpd
        have HPD := Lib.hid hpd
        have z4 := HAT.out.frozen 8
        have x4 : wx.cell? ⟨g, 8, none⟩ = some (.string oR.mer) := HAT.out.cell 8
        clear hpd
        go_wp2_with (go_at_call 23; refine HPD.out.mono ?_; rintro e w1 ⟨rfl, rfl⟩)
        · go_meet
          rename_i hw
          exact ⟨by unfold mM; rw [upd_t hw]; exact HAT.out.set_ 8 _, HFX.out.setCell (.inl (Just.at _)) _⟩
        · go_meet
          rename_i hw
          exact ⟨by unfold mM; rw [upd_f hw]; exact HAT.out, HFX.out⟩
      case' rest => skip
      obtain ⟨hat, hf⟩ := hcut
      clear HAT HFX y
      obtain ⟨oM, hoM⟩ : ∃ oM, oM = mM (kRow n) m oR := ⟨_, rfl⟩
      rw [← hoM] at hat
      have HOM := Lib.hid hoM
      clear hoM
      have hcl := True.intro
      clear hcl
      obtain ⟨wx, hwx⟩ : ∃ wx, wx = wc := ⟨_, rfl⟩
      rw [← hwx] at hat hf
      rw [← hwx]
      have y : wx.cell? ⟨w.heap.size, 9, none⟩ = some (.string m.ter) := (HMM.out.fr hf HGS.out).cell 9
      have HAT := Lib.hid hat; have HFX := Lib.hid hf
      clear hat hf hwx
      go_upto_if 80 with (go_at_call 20; refine (p_want (kRow n) g6 84 _ (kRow_small hn12).1 (kRow_small hn12).2 _ (HROW.out.fr HFX.out HG6.out)).mono ?_; rintro e w1 ⟨rfl, rfl⟩)
      go_cut [] from 76 to 86 (fun w2 => Bk w2 g 29 (mT (kRow n) m oM).cells ∧ Fr (Just g) WR w2)
      case first =>
        have hpd := p_text2 m.ter 35 wx HMR.out.ter (by omega)
        try simp only [Int.cast_ofNat_Int] at hpd
        have HPD := Lib.hid hpd
        have z4 := HAT.out.frozen 9
        have x4 : wx.cell? ⟨g, 9, none⟩ = some (.string oM.ter) := HAT.out.cell 9
        clear hpd
        go_wp2_with (go_at_call 23; refine HPD.out.mono ?_; rintro e w1 ⟨rfl, rfl⟩)
        · go_meet
          rename_i hw
          exact ⟨by unfold mT; rw [upd_t hw]; exact HAT.out.set_ 9 _, HFX.out.setCell (.inl (Just.at _)) _⟩
        · go_meet
          rename_i hw
          exact ⟨by unfold mT; rw [upd_f hw]; exact HAT.out, HFX.out⟩
      case' rest => skip
      obtain ⟨hat, hf⟩ := hcut
      clear HAT HFX y
      obtain ⟨oT, hoT⟩ : ∃ oT, oT = mT (kRow n) m oM := ⟨_, rfl⟩
      rw [← hoT] at hat
      have HOT := Lib.hid hoT
      clear hoT
      have hcl := True.intro
      clear hcl
      obtain ⟨wx, hwx⟩ : ∃ wx, wx = wc := ⟨_, rfl⟩
      rw [← hwx] at hat hf
      rw [← hwx]
      have y : wx.cell? ⟨w.heap.size, 10, none⟩ = some (.string m.app) := (HMM.out.fr hf HGS.out).cell 10
      have HAT := Lib.hid hat; have HFX := Lib.hid hf
      clear hat hf hwx
      go_upto_if 91 with (go_at_call 20; refine (p_want (kRow n) g6 65 _ (kRow_small hn12).1 (kRow_small hn12).2 _ (HROW.out.fr HFX.out HG6.out)).mono ?_; rintro e w1 ⟨rfl, rfl⟩)
      go_cut [] from 87 to 95 (fun w2 => Bk w2 g 29 (mA (kRow n) m oT).cells ∧ Fr (Just g) WR w2)
      case first =>
        have hpd := p_alnum m.app 6 wx (by have := HMR.out.app; simp only [maxLen]; omega) (by omega)
        try simp only [Int.cast_ofNat_Int] at hpd
        have HPD := Lib.hid hpd
        have z4 := HAT.out.frozen 10
        have x4 : wx.cell? ⟨g, 10, none⟩ = some (.string oT.app) := HAT.out.cell 10
        clear hpd
        go_wp2_with (go_at_call 22; refine HPD.out.mono ?_; rintro e w1 ⟨rfl, rfl⟩)
        · go_meet
          rename_i hw
          exact ⟨by unfold mA; rw [upd_t hw]; exact HAT.out.set_ 10 _, HFX.out.setCell (.inl (Just.at _)) _⟩
        · go_meet
          rename_i hw
          exact ⟨by unfold mA; rw [upd_f hw]; exact HAT.out, HFX.out⟩
      case' rest => skip
      obtain ⟨hat, hf⟩ := hcut
      clear HAT HFX y
      obtain ⟨oA, hoA⟩ : ∃ oA, oA = mA (kRow n) m oT := ⟨_, rfl⟩
      rw [← hoA] at hat
      have HOA := Lib.hid hoA
      clear hoA
      have hcl := True.intro
      clear hcl
      obtain ⟨wx, hwx⟩ : ∃ wx, wx = wc := ⟨_, rfl⟩
      rw [← hwx] at hat hf
      rw [← hwx]
      have y : wx.cell? ⟨w.heap.size, 11, none⟩ = some (.int .i64 m.entry) := (HMM.out.fr hf HGS.out).cell 11
      have HAT := Lib.hid hat; have HFX := Lib.hid hf
      clear hat hf hwx
      go_upto_if 100 with (go_at_call 20; refine (p_want (kRow n) g6 69 _ (kRow_small hn12).1 (kRow_small hn12).2 _ (HROW.out.fr HFX.out HG6.out)).mono ?_; rintro e w1 ⟨rfl, rfl⟩)
      go_cut [] from 96 to 105 (fun w2 => Bk w2 g 29 (mE (kRow n) m oA).cells ∧ Fr (Just g) WR w2)
      case first =>
        have hb := wf_i64 HMR.out.entry
        have hlt := (modN_lt m.entry 999 (by omega) (by omega)).1
        have hpd := p_mod m.entry 999 hb.1 hb.2 (by omega) (by omega) wx
        have hadd : IntKind.i64.wrap (1 + (modN m.entry 999 : Int)) = ((modN m.entry 999 + 1 : Nat) : Int) := by
          rw [IntWalk.i64_in _ ⟨by omega, by omega⟩]
          omega
        try simp only [Int.cast_ofNat_Int] at hpd
        have HPD := Lib.hid hpd
        have z4 := HAT.out.frozen 11
        have x4 : wx.cell? ⟨g, 11, none⟩ = some (.int .i64 oA.entry) := HAT.out.cell 11
        clear hpd hb hlt
        go_wp2_with (go_at_call 17; refine HPD.out.mono ?_; rintro e w1 ⟨rfl, rfl⟩)
        · go_meet
          rename_i hw
          exact ⟨by unfold mE; rw [upd_t hw]; exact HAT.out.set_ 11 _, HFX.out.setCell (.inl (Just.at _)) _⟩
        · go_meet
          rename_i hw
          exact ⟨by unfold mE; rw [upd_f hw]; exact HAT.out, HFX.out⟩
      case' rest => skip
      obtain ⟨hat, hf⟩ := hcut
      clear HAT HFX y
      obtain ⟨oE, hoE⟩ : ∃ oE, oE = mE (kRow n) m oA := ⟨_, rfl⟩
      rw [← hoE] at hat
      have HOE := Lib.hid hoE
      clear hoE
      obtain ⟨wx, hwx⟩ : ∃ wx, wx = wc := ⟨_, rfl⟩
      rw [← hwx] at hat hf
      rw [← hwx]
      have y : wx.cell? ⟨w.heap.size, 12, none⟩ = some (.string m.act) := (HMM.out.fr hf HGS.out).cell 12
      have y11 : wx.cell? ⟨w.heap.size, 11, none⟩ = some (.int .i64 m.entry) := (HMM.out.fr hf HGS.out).cell 11
      have HAT := Lib.hid hat; have HFX := Lib.hid hf
      clear hat hf hwx
      go_upto_if 110 with (go_at_call 20; refine (p_want (kRow n) g6 68 _ (kRow_small hn12).1 (kRow_small hn12).2 _ (HROW.out.fr HFX.out HG6.out)).mono ?_; rintro e w1 ⟨rfl, rfl⟩)
      go_cut [] from 106 to 130 (fun w2 => Bk w2 g 29 (mD (kRow n) m oE).cells ∧ Fr (Just g) WR w2)
      case first =>
        have hlt := (modN_lt (IntKind.i64.wrap ((m.act.size : Int) + m.entry)) 22 (by omega) (by omega)).1
        have hwb := wrap_in64 ((m.act.size : Int) + m.entry)
        have hpd := fun u => p_mod (IntKind.i64.wrap ((m.act.size : Int) + m.entry)) 22 hwb.1 hwb.2 (by omega) (by omega) u
        rw [show modN (IntKind.i64.wrap ((m.act.size : Int) + m.entry)) 22 = actN m from rfl] at hpd hlt
        try simp only [Int.cast_ofNat_Int] at hpd
        obtain ⟨V, hV⟩ : ∃ V, IntKind.i64.wrap ((m.act.size : Int) + m.entry) = V := ⟨_, rfl⟩
        have hV2 : wrap64 ((m.act.size : Int) + m.entry) = V := by rw [← hV]; exact wrap64_i64 _
        rw [hV] at hpd
        obtain ⟨na, hna⟩ : ∃ na, actN m = na := ⟨_, rfl⟩
        rw [hna] at hpd hlt
        have hna0 : (0 : Int) ≤ (na : Int) := by omega
        have hna22 : (na : Int) < 22 := by omega
        obtain ⟨X, hX⟩ : ∃ X, actsL.getD na ⟨#[]⟩ = X := ⟨_, rfl⟩
        have HX := Lib.hid hX
        have HPD := Lib.hid hpd; have HLT := Lib.hid hlt; have HNA := Lib.hid hna
        clear hpd hlt hwb hna y y11 hX
        go_upto_region 24 with (first
          | (go_at_call 24; refine (r_Actions _).mono ?_; rintro e w1 ⟨v, rfl, ho, hf1⟩; obtain ⟨A1, c1, rfl, hra, -⟩ := Rd.of_own ho; have HFX1 := Lib.hid (HFX.out.trans hf1.no); have HAT1 := Lib.hid (HAT.out.no hf1); have y := (HMM.out.fr HFX1.out HGS.out).cell 12; have y11 := (HMM.out.fr HFX1.out HGS.out).cell 11; have z12 := HAT1.out.frozen 12; have x12 := HAT1.out.cell 12; obtain ⟨ad, u, rfl, hu, hcu⟩ := hra.at_ HLT.out; have hcu2 := acts_cell hu hcu; rw [HX.out] at hcu2; change w1.cell? ⟨w.heap.size, 12, none⟩ = some (.string m.act) at y; change w1.cell? ⟨w.heap.size, 11, none⟩ = some (.int .i64 m.entry) at y11; change w1.cell? ⟨g, 12, none⟩ = some (.string oE.act) at x12; clear hf1 ho hra hu hcu)
          | (go_at_call 17; refine (HPD.out _).mono ?_; rintro e w2 ⟨rfl, rfl⟩))
        · have HW := Lib.hid (show wantB (kRow n) 68 (!m.act.toList.isEmpty) = true by assumption)
          clear y y11 z12 x12 hcu2
          obtain ⟨w2, hw2⟩ : ∃ w2, w1.setCell ⟨g, 12, none⟩ (.string X) = w2 := ⟨_, rfl⟩
          rw [hw2]
          have ha2 : Bk w2 g 29 ({ oE with act := X } : MsgC).cells := by rw [← hw2]; exact HAT1.out.set_ 12 _
          have hf2 : Fr (Just g) WR w2 := by rw [← hw2]; exact HFX1.out.setCell (.inl (Just.at _)) _
          have HA2 := Lib.hid ha2; have HF2 := Lib.hid hf2
          have y : w2.cell? ⟨w.heap.size, 12, none⟩ = some (.string m.act) := (HMM.out.fr hf2 HGS.out).cell 12
          clear ha2 hf2 hw2
          by_cases hk : wK m.act = true
          · have HK := Lib.hid hk
            have hkn := fun u => r_Known m.act u
            rw [hk] at hkn
            have HKN := Lib.hid hkn
            clear hk hkn
            go_wp2_with (go_at_call 25; refine (HKN.out _).mono ?_; rintro e w3 ⟨rfl, hf3⟩; have HFX3 := Lib.hid (HF2.out.trans hf3.no); have HAT3 := Lib.hid (HA2.out.no hf3); have y := (HMM.out.fr HFX3.out HGS.out).cell 12; have z12 := HAT3.out.frozen 12; have x12 := HAT3.out.cell 12; change w3.cell? ⟨w.heap.size, 12, none⟩ = some (.string m.act) at y; change w3.cell? ⟨g, 12, none⟩ = some (.string X) at x12; clear hf3)
            go_meet
            exact ⟨by unfold mD; rw [upd_t HW.out]; unfold actP; rw [if_pos HK.out]; exact HAT3.out.set_ 12 _, HFX3.out.setCell (.inl (Just.at _)) _⟩
          · have HK := Lib.hid hk
            have hkn := fun u => r_Known m.act u
            rw [Bool.eq_false_iff.2 hk] at hkn
            have HKN := Lib.hid hkn
            clear hk hkn
            go_wp2_with (go_at_call 25; refine (HKN.out _).mono ?_; rintro e w3 ⟨rfl, hf3⟩; have HFX3 := Lib.hid (HF2.out.trans hf3.no); have HAT3 := Lib.hid (HA2.out.no hf3); clear hf3)
            go_meet
            exact ⟨by unfold mD; rw [upd_t HW.out]; unfold actP; rw [if_neg HK.out, HNA.out, HX.out]; exact HAT3.out, HFX3.out⟩
        · go_meet
          rename_i hw
          exact ⟨by unfold mD; rw [upd_f hw]; exact HAT.out, HFX.out⟩
      case' rest => skip
      obtain ⟨hat, hf⟩ := hcut
      clear HAT HFX y y11
      obtain ⟨oD, hoD⟩ : ∃ oD, oD = mD (kRow n) m oE := ⟨_, rfl⟩
      rw [← hoD] at hat
      have HOD := Lib.hid hoD
      clear hoD
      obtain ⟨wx, hwx⟩ : ∃ wx, wx = wc := ⟨_, rfl⟩
      rw [← hwx] at hat hf
      rw [← hwx]
      have y : wx.cell? ⟨w.heap.size, 13, none⟩ = some (.string m.rea) := (HMM.out.fr hf HGS.out).cell 13
      have HAT := Lib.hid hat; have HFX := Lib.hid hf
      clear hat hf hwx
      go_upto_if 135 with (go_at_call 20; refine (p_want (kRow n) g6 78 _ (kRow_small hn12).1 (kRow_small hn12).2 _ (HROW.out.fr HFX.out HG6.out)).mono ?_; rintro e w1 ⟨rfl, rfl⟩)
      go_cut [] from 131 to 139 (fun w2 => Bk w2 g 29 (mN (kRow n) m oD).cells ∧ Fr (Just g) WR w2)
      case first =>
        have hpd := p_digits m.rea 4 4 wx (by have := HMR.out.rea; simp only [maxLen]; omega) (by omega) (by omega)
        try simp only [Int.cast_ofNat_Int] at hpd
        have HPD := Lib.hid hpd
        have z4 := HAT.out.frozen 13
        have x4 : wx.cell? ⟨g, 13, none⟩ = some (.string oD.rea) := HAT.out.cell 13
        clear hpd
        go_wp2_with (go_at_call 19; refine HPD.out.mono ?_; rintro e w1 ⟨rfl, rfl⟩)
        · go_meet
          rename_i hw
          exact ⟨by unfold mN; rw [upd_t hw]; exact HAT.out.set_ 13 _, HFX.out.setCell (.inl (Just.at _)) _⟩
        · go_meet
          rename_i hw
          exact ⟨by unfold mN; rw [upd_f hw]; exact HAT.out, HFX.out⟩
      case' rest => skip
      obtain ⟨hat, hf⟩ := hcut
      clear HAT HFX y
      obtain ⟨oN, hoN⟩ : ∃ oN, oN = mN (kRow n) m oD := ⟨_, rfl⟩
      rw [← hoN] at hat
      have HON := Lib.hid hoN
      clear hoN
      obtain ⟨wx, hwx⟩ : ∃ wx, wx = wc := ⟨_, rfl⟩
      rw [← hwx] at hat hf
      rw [← hwx]
      have y : wx.cell? ⟨w.heap.size, 15, none⟩ = some (.string m.otime) := (HMM.out.fr hf HGS.out).cell 15
      have y14 : wx.cell? ⟨w.heap.size, 14, none⟩ = some (.int .i64 m.ostan) := (HMM.out.fr hf HGS.out).cell 14
      have HAT := Lib.hid hat; have HFX := Lib.hid hf
      clear hat hf hwx
      go_upto_if 145 with (go_at_call 20; refine (p_want (kRow n) g6 79 _ (kRow_small hn12).1 (kRow_small hn12).2 _ (HROW.out.fr HFX.out HG6.out)).mono ?_; rintro e w1 ⟨rfl, rfl⟩)
      go_cut [] from 140 to 155 (fun w2 => Bk w2 g 29 (mO (kRow n) m oN).cells ∧ Fr (Just g) WR w2)
      case first =>
        have hb := wf_i64 HMR.out.ostan
        have t1 := fun u => p_mod m.ostan 1000000 hb.1 hb.2 (by omega) (by omega) u
        have t2 := fun u => p_time2 m.otime u (by have := HMR.out.otime; simp only [maxLen]; omega)
        try simp only [Int.cast_ofNat_Int] at t1
        have T1 := Lib.hid t1; have T2 := Lib.hid t2
        clear t1 t2 hb
        go_wp2_with fail
        · -- REGION 29
          refine wp_region_held_drew (S := fun w' => Bk w' w.heap.size 29 m.cells ∧ Fr (Just g) WR w') (by kernel_rfl) (by exact ⟨(HMM.out.fr HFX.out HGS.out).no (Dr.refl _).drew.fr, HFX.out.trans (Dr.refl _).drew.fr⟩) (fun hHeld => ?_)
          refine wpAnyH_take (i := 0) (v := ?va29x1) rfl (by kernel_rfl) (by kernel_rfl) (by kernel_rfl) (fun _ _ _ h => h) (Or.inl ⟨by rfl, ?hy29x1⟩) (by assumption) ?rest29x1
          case hy29x1 => (intro uw hSw; have e5 : uw.cell? ⟨w.heap.size, 14, none⟩ = some (.int .i64 m.ostan) := hSw.1.cell 14; have e6 : uw.cell? ⟨w.heap.size, 15, none⟩ = some (.string m.otime) := hSw.1.cell 15; clear hSw; go_simp; all_goals with_reducible rfl)
          try simp only [Act.put, List.setIfInBounds_toArray, List.set_cons_zero, List.set_cons_succ, List.getElem_toArray, List.getElem_cons_zero, List.getElem_cons_succ]
          refine wpAnyH_take (i := 1) (v := ?va29x2) rfl (by kernel_rfl) (by kernel_rfl) (by kernel_rfl) (fun _ _ _ h => h) (Or.inl ⟨by rfl, ?hy29x2⟩) (by assumption) ?rest29x2
          case hy29x2 => (intro uw hSw; have e5 : uw.cell? ⟨w.heap.size, 14, none⟩ = some (.int .i64 m.ostan) := hSw.1.cell 14; have e6 : uw.cell? ⟨w.heap.size, 15, none⟩ = some (.string m.otime) := hSw.1.cell 15; clear hSw; go_simp; all_goals with_reducible rfl)
          try simp only [Act.put, List.setIfInBounds_toArray, List.set_cons_zero, List.set_cons_succ, List.getElem_toArray, List.getElem_cons_zero, List.getElem_cons_succ]
          refine wpAnyH_take (i := 2) (v := ?va29x3) rfl (by kernel_rfl) (by kernel_rfl) (by kernel_rfl) (fun _ _ _ h => h) (Or.inl ⟨by rfl, ?hy29x3⟩) (by assumption) ?rest29x3
          case hy29x3 => (intro uw hSw; have e5 : uw.cell? ⟨w.heap.size, 14, none⟩ = some (.int .i64 m.ostan) := hSw.1.cell 14; have e6 : uw.cell? ⟨w.heap.size, 15, none⟩ = some (.string m.otime) := hSw.1.cell 15; clear hSw; go_simp; all_goals with_reducible rfl)
          try simp only [Act.put, List.setIfInBounds_toArray, List.set_cons_zero, List.set_cons_succ, List.getElem_toArray, List.getElem_cons_zero, List.getElem_cons_succ]
          refine wpAnyH_take (i := 4) (v := ?va29x4) rfl (by kernel_rfl) (by kernel_rfl) (by kernel_rfl) (fun _ _ _ h => h) (Or.inl ⟨by rfl, ?hy29x4⟩) (by assumption) ?rest29x4
          case hy29x4 => (intro uw hSw; have e5 : uw.cell? ⟨w.heap.size, 14, none⟩ = some (.int .i64 m.ostan) := hSw.1.cell 14; have e6 : uw.cell? ⟨w.heap.size, 15, none⟩ = some (.string m.otime) := hSw.1.cell 15; clear hSw; go_simp; all_goals with_reducible rfl)
          try simp only [Act.put, List.setIfInBounds_toArray, List.set_cons_zero, List.set_cons_succ, List.getElem_toArray, List.getElem_cons_zero, List.getElem_cons_succ]
          refine wpAnyH_take (i := 5) (v := ?va29x5) rfl (by kernel_rfl) (by kernel_rfl) (by kernel_rfl) (fun _ _ _ h => h) (Or.inl ⟨by rfl, ?hy29x5⟩) (by assumption) ?rest29x5
          case hy29x5 => (intro uw hSw; have e5 : uw.cell? ⟨w.heap.size, 14, none⟩ = some (.int .i64 m.ostan) := hSw.1.cell 14; have e6 : uw.cell? ⟨w.heap.size, 15, none⟩ = some (.string m.otime) := hSw.1.cell 15; clear hSw; go_simp; all_goals with_reducible rfl)
          try simp only [Act.put, List.setIfInBounds_toArray, List.set_cons_zero, List.set_cons_succ, List.getElem_toArray, List.getElem_cons_zero, List.getElem_cons_succ]
          refine wpAnyH_take (i := 6) (v := ?va29x6) rfl (by kernel_rfl) (by kernel_rfl) (by kernel_rfl) (fun _ _ _ h => h) (Or.inl ⟨by rfl, ?hy29x6⟩) (by assumption) ?rest29x6
          case hy29x6 => (intro uw hSw; have e5 : uw.cell? ⟨w.heap.size, 14, none⟩ = some (.int .i64 m.ostan) := hSw.1.cell 14; have e6 : uw.cell? ⟨w.heap.size, 15, none⟩ = some (.string m.otime) := hSw.1.cell 15; clear hSw; go_simp; all_goals with_reducible rfl)
          try simp only [Act.put, List.setIfInBounds_toArray, List.set_cons_zero, List.set_cons_succ, List.getElem_toArray, List.getElem_cons_zero, List.getElem_cons_succ]
          refine wpAnyH_ready (rs := [3]) (by kernel_rfl) (by simp) ?_
          refine AllReadyH.cons rfl (fun K hK => ?_) AllReadyH.nil
          go_simp
          go_wp2_with ((go_at_call 17; (with_reducible refine (T1.out _).mono ?_); rintro e w1 ⟨rfl, rfl⟩))
          refine hK.out _ _ (by exact hHeld) (fun hHeld2 => ?_)
          clear hK K hHeld
          have hHeld := hHeld2
          clear hHeld2
          try simp only [Act.put, List.setIfInBounds_toArray, List.set_cons_zero, List.set_cons_succ, List.getElem_toArray, List.getElem_cons_zero, List.getElem_cons_succ]
          refine wpAnyH_ready (rs := [7]) (by kernel_rfl) (by simp) ?_
          refine AllReadyH.cons rfl (fun K hK => ?_) AllReadyH.nil
          go_simp
          go_wp2_with ((go_at_call 18; (with_reducible refine (T2.out _).mono ?_); rintro e w1 ⟨rfl, hd⟩))
          have HB1 := Lib.hid ((HAT.out.no (Dr.refl _).drew.fr).no hd.fr)
          refine hK.out _ _ (by exact ⟨hHeld.1.no hd.fr, hHeld.2.trans hd.fr⟩) (fun hHeld2 => ?_)
          clear hK K hHeld
          have hHeld := hHeld2
          clear hHeld2
          try simp only [Act.put, List.setIfInBounds_toArray, List.set_cons_zero, List.set_cons_succ, List.getElem_toArray, List.getElem_cons_zero, List.getElem_cons_succ]
          refine wpAnyH_take (i := 8) (v := ?va29x7) rfl (by kernel_rfl) (by kernel_rfl) (by kernel_rfl) (fun _ _ _ h => h) (Or.inl ⟨by rfl, ?hy29x7⟩) (by assumption) ?rest29x7
          case hy29x7 => (intro uw hSw; have e5 : uw.cell? ⟨w.heap.size, 14, none⟩ = some (.int .i64 m.ostan) := hSw.1.cell 14; have e6 : uw.cell? ⟨w.heap.size, 15, none⟩ = some (.string m.otime) := hSw.1.cell 15; clear hSw; go_simp; all_goals with_reducible rfl)
          try simp only [Act.put, List.setIfInBounds_toArray, List.set_cons_zero, List.set_cons_succ, List.getElem_toArray, List.getElem_cons_zero, List.getElem_cons_succ]
          refine wpAnyH_take (i := 9) (v := ?va29x8) rfl (by kernel_rfl) (by kernel_rfl) (by kernel_rfl) (fun _ _ _ h => h) (Or.inl ⟨by rfl, ?hy29x8⟩) (by assumption) ?rest29x8
          case hy29x8 => (intro uw hSw; have e5 : uw.cell? ⟨w.heap.size, 14, none⟩ = some (.int .i64 m.ostan) := hSw.1.cell 14; have e6 : uw.cell? ⟨w.heap.size, 15, none⟩ = some (.string m.otime) := hSw.1.cell 15; clear hSw; go_simp; all_goals with_reducible rfl)
          try simp only [Act.put, List.setIfInBounds_toArray, List.set_cons_zero, List.set_cons_succ, List.getElem_toArray, List.getElem_cons_zero, List.getElem_cons_succ]
          refine wpAnyH_ready (rs := [10]) (by kernel_rfl) (by simp) ?_
          refine AllReadyH.cons rfl (fun K hK => ?_) AllReadyH.nil
          have z14 := HB1.out.frozen 14
          have z15 := HB1.out.frozen 15
          have x14 : w1.cell? ⟨g, 14, none⟩ = some (.int .i64 oN.ostan) := HB1.out.cell 14
          have x15 : w1.cell? ⟨g, 15, none⟩ = some (.string oN.otime) := HB1.out.cell 15
          go_simp
          refine hK.out _ _ (by exact ⟨(hHeld.1.fr ((Fr.refl (Just g) _).setCell (p := ⟨g, 14, none⟩) (.inl (Just.at _)) _) HGS.out).fr ((Fr.refl (Just g) _).setCell (p := ⟨g, 15, none⟩) (.inl (Just.at _)) _) HGS.out, (hHeld.2.setCell (p := ⟨g, 14, none⟩) (.inl (Just.at _)) _).setCell (p := ⟨g, 15, none⟩) (.inl (Just.at _)) _⟩) (fun hHeld2 => ?_)
          clear hK K hHeld
          have hHeld := hHeld2
          clear hHeld2
          try simp only [Act.put, List.setIfInBounds_toArray, List.set_cons_zero, List.set_cons_succ, List.getElem_toArray, List.getElem_cons_zero, List.getElem_cons_succ]
          refine wpAnyH_done (by kernel_rfl) ?_ _
          go_wp2_with fail
          go_meet
          rename_i hw
          exact ⟨by unfold mO; rw [upd_t hw]; exact (HB1.out.set_ 14 _).set_ 15 _, hHeld.2⟩
          -- END 29
        · go_meet
          rename_i hw
          exact ⟨by unfold mO; rw [upd_f hw]; exact HAT.out, HFX.out⟩
      case' rest => skip
      obtain ⟨hat, hf⟩ := hcut
      clear HAT HFX y y14
      obtain ⟨oO, hoO⟩ : ∃ oO, oO = mO (kRow n) m oN := ⟨_, rfl⟩
      rw [← hoO] at hat
      have HOO := Lib.hid hoO
      clear hoO
      obtain ⟨wx, hwx⟩ : ∃ wx, wx = wc := ⟨_, rfl⟩
      rw [← hwx] at hat hf
      rw [← hwx]
      have y : wx.cell? ⟨w.heap.size, 16, none⟩ = some (.slice m.tA m.tn m.tc) := (HMM.out.fr hf HGS.out).cell 16
      have hgx := hat.lt
      have HAT := Lib.hid hat; have HFX := Lib.hid hf; have HGX := Lib.hid hgx
      clear hat hf hwx hgx
      go_upto_if 161 with (go_at_call 20; refine (p_want (kRow n) g6 71 _ (kRow_small hn12).1 (kRow_small hn12).2 _ (HROW.out.fr HFX.out HG6.out)).mono ?_; rintro e w1 ⟨rfl, rfl⟩)
      go_cut [] from 156 to 165 (fun w2 => GAt (kRow n) m oO g w2 ∧ Fr (Just g) WR w2)
      case first =>
        have hmt : RdI 2 TagI wx N m.tA m.tn m.tc tl := (HMR.out.tags.no tag_ok HFW.out).fr tag_ok HFX.out (fun i hi e => by have := HN.out i hi; have := HG.out; have e : i = g := e; omega)
        have HTT := Lib.hid (p_tags wx hmt)
        clear hmt
        go_wp2_with (go_at_call 26; refine (HTT.out).mono ?_; rintro e w1 ⟨A1, n1, c1, ls1, rfl, hn1, hn6, hr1, hf1, hw1⟩; have HAT1 := Lib.hid (HAT.out.no hf1); have HFX1 := Lib.hid (HFX.out.trans hf1.no); have z16 := HAT1.out.frozen 16; have x16 := HAT1.out.cell 16; change w1.cell? ⟨g, 16, none⟩ = some (.slice oO.tA oO.tn oO.tc) at x16; have HR1 := Lib.hid hr1; have HN1 := Lib.hid (And.intro hn1 (And.intro hn6 hw1)); clear hr1 hf1 hw1 hn1 hn6)
        · go_meet
          rename_i hw
          exact ⟨gat_yes hw HGX.out HAT1.out HN1.out HR1.out, HFX1.out.setCell (.inl (Just.at _)) _⟩
        · go_meet
          rename_i hw
          exact ⟨gat_no hw HAT.out, HFX.out⟩
      case' rest => skip
      obtain ⟨⟨TA, tk, tc, tls, hat, htg⟩, hf⟩ := hcut
      clear HAT HFX y HGX
      obtain ⟨oG, hoG⟩ : ∃ oG, oG = gM (kRow n) m TA tk tc oO := ⟨_, rfl⟩
      rw [← hoG] at hat
      have HOG := Lib.hid hoG
      clear hoG
      obtain ⟨wx, hwx⟩ : ∃ wx, wx = wc := ⟨_, rfl⟩
      rw [← hwx] at hat hf htg
      rw [← hwx]
      have hme : oG.eA = none ∧ oG.en = 0 ∧ oG.ec = 0 := by
        rw [HOG.out]; refine ext_upd (fun o => ⟨rfl, rfl, rfl⟩) ?_
        rw [HOO.out]; refine ext_upd (fun o => ⟨rfl, rfl, rfl⟩) ?_
        rw [HON.out]; refine ext_upd (fun o => ⟨rfl, rfl, rfl⟩) ?_
        rw [HOD.out]; refine ext_upd (fun o => ⟨rfl, rfl, rfl⟩) ?_
        rw [HOE.out]; refine ext_upd (fun o => ⟨rfl, rfl, rfl⟩) ?_
        rw [HOA.out]; refine ext_upd (fun o => ⟨rfl, rfl, rfl⟩) ?_
        rw [HOT.out]; refine ext_upd (fun o => ⟨rfl, rfl, rfl⟩) ?_
        rw [HOM.out]; refine ext_upd (fun o => ⟨rfl, rfl, rfl⟩) ?_
        rw [HOR.out]; refine ext_upd (fun o => ⟨rfl, rfl, rfl⟩) ?_
        rw [HOC.out]; refine ext_upd (fun o => ⟨rfl, rfl, rfl⟩) ?_
        rw [HOP.out]; refine ext_upd (fun o => ⟨rfl, rfl, rfl⟩) ?_
        rw [HO0.out]
        exact ⟨rfl, rfl, rfl⟩
      have hmr : MsgR wx N m tl el ol := HMR.out.fr ((HFW.out.no (S := Just g)).trans hf) (fun i hi e => by have := HN.out i hi; have := HG.out; have e : i = g := e; omega)
      have hNx : ∀ i, N i → i < wx.heap.size := fun i hi => Nat.lt_of_lt_of_le (HN.out i hi) (HFW.out.trans_new hf (fun i e => .inr (by have := HG.out; have e : i = g := e; omega))).size
      have hmore := p_more_xml oG wx hmr hNx hme.1 hme.2.1 hme.2.2
      have hbm := HMM.out.fr hf HGS.out
      have hbz := HZ.out.fr hf (fun e => by have e : w.heap.size + 1 = g := e; have := HG.out; omega)
      have HMO := Lib.hid hmore; have HBM := Lib.hid hbm; have HBZ := Lib.hid hbz; have HBG := Lib.hid hat; have HTG := Lib.hid htg
      have HFX := Lib.hid (HFW.out.trans_new hf (fun i e => .inr (by have := HG.out; have e : i = g := e; omega)))
      clear hmore hbm hbz hat htg hf hwx hmr hNx hme
      have t1 := True.intro
      go_wp2_with (first
        | (clear t1; refine wpList_load_bk rfl 29 _ rfl g rfl oG.cells _ HBG.out (Tryd.underlying29) rfl (msgSize oG) ?_; have t2 := True.intro)
        | (clear t2; refine wpList_load_bk rfl 29 _ rfl w.heap.size rfl m.cells _ HBM.out (Tryd.underlying29) rfl (msgSize m) ?_)
        | (go_at_call 27; refine (HMO.out).mono ?_; rintro e w7 ⟨o7, rfl, hc7, hf7⟩; have HC7 := Lib.hid hc7; have F7 := Lib.hid hf7; have BZ7 := Lib.hid (HBZ.out.no hf7); clear hc7 hf7)
        | (refine wpList_store_bk rfl 29 _ _ rfl (w.heap.size + 1) rfl m0c o7.cells rfl BZ7.out rfl (msgSize o7) (msg_one2 o7) ?_; intro w8 b8 f8 s8; have B8 := Lib.hid b8; have F8 := Lib.hid f8; clear b8 f8 s8))
      refine bodyPost_ret (v := o7.val) (results_bk (g := w.heap.size + 1) Tryd.results7 (by rfl) B8.out Tryd.underlying29 rfl (msgSize o7)) rfl ?_
      have hch : oO = chainM (kRow n) m (msg0 m) := by
        rw [HOO.out, HON.out, HOD.out, HOE.out, HOA.out, HOT.out, HOM.out, HOR.out, HOC.out, HOP.out, HO0.out]
        rfl
      have hc7 := HC7.out
      rw [HOG.out, hch] at hc7
      have htg := HTG.out
      rw [← HNN.out] at hc7 htg
      have hf8 : Fr (Just (w.heap.size + 1)) w7 w8 := F8.out
      refine ⟨TA, tk, tc, tls, o7, rfl, hc7, fun h => ?_, (HFX.out.trans F7.out).trans_just hf8 (by omega)⟩
      obtain ⟨h1, h2, h3, h4⟩ := htg h
      exact ⟨h1, h2, h3, ((h4.no tag_ok F7.out).fr tag_ok hf8 (fun i hi e => by have := HG.out; have e : i = w.heap.size + 1 := e; omega)).mono tag_ok (fun i hi => ⟨by have := HG.out; omega, Nat.lt_of_lt_of_le hi.2 (Nat.le_trans F7.out.size hf8.size)⟩)⟩
end Go.Proofs.YtdfehdjpbmkaoaaDoor
