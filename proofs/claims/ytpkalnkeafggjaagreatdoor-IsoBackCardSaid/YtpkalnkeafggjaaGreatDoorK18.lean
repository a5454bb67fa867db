/- The texts BmParse, EleDev, Tabs, Whole, joined. -/
import Derived.Test.YtpkalnkeafggjaaGreatDoorK17
import Derived.Test.YtpkalnkeafggjaaGreatDoorK06
import Derived.Test.YtpkalnkeafggjaaGreatDoorK01
import Derived.Deep.MidRow
import Derived.Lib.ItoaMem
import Derived.Lib.SmallJoins
/- What package bitmap does: the contract of Parse, and what shows that it does something. -/
namespace Go.Proofs.YtpkalnkeafggjaaGreatDoor
open Go.RowKit
set_option maxHeartbeats 400000
set_option linter.unusedVariables false
set_option maxRecDepth 20000

theorem bm_bad3 {b : List UInt8} (h : b.length < 8 ∨ b.length < mapN b) : parE b = 3 ∧ parN b = 0 ∧ parL b = [] := by
  have e : parE b = 3 := by
    unfold parE
    rcases h with h | h
    · rw [if_pos h]
    · by_cases h8 : b.length < 8
      · rw [if_pos h8]
      · rw [if_neg h8, if_pos h]
  refine ⟨e, ?_, ?_⟩
  · unfold parN; rw [e]; rfl
  · unfold parL; rw [e]; rfl
theorem bm_bad6 {b : List UInt8} (h : mapN b ≤ b.length) (hb : mapBad b = true) : parE b = 6 ∧ parN b = 0 ∧ parL b = [] := by
  have h8 : 8 ≤ mapN b := by unfold mapN; split <;> omega
  have e : parE b = 6 := by
    unfold parE
    rw [if_neg (by omega), if_neg (by omega), hb]
    rfl
  refine ⟨e, ?_, ?_⟩
  · unfold parN; rw [e]; rfl
  · unfold parL; rw [e]; rfl
theorem bm_good {b : List UInt8} (h : mapN b ≤ b.length) (hb : mapBad b = false) : parE b = 0 ∧ parN b = mapN b ∧ parL b = setOf b (mapN b) := by
  have h8 : 8 ≤ mapN b := by unfold mapN; split <;> omega
  have e : parE b = 0 := by
    unfold parE
    rw [if_neg (by omega), if_neg (by omega), hb]
    rfl
  refine ⟨e, ?_, ?_⟩
  · unfold parN; rw [e]; rfl
  · unfold parL; rw [e]; rfl

theorem bm_parse_any (A : Option Addr) (n c : Nat) (b : List UInt8) (w : World) (ha : Rd w A n c (u8s b)) (hn : n ≤ 65536) :
    Calls Tryz.prog 38 #[.slice A n c] w fun e w' => ∃ v, e = .returned (.tuple #[v, .int .i64 (parN b : Int), .int .i64 (parE b)]) ∧ w'.ownsRow w.heap.size 3 1 v (parL b).length (ints (parL b)) ∧ Fr No w w' := by
  have hread := read_any A n c b w ha hn
  unfold hvV at hread
  have HREAD := Lib.hid hread
  clear hread
  go_enter Tryz.func38, Tryz.ntmps38
  go_wp2_with (go_at_call 61; refine HREAD.out.mono ?_; rintro e w1 ⟨hf, (⟨a, d, rfl, hbad⟩ | ⟨a, d, rfl, hlen, hrd⟩)⟩)
  · obtain ⟨e1, e2, e3⟩ := bm_bad3 hbad
    go_ret3
    exact ⟨.slice none 0 0, by rw [e1, e2]; rfl, by rw [e3]; exact World.ownsRow_nil _ _ _ _, hf.alloc _⟩
  · obtain ⟨l1, l2, hbit⟩ := id hrd
    have h1 := hbit 1 (by omega) (by have : 8 ≤ mapN b := by unfold mapN; split <;> omega
                                     omega)
    have hbk : Bk (w1.alloc (.cells #[.int .u64 (a : Int), .int .u64 (d : Int)] 98)) w1.heap.size 98 [.int .u64 (a : Int), .int .u64 (d : Int)] := Bk.new w1 _ _
    have hf0 := hf.alloc (.cells #[.int .u64 (a : Int), .int .u64 (d : Int)] 98)
    have tok1 : True := trivial
    have tok2 : True := trivial
    cases hb0 : bitAt b 0 with
    | false =>
      have hN : mapN b = 8 := by unfold mapN; rw [if_neg (by rw [hb0]; simp)]
      obtain ⟨e1, e2, e3⟩ := bm_good hlen (by unfold mapBad; rw [hb0]; rfl)
      rw [hN] at hrd e2 e3
      have hth := reads_those hrd (by omega)
      rw [← e3] at hth
      rw [show (1 : Nat) - 1 = 0 from rfl, hb0] at h1
      have E1 := Lib.hid e1; have E2 := Lib.hid e2; have HTH := Lib.hid hth; have H1 := Lib.hid h1
      rw [hN]
      clear e1 e2 e3 hth h1 hb0 hbit hrd HREAD hN hlen
      go_wp2_with (first
        | (go_at_call 62; clear tok1; refine (has_any a d 1 _ l1 l2 (by omega) (by omega)).mono ?_; rw [H1.out]; rintro e w2 ⟨rfl, hf2⟩; obtain ⟨q0, q1, -, -⟩ := hv_cells (hbk.no hf2))
        | (go_at_call 64; refine (those_any a d 2 64 _ l1 l2 (by omega) (by omega) (by omega)).mono ?_; rw [show 64 + 1 - 2 = 8 * 8 - 1 from rfl, HTH.out]; rintro e w3 ⟨v, rfl, ho3, hf3⟩))
      go_ret3
      exact ⟨v, by rw [E1.out, E2.out]; rfl, own_low ho3 (hf0.trans hf2).size, (hf0.trans hf2).trans hf3⟩
    | true =>
      have hN : mapN b = 16 := by unfold mapN; rw [if_pos hb0]
      have h65 := hbit 65 (by omega) (by omega)
      rw [show 65 - 1 = 64 from rfl] at h65
      rw [show (1 : Nat) - 1 = 0 from rfl, hb0] at h1
      have H1 := Lib.hid h1
      have hrd16 := hrd
      rw [hN] at hrd16
      have hso := reads_some hrd16
      cases hb64 : bitAt b 64 with
      | true =>
        obtain ⟨e1, e2, e3⟩ := bm_bad6 hlen (by unfold mapBad; rw [hb0, hb64]; rfl)
        rw [hb64] at h65
        have E1 := Lib.hid e1; have E2 := Lib.hid e2; have E3 := Lib.hid e3; have H65 := Lib.hid h65
        rw [hN]
        clear e1 e2 e3 h1 h65 hso hb0 hb64 hbit hrd hrd16 HREAD hN hlen
        go_wp2_with (first
          | (go_at_call 62; clear tok1; refine (has_any a d 1 _ l1 l2 (by omega) (by omega)).mono ?_; rw [H1.out]; rintro e w2 ⟨rfl, hf2⟩; obtain ⟨q0, q1, -, -⟩ := hv_cells (hbk.no hf2))
          | (go_at_call 62; clear tok2; refine (has_any a d 65 _ l1 l2 (by omega) (by omega)).mono ?_; rw [H65.out]; rintro e w3 ⟨rfl, hf3⟩))
        go_ret3
        exact ⟨.slice none 0 0, by rw [E1.out, E2.out]; rfl, by rw [E3.out]; exact World.ownsRow_nil _ _ _ _, (hf0.trans hf2).trans hf3⟩
      | false =>
        rw [hb64] at h65
        have H65 := Lib.hid h65
        cases hany : ((setOf b 16).any fun n => decide (66 ≤ n)) with
        | false =>
          obtain ⟨e1, e2, e3⟩ := bm_bad6 hlen (by unfold mapBad; rw [hb0, hb64, hany]; rfl)
          rw [hany] at hso
          have E1 := Lib.hid e1; have E2 := Lib.hid e2; have E3 := Lib.hid e3; have HSO := Lib.hid hso
          rw [hN]
          clear e1 e2 e3 h1 h65 hso hany hb0 hb64 hbit hrd hrd16 HREAD hN hlen
          go_wp2_with (first
            | (go_at_call 62; clear tok1; refine (has_any a d 1 _ l1 l2 (by omega) (by omega)).mono ?_; rw [H1.out]; rintro e w2 ⟨rfl, hf2⟩; obtain ⟨q0, q1, -, -⟩ := hv_cells (hbk.no hf2))
            | (go_at_call 62; clear tok2; refine (has_any a d 65 _ l1 l2 (by omega) (by omega)).mono ?_; rw [H65.out]; rintro e w3 ⟨rfl, hf3⟩; obtain ⟨x0, x1, -, -⟩ := hv_cells ((hbk.no hf2).no hf3))
            | (go_at_call 63; refine (some_any a d 66 128 _ l1 l2 (by omega) (by omega) (by omega)).mono ?_; rw [show 128 + 1 - 66 = 63 from rfl, HSO.out]; rintro e w4 ⟨rfl, hf4⟩))
          go_ret3
          exact ⟨.slice none 0 0, by rw [E1.out, E2.out]; rfl, by rw [E3.out]; exact World.ownsRow_nil _ _ _ _, ((hf0.trans hf2).trans hf3).trans hf4⟩
        | true =>
          obtain ⟨e1, e2, e3⟩ := bm_good hlen (by unfold mapBad; rw [hb0, hb64, hany]; rfl)
          rw [hN] at e2 e3
          have hth := reads_those hrd16 (by omega)
          rw [← e3] at hth
          rw [hany] at hso
          have E1 := Lib.hid e1; have E2 := Lib.hid e2; have HTH := Lib.hid hth; have HSO := Lib.hid hso
          rw [hN]
          clear e1 e2 e3 h1 h65 hso hth hany hb0 hb64 hbit hrd hrd16 HREAD hN hlen
          go_wp2_with (first
            | (go_at_call 62; clear tok1; refine (has_any a d 1 _ l1 l2 (by omega) (by omega)).mono ?_; rw [H1.out]; rintro e w2 ⟨rfl, hf2⟩; obtain ⟨q0, q1, -, -⟩ := hv_cells (hbk.no hf2))
            | (go_at_call 62; clear tok2; refine (has_any a d 65 _ l1 l2 (by omega) (by omega)).mono ?_; rw [H65.out]; rintro e w3 ⟨rfl, hf3⟩; obtain ⟨x0, x1, -, -⟩ := hv_cells ((hbk.no hf2).no hf3))
            | (go_at_call 63; refine (some_any a d 66 128 _ l1 l2 (by omega) (by omega) (by omega)).mono ?_; rw [show 128 + 1 - 66 = 63 from rfl, HSO.out]; rintro e w4 ⟨rfl, hf4⟩; obtain ⟨y0, y1, -, -⟩ := hv_cells (((hbk.no hf2).no hf3).no hf4))
            | (go_at_call 64; refine (those_any a d 2 128 _ l1 l2 (by omega) (by omega) (by omega)).mono ?_; rw [show 128 + 1 - 2 = 8 * 16 - 1 from rfl, HTH.out]; rintro e w5 ⟨v, rfl, ho5, hf5⟩))
          go_ret3
          exact ⟨v, by rw [E1.out, E2.out]; rfl, own_low ho5 (((hf0.trans hf2).trans hf3).trans hf4).size, (((hf0.trans hf2).trans hf3).trans hf4).trans hf5⟩
end Go.Proofs.YtpkalnkeafggjaaGreatDoor
/- Package element's table, as it is laid. No program. -/
namespace Go.Proofs.YtpkalnkeafggjaaGreatDoor
set_option linter.unusedVariables false

def FRow.cells (r : FRow) : List Value := [.int .i64 r.no, .int .i64 r.kind, .int .i64 (r.dig : Int), .int .i64 (r.top : Int), .bool r.spare]
def FRow.val (r : FRow) : Value := .agg #[.int .i64 r.no, .int .i64 r.kind, .int .i64 (r.dig : Int), .int .i64 (r.top : Int), .bool r.spare]
def eleV : List Value := elT.flatMap FRow.cells
end Go.Proofs.YtpkalnkeafggjaaGreatDoor
/- The tables of the library that the program reads (package unicode/utf8's, strconv's powers of ten): what is asked of the world, and that a call which turns no block keeps it. -/
namespace Go.Proofs.YtpkalnkeafggjaaGreatDoor
open Go.RowKit
set_option linter.unusedVariables false

structure Tabs (w : World) : Prop where
  ten : Lib.TabIs Tryz.prog w "internal/strconv.uint64pow10" .u64 Lib.pow10Tab
  et : w.rangeAt 0 0 eleV
  eb : 0 < w.heap.size
theorem Tabs.below {a b : World} (h : Tabs a) (k : Below a.heap.size a b) : Tabs b where
  et := fun j v hv => (k.cell h.eb).trans (h.et j v hv)
  eb := Nat.lt_of_lt_of_le h.eb k.size
  ten := Joins.tab_stays (show Tryz.prog.globalNamed "internal/strconv.uint64pow10" = some 1 by kernel_rfl) h.ten k (Nat.le_refl _)
theorem Tabs.fr {a b : World} (h : Tabs a) (k : Fr No a b) : Tabs b := h.below k.toBelow
theorem Tabs.frNew {S : Nat → Prop} {a b : World} (h : Tabs a) (k : Fr S a b) (hS : ∀ i, S i → a.heap.size ≤ i) : Tabs b := h.below (k.toBelow' hS)
theorem Tabs.drew {a : World} (h : Tabs a) : Tabs a.drew := h.fr (Fr.refl No a).drew
theorem Tabs.drewN {a : World} {n : Nat} (h : Tabs a) : Tabs (a.drewN n) := h.fr ((Fr.refl No a).drewN n)
theorem Tabs.alloc {a : World} {o : Obj} (h : Tabs a) : Tabs (a.alloc o) := h.fr ((Fr.refl No a).alloc o)
theorem Tabs.dr {a b : World} (h : Tabs a) (k : Dr a b) : Tabs b := h.fr ((Fr.refl No a).dr k)
end Go.Proofs.YtpkalnkeafggjaaGreatDoor
/- A struct, or an array, as a whole: loads and stores of all cells of a block. No program. -/
namespace Go.Proofs.YtpkalnkeafggjaaGreatDoor
open Go.RowKit
set_option linter.unusedVariables false

theorem Bk.range {w : World} {g : Nat} {t : TypeId} {cs : List Value} (h : Bk w g t cs) : w.rangeAt g 0 cs := fun j v hv => by
  rw [Nat.zero_add, h.cell j]; exact hv
theorem Bk.there {w : World} {g : Nat} {t : TypeId} {cs : List Value} (h : Bk w g t cs) : w.there g 0 cs.length := fun j hj =>
  ⟨by rw [Nat.zero_add, h.cell j, List.getElem?_eq_getElem hj]; rfl, by rw [Nat.zero_add]; exact h.frozen j⟩
def setL : List Value → Nat → List Value → List Value
  | cs, _, [] => cs
  | cs, o, v :: r => setL (cs.set o v) (o + 1) r
theorem setL_len : ∀ (vs cs : List Value) (o : Nat), (setL cs o vs).length = cs.length
  | [], _, _ => rfl
  | v :: r, cs, o => by rw [setL, setL_len r]; simp
theorem setL_get : ∀ (vs cs : List Value) (o j : Nat), o + vs.length ≤ cs.length → (setL cs o vs)[j]? = if o ≤ j ∧ j < o + vs.length then vs[j - o]? else cs[j]?
  | [], cs, o, j, h => by rw [setL, if_neg (by simp)]
  | v :: r, cs, o, j, h => by
    simp only [List.length_cons] at h ⊢
    rw [setL, setL_get r (cs.set o v) (o + 1) j (by simp; omega)]
    by_cases h1 : j = o
    · subst h1
      rw [if_neg (by omega), if_pos (by omega), List.getElem?_set_self (by omega)]
      simp
    · by_cases h2 : o ≤ j ∧ j < o + (r.length + 1)
      · rw [if_pos (by omega), if_pos h2, show j - o = (j - (o + 1)) + 1 by omega, List.getElem?_cons_succ]
      · rw [if_neg (by omega), if_neg h2, List.getElem?_set_ne (by omega)]
theorem setL_all {vs cs : List Value} (h : vs.length = cs.length) : setL cs 0 vs = vs := by
  apply List.ext_getElem?
  intro j
  rw [setL_get vs cs 0 j (by omega)]
  split
  · rw [Nat.sub_zero]
  · rw [List.getElem?_eq_none (by omega), List.getElem?_eq_none (by omega)]
theorem Bk.setCells : ∀ (vs : List Value) {w : World} {g : Nat} {t : TypeId} {cs : List Value} (o : Nat), Bk w g t cs → Bk (w.setCells g o vs) g t (setL cs o vs)
  | [], _, _, _, _, _, h => h
  | v :: r, _, _, _, _, o, h => Bk.setCells r (o + 1) (h.set_ o v)
theorem Fr.setCells {S : Nat → Prop} {g : Nat} : ∀ (vs : List Value) {a b : World} (o : Nat), Fr S a b → (S g ∨ a.heap.size ≤ g) → Fr S a (b.setCells g o vs)
  | [], _, _, _, h, _ => h
  | v :: r, _, _, o, h, hg => Fr.setCells r (o + 1) (h.setCell hg v) hg
theorem setCells_size (g : Nat) : ∀ (vs : List Value) (o : Nat) (w : World), (w.setCells g o vs).heap.size = w.heap.size
  | [], _, _ => rfl
  | v :: r, o, w => by rw [World.setCells, setCells_size g r]; simp
theorem results_bk {P : Program} {fn : Func} {tmps : Array Value} {w : World} {i g : Nat} {ty t : TypeId} {cs : List Value} {d : TypeDesc} (hres : fn.results = #[.cell i ty]) (ht : tmps.getD i undef = .pointer (some ⟨g, 0, none⟩)) (hb : Bk w g t cs)
    (hu : P.underlying ty = some d) (hd : d.isRow = true) (hi : (P.info? ty).map (·.size) = some cs.length) : (results fn tmps).run P w = .ok (.agg cs.toArray) w := by
  have h := run_loadVar_mid w g 0 ty cs d hb.range hu hd hi
  unfold results
  rw [hres]
  simp only [List.mapM_toArray, List.mapM_cons, List.mapM_nil, ht, asAddr, Sem.run_bind, Sem.run_map, Sem.run_pure, Result.andThen_ok, h]
  rfl
section
variable {P : Program} {ops : Array Oper} {rest : List Oper} {o : Oper} {a : Act} {w : World} {Q : Exit → Act → World → Prop}
/-- a whole block is read -/
theorem wpList_load_bk (hgd : Region.wanted o (yielded ops a.tmps) = true) (ty : TypeId) (x : Operand) (ho : o.op = .load ty x) (g : Nat) (hx : a.eval x = .pointer (some ⟨g, 0, none⟩)) {t : TypeId} (cs : List Value) (d : TypeDesc) (hc : Bk w g t cs)
    (hu : P.underlying ty = some d) (hd : d.isRow = true) (hi : (P.info? ty).map (·.size) = some cs.length)
    (h : wpList P ops Q rest (a.put o.dst (.agg cs.toArray)) w) : wpList P ops Q (o :: rest) a w :=
  wpList_go hgd fun _ hK => wp_load_mid ty x ho g 0 hx cs d hc.range hu hd hi (hK _ _ h)
/-- a whole block is written -/
theorem wpList_store_bk (hgd : Region.wanted o (yielded ops a.tmps) = true) (ty : TypeId) (x y : Operand) (ho : o.op = .store ty x y) (g : Nat) (hx : a.eval x = .pointer (some ⟨g, 0, none⟩)) {t : TypeId} (cs vs : List Value) (hy : a.eval y = .agg vs.toArray) (hc : Bk w g t cs)
    (hl : vs.length = cs.length) (hi : (P.info? ty).map (·.size) = some vs.length) (h1 : vs.toArray.all (·.oneCell') = true)
    (h : ∀ w', Bk w' g t vs → Fr (Just g) w w' → w'.heap.size = w.heap.size → wpList P ops Q rest (a.put o.dst undef) w') : wpList P ops Q (o :: rest) a w :=
  wpList_go hgd fun _ hK => wp_store_mid ty x y ho g 0 vs.toArray hx hy (by rw [List.size_toArray, hl]; exact hc.there) (by rw [hi]; simp) h1
    (hK _ _ (h _ (by have := Bk.setCells vs 0 hc; rwa [setL_all hl] at this) (Fr.setCells vs 0 (Fr.refl _ w) (.inl (Just.at g))) (setCells_size g _ 0 w)))
end
end Go.Proofs.YtpkalnkeafggjaaGreatDoor
