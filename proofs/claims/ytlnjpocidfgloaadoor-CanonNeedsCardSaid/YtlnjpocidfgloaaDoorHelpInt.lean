/- What the helpers of the statements do with numbers (a copy with room behind it, and whether it is as it was; two lists held against each other; one among some): contracts, for every list of numbers within a slice's length. -/
import Derived.Test.YtlnjpocidfgloaaDoorHelp0
namespace Go.Proofs.YtlnjpocidfgloaaDoor
open Go.RowKit
set_option maxHeartbeats 400000
set_option linter.unusedVariables false

/-- numbers as cells -/
def ints (l : List Int) : List Value := l.map (Value.int .i64)
@[simp] theorem ints_length (l : List Int) : (ints l).length = l.length := by simp [ints]
theorem ints_get (l : List Int) (k : Nat) (h : k < l.length) : (ints l)[k]? = some (.int .i64 l[k]) := by simp [ints, h]
theorem ints_append (l m : List Int) : ints (l ++ m) = ints l ++ ints m := by simp [ints]
theorem ints_one (l : List Int) : ∀ u ∈ ints l, u.oneCell' = true := by
  intro u hu
  simp only [ints, List.mem_map] at hu
  obtain ⟨b, _, rfl⟩ := hu
  rfl
theorem info_int : (Tryd.prog.info? 3).map (fun i => (i.zero, i.size, i.bytes)) = some (some (.int .i64 0), 1, 8) := by kernel_rfl

theorem ownI_step (l : List Int) (f : Int) (k : Nat) (hk : k < 3) :
    (ints (l ++ List.replicate k f ++ List.replicate (3 - k) 0)).set (l.length + k) (.int .i64 f) = ints (l ++ List.replicate (k + 1) f ++ List.replicate (3 - (k + 1)) 0) := by
  obtain rfl | rfl | rfl : k = 0 ∨ k = 1 ∨ k = 2 := by omega
  all_goals simp [ints, List.replicate]

theorem ownI_get (l : List Int) (f : Int) (k : Nat) (hk : k < 3) :
    ∃ u, (ints (l ++ List.replicate k f ++ List.replicate (3 - k) 0))[l.length + k]? = some u := by
  rw [List.getElem?_eq_getElem (by simp; omega)]
  exact ⟨_, rfl⟩

/-- what Own made reads as what it was made of -/
theorem ownI_rd0 {w : World} {g n : Nat} {l : List Int} {f : Int} {t : TypeId} (hb : Bk w g t (ints (l ++ [f, f, f]))) (hl : (ints l).length = n) (hn : n ≤ 65536) : Rd w (some ⟨g, 0, none⟩) n (n + 3) (ints l) := by
  rw [ints_length] at hl
  have := hb.rd (n := n) (cap := n + 3) (by omega) (by simp only [maxLen]; omega) (by simp; omega)
  have e : (ints (l ++ [f, f, f])).take n = ints l := by
    rw [ints_append, List.take_left' (by simpa using hl)]
  rwa [e] at this
theorem ownI_rd {w w' : World} {g n : Nat} {l : List Int} {f : Int} {t : TypeId} (hb : Bk w g t (ints (l ++ [f, f, f]))) (hf : Fr No w w') (hl : (ints l).length = n) (hn : n ≤ 65536) : Rd w' (some ⟨g, 0, none⟩) n (n + 3) (ints l) :=
  ownI_rd0 (hb.no hf) hl hn

/-- append of numbers onto a row of the call's own -/
theorem apI (w : World) {ops : Array Oper} {rest : List Oper} {o : Oper} {a : Act} {Q : Exit → Act → World → Prop} (hgd : Region.wanted o (yielded ops a.tmps) = true) (s x : Operand)
    (ho : o.op = .call { callee := .builtin .append, args := #[s, x], argTypes := #[53, 53] })
    (base : Nat) (v : Value) (n : Nat) (l : List Int) (hs : a.eval s = v) (hown : w.ownsRow base 3 1 v n (ints l))
    (A : Option Addr) (m c : Nat) (k : List Int) (hx : a.eval x = .slice A m c) (hr : Rd w A m c (ints k)) (hb : n + m ≤ 17592186044416) (hbase : base ≤ w.heap.size)
    (h : ∀ v' w', w'.ownsRow base 3 1 v' (n + m) (ints (l ++ k)) → w.grownBy w' v.ownBlock → (v'.ownBlock = v.ownBlock ∨ v'.ownBlock = some w.heap.size) → wpList Tryd.prog ops Q rest (a.put o.dst v') w') :
    wpList Tryd.prog ops Q (o :: rest) a w := by
  obtain ⟨i, hi, hz, h1, h2⟩ := info_parts info_int
  refine wpList_append_rd w hgd s x 53 ho base 3 i (.int .i64 0) 8 Tryd.underlying53 hi hz h1 h2 rfl v n (ints l) hs hown A m c (ints k) hx hr (ints_one k) (by simp only [maxLen]; omega) (by omega) hbase ?_
  intro v' w' g1 g2 g3
  exact h v' w' (by rw [ints_append]; exact g1) g2 g3
/-- the same as one step of a region that draws its order ('go_region_law') -/
theorem stepI {ops : Array Oper} {o : Oper} {a : Act} {w : World} {K : Act → World → Prop} {Q : Exit → Act → World → Prop} {E : Prop} (hgd : Region.wanted o (yielded ops a.tmps) = true) (s x : Operand)
    (ho : o.op = .call { callee := .builtin .append, args := #[s, x], argTypes := #[53, 53] })
    (base : Nat) (v : Value) (n : Nat) (l : List Int) (hs : a.eval s = v) (hown : w.ownsRow base 3 1 v n (ints l))
    (A : Option Addr) (m c : Nat) (k : List Int) (hx : a.eval x = .slice A m c) (hr : Rd w A m c (ints k)) (hb : n + m ≤ 17592186044416) (hbase : base ≤ w.heap.size)
    (h : ∀ A' c' w', w'.ownsRow base 3 1 (.slice A' (n + m) c') (n + m) (ints (l ++ k)) → w.grownBy w' v.ownBlock → ((Value.slice A' (n + m) c').ownBlock = v.ownBlock ∨ (Value.slice A' (n + m) c').ownBlock = some w.heap.size) → K (a.put o.dst (.slice A' (n + m) c')) w') :
    if Region.wanted o (yielded ops a.tmps) = true then Oper.wp Tryd.prog o a w K Q else E := by
  rw [if_pos hgd]
  obtain ⟨i, hi, hz, h1, h2⟩ := info_parts info_int
  obtain ⟨v', w', hrun, g1, g2, g3⟩ := run_append_rd (P := Tryd.prog) w base 53 o.type 3 i (.int .i64 0) 8 Tryd.underlying53 hi hz h1 h2 rfl v n (ints l) hown A m c (ints k) hr (ints_one k) (by simp only [maxLen]; omega) (by omega) hbase
  unfold Oper.wp execOp
  simp only [ho, resolve, invoke, builtin, Sem.run_bind, Sem.run_pure, Result.andThen_ok, List.map_toArray, List.map_cons, List.map_nil, hs, hx, hrun]
  obtain ⟨A', c', rfl, -⟩ := Rd.of_own g1
  exact h A' c' w' (by rw [ints_append]; exact g1) g2 g3
/-- one number that was just laid in a block of its own -/
theorem Rd.oneI {w : World} (i : Int) (t : TypeId) : Rd (w.alloc (.cells #[.int .i64 i] t)) (some ⟨w.heap.size, 0, none⟩) 1 1 (ints [i]) :=
  (Bk.new w t #[.int .i64 i]).rd (n := 1) (cap := 1) (Nat.le_refl _) (by simp [maxLen]) (by simp)
theorem apI_one (w : World) {ops : Array Oper} {rest : List Oper} {o : Oper} {a : Act} {Q : Exit → Act → World → Prop} (hgd : Region.wanted o (yielded ops a.tmps) = true) (s x : Operand)
    (ho : o.op = .call { callee := .builtin .append, args := #[s, x], argTypes := #[53, 53] })
    (base : Nat) (v : Value) (n : Nat) (l : List Int) (hs : a.eval s = v) (hown : w.ownsRow base 3 1 v n (ints l)) (i : Int) (t : TypeId)
    (hx : a.eval x = .slice (some ⟨w.heap.size, 0, none⟩) 1 1) (hb : n + 1 ≤ 17592186044416) (hbase : base ≤ w.heap.size)
    (h : ∀ v' w', w'.ownsRow base 3 1 v' (n + 1) (ints (l ++ [i])) → (w.alloc (.cells #[.int .i64 i] t)).grownBy w' v.ownBlock → (v'.ownBlock = v.ownBlock ∨ v'.ownBlock = some (w.heap.size + 1)) → wpList Tryd.prog ops Q rest (a.put o.dst v') w') :
    wpList Tryd.prog ops Q (o :: rest) a (w.alloc (.cells #[.int .i64 i] t)) := by
  refine apI _ hgd s x ho base v n l hs (hown.alloc _) _ 1 1 [i] hx (Rd.oneI i t) hb (by simp; omega) ?_
  intro v' w' h1 h2 h3
  exact h v' w' h1 h2 (by simpa using h3)

/-- is it among these? -/
def hasI (l : List Int) (x : Int) : Bool := l.contains x
end Go.Proofs.YtlnjpocidfgloaaDoor
