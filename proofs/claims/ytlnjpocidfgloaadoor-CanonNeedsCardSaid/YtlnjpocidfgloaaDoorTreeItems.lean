/- Nodes as things in rows; a tree that grows, as it lies. -/
import Derived.Test.YtlnjpocidfgloaaDoorTreeMath
import Derived.Test.YtlnjpocidfgloaaDoorTokItems
import Derived.Test.YtlnjpocidfgloaaDoorHelpInt
namespace Go.Proofs.YtlnjpocidfgloaaDoor
open Go.RowKit
set_option maxHeartbeats 400000
set_option linter.unusedVariables false

/-- a node's cells -/
def NodI (w : World) (N : Nat → Prop) (cs : List Value) (t : Nod) : Prop := ∃ (X Y : ByteArray) (A : Option Addr) (n c : Nat),
  cs = [.int .i64 t.parent, .string X, .string Y, .slice A n c] ∧ X.data.toList = t.name ∧ Y.data.toList = t.text ∧ RdI 2 AttrI w N A n c t.attrs
theorem nod_ok : ItemOk 4 NodI where
  len := by rintro w N cs a ⟨X, Y, A, n, c, rfl, _⟩; rfl
  one := by
    rintro w N cs a ⟨X, Y, A, n, c, rfl, _⟩ u hu
    simp only [List.mem_cons, List.not_mem_nil, or_false] at hu
    rcases hu with rfl | rfl | rfl | rfl <;> rfl
  fr := by
    rintro w w' N S cs a ⟨X, Y, A, n, c, e, h1, h2, h3⟩ hf hS
    exact ⟨X, Y, A, n, c, e, h1, h2, h3.fr attr_ok hf hS⟩
  mono := by
    rintro w N M cs a ⟨X, Y, A, n, c, e, h1, h2, h3⟩ hM
    exact ⟨X, Y, A, n, c, e, h1, h2, h3.mono attr_ok hM⟩
theorem info_node : (Tryd.prog.info? 32).map (fun i => (i.zero, i.size, i.bytes)) = some (some (.agg #[.int .i64 0, .string ⟨#[]⟩, .string ⟨#[]⟩, .slice none 0 0]), 4, 64) := by kernel_rfl
theorem info_str : (Tryd.prog.info? 9).map (fun i => (i.zero, i.size, i.bytes)) = some (some (.string ⟨#[]⟩), 1, 16) := by kernel_rfl
theorem info_bool : (Tryd.prog.info? 4).map (fun i => (i.zero, i.size, i.bytes)) = some (some (.bool false), 1, 1) := by kernel_rfl

def strs (l : List ByteArray) : List Value := l.map .string
def bls (l : List Bool) : List Value := l.map .bool
theorem strs_len (l : List ByteArray) : (strs l).length = l.length := by simp [strs]
theorem bls_len (l : List Bool) : (bls l).length = l.length := by simp [bls]

/-- whose blocks: none of two rows of one's own is the same, none is g's -/
structure Apart (g : Nat) (v1 v2 v3 v4 : Value) : Prop where
  g1 : v1.ownBlock ≠ some g
  g2 : v2.ownBlock ≠ some g
  g3 : v3.ownBlock ≠ some g
  g4 : v4.ownBlock ≠ some g
  h12 : ∀ i, v1.ownBlock = some i → v2.ownBlock ≠ some i
  h13 : ∀ i, v1.ownBlock = some i → v3.ownBlock ≠ some i
  h14 : ∀ i, v1.ownBlock = some i → v4.ownBlock ≠ some i
  h23 : ∀ i, v2.ownBlock = some i → v3.ownBlock ≠ some i
  h24 : ∀ i, v2.ownBlock = some i → v4.ownBlock ≠ some i
  h34 : ∀ i, v3.ownBlock = some i → v4.ownBlock ≠ some i
/-- blocks of what nodes point to -/
def Deep (w : World) (base g : Nat) (v1 v2 v3 v4 : Value) : Nat → Prop := fun i => base ≤ i ∧ i < w.heap.size ∧ i ≠ g ∧ v1.ownBlock ≠ some i ∧ v2.ownBlock ≠ some i ∧ v3.ownBlock ≠ some i ∧ v4.ownBlock ≠ some i
variable {w w' : World} {base g : Nat} {v1 v2 v3 v4 : Value} {xs : List ByteArray} {G : Gro}
/-- another row in the place of one of the four -/
theorem fresh_ne {v v' : Value} {u : World} {i : Nat} (hv : v'.ownBlock = v.ownBlock ∨ ∀ i, v'.ownBlock = some i → u.heap.size ≤ i) (h : v.ownBlock ≠ some i) (hi : i < u.heap.size) : v'.ownBlock ≠ some i := by
  rcases hv with hv | hv
  · rw [hv]; exact h
  · intro e; have := hv i e; omega

/-- attributes copied onto none, as one step of a region that draws its order ('go_region_law') -/
theorem stepAt {ops : Array Oper} {o : Oper} {a : Act} {w : World} {K : Act → World → Prop} {Q : Exit → Act → World → Prop} {E : Prop} (hgd : Region.wanted o (yielded ops a.tmps) = true) (s x : Operand)
    (ho : o.op = .call { callee := .builtin .append, args := #[s, x], argTypes := #[30, 30] }) (hs : a.eval s = .slice none 0 0)
    (A : Option Addr) (m c : Nat) (N : Nat → Prop) (bs : List (List UInt8 × List UInt8)) (hx : a.eval x = .slice A m c) (hr : RdI 2 AttrI w N A m c bs) (hb : m ≤ 4000000000)
    (h : ∀ A' c' w', RdI 2 AttrI w' (fun i => i = w.heap.size) A' m c' bs → Fr No w w' → K (a.put o.dst (.slice A' m c')) w') :
    if Region.wanted o (yielded ops a.tmps) = true then Oper.wp Tryd.prog o a w K Q else E := by
  rw [if_pos hgd]
  obtain ⟨i, hi, hz, h1, h2⟩ := info_parts info_attr
  obtain ⟨ys, hry, hye⟩ := hr.xs
  obtain ⟨v', w', hrun, g1, g2, g3⟩ := run_append_rdS (P := Tryd.prog) w w.heap.size 30 o.type 29 i _ 2 32 Tryd.underlying30 hi hz h1 h2 rfl (by omega) (.slice none 0 0) 0 [] ⟨by simp, .inl ⟨rfl, rfl⟩⟩ A m c ys hry (ItemsF.one attr_ok hye) (by simp only [maxLen]; omega) (by omega) (Nat.le_refl _)
  unfold Oper.wp execOp
  simp only [ho, resolve, invoke, builtin, Sem.run_bind, Sem.run_pure, Result.andThen_ok, List.map_toArray, List.map_cons, List.map_nil, hs, hx, hrun]
  rw [Nat.zero_add, List.nil_append] at g1
  obtain ⟨A', c', rfl, hrd, hbk⟩ := RdS.of_own g1
  refine h A' c' w' ⟨⟨ys, hrd, attrs_any hye⟩, fun ad e _ => ?_⟩ ((Fr.refl No w).grown g2 (by simp [Value.ownBlock]))
  subst e
  rcases g1.2 with ⟨e, _⟩ | ⟨b, cap, cur, e, hb0, hh, _⟩
  · exact nomatch (Value.slice.inj e).1
  · have e := Option.some.inj (Value.slice.inj e).1
    rcases g3 with g3 | g3
    · rw [e] at g3
      simp [Value.ownBlock] at g3
    · rw [e] at g3 ⊢
      simpa [Value.ownBlock] using g3
/-- one more node, as one step of a region that draws its order -/
theorem stepNd {ops : Array Oper} {o : Oper} {a : Act} {w : World} {K : Act → World → Prop} {Q : Exit → Act → World → Prop} {E : Prop} (hgd : Region.wanted o (yielded ops a.tmps) = true) (s x : Operand)
    (ho : o.op = .call { callee := .builtin .append, args := #[s, x], argTypes := #[22, 22] })
    (base : Nat) (v : Value) (n : Nat) (ls : List Nod) (N M : Nat → Prop) (hs : a.eval s = v) (hown : OwnI 4 NodI w base 32 N v n ls) (nd : Nod) (cs : List Value) (hnd : NodI w M cs nd)
    (ad : Addr) (hx : a.eval x = .slice (some ad) 1 1) (hrd : RdS w 4 (some ad) 1 1 cs) (hb : n + 1 ≤ 1000000000) (hbase : base ≤ w.heap.size)
    (hN : ∀ i, N i → v.ownBlock ≠ some i) (hM : ∀ i, M i → v.ownBlock ≠ some i)
    (h : ∀ A' c' w', OwnI 4 NodI w' base 32 (fun i => N i ∨ M i) (.slice A' (n + 1) c') (n + 1) (ls ++ [nd]) → Fr (fun i => v.ownBlock = some i) w w' → ((Value.slice A' (n + 1) c').ownBlock = v.ownBlock ∨ (Value.slice A' (n + 1) c').ownBlock = some w.heap.size) → K (a.put o.dst (.slice A' (n + 1) c')) w') :
    if Region.wanted o (yielded ops a.tmps) = true then Oper.wp Tryd.prog o a w K Q else E := by
  rw [if_pos hgd]
  obtain ⟨i, hi, hz, h1, h2⟩ := info_parts info_node
  obtain ⟨ys, hov, he⟩ := hown.xs
  obtain ⟨v', w', hrun, g1, g2, g3⟩ := run_append_rdS (P := Tryd.prog) w base 22 o.type 32 i _ 4 64 Tryd.underlying22 hi hz h1 h2 rfl (by omega) v n ys hov (some ad) 1 1 cs hrd (nod_ok.one hnd) (by simp only [maxLen]; omega) (by omega) hbase
  unfold Oper.wp execOp
  simp only [ho, resolve, invoke, builtin, Sem.run_bind, Sem.run_pure, Result.andThen_ok, List.map_toArray, List.map_cons, List.map_nil, hs, hx, hrun]
  have hf : Fr (fun k => v.ownBlock = some k) w w' := (Fr.refl _ w).grown g2 (fun g e => .inl e)
  obtain ⟨A', c', rfl, -, -⟩ := RdS.of_own g1
  exact h A' c' w' ⟨⟨ys ++ cs, g1, ItemsF.fr nod_ok (ItemsF.app (ItemsF.mono nod_ok he (fun _ x => .inl x)) (ItemsF.single (nod_ok.mono hnd (fun _ x => .inr x)))) hf (fun k hk => by rcases hk with hk | hk; exact hN k hk; exact hM k hk)⟩⟩ hf g3
end Go.Proofs.YtlnjpocidfgloaaDoor
