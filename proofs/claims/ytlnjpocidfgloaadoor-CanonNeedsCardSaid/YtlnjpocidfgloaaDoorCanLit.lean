/- Rows of nodes laid by a statement itself: one more behind them, one of their cells turned. -/
import Derived.Test.YtlnjpocidfgloaaDoorCanAwake
namespace Go.Proofs.YtlnjpocidfgloaaDoor
open Go.RowKit
set_option maxHeartbeats 400000
set_option linter.unusedVariables false

/-- one more node, just laid in a block of its own -/
theorem ap_node1 (u : World) {ops : Array Oper} {rest : List Oper} {o : Oper} {a : Act} {Q : Exit → Act → World → Prop} (hgd : Region.wanted o (yielded ops a.tmps) = true) (s x : Operand)
    (ho : o.op = .call { callee := .builtin .append, args := #[s, x], argTypes := #[22, 22] })
    (base : Nat) (N : Nat → Prop) (v : Value) (n : Nat) (ls : List Nod) (hs : a.eval s = v) (hown : OwnI 4 NodI u base 32 N v n ls) (p : Int) (X Y : ByteArray) (t : TypeId)
    (bk : Nat) (hbk : u.heap.size = bk) (hx : a.eval x = .slice (some ⟨bk, 0, none⟩) 1 1) (hb : n + 1 ≤ 1000000) (hbase : base ≤ u.heap.size) (hN : ∀ i, N i → i < u.heap.size) (hNv : ∀ i, N i → v.ownBlock ≠ some i)
    (h : ∀ v' w', OwnI 4 NodI w' base 32 (fun i => N i ∨ i = u.heap.size) v' (n + 1) (ls ++ [⟨p, X.data.toList, Y.data.toList, []⟩]) → (u.alloc (.cells #[.int .i64 p, .string X, .string Y, .slice none 0 0] t)).grownBy w' v.ownBlock → (v'.ownBlock = v.ownBlock ∨ v'.ownBlock = some (u.heap.size + 1)) → wpList Tryd.prog ops Q rest (a.put o.dst v') w') :
    wpList Tryd.prog ops Q (o :: rest) a (u.alloc (.cells #[.int .i64 p, .string X, .string Y, .slice none 0 0] t)) := by
  subst hbk
  obtain ⟨i, hi, hz, h1, h2⟩ := info_parts info_node
  have hlt := hown.lt
  have ho1 : OwnI 4 NodI (u.alloc (.cells #[.int .i64 p, .string X, .string Y, .slice none 0 0] t)) base 32 (fun i => N i ∨ i = u.heap.size) v n ls := (hown.no nod_ok ((Fr.refl No u).alloc _)).mono nod_ok (fun i hi => .inl hi)
  have hr : RdI 4 NodI (u.alloc (.cells #[.int .i64 p, .string X, .string Y, .slice none 0 0] t)) (fun i => N i ∨ i = u.heap.size) (some ⟨u.heap.size, 0, none⟩) 1 1 [⟨p, X.data.toList, Y.data.toList, []⟩] :=
    ⟨⟨[.int .i64 p, .string X, .string Y, .slice none 0 0], RdS.lit u _ t 1 rfl (by simp [maxLen]), ItemsF.single ⟨X, Y, none, 0, 0, rfl, rfl, rfl, RdI.nil_ 2 AttrI _ _⟩⟩, fun ad e _ => .inr (congrArg Addr.block (Option.some.inj e)).symm⟩
  refine apI' _ nod_ok (by omega) hgd s x 22 ho base 32 i _ 64 Tryd.underlying22 hi hz h1 h2 rfl v n ls _ hs ho1 _ 1 1 hx hr (by simp only [maxLen]; omega) (by omega) (by simp; omega) (fun i hi e => by
    rcases hi with hi | rfl
    · exact hNv i hi e
    · have := (hlt _ e).2; omega) ?_
  intro v' w' g1 g2 g3
  exact h v' w' g1 g2 (by simpa using g3)
/-- a row that lies whole in a block of its own, as one's own -/
theorem own_bk {u : World} {B : Nat} {base n : Nat} {cs : List Value} {ls : List Nod} {N : Nat → Prop} (hb : Bk u B 32 cs) (hlow : base ≤ B) (hn : cs.length = n * 4) (hm : n ≤ 1000000) (hi : ItemsF NodI u N cs ls) :
    OwnI 4 NodI u base 32 N (.slice (some ⟨B, 0, none⟩) n n) n ls :=
  ⟨⟨cs, ⟨hn, .inr ⟨B, n, cs.toArray, rfl, hlow, hb, Nat.le_refl _, by simp only [maxLen]; omega, by simpa using hn, by rw [← hn]; simp⟩⟩, hi⟩⟩
theorem rd_bk {u : World} {B : Nat} {n : Nat} {cs : List Value} {ls : List Nod} {N : Nat → Prop} (hb : Bk u B 32 cs) (hn : cs.length = n * 4) (hm : n ≤ 1000000) (hi : ItemsF NodI u N cs ls) (hB : N B) :
    RdI 4 NodI u N (some ⟨B, 0, none⟩) n n ls :=
  ⟨⟨cs, ⟨hn, Nat.le_refl _, by simp only [maxLen]; omega, (fun e => nomatch e), fun ad e j x hx => by
    injection e with e
    subst e
    rw [show (⟨B, 0, none⟩ : Addr).add j = ⟨B, j, none⟩ from by unfold Addr.add; split <;> simp_all, hb.cell j]
    exact hx⟩, hi⟩, fun ad e _ => by injection e with e; subst e; exact hB⟩
/-- four nodes, the first with attributes -/
def cs4 (p0 p1 p2 p3 : Int) (x0 x1 x2 x3 y0 y1 y2 y3 : ByteArray) (A : Option Addr) (n c : Nat) : List Value :=
  [.int .i64 p0, .string x0, .string y0, .slice A n c, .int .i64 p1, .string x1, .string y1, .slice none 0 0, .int .i64 p2, .string x2, .string y2, .slice none 0 0, .int .i64 p3, .string x3, .string y3, .slice none 0 0]
def ls4 (p0 p1 p2 p3 : Int) (x0 x1 x2 x3 y0 y1 y2 y3 : ByteArray) (ats : List (List UInt8 × List UInt8)) : List Nod :=
  [⟨p0, x0.data.toList, y0.data.toList, ats⟩, ⟨p1, x1.data.toList, y1.data.toList, []⟩, ⟨p2, x2.data.toList, y2.data.toList, []⟩, ⟨p3, x3.data.toList, y3.data.toList, []⟩]
theorem it4 {u : World} {N : Nat → Prop} (p0 p1 p2 p3 : Int) (x0 x1 x2 x3 y0 y1 y2 y3 : ByteArray) {A : Option Addr} {n c : Nat} {ats : List (List UInt8 × List UInt8)} (h : RdI 2 AttrI u N A n c ats) :
    ItemsF NodI u N (cs4 p0 p1 p2 p3 x0 x1 x2 x3 y0 y1 y2 y3 A n c) (ls4 p0 p1 p2 p3 x0 x1 x2 x3 y0 y1 y2 y3 ats) := by
  have hb : ∀ (p : Int) (X Y : ByteArray), NodI u N [.int .i64 p, .string X, .string Y, .slice none 0 0] ⟨p, X.data.toList, Y.data.toList, []⟩ := fun p X Y => ⟨X, Y, none, 0, 0, rfl, rfl, rfl, RdI.nil_ 2 AttrI u N⟩
  exact ⟨_, _, rfl, ⟨x0, y0, A, n, c, rfl, rfl, rfl, h⟩, ⟨_, _, rfl, hb p1 x1 y1, ⟨_, _, rfl, hb p2 x2 y2, ⟨_, _, rfl, hb p3 x3 y3, rfl⟩⟩⟩⟩
theorem at_bk {u : World} {B : Nat} {N : Nat → Prop} {X Y : ByteArray} {t : TypeId} (hb : Bk u B t [.string X, .string Y]) (hB : N B) : RdI 2 AttrI u N (some ⟨B, 0, none⟩) 1 1 [(X.data.toList, Y.data.toList)] :=
  ⟨⟨_, ⟨rfl, Nat.le_refl _, by simp [maxLen], (fun e => nomatch e), fun ad e j x hx => by
    injection e with e
    subst e
    rw [show (⟨B, 0, none⟩ : Addr).add j = ⟨B, j, none⟩ from by unfold Addr.add; split <;> simp_all, hb.cell j]
    exact hx⟩, ItemsF.single ⟨X, Y, rfl, rfl, rfl⟩⟩, fun ad e _ => by injection e with e; subst e; exact hB⟩
end Go.Proofs.YtlnjpocidfgloaaDoor
